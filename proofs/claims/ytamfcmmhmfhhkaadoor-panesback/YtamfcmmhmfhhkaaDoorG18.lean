/- Quote: a key quoted (the document's; the walk). PanesBack, walked over what the program is to answer. Trees in memory, told by what they hold in order; the small functions. -/
import Derived.Test.YtamfcmmhmfhhkaaDoorG9
import Derived.Test.YtamfcmmhmfhhkaaDoorG17
import Derived.Great.BuildSlice
import Derived.Test.YtamfcmmhmfhhkaaDoorG16
import Derived.Test.YtamfcmmhmfhhkaaDoorG2
import Derived.Test.YtamfcmmhmfhhkaaDoorG1
namespace Go.Proofs.YtamfcmmhmfhhkaaDoor
open Go.RowKit

set_option maxRecDepth 100000 in
set_option maxHeartbeats 4000000 in
theorem quote_any (s : ByteArray) (hs : s.size ≤ 1000000000) (w : World) : Calls Tryd.prog 26 #[.string s] w fun e w' => e = .returned (.string (strOfNums (quoA s))) ∧ Calm w w' := by
  have QS : Hid (∀ i (h : i < s.size), quoL s (i + 1) = quoL s i ++ escL ((s[i]'h).toNat : Int)) := hide fun i h => quoL_succ h
  have QL : Hid (∀ i, i ≤ s.size → (quoL s i).length ≤ 4 * i + 1) := hide quoL_len
  have Q0 : Hid (quoL s 0 = [34]) := hide (by simp [quoL])
  have QA : Hid (quoA s = quoL s s.size ++ [34]) := hide rfl
  have O0 := hide (Own.byte (w := w.alloc (.cells #[.int .u8 34] 5)) (base := w.heap.size) (Nat.le_refl _) (al_new w _))
  have T0 := hide ((Touch.refl (fun _ => False) w).alloc (.cells #[.int .u8 34] 5))
  generalize quoA s = Z at *
  generalize hq : quoL s = q at *
  clear hq
  go_enter Tryd.func26, Tryd.ntmps26
  go_wp2_with fail
  go_loopw [3, 4] (fun s3 s4 wr => ∃ (i : Nat) (a : Option Addr) (c : Nat), s4 = .int .i64 (i : Int) ∧ i ≤ s.size ∧ s3 = .slice a (q i).length c ∧ encB.Own 5 wr w.heap.size (.slice a (q i).length c) (q i) ∧ Calm w wr) (fun _ s4 _ => s.size - (intOf s4).toNat)
  case atStart => exact ⟨0, _, 1, rfl, by omega, by rw [Q0.out]; rfl, by rw [Q0.out]; exact O0.out, T0.out⟩
  case round =>
    obtain ⟨i, a, c, rfl, hi, rfl, OW, TE⟩ := hrel
    clear O0 T0 Q0
    by_cases hlt : i < s.size
    · have hltz : (i : Int) < (s.size : Int) := by omega
      have hs1 := QS.out i hlt
      have hl1 := QL.out i hi
      obtain ⟨b, hb⟩ : ∃ b : Nat, (s[i]'hlt).toNat = b := ⟨_, rfl⟩
      have hb255 : b < 256 := by rw [← hb]; exact (s[i]'hlt).toNat_lt
      rw [hb] at hs1
      have hsz := TE.size
      clear QS QL QA
      by_cases hp : 32 ≤ b ∧ b ≤ 126 ∧ b ≠ 34 ∧ b ≠ 92
      · obtain ⟨p1, p2, p3, p4⟩ := hp
        have hE : q (i + 1) = q i ++ [(b : Int)] := by rw [hs1]; unfold escL; rw [if_pos ⟨by omega, by omega, by omega, by omega⟩]
        obtain ⟨a4, c4, w4, hr, ow, t2⟩ := by_app (b : Int) OW hsz (by omega)
        rw [← hE] at ow
        have e1 : (q (i + 1)).length = (q i).length + 1 := by rw [hE]; simp
        rw [← e1] at hr
        have HR := hide hr
        have HO := hide ow
        have HT := hide (Rc.Own.fresh (w0 := w) OW t2 (fun _ h => h) TE (Nat.le_refl _))
        have z1 : (32 : Int) ≤ (b : Int) := by omega
        have z2 : (b : Int) ≤ 126 := by omega
        have z3 : ((b : Int) != 34) = true := by rw [bne_iff_ne]; omega
        have z4 : ((b : Int) != 92) = true := by rw [bne_iff_ne]; omega
        clear OW TE hr ow t2 hE e1 hs1 hl1 p1 p2 p3 p4
        go_wp2_with (at_builtin; refine Rc.wpList_appR rfl (.tmp 30) (.tmp 32) 55 55 rfl _ _ _ rfl rfl HR.out ?_)
        go_roundw
        case rel => exact ⟨i + 1, a4, c4, by go_num, by omega, rfl, HO.out, HT.out⟩
        case measure => simp [intOf]; omega
      · have hE : q (i + 1) = q i ++ [92, 120, hexB ((b : Int) / 16), hexB ((b : Int) % 16)] := by rw [hs1]; unfold escL; rw [if_neg (fun h => hp ⟨by omega, by omega, by omega, by omega⟩)]
        have C1 := hide (fun W => hex_any ((b : Int) / 16) (by omega) (by omega) W)
        have C2 := hide (fun W => hex_any ((b : Int) % 16) (by omega) (by omega) W)
        generalize hexB ((b : Int) / 16) = x at *
        generalize hexB ((b : Int) % 16) = y at *
        have HOW := hide OW
        have HTE := hide TE
        clear hs1 OW TE
        rcases (by omega : b < 32 ∨ (32 ≤ b ∧ 126 < b) ∨ b = 34 ∨ b = 92) with k | ⟨k, k2⟩ | k | k
        · have z1 : ¬ (32 : Int) ≤ (b : Int) := by omega
          clear hp
          obtain ⟨a4, c4, w6, hr, ow, t2⟩ := by_appN [92, 120, x, y] HOW.out hsz (by simp only [List.length_cons, List.length_nil]; omega)
          rw [← hE] at ow hr
          have hr' : (Builtin.append_ #[55, 55] 55 #[.slice a (q i).length c, .slice (some ⟨wr.heap.size, 0, none⟩) 4 4]).run Tryd.prog (wr.alloc (.cells #[.int .u8 92, .int .u8 120, .int .u8 x, .int .u8 y] 5)) = .ok (.slice a4 (q (i + 1)).length c4) w6 := hr
          have HR := hide hr'
          have HO := hide ow
          have HT := hide (Rc.Own.fresh (w0 := w) HOW.out t2 (fun _ h => h) HTE.out (Nat.le_refl _))
          have d1 : IntKind.u8.wrap (Int.tdiv (b : Int) 16) = (b : Int) / 16 := by rw [IntKind.wrap_u8, Int.tdiv_eq_ediv_of_nonneg (by omega)]; omega
          have d2 : Int.tmod (b : Int) 16 = (b : Int) % 16 := Int.tmod_eq_emod_of_nonneg (by omega)
          clear ow hr hr' t2 hE HOW HTE hl1
          go_wp2_with fail
          refine (C1.out _).mono ?_
          rintro r w5 ⟨rfl, hq5⟩
          subst hq5
          go_wp2_with fail
          refine (C2.out _).mono ?_
          rintro r w5 ⟨rfl, hq5⟩
          subst hq5
          go_wp2_with (at_builtin; refine Rc.wpList_appR rfl (.tmp 34) (.tmp 41) 55 55 rfl _ _ _ rfl rfl HR.out ?_)
          go_roundw
          case rel => exact ⟨i + 1, a4, c4, by go_num, by omega, rfl, HO.out, HT.out⟩
          case measure => simp [intOf]; omega
        · have z1 : (32 : Int) ≤ (b : Int) := by omega
          have z2 : ¬ (b : Int) ≤ 126 := by omega
          clear hp
          obtain ⟨a4, c4, w6, hr, ow, t2⟩ := by_appN [92, 120, x, y] HOW.out hsz (by simp only [List.length_cons, List.length_nil]; omega)
          rw [← hE] at ow hr
          have hr' : (Builtin.append_ #[55, 55] 55 #[.slice a (q i).length c, .slice (some ⟨wr.heap.size, 0, none⟩) 4 4]).run Tryd.prog (wr.alloc (.cells #[.int .u8 92, .int .u8 120, .int .u8 x, .int .u8 y] 5)) = .ok (.slice a4 (q (i + 1)).length c4) w6 := hr
          have HR := hide hr'
          have HO := hide ow
          have HT := hide (Rc.Own.fresh (w0 := w) HOW.out t2 (fun _ h => h) HTE.out (Nat.le_refl _))
          have d1 : IntKind.u8.wrap (Int.tdiv (b : Int) 16) = (b : Int) / 16 := by rw [IntKind.wrap_u8, Int.tdiv_eq_ediv_of_nonneg (by omega)]; omega
          have d2 : Int.tmod (b : Int) 16 = (b : Int) % 16 := Int.tmod_eq_emod_of_nonneg (by omega)
          clear ow hr hr' t2 hE HOW HTE hl1
          go_wp2_with fail
          refine (C1.out _).mono ?_
          rintro r w5 ⟨rfl, hq5⟩
          subst hq5
          go_wp2_with fail
          refine (C2.out _).mono ?_
          rintro r w5 ⟨rfl, hq5⟩
          subst hq5
          go_wp2_with (at_builtin; refine Rc.wpList_appR rfl (.tmp 34) (.tmp 41) 55 55 rfl _ _ _ rfl rfl HR.out ?_)
          go_roundw
          case rel => exact ⟨i + 1, a4, c4, by go_num, by omega, rfl, HO.out, HT.out⟩
          case measure => simp [intOf]; omega
        · have z1 : (32 : Int) ≤ (b : Int) := by omega
          have z2 : (b : Int) ≤ 126 := by omega
          have z3 : ((b : Int) != 34) = false := by rw [bne_eq_false_iff_eq]; omega
          clear hp k
          obtain ⟨a4, c4, w6, hr, ow, t2⟩ := by_appN [92, 120, x, y] HOW.out hsz (by simp only [List.length_cons, List.length_nil]; omega)
          rw [← hE] at ow hr
          have hr' : (Builtin.append_ #[55, 55] 55 #[.slice a (q i).length c, .slice (some ⟨wr.heap.size, 0, none⟩) 4 4]).run Tryd.prog (wr.alloc (.cells #[.int .u8 92, .int .u8 120, .int .u8 x, .int .u8 y] 5)) = .ok (.slice a4 (q (i + 1)).length c4) w6 := hr
          have HR := hide hr'
          have HO := hide ow
          have HT := hide (Rc.Own.fresh (w0 := w) HOW.out t2 (fun _ h => h) HTE.out (Nat.le_refl _))
          have d1 : IntKind.u8.wrap (Int.tdiv (b : Int) 16) = (b : Int) / 16 := by rw [IntKind.wrap_u8, Int.tdiv_eq_ediv_of_nonneg (by omega)]; omega
          have d2 : Int.tmod (b : Int) 16 = (b : Int) % 16 := Int.tmod_eq_emod_of_nonneg (by omega)
          clear ow hr hr' t2 hE HOW HTE hl1
          go_wp2_with fail
          refine (C1.out _).mono ?_
          rintro r w5 ⟨rfl, hq5⟩
          subst hq5
          go_wp2_with fail
          refine (C2.out _).mono ?_
          rintro r w5 ⟨rfl, hq5⟩
          subst hq5
          go_wp2_with (at_builtin; refine Rc.wpList_appR rfl (.tmp 34) (.tmp 41) 55 55 rfl _ _ _ rfl rfl HR.out ?_)
          go_roundw
          case rel => exact ⟨i + 1, a4, c4, by go_num, by omega, rfl, HO.out, HT.out⟩
          case measure => simp [intOf]; omega
        · have z1 : (32 : Int) ≤ (b : Int) := by omega
          have z2 : (b : Int) ≤ 126 := by omega
          have z3 : ((b : Int) != 34) = true := by rw [bne_iff_ne]; omega
          have z4 : ((b : Int) != 92) = false := by rw [bne_eq_false_iff_eq]; omega
          clear hp k
          obtain ⟨a4, c4, w6, hr, ow, t2⟩ := by_appN [92, 120, x, y] HOW.out hsz (by simp only [List.length_cons, List.length_nil]; omega)
          rw [← hE] at ow hr
          have hr' : (Builtin.append_ #[55, 55] 55 #[.slice a (q i).length c, .slice (some ⟨wr.heap.size, 0, none⟩) 4 4]).run Tryd.prog (wr.alloc (.cells #[.int .u8 92, .int .u8 120, .int .u8 x, .int .u8 y] 5)) = .ok (.slice a4 (q (i + 1)).length c4) w6 := hr
          have HR := hide hr'
          have HO := hide ow
          have HT := hide (Rc.Own.fresh (w0 := w) HOW.out t2 (fun _ h => h) HTE.out (Nat.le_refl _))
          have d1 : IntKind.u8.wrap (Int.tdiv (b : Int) 16) = (b : Int) / 16 := by rw [IntKind.wrap_u8, Int.tdiv_eq_ediv_of_nonneg (by omega)]; omega
          have d2 : Int.tmod (b : Int) 16 = (b : Int) % 16 := Int.tmod_eq_emod_of_nonneg (by omega)
          clear ow hr hr' t2 hE HOW HTE hl1
          go_wp2_with fail
          refine (C1.out _).mono ?_
          rintro r w5 ⟨rfl, hq5⟩
          subst hq5
          go_wp2_with fail
          refine (C2.out _).mono ?_
          rintro r w5 ⟨rfl, hq5⟩
          subst hq5
          go_wp2_with (at_builtin; refine Rc.wpList_appR rfl (.tmp 34) (.tmp 41) 55 55 rfl _ _ _ rfl rfl HR.out ?_)
          go_roundw
          case rel => exact ⟨i + 1, a4, c4, by go_num, by omega, rfl, HO.out, HT.out⟩
          case measure => simp [intOf]; omega
    · have hltz : ¬ (i : Int) < (s.size : Int) := by omega
      obtain rfl : i = s.size := by omega
      have hl1 := QL.out _ hi
      have hsz := TE.size
      obtain ⟨a4, c4, w4, hr, ow, t2⟩ := by_app 34 OW hsz (by omega)
      rw [← QA.out] at ow
      have e1 : Z.length = (q s.size).length + 1 := by rw [QA.out]; simp
      rw [← e1] at hr
      have hZ : Z ≠ [] := by rw [QA.out]; simp
      have HR := hide hr
      have cv := conv_own ow hZ
      have HT := hide (Rc.Own.fresh (w0 := w) OW t2 (fun _ h => h) TE (Nat.le_refl _))
      clear OW TE hr ow t2 e1 hl1 QA QL QS
      go_wp2_with (at_builtin; refine Rc.wpList_appR rfl (.tmp 43) (.tmp 44) 55 55 rfl _ _ _ rfl rfl HR.out ?_)
      go_ret
      exact ⟨rfl, HT.out⟩

end Go.Proofs.YtamfcmmhmfhhkaaDoor

namespace Go.Proofs.YtamfcmmhmfhhkaaDoor
open Go.RowKit

theorem Touch.next' {S : Nat → Prop} {a b c : World} (h : Touch S a b) (t : Calm b c) : Touch S a c := Touch.trans h t fun _ _ h => h.elim
theorem line_size {p : Pn} (h : mayP p = true) (hn : NumOk p) : (lineB p).size ≤ 1194 := by
  unfold mayP at h
  exact txL_size (of_decide_eq_true h).1 hn 7 (by omega)
/-- The first panes, made right. -/
def rgt (L : List Pn) (i : Nat) : List Pn := (L.take i).map rightP
theorem rgt_next {L : List Pn} {i : Nat} (h : i < L.length) : rgt L (i + 1) = rgt L i ++ [rightP (L.getD i pn0)] := by
  unfold rgt
  rw [List.take_add_one, List.getElem?_eq_getElem h, List.map_append, List.getD_eq_getElem?_getD, List.getElem?_eq_getElem h]
  rfl
theorem rgt_len {L : List Pn} {i : Nat} (h : i ≤ L.length) : (rgt L i).length = i := by unfold rgt; rw [List.length_map, List.length_take]; omega
theorem rgt_at {L : List Pn} {i j : Nat} (h : i ≤ L.length) (hj : j < i) : (rgt L i).getD j pn0 = rightP (L.getD j pn0) := by
  unfold rgt
  rw [List.getD_eq_getElem?_getD, List.getElem?_map, List.getElem?_take, if_pos hj, List.getD_eq_getElem?_getD, List.getElem?_eq_getElem (by omega)]
  rfl
theorem rgt_mem {L : List Pn} {i : Nat} (hp : ∀ j, j < L.length → NumOk (L.getD j pn0)) : ∀ p ∈ rgt L i, mayP p = true ∧ NumOk p := by
  intro p h
  unfold rgt at h
  obtain ⟨q, hq, rfl⟩ := List.mem_map.1 h
  obtain ⟨j, hj, rfl⟩ := List.getElem_of_mem (List.mem_of_mem_take hq)
  have := hp j hj
  rw [List.getD_eq_getElem?_getD, List.getElem?_eq_getElem hj] at this
  exact ⟨right_may _, right_num this⟩
/-- The text of panes that may be. -/
theorem text_all {M : List Pn} (h : ∀ p ∈ M, mayP p = true ∧ NumOk p) : ∃ ts, textV M = .tuple #[.string ts, .int .i64 0] ∧ ts.toList = lnB M ∧ ts.size ≤ 1200 * M.length := by
  have hm : mayT M = true := by
    unfold mayT
    rw [List.all_eq_true]
    exact fun p hp => (h p hp).1
  have hj : ∀ j, j < M.length → mayP (M.getD j pn0) = true ∧ NumOk (M.getD j pn0) := fun j hj => by
    rw [List.getD_eq_getElem?_getD, List.getElem?_eq_getElem hj]
    exact h _ (List.getElem_mem hj)
  refine ⟨strOfNums (txT M M.length), by unfold textV; rw [hm]; rfl, text_list M, ?_⟩
  rw [strOfNums_size]
  exact txT_len (fun j hj' => (hj j hj').2) _ (Nat.le_refl _) fun j hj' => (hj j hj').1
theorem cut_k {c : Int} {n : Nat} (hn : 0 < n) : ∃ k : Nat, 1 + (c.tmod n + n).tmod n = (k : Int) ∧ 1 ≤ k ∧ k ≤ n := by
  have h1 := Int.lt_tmod_of_pos c (show (0 : Int) < n by omega)
  have h2 := Int.tmod_nonneg (a := c.tmod n + n) (n : Int) (by omega)
  have h3 := Int.tmod_lt_of_pos (c.tmod n + n) (show (0 : Int) < n by omega)
  exact ⟨(1 + (c.tmod n + n).tmod n).toNat, by omega, by omega, by omega⟩
/-- A pane of a row of one's own, wherever it lies. -/
theorem own_at {w : World} {base : Nat} {a : Option Addr} {n c : Nat} {O : List Pn} (h : encP.Own 29 w base (.slice a n c) O) (j : Nat) (hj : j < O.length) : ∃ g, a = some ⟨g, 0, none⟩ ∧ ∀ W, Calm w W → pcell W g (j * 9) (O.getD j pn0) := by
  obtain ⟨g, off, e, hc⟩ := pn_W (Rc.Own.mem h).2.1 j hj
  obtain ⟨_, _, _, _, _, ha⟩ := Rc.Own.mem h
  have h2 : off = 0 := (ha _ e).2.1
  subst h2
  refine ⟨g, e, fun W hW => ?_⟩
  have := hc W hW
  rwa [Nat.zero_add] at this

set_option maxRecDepth 100000 in
set_option maxHeartbeats 8000000 in
theorem back18_walk (I : Ppt) (L : List Pn) (ao : Option Addr) (cap : Nat) (cut : Int) (w : World) (hs : encP.Sl w ao cap L) (hp : ∀ j, j < L.length → NumOk (L.getD j pn0) ∧ I64n (L.getD j pn0).d) (hY : Yv w) : Calls Tryd.prog 5 #[.slice ao L.length cap, .int .i64 cut] w fun e w' => e = .returned (.bool true) ∧ Calm w w' := by
  have CK := hide (fun W (h : Calm w W) => known18_any I.toPpk W (hY.calm h))
  by_cases hn : L.length ≤ 200
  case neg =>
    generalize L.length = n at *
    have hnz : (200 : Int) < (n : Int) := by omega
    clear I hs hp
    go_enter Tryd.func5, Tryd.ntmps5
    go_wp2_with fail
    refine (CK.out _ (Touch.refl _ _)).mono ?_
    rintro e w1 ⟨rfl, T1⟩
    have HT := hide T1
    clear T1 CK
    go_wp2_with fail
    go_ret
    exact ⟨rfl, HT.out⟩
  have hnz : ¬ (200 : Int) < (L.length : Int) := by omega
  have HI := hide I
  have SA : Hid (∀ j, j < L.length → ∃ g off, ao = some ⟨g, off, none⟩ ∧ ∀ W, Calm w W → pcell W g (off + j * 9) (L.getD j pn0)) := hide fun j hj => pn_W hs.mem j hj
  have RM : Hid (∀ i, ∀ p ∈ rgt L i, mayP p = true ∧ NumOk p) := hide fun i => rgt_mem fun j hj => (hp j hj).1
  have HP := hide hp
  have RN : Hid (∀ i, i < L.length → rgt L (i + 1) = rgt L i ++ [rightP (L.getD i pn0)]) := hide fun i => rgt_next
  have RL : Hid (∀ i, i ≤ L.length → (rgt L i).length = i) := hide fun i => rgt_len
  have RA : Hid (∀ i j, i ≤ L.length → j < i → (rgt L i).getD j pn0 = rightP (L.getD j pn0)) := hide fun i j => rgt_at
  have R0 : Hid (rgt L 0 = []) := hide rfl
  have hi9 : (Tryd.prog.info? 29).map (·.size) = some 9 := by kernel_rfl
  obtain ⟨x, hx⟩ : ∃ x : Nat → Pn, ∀ j, L.getD j pn0 = x j := ⟨fun j => L.getD j pn0, fun _ => rfl⟩
  simp only [hx] at SA HP RN RA
  have CLj : Hid (∀ j, j < L.length → ∀ W, Calm w W → Calls Tryd.prog 8 #[pnv (rightP (x j))] W fun e w' => e = .returned (.tuple #[.string (lineB (rightP (x j))), .int .i64 0]) ∧ Calm W w') := hide fun j hj W hW => by
    have := HI.out.line (rightP (x j)) W (right_num (HP.out j hj).1) (hY.calm hW)
    rw [show lineV (rightP (x j)) = .tuple #[.string (lineB (rightP (x j))), .int .i64 0] by unfold lineV; rw [right_may]; rfl] at this
    exact this
  have LI : Hid (∀ j k, (lineB (rightP (x j)) = lineB (rightP (x k)) ↔ rightP (x j) = rightP (x k))) := hide fun j k => ⟨fun h => line_inj (right_may _) (right_may _) h, fun h => by rw [h]⟩
  clear hx hp hs I
  generalize rgt L = O at *
  generalize L.length = n at *
  go_enter Tryd.func5, Tryd.ntmps5
  go_wp2_with fail
  go_loopw [5, 6] (fun s5 s6 wr => ∃ (i : Nat) (a : Option Addr) (c : Nat), s6 = .int .i64 (i : Int) ∧ i ≤ n ∧ s5 = .slice a i c ∧ encP.Own 29 wr w.heap.size (.slice a i c) (O i) ∧ Calm w wr) (fun _ s6 _ => n - (intOf s6).toNat)
  case atStart => exact ⟨0, none, 0, rfl, by omega, rfl, by rw [R0.out]; exact Rc.Own.nil _ _ _, Touch.refl _ _⟩
  case round =>
    obtain ⟨i, a, c, rfl, hi, rfl, OW, TE⟩ := hrel
    by_cases hlt : i < n
    · have hltz : (i : Int) < (n : Int) := by omega
      obtain ⟨ga, oa, rfl, ca⟩ := SA.out i hlt
      have CR := hide (fun W => right_any (x i) (HP.out i hlt).2 W)
      have KX := ca wr TE
      have hl := RL.out i hi
      have hO1 := hide (RN.out i hlt)
      have hmy := right_may (x i)
      have hny : NumOk (rightP (x i)) := right_num (HP.out i hlt).1
      have CL := hide (fun W (h : Calm w W) => HI.out.line (rightP (x i)) W hny (hY.calm h))
      rw [show lineV (rightP (x i)) = .tuple #[.string (lineB (rightP (x i))), .int .i64 0] by unfold lineV; rw [hmy]; rfl] at CL
      have CP := hide (fun W (h : Calm w W) => HI.out.parse (lineB (rightP (x i))) W (by have := line_size hmy hny; omega) (hY.calm h))
      have CP1 : Hid (∀ o, ParR (lineB (rightP (x i))) o → o = some (rightP (x i))) := hide fun o h => line_par hmy hny h
      have HOW := hide OW
      have HT := hide TE
      obtain ⟨⟨k0, k1, k2, k3, k4⟩, k5, k6, k7, k8⟩ := KX
      clear OW TE ca hmy hny
      go_wp2_with fail
      refine (CR.out _).mono ?_
      rintro e w1 ⟨rfl, T1⟩
      have OW1 : encP.Own 29 w1 w.heap.size (.slice a (O i).length c) (O i) := by rw [hl]; exact Rc.Own.calm HOW.out T1
      have T1w := hide (HT.out.tr T1)
      obtain ⟨a4, p4, w4, hr, ow, t2⟩ := pn_app1 (rightP (x i)) OW1 T1w.out.size (by rw [RL.out i hi]; omega)
      rw [← hO1.out, RL.out (i + 1) (by omega)] at ow
      rw [hl] at hr
      have T4w := hide (Rc.Own.fresh (w0 := w) OW1 t2 (fun _ h => h) T1w.out (Nat.le_refl _))
      have HR := hide hr
      have HO4 := hide ow
      obtain ⟨g4, rfl, kc⟩ := own_at ow i (by rw [RL.out (i + 1) (by omega)]; omega)
      rw [RA.out (i + 1) i (by omega) (by omega)] at kc
      have KC := hide kc
      have hxi : Hid (∀ j, j < i + 1 → (O (i + 1)).getD j pn0 = rightP (x j)) := hide fun j hj => RA.out (i + 1) j (by omega) hj
      obtain ⟨⟨c0, c1, c2, c3, c4⟩, c5, c6, c7, c8⟩ := kc w4 (Touch.refl _ _)
      clear CR OW1 T1 T1w hr ow t2 kc k0 k1 k2 k3 k4 k5 k6 k7 k8 HOW HT hl
      go_wp2_with (at_builtin; refine Rc.wpList_appR rfl (.tmp 34) (.tmp 40) 22 22 rfl _ _ _ rfl rfl HR.out ?_)
      refine (CL.out _ T4w.out).mono ?_
      rintro e w5 ⟨rfl, T5⟩
      have T5w := hide (T4w.out.tr T5)
      have HO5 := hide (Rc.Own.calm HO4.out T5)
      have KC5 : Hid (∀ W, Calm w5 W → pcell W g4 (i * 9) (rightP (x i))) := hide fun W hW => KC.out W (T5.tr hW)
      clear CL T5 T4w HO4 KC c0 c1 c2 c3 c4 c5 c6 c7 c8 HR
      go_wp2_with fail
      refine (CP.out _ T5w.out).mono ?_
      rintro e w6 ⟨o, hpr, rfl, T6⟩
      obtain rfl := CP1.out o hpr
      have Z0 := hide (al_new w6 (.cells (pnc pn0) 29))
      have Z1 := hide (setRow_heap _ _ _ (pnc (rightP (x i))) _ _ Z0.out)
      have Z2 : Hid (Touch (fun _ => False) w6 ((w6.alloc (.cells (pnc pn0) 29)).setRow w6.heap.size (pnc (rightP (x i))))) := hide (((Touch.refl (fun _ => False) w6).alloc _).trans (S' := fun g => g = w6.heap.size) ⟨rfl, rfl, rfl, by simp, fun j _ hj => setRow_other _ _ j _ hj⟩ (fun g hg e => by omega))
      have hq1 : Hid ((pnc (rightP (x i))).all (·.oneCell') = true) := hide (by simp [Value.oneCell'])
      have T7w := hide ((T5w.out.tr T6).tr Z2.out)
      have HO7 := hide (Rc.Own.calm HO5.out (T6.tr Z2.out))
      have KC7 : Hid (∀ W, Calm ((w6.alloc (.cells (pnc pn0) 29)).setRow w6.heap.size (pnc (rightP (x i)))) W → pcell W g4 (i * 9) (rightP (x i))) := hide fun W hW => KC5.out W ((T6.tr Z2.out).tr hW)
      clear CP CP1 T6 T5w HO5 KC5 hpr
      unfold parE
      simp only [Option.getD_some, Option.isSome_some, if_true]
      obtain ⟨y, hy⟩ : ∃ y : Nat → Pn, ∀ j, rightP (x j) = y j := ⟨fun j => rightP (x j), fun _ => rfl⟩
      simp only [hy] at *
      go_upto_region 10 with (refine wpList_store_rowTo rfl 29 (.tmp 9) (.tmp 53) rfl rfl w6.heap.size _ rfl rfl 29 _ Z0.out hi9 rfl hq1.out ?_)
      generalize (w6.alloc (.cells (pnc pn0) 29)).setRow w6.heap.size (pnc (y i)) = w7 at *
      generalize w6.heap.size = D at *
      clear Z0 Z2 hq1
      have KD : Hid (∀ W, Calm w7 W → pcell W D 0 (y i)) := hide fun W hW => pn_cells (hW.at Z1.out)
      have CL2 := hide (fun W hW => CLj.out (i - 1) (by omega) W hW)
      have LI2 := hide (LI.out i (i - 1))
      clear CK CLj LI HI HP RM RN RA R0 SA RL
      go_wp2_with fail
      refine wp_region_held (S := Calm w7) (by kernel_rfl) ?_
      have hT0 : Calm w7 { w7 with drawn := w7.drawn + 1 } := (Touch.refl (fun _ => False) w7).drew
      refine wpAnyH_yield 0 55 (.int .i64 0) rfl rfl (by kernel_rfl) (by kernel_rfl) (by kernel_rfl) (fun _ _ _ h => h) (by kernel_rfl) (fun W hW => by kernel_rfl) (by assumption) rfl rfl ?_
      simp only [Act.put, List.setIfInBounds_toArray, List.set_cons_zero, List.set_cons_succ]
      refine wpAnyH_yield 1 56 (.bool false) rfl rfl (by kernel_rfl) (by kernel_rfl) (by kernel_rfl) (fun _ _ _ h => h) (by kernel_rfl) (fun W hW => by go_simp) (by assumption) rfl rfl ?_
      simp only [Act.put, List.setIfInBounds_toArray, List.set_cons_zero, List.set_cons_succ]
      refine wpAnyH_yield 2 57 (.bool false) rfl rfl (by kernel_rfl) (by kernel_rfl) (by kernel_rfl) (fun _ _ _ h => h) (by kernel_rfl) (fun W hW => by kernel_rfl) (by assumption) rfl rfl ?_
      simp only [Act.put, List.setIfInBounds_toArray, List.set_cons_zero, List.set_cons_succ]
      refine wpAnyH_yield 3 58 (.int .i64 0) rfl rfl (by kernel_rfl) (by kernel_rfl) (by kernel_rfl) (fun _ _ _ h => h) (by kernel_rfl) (fun W hW => by kernel_rfl) (by assumption) rfl rfl ?_
      simp only [Act.put, List.setIfInBounds_toArray, List.set_cons_zero, List.set_cons_succ]
      refine wpAnyH_yield 4 59 (.bool false) rfl rfl (by kernel_rfl) (by kernel_rfl) (by kernel_rfl) (fun _ _ _ h => h) (by kernel_rfl) (fun W hW => by go_simp) (by assumption) rfl rfl ?_
      simp only [Act.put, List.setIfInBounds_toArray, List.set_cons_zero, List.set_cons_succ]
      refine wpAnyH_yield 5 60 (.bool false) rfl rfl (by kernel_rfl) (by kernel_rfl) (by kernel_rfl) (fun _ _ _ h => h) (by kernel_rfl) (fun W hW => by go_simp) (by assumption) rfl rfl ?_
      simp only [Act.put, List.setIfInBounds_toArray, List.set_cons_zero, List.set_cons_succ]
      refine wpAnyH_yield 6 61 (.bool false) rfl rfl (by kernel_rfl) (by kernel_rfl) (by kernel_rfl) (fun _ _ _ h => h) (by kernel_rfl) (fun W hW => by kernel_rfl) (by assumption) rfl rfl ?_
      simp only [Act.put, List.setIfInBounds_toArray, List.set_cons_zero, List.set_cons_succ]
      refine wpAnyH_yield 7 62 (pnv (y i)) rfl rfl (by kernel_rfl) (by kernel_rfl) (by kernel_rfl) (fun _ _ _ h => h) (by kernel_rfl) (fun W hW => by obtain ⟨⟨c0, c1, c2, c3, c4⟩, c5, c6, c7, c8⟩ := KD.out W hW; go_simp) (by assumption) rfl rfl ?_
      simp only [Act.put, List.setIfInBounds_toArray, List.set_cons_zero, List.set_cons_succ]
      refine wpAnyH_yield 8 63 (.slice (some ⟨g4, 0, none⟩) (i + 1) p4) rfl rfl (by kernel_rfl) (by kernel_rfl) (by kernel_rfl) (fun _ _ _ h => h) (by kernel_rfl) (fun W hW => by kernel_rfl) (by assumption) rfl rfl ?_
      simp only [Act.put, List.setIfInBounds_toArray, List.set_cons_zero, List.set_cons_succ]
      refine wpAnyH_yield 9 64 (.int .i64 (i : Int)) rfl rfl (by kernel_rfl) (by kernel_rfl) (by kernel_rfl) (fun _ _ _ h => h) (by kernel_rfl) (fun W hW => by kernel_rfl) (by assumption) rfl rfl ?_
      simp only [Act.put, List.setIfInBounds_toArray, List.set_cons_zero, List.set_cons_succ]
      refine wpAnyH_yield 10 65 (.pointer (some ⟨g4, i * 9, none⟩)) rfl rfl (by kernel_rfl) (by kernel_rfl) (by kernel_rfl) (fun _ _ _ h => h) (by kernel_rfl) (fun W hW => by go_simp; intro h; omega) (by assumption) rfl rfl ?_
      simp only [Act.put, List.setIfInBounds_toArray, List.set_cons_zero, List.set_cons_succ]
      refine wpAnyH_yield 11 66 (pnv (y i)) rfl rfl (by kernel_rfl) (by kernel_rfl) (by kernel_rfl) (fun _ _ _ h => h) (by kernel_rfl) (fun W hW => by obtain ⟨⟨c0, c1, c2, c3, c4⟩, c5, c6, c7, c8⟩ := KC7.out W hW; go_simp) (by assumption) rfl rfl ?_
      simp only [Act.put, List.setIfInBounds_toArray, List.set_cons_zero, List.set_cons_succ]
      refine wpAnyH_yield 12 67 (.bool false) rfl rfl (by kernel_rfl) (by kernel_rfl) (by kernel_rfl) (fun _ _ _ h => h) (by kernel_rfl) (fun W hW => by go_simp) (by assumption) rfl rfl ?_
      simp only [Act.put, List.setIfInBounds_toArray, List.set_cons_zero, List.set_cons_succ]
      refine wpAnyH_yield 13 68 (.bool false) rfl rfl (by kernel_rfl) (by kernel_rfl) (by kernel_rfl) (fun _ _ _ h => h) (by kernel_rfl) (fun W hW => by go_simp) (by assumption) rfl rfl ?_
      simp only [Act.put, List.setIfInBounds_toArray, List.set_cons_zero, List.set_cons_succ]
      refine wpAnyH_done (by kernel_rfl) ?_ _
      have H1 := hide hT0
      clear hT0
      generalize ({ w7 with drawn := w7.drawn + 1 } : World) = w8 at *
      have T8w := hide (T7w.out.tr H1.out)
      have HO8 := hide (Rc.Own.calm HO7.out H1.out)
      have KC8 : Hid (∀ W, Calm w8 W → pcell W g4 (i * 9) (y i)) := hide fun W hW => KC7.out W (H1.out.tr hW)
      have hlen : Hid ((O (i + 1)).length = i + 1) := hide (Rc.Own.mem HO8.out).1.symm
      clear T7w HO7 KC7 KD H1 Z1
      by_cases h0 : i = 0
      · subst h0
        go_wp2_with fail
        go_roundw
        case rel => exact ⟨1, _, p4, by go_num, by omega, rfl, HO8.out, T8w.out⟩
        case measure => simp [intOf]; omega
      · have h0z : (0 : Int) < (i : Int) := by omega
        obtain ⟨m, hm⟩ : ∃ m, i = m + 1 := ⟨i - 1, by omega⟩
        obtain ⟨g5, e5, kp⟩ := own_at HO8.out m (by rw [hlen.out]; omega)
        injection e5 with e5
        injection e5 with e5 _
        subst e5
        rw [hxi.out m (by omega)] at kp
        have KP := hide kp
        have e6 : i - 1 = m := by omega
        rw [e6] at CL2 LI2
        have hmz : (i : Int) - 1 = (m : Int) := by omega
        obtain ⟨⟨c0, c1, c2, c3, c4⟩, c5, c6, c7, c8⟩ := kp w8 (Touch.refl _ _)
        clear kp e6 hm
        go_wp2_with fail
        refine (CL2.out _ T8w.out).mono ?_
        rintro e w9 ⟨rfl, T9⟩
        have KC9 : Hid (∀ W, Calm w9 W → pcell W g4 (i * 9) (y i)) := hide fun W hW => KC8.out W (T9.tr hW)
        have KP9 : Hid (∀ W, Calm w9 W → pcell W g4 (m * 9) (y m)) := hide fun W hW => KP.out W (T9.tr hW)
        have T9w := hide (T8w.out.tr T9)
        have HO9 := hide (Rc.Own.calm HO8.out T9)
        clear T9 T8w HO8 KC8 KP CL2 c0 c1 c2 c3 c4 c5 c6 c7 c8
        obtain ⟨sE, hsE⟩ : ∃ sE, decide (y i = y m) = sE := ⟨_, rfl⟩
        have hs1 : Hid (((lineB (y i)).toList == (lineB (y m)).toList) = sE) := hide (by
          rw [ba_beq, ← hsE]
          by_cases h : y i = y m
          · rw [decide_eq_true h, decide_eq_true (LI2.out.2 h)]
          · rw [decide_eq_false h, decide_eq_false (fun h2 => h (LI2.out.1 h2))])
        have hs2 : Hid ((!(!decide (y i = y m))) = sE) := hide (by rw [Bool.not_not]; exact hsE)
        clear LI2 hsE
        generalize lineB (y i) = lb1 at *
        generalize lineB (y m) = lb2 at *
        go_wp2_with fail
        refine wp_region_held (S := Calm w9) (by kernel_rfl) ?_
        have hT0 : Calm w9 { w9 with drawn := w9.drawn + 1 } := (Touch.refl (fun _ => False) w9).drew
        refine wpAnyH_yield 0 80 (.string lb1) rfl rfl (by kernel_rfl) (by kernel_rfl) (by kernel_rfl) (fun _ _ _ h => h) (by kernel_rfl) (fun W hW => by kernel_rfl) (by assumption) rfl rfl ?_
        simp only [Act.put, List.setIfInBounds_toArray, List.set_cons_zero, List.set_cons_succ]
        refine wpAnyH_yield 1 81 (.string lb2) rfl rfl (by kernel_rfl) (by kernel_rfl) (by kernel_rfl) (fun _ _ _ h => h) (by kernel_rfl) (fun W hW => by kernel_rfl) (by assumption) rfl rfl ?_
        simp only [Act.put, List.setIfInBounds_toArray, List.set_cons_zero, List.set_cons_succ]
        refine wpAnyH_yield 2 82 (.bool sE) rfl rfl (by kernel_rfl) (by kernel_rfl) (by kernel_rfl) (fun _ _ _ h => h) (by kernel_rfl) (fun W hW => by have h1 := hs1.out; go_simp) (by assumption) rfl rfl ?_
        simp only [Act.put, List.setIfInBounds_toArray, List.set_cons_zero, List.set_cons_succ]
        refine wpAnyH_yield 3 83 (.slice (some ⟨g4, 0, none⟩) (i + 1) p4) rfl rfl (by kernel_rfl) (by kernel_rfl) (by kernel_rfl) (fun _ _ _ h => h) (by kernel_rfl) (fun W hW => by kernel_rfl) (by assumption) rfl rfl ?_
        simp only [Act.put, List.setIfInBounds_toArray, List.set_cons_zero, List.set_cons_succ]
        refine wpAnyH_yield 4 84 (.int .i64 (i : Int)) rfl rfl (by kernel_rfl) (by kernel_rfl) (by kernel_rfl) (fun _ _ _ h => h) (by kernel_rfl) (fun W hW => by kernel_rfl) (by assumption) rfl rfl ?_
        simp only [Act.put, List.setIfInBounds_toArray, List.set_cons_zero, List.set_cons_succ]
        refine wpAnyH_yield 5 85 (.pointer (some ⟨g4, i * 9, none⟩)) rfl rfl (by kernel_rfl) (by kernel_rfl) (by kernel_rfl) (fun _ _ _ h => h) (by kernel_rfl) (fun W hW => by go_simp; intro h; omega) (by assumption) rfl rfl ?_
        simp only [Act.put, List.setIfInBounds_toArray, List.set_cons_zero, List.set_cons_succ]
        refine wpAnyH_yield 6 86 (pnv (y i)) rfl rfl (by kernel_rfl) (by kernel_rfl) (by kernel_rfl) (fun _ _ _ h => h) (by kernel_rfl) (fun W hW => by obtain ⟨⟨c0, c1, c2, c3, c4⟩, c5, c6, c7, c8⟩ := KC9.out W hW; go_simp) (by assumption) rfl rfl ?_
        simp only [Act.put, List.setIfInBounds_toArray, List.set_cons_zero, List.set_cons_succ]
        refine wpAnyH_yield 7 87 (.slice (some ⟨g4, 0, none⟩) (i + 1) p4) rfl rfl (by kernel_rfl) (by kernel_rfl) (by kernel_rfl) (fun _ _ _ h => h) (by kernel_rfl) (fun W hW => by kernel_rfl) (by assumption) rfl rfl ?_
        simp only [Act.put, List.setIfInBounds_toArray, List.set_cons_zero, List.set_cons_succ]
        refine wpAnyH_yield 8 88 (.int .i64 (i : Int)) rfl rfl (by kernel_rfl) (by kernel_rfl) (by kernel_rfl) (fun _ _ _ h => h) (by kernel_rfl) (fun W hW => by kernel_rfl) (by assumption) rfl rfl ?_
        simp only [Act.put, List.setIfInBounds_toArray, List.set_cons_zero, List.set_cons_succ]
        refine wpAnyH_yield 9 89 (.int .i64 (m : Int)) rfl rfl (by kernel_rfl) (by kernel_rfl) (by kernel_rfl) (fun _ _ _ h => h) (by kernel_rfl) (fun W hW => by go_simp; rw [wrapEq]; unfold wrap64; omega) (by assumption) rfl rfl ?_
        simp only [Act.put, List.setIfInBounds_toArray, List.set_cons_zero, List.set_cons_succ]
        refine wpAnyH_yield 10 90 (.pointer (some ⟨g4, m * 9, none⟩)) rfl rfl (by kernel_rfl) (by kernel_rfl) (by kernel_rfl) (fun _ _ _ h => h) (by kernel_rfl) (fun W hW => by go_simp; intro h; omega) (by assumption) rfl rfl ?_
        simp only [Act.put, List.setIfInBounds_toArray, List.set_cons_zero, List.set_cons_succ]
        refine wpAnyH_yield 11 91 (pnv (y m)) rfl rfl (by kernel_rfl) (by kernel_rfl) (by kernel_rfl) (fun _ _ _ h => h) (by kernel_rfl) (fun W hW => by obtain ⟨⟨c0, c1, c2, c3, c4⟩, c5, c6, c7, c8⟩ := KP9.out W hW; go_simp) (by assumption) rfl rfl ?_
        simp only [Act.put, List.setIfInBounds_toArray, List.set_cons_zero, List.set_cons_succ]
        refine wpAnyH_yield 12 92 (.bool sE) rfl rfl (by kernel_rfl) (by kernel_rfl) (by kernel_rfl) (fun _ _ _ h => h) (by kernel_rfl) (fun W hW => by go_simp; rw [← hs2.out]; exact pn_ifs (y i) (y m) (fun b => Result.ok (Next.value (.bool (!b))) W)) (by assumption) rfl rfl ?_
        simp only [Act.put, List.setIfInBounds_toArray, List.set_cons_zero, List.set_cons_succ]
        refine wpAnyH_yield 13 93 (.bool false) rfl rfl (by kernel_rfl) (by kernel_rfl) (by kernel_rfl) (fun _ _ _ h => h) (by kernel_rfl) (fun W hW => by cases sE <;> go_simp) (by assumption) rfl rfl ?_
        simp only [Act.put, List.setIfInBounds_toArray, List.set_cons_zero, List.set_cons_succ]
        refine wpAnyH_done (by kernel_rfl) ?_ _
        have T10w := hide (T9w.out.tr hT0)
        have HO10 := hide (Rc.Own.calm HO9.out hT0)
        clear hT0 T9w HO9 KC9 KP9 hs1 hs2
        go_wp2_with fail
        go_roundw
        case rel => exact ⟨i + 1, _, p4, by go_num, by omega, rfl, HO10.out, T10w.out⟩
        case measure => simp [intOf]; omega
    · have hltz : ¬ (i : Int) < (n : Int) := by omega
      obtain rfl : i = n := by omega
      have hl := RL.out i hi
      obtain ⟨ts, ht1, ht2, ht3⟩ := text_all (RM.out i)
      have CT := hide (fun W h (h2 : Calm w W) => HI.out.text (O i) a c W h (by omega) (fun j hj => by
        have := List.getElem_mem hj
        rw [List.getD_eq_getElem?_getD, List.getElem?_eq_getElem hj]
        exact (RM.out i _ this).2) (hY.calm h2))
      rw [hl, ht1] at CT
      have CRd := hide (fun W (h : Calm w W) => HI.out.read ts W (by omega) (hY.calm h))
      have RO := hide (RdR.own (RM.out i))
      have TS := hide ht2
      have HOW := hide OW
      have HT := hide TE
      clear OW TE ht1 ht2 SA
      go_wp2_with fail
      have oq : encP.Own 29 wr w.heap.size (.slice a (O i).length c) (O i) := by rw [hl]; exact HOW.out
      have osl : encP.Sl wr a c (O i) := Rc.Own.sl oq
      clear oq
      refine (CT.out _ osl HT.out).mono ?_
      rintro e w1 ⟨rfl, T1⟩
      have T1w := hide (HT.out.tr T1)
      have HO1 := hide (Rc.Own.calm HOW.out T1)
      clear osl CT T1 HT HOW
      go_wp2_with fail
      refine (CRd.out _ T1w.out).mono ?_
      rintro e w2 ⟨L2, r2, hr2, Z2, a2, c2, hZ2, rfl, O2, T2⟩
      have h2 := hr2
      rw [TS.out] at h2
      obtain ⟨rfl, rfl⟩ := RdR.one RO.out h2
      rw [if_pos rfl] at hZ2
      subst hZ2
      rw [if_pos rfl]
      have T2w := hide (T1w.out.tr T2)
      have HO2 := hide (Rc.Own.calm HO1.out T2)
      have CE := hide (sameP_any (O i) (O i) a2 a c2 c w2 (Rc.Own.mem O2).2.1 (Rc.Own.mem HO2.out).2.1 (by omega) (by omega))
      rw [decide_eq_true (rfl : O i = O i), hl] at CE
      rw [hl]
      clear hr2 h2 O2 T2 T1w HO1 CRd RO
      go_wp2_with fail
      refine CE.out.mono ?_
      rintro e w3 ⟨rfl, T3⟩
      have T3w := hide (T2w.out.tr T3)
      have HO3 := hide (Rc.Own.calm HO2.out T3)
      clear CE T3 T2w HO2
      by_cases h0 : i = 0
      · subst h0
        go_wp2_with fail
        refine (CK.out _ T3w.out).mono ?_
        rintro e w4 ⟨rfl, T4⟩
        have T4w := hide (T3w.out.tr T4)
        clear T4
        go_wp2_with fail
        go_ret
        exact ⟨rfl, T4w.out⟩
      · have h0z : (0 : Int) < (i : Int) := by omega
        obtain ⟨m, hm⟩ : ∃ m, i = m + 1 := ⟨i - 1, by omega⟩
        have hON : Hid (O i = O m ++ [rightP (x m)]) := hide (by rw [hm]; exact RN.out m (by omega))
        obtain ⟨g3, rfl, kp⟩ := own_at HO3.out m (by rw [hl]; omega)
        rw [RA.out i m (by omega) (by omega)] at kp
        have hmz : (i : Int) - 1 = (m : Int) := by omega
        have hmlt : (m : Int) < (i : Int) := by omega
        have CL3 := hide (fun W hW => CLj.out m (by omega) W hW)
        have hlp : 0 < (lineB (rightP (x m))).size ∧ (lineB (rightP (x m))).size ≤ 1194 := ⟨by
          have := jn_pos (rightP (x m))
          rw [← tl_len, line_split, List.length_append]; omega, line_size (right_may _) (RM.out i _ (by rw [hON.out]; simp)).2⟩
        obtain ⟨k, hk, hk1, hk2⟩ := cut_k (c := cut) hlp.1
        have RC : Hid (∃ r, RdR (ts.extract 0 (ts.size - k)).toList (O m) r ∧ r ≠ []) := hide (by
          obtain ⟨r, h1, h2⟩ := RdR.cut (RM.out m) (TS.out.trans (by rw [hON.out])) hk1 hk2
          refine ⟨r, ?_, h2⟩
          rw [ex_toList, List.drop_zero, Nat.sub_zero, ← tl_len]
          exact h1)
        have htk : k ≤ ts.size := by
          rw [← tl_len, TS.out, hON.out, lnB_app, lnB_cons, List.length_append, List.length_append, tl_len]; omega
        have CRd := hide (fun W (h : Calm w W) => HI.out.read (ts.extract 0 (ts.size - k)) W (by rw [ByteArray.size_extract]; omega) (hY.calm h))
        have hlm := RL.out m (by omega)
        have hw1 : wrap64 (1 + (wrap64 (cut.tmod ((lineB (rightP (x m))).size : Int) + ((lineB (rightP (x m))).size : Int))).tmod ((lineB (rightP (x m))).size : Int)) = (k : Int) := by
          have q1 := Int.lt_tmod_of_pos cut (show (0 : Int) < ((lineB (rightP (x m))).size : Int) by omega)
          have q2 := Int.tmod_lt_of_pos cut (show (0 : Int) < ((lineB (rightP (x m))).size : Int) by omega)
          have e1 : wrap64 (cut.tmod ((lineB (rightP (x m))).size : Int) + ((lineB (rightP (x m))).size : Int)) = cut.tmod ((lineB (rightP (x m))).size : Int) + ((lineB (rightP (x m))).size : Int) := by unfold wrap64; omega
          rw [e1, hk]
          unfold wrap64; omega
        have hlz : ¬ ((lineB (rightP (x m))).size : Int) = 0 := by omega
        obtain ⟨d, hd⟩ : ∃ d, ts.size - k = d := ⟨_, rfl⟩
        have hw2 : wrap64 ((ts.size : Int) - (k : Int)) = (d : Int) := by unfold wrap64; omega
        have hdz : (d : Int) ≤ (ts.size : Int) := by omega
        rw [hd] at RC CRd
        obtain ⟨⟨c0, c1, c2', c3, c4⟩, c5, c6, c7, c8⟩ := kp w3 (Touch.refl _ _)
        clear kp HP RM RN RL RA R0 CLj LI HI hON TS HO3
        generalize lineB (rightP (x m)) = lb at *
        go_wp2_with fail
        refine (CL3.out _ T3w.out).mono ?_
        rintro e w4 ⟨rfl, T4⟩
        have T4w := hide (T3w.out.tr T4)
        clear T4 T3w CL3 c0 c1 c2' c3 c4 c5 c6 c7 c8
        go_wp2_with fail
        refine (CRd.out _ T4w.out).mono ?_
        rintro e w5 ⟨L5, r5, hr5, Z5, a5, c5, hZ5, rfl, O5, T5⟩
        obtain ⟨r, h1, h2⟩ := RC.out
        obtain ⟨e1, e2⟩ := RdR.one h1 hr5
        subst e1 e2
        rw [if_neg h2] at hZ5
        subst hZ5
        rw [if_neg h2, hlm]
        have T5w := hide (T4w.out.tr T5)
        clear h1 h2 hr5 O5 T5 T4w RC CRd hw1 hw2
        go_wp2_with fail
        refine (CK.out _ T5w.out).mono ?_
        rintro e w6 ⟨rfl, T6⟩
        have T6w := hide (T5w.out.tr T6)
        clear T6
        go_wp2_with fail
        go_ret
        exact ⟨rfl, T6w.out⟩

end Go.Proofs.YtamfcmmhmfhhkaaDoor

namespace Go.Proofs.YtamfcmmhmfhhkaaDoor.LM
open Go.RowKit

/-- A tree in memory, told by what it holds in order. -/
inductive TL (w : World) : Value → List (ByteArray × (Option Addr × Nat × Nat)) → Prop
  | nil : TL w (.pointer none) []
  | node {b : Nat} {k : ByteArray} {v : (Option Addr × Nat × Nat)} {p q : Option Addr} {L R : List (ByteArray × (Option Addr × Nat × Nat))}
      (hb : w.heap[b]? = some (.cells #[.string k, .slice v.1 v.2.1 v.2.2, .int .i64 (((L.length + 1 + R.length : Nat)) : Int), .pointer p, .pointer q] 117 (0, 0)))
      (hl : TL w (.pointer p) L) (hr : TL w (.pointer q) R) : TL w (.pointer (some ⟨b, 0, none⟩)) (L ++ (k, v) :: R)

theorem TL.calm {w w' : World} {p : Value} {L : List (ByteArray × (Option Addr × Nat × Nat))} (h : TL w p L) (ht : Calm w w') : TL w' p L := by
  induction h with
  | nil => exact .nil
  | node hb _ _ il ir => exact .node (ht.at hb) il ir

theorem TL.ptr {w : World} {p : Value} {L : List (ByteArray × (Option Addr × Nat × Nat))} (h : TL w p L) : ∃ a, p = .pointer a := by cases h <;> exact ⟨_, rfl⟩

theorem TL.none_of {w : World} {p : Value} (h : TL w p []) : p = .pointer none := by
  generalize hX : ([] : List (ByteArray × (Option Addr × Nat × Nat))) = X at h
  cases h with
  | nil => rfl
  | node => simp at hX

theorem TL.some_of {w : World} {p : Option Addr} {X : List (ByteArray × (Option Addr × Nat × Nat))} (h : TL w (.pointer p) X) (hne : X ≠ []) : ∃ b, p = some b := by
  cases h with
  | nil => exact absurd rfl hne
  | node => exact ⟨_, rfl⟩

set_option maxRecDepth 100000 in
theorem size_any (p : Value) (L : List (ByteArray × (Option Addr × Nat × Nat))) (w : World) (h : TL w p L) : Calls Tryd.prog 114 #[p] w fun e w' => e = .returned (.int .i64 (L.length : Nat)) ∧ w' = w := by
  cases h with
  | nil =>
    go_enter Tryd.func114, Tryd.ntmps114
    go_wp2_with fail
    go_ret
    exact ⟨rfl, rfl⟩
  | node hb hl hr =>
    obtain ⟨c0, c1, c2, c3, c4⟩ := cells5 hb
    rename_i b k v p q L R
    have e : (L ++ (k, v) :: R).length = L.length + 1 + R.length := by simp; omega
    rw [e]
    generalize L.length + 1 + R.length = n at *
    go_enter Tryd.func114, Tryd.ntmps114
    go_wp2_with fail
    go_ret
    exact ⟨rfl, rfl⟩

end Go.Proofs.YtamfcmmhmfhhkaaDoor.LM
