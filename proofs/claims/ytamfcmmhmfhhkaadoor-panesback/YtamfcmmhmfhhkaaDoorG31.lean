/- The program's Read. Last: of each key and window the last pane (the notions; a pane put into a row in a new row). Panes by keys, the last ones: the mathematics. -/
import Derived.Test.YtamfcmmhmfhhkaaDoorG30
import Derived.Test.YtamfcmmhmfhhkaaDoorG16
import Derived.Lib.IndexBytes
import Derived.Deep.CutRange
import Derived.Test.YtamfcmmhmfhhkaaDoorG5
import Derived.Test.YtamfcmmhmfhhkaaDoorG15
import Derived.Test.YtamfcmmhmfhhkaaDoorG12
namespace Go.Proofs.YtamfcmmhmfhhkaaDoor
open Go.RowKit

theorem ib10 : ∀ R : List UInt8, (Lib.indexByte R 10 = -1 ∧ ∀ b ∈ R, b ≠ 10) ∨ ∃ a r, R = a ++ 10 :: r ∧ (∀ b ∈ a, b ≠ 10) ∧ Lib.indexByte R 10 = (a.length : Int)
  | [] => .inl ⟨rfl, fun b hb => (nomatch hb)⟩
  | b :: R => by
    by_cases h : b = 10
    · subst h
      exact .inr ⟨[], R, rfl, fun b hb => (nomatch hb), rfl⟩
    · have hb : (b == 10) = false := by rw [beq_eq_false_iff_ne]; exact h
      rcases ib10 R with ⟨h1, h2⟩ | ⟨a, r, h1, h2, h3⟩
      · refine .inl ⟨?_, fun c hc => ?_⟩
        · rw [Lib.indexByte, hb, h1]
          rfl
        · rcases List.mem_cons.1 hc with rfl | hc
          · exact h
          · exact h2 c hc
      · refine .inr ⟨b :: a, r, by rw [h1]; rfl, fun c hc => ?_, ?_⟩
        · rcases List.mem_cons.1 hc with rfl | hc
          · exact h
          · exact h2 c hc
        · rw [Lib.indexByte, hb, h3]
          have : ((a.length : Int) == -1) = false := by rw [beq_eq_false_iff_ne]; omega
          rw [this]
          simp
theorem ct_cases (R : List UInt8) : (Lib.cut R [10] = (R, [], false) ∧ ∀ b ∈ R, b ≠ 10) ∨ ∃ a r, R = a ++ 10 :: r ∧ (∀ b ∈ a, b ≠ 10) ∧ Lib.cut R [10] = (a, r, true) := by
  rcases ib10 R with ⟨h1, h2⟩ | ⟨a, r, h1, h2, h3⟩
  · refine .inl ⟨?_, h2⟩
    unfold Lib.cut
    rw [Lib.index_one, h1, if_neg (by omega)]
  · refine .inr ⟨a, r, h1, h2, ?_⟩
    unfold Lib.cut
    rw [Lib.index_one, h3, if_pos (by omega), Int.toNat_natCast]
    have e1 : R.take a.length = a := by rw [h1, List.take_left]
    have e2 : R.drop (a.length + ([10] : List UInt8).length) = r := by
      rw [h1, ← List.drop_drop, List.drop_left]
      rfl
    rw [e1, e2]
theorem lnB_len : ∀ L : List Pn, L.length ≤ (lnB L).length
  | [] => Nat.zero_le _
  | p :: L => by
    rw [lnB_cons, List.length_append, List.length_cons, List.length_cons]
    have := lnB_len L
    omega
theorem stk_of {a r : List UInt8} (ha : ∀ b ∈ a, b ≠ 10) (hp : ParR (bl a) none) : Stk (a ++ 10 :: r) := fun p r' h1 h2 h => by
  obtain ⟨e, -⟩ := cut10 ha (line_no p) h
  exact hp p h1 h2 (ba_ext (by rw [bl_list, e]))

/-- What Read keeps. -/
structure RdL (S : List UInt8) (L : List Pn) (R : List UInt8) : Prop where
  ok : ∀ p ∈ L, mayP p = true ∧ NumOk p
  eq : S = lnB L ++ R
theorem RdL.len {S : List UInt8} {L : List Pn} {R : List UInt8} (h : RdL S L R) : L.length ≤ S.length ∧ R.length ≤ S.length := by
  have := congrArg List.length h.eq
  rw [List.length_append] at this
  have := lnB_len L
  omega
theorem RdL.push {S : List UInt8} {L : List Pn} {a r : List UInt8} (h : RdL S L (a ++ 10 :: r)) {p : Pn} (hp : ParR (bl a) (some p)) : RdL S (L ++ [p]) r := by
  refine ⟨fun q hq => ?_, ?_⟩
  · rcases List.mem_append.1 hq with hq | hq
    · exact h.ok q hq
    · rw [List.mem_singleton] at hq
      subst hq
      exact ⟨hp.1, hp.2.1⟩
  · have e : (lineB p).toList = a := by rw [hp.2.2, bl_list]
    rw [h.eq, lnB_app, lnB_cons, lnB_nil, e]
    simp
/-- The library's Cut at a byte 10. -/
theorem cut_any (R : List UInt8) (hR : R.length ≤ 900000) (w : World) (hy : Yv w) : Calls Tryd.prog 38 #[.string (bl R), .string ⟨#[10]⟩] w fun e w' => e = .returned (.tuple #[.string (bl (Lib.cut R [10]).1), .string (bl (Lib.cut R [10]).2.1), .bool (Lib.cut R [10]).2.2]) ∧ Calm w w' := by
  obtain ⟨m, hm⟩ := hy.errs.2.2
  refine (Any.strings_Cut Tryd.lays145 (bl R) ⟨#[10]⟩ m w (by rw [bl_size]; omega) hm).mono ?_
  rintro e w' ⟨rfl, n, rfl⟩
  rw [bl_data]
  exact ⟨rfl, (Touch.refl (fun _ => False) w).drewN n⟩

set_option maxRecDepth 100000 in
set_option maxHeartbeats 8000000 in
theorem readR_any (S : List UInt8) (hs : S.length ≤ 900000) (w : World) (hy : Yv w) : Calls Tryd.prog 17 #[.string (bl S)] w fun e w' => ∃ L r, RdR S L r ∧ RetRd w e w' L r (.int .i64 (if r = [] then 0 else 280)) := by
  have CC := hide (fun R (hR : R.length ≤ 900000) W (hW : Calm w W) => cut_any R hR W (hy.calm hW))
  have CR := hide (fun t (ht : t.size ≤ 900000) W (hW : Calm w W) => read_any t ht W (hy.calm hW))
  have H0 : Hid (RdL S [] S) := hide ⟨fun p hp => (nomatch hp), rfl⟩
  have hi9 : (Tryd.prog.info? 29).map (·.size) = some 9 := by kernel_rfl
  clear hy
  unfold RetRd
  go_enter Tryd.func17, Tryd.ntmps17
  go_wp2_with fail
  go_loopw [0, 5] (fun s0 s5 wr => ∃ (L : List Pn) (R : List UInt8) (a : Option Addr) (c : Nat), s0 = .string (bl R) ∧ s5 = .slice a L.length c ∧ Hid (RdL S L R) ∧ encP.Own 29 wr w.heap.size (.slice a L.length c) L ∧ Calm w wr) (fun s0 _ _ => match s0 with
    | .string t => t.size
    | _ => 0)
  case atStart => exact ⟨[], S, none, 0, rfl, rfl, H0, Rc.Own.nil _ _ _, Touch.refl _ _⟩
  case round =>
    obtain ⟨L, R, a, c, rfl, rfl, HR, OW, TE⟩ := hrel
    clear H0
    obtain ⟨hL, hRl⟩ := HR.out.len
    cases hR0 : R with
    | nil =>
      have HF : Hid (RdR S L []) := hide ⟨HR.out.ok, by have h := HR.out.eq; rw [hR0] at h; exact h, Stk.nil⟩
      have HO := hide OW
      have HT := hide TE
      have e : bl [] = ⟨#[]⟩ := rfl
      rw [e]
      clear CC CR HR OW TE hR0 hRl
      go_wp2_with fail
      go_ret3
      exact ⟨L, [], HF.out, L, a, c, by rw [if_pos rfl], by rw [if_pos rfl]; rfl, HO.out, HT.out⟩
    | cons b0 R0 =>
      have hRn : R ≠ [] := by rw [hR0]; simp
      rw [← hR0]
      clear hR0
      have hne := bl_ne hRn
      have C1 := hide (CC.out R (by omega) wr TE)
      have HS : Hid (bl R = bl R) := hide rfl
      have HO := hide OW
      have HTE := hide TE
      clear CC OW TE HS
      rcases ct_cases R with ⟨h1, h2⟩ | ⟨a', r', h1, h2, h3⟩
      · rw [h1] at C1
        have HF : Hid (RdR S L R) := hide ⟨HR.out.ok, HR.out.eq, Stk.none10 h2⟩
        have hRz : (bl R).size ≤ 900000 := by rw [bl_size]; omega
        have HRn := hide hRn
        clear h1 h2 HR hRn
        go_wp2_with fail
        refine C1.out.mono ?_
        rintro e w1 ⟨rfl, T1⟩
        have HTa := hide T1
        have HT1 := hide (HTE.out.tr T1)
        have C2 := hide (CR.out (bl R) hRz w1 HT1.out)
        clear T1 C1 CR hne
        go_wp2_with fail
        refine C2.out.mono ?_
        rintro e w2 ⟨⟨o, -, rfl⟩, T2⟩
        have HT2 := hide (HT1.out.tr T2)
        generalize o.getD pn0 = P at *
        generalize o.isSome = bo at *
        have Z0 := hide (al_new w2 (.cells (pnc pn0) 29))
        have Z1 := hide (setRow_heap _ _ _ (pnc P) _ _ Z0.out)
        have Z2 : Hid (Touch (fun _ => False) w2 ((w2.alloc (.cells (pnc pn0) 29)).setRow w2.heap.size (pnc P))) := hide (((Touch.refl (fun _ => False) w2).alloc _).trans (S' := fun g => g = w2.heap.size) ⟨rfl, rfl, rfl, by simp, fun j _ hj => setRow_other _ _ j _ hj⟩ (fun g hg e => by omega))
        have hq1 : Hid ((pnc P).all (·.oneCell') = true) := hide (by simp [Value.oneCell'])
        have HT3 := hide (HT2.out.tr Z2.out)
        go_upto_region 5 with (refine wpList_store_rowTo rfl 29 (.tmp 9) (.tmp 22) rfl rfl w2.heap.size (pnc P) rfl rfl 29 _ Z0.out hi9 rfl hq1.out ?_)
        have HO3 := hide (Rc.Own.calm HO.out ((HTa.out.tr T2).tr Z2.out))
        generalize (w2.alloc (.cells (pnc pn0) 29)).setRow w2.heap.size (pnc P) = w3 at *
        clear Z0 Z2 hq1 hi9 T2 HTa HO C2
        generalize w2.heap.size = E at *
        clear Z1
        go_wp2_with fail
        go_ret3
        exact ⟨L, R, HF.out, [], none, 0, by rw [if_neg HRn.out], by rw [if_neg HRn.out]; rfl, Rc.Own.nil _ _ _, HT3.out⟩
      · rw [h3] at C1
        have hlen : a'.length + 1 + r'.length = R.length := by rw [h1]; simp; omega
        have haz : (bl a').size ≤ 900000 := by rw [bl_size]; omega
        have HSt : Hid (ParR (bl a') none → RdR S L R) := hide fun h => ⟨HR.out.ok, HR.out.eq, by rw [h1]; exact stk_of h2 h⟩
        have HPu : Hid (∀ p, ParR (bl a') (some p) → RdL S (L ++ [p]) r') := hide fun p h => by
          have k := HR.out
          rw [h1] at k
          exact k.push h
        have HRn := hide hRn
        have HZ : Hid ((bl R).size = R.length ∧ (bl r').size = r'.length) := hide ⟨bl_size _, bl_size _⟩
        clear h1 h2 h3 HR hRn
        go_wp2_with fail
        refine C1.out.mono ?_
        rintro e w1 ⟨rfl, T1⟩
        have HTa := hide T1
        have HT1 := hide (HTE.out.tr T1)
        have C2 := hide (CR.out (bl a') haz w1 HT1.out)
        clear T1 C1 CR hne
        generalize bl a' = la at *
        generalize hbR : bl R = tR at *
        generalize hbr : bl r' = tr at *
        have HB := hide (And.intro hbR hbr)
        clear hbR hbr
        go_wp2_with fail
        refine C2.out.mono ?_
        rintro e w2 ⟨⟨o, ho, rfl⟩, T2⟩
        have HT2 := hide (HT1.out.tr T2)
        have HO' := hide ho
        clear ho
        generalize hP : o.getD pn0 = P at *
        have HP := hide hP
        clear hP
        have Z0 := hide (al_new w2 (.cells (pnc pn0) 29))
        have Z1 := hide (setRow_heap _ _ _ (pnc P) _ _ Z0.out)
        have Z2 : Hid (Touch (fun _ => False) w2 ((w2.alloc (.cells (pnc pn0) 29)).setRow w2.heap.size (pnc P))) := hide (((Touch.refl (fun _ => False) w2).alloc _).trans (S' := fun g => g = w2.heap.size) ⟨rfl, rfl, rfl, by simp, fun j _ hj => setRow_other _ _ j _ hj⟩ (fun g hg e => by omega))
        have hq1 : Hid ((pnc P).all (·.oneCell') = true) := hide (by simp [Value.oneCell'])
        have HT3 := hide (HT2.out.tr Z2.out)
        go_upto_region 5 with (refine wpList_store_rowTo rfl 29 (.tmp 9) (.tmp 22) rfl rfl w2.heap.size (pnc P) rfl rfl 29 _ Z0.out hi9 rfl hq1.out ?_)
        have HO3 := hide (Rc.Own.calm HO.out ((HTa.out.tr T2).tr Z2.out))
        generalize (w2.alloc (.cells (pnc pn0) 29)).setRow w2.heap.size (pnc P) = w3 at *
        clear Z0 Z2 hq1 hi9 T2 HTa HO C2
        generalize w2.heap.size = E at *
        cases o with
        | none =>
          have HF := hide (HSt.out HO'.out)
          clear Z1 HSt HPu
          go_wp2_with fail
          go_ret3
          exact ⟨L, R, HF.out, [], none, 0, by rw [if_neg HRn.out], by rw [if_neg HRn.out]; rfl, Rc.Own.nil _ _ _, HT3.out⟩
        | some p =>
          obtain rfl : p = P := HP.out
          have HF := hide (HPu.out p HO'.out)
          obtain ⟨a4, p4, w4, hr, ow, t4⟩ := pn_app1 p HO3.out HT3.out.size (by omega)
          have e1 : (L ++ [p]).length = L.length + 1 := by simp
          have HT4 := hide (Rc.Own.fresh (w0 := w) HO3.out t4 (fun _ h => h) HT3.out (Nat.le_refl _))
          have HR4 := hide hr
          have HO4 := hide ow
          have E1 := hide e1
          obtain ⟨⟨c0, c1, c2, c3, c4⟩, c5, c6, c7, c8⟩ := pn_cells Z1.out
          clear Z1 HSt HPu HP HO' hr ow t4 e1 HO3
          go_wp2_with (at_builtin; refine Rc.wpList_appR rfl (.tmp 32) (.tmp 34) 22 22 rfl _ _ _ rfl rfl HR4.out ?_)
          go_roundw
          case rel => exact ⟨L ++ [p], r', a4, p4, by rw [HB.out.2], by rw [E1.out], HF, HO4.out, HT4.out⟩
          case measure =>
            have h1 := HZ.out
            have h2 := HB.out
            rw [← h2.1] at h1
            first
              | (show tr.size < (bl R).size; omega)
              | (show tr.size < tR.size; rw [← h2.1]; omega)

theorem readL_any (s : ByteArray) (hs : s.size ≤ 900000) (w : World) (hy : Yv w) : Calls Tryd.prog 17 #[.string s] w fun e w' => ∃ L r, RdR s.toList L r ∧ RetRd w e w' L r (.int .i64 (if r = [] then 0 else 280)) := by
  have h := readR_any s.toList (by rw [tl_len]; exact hs) w hy
  rw [bl_of] at h
  exact h

end Go.Proofs.YtamfcmmhmfhhkaaDoor

namespace Go.Proofs.YtamfcmmhmfhhkaaDoor
open Go.RowKit

/-- A pane's key and window alone. -/
abbrev wpn (p : Pn) : Pn := ⟨p.k, p.a, p.b, 0, 0, tl0⟩
def wLt (p q : Pn) : Bool := decide (cmpP (wpn p) (wpn q) < 0)
def sameW (p q : Pn) : Bool := decide (p.k = q.k) && (decide (p.a = q.a) && decide (p.b = q.b))
def laterP (R : List Pn) (p : Pn) : Bool := R.any fun q => sameW q p
/-- How many stand ahead of it. -/
def leadW (O : List Pn) (p : Pn) : Nat := (O.takeWhile fun a => wLt a p).length
def insW (O : List Pn) (p : Pn) : List Pn := O.take (leadW O p) ++ [p] ++ O.drop (leadW O p)
def lastF : List Pn → List Pn → List Pn
  | O, [] => O
  | O, p :: R => lastF (if laterP R p then O else insW O p) R
def lastP (L : List Pn) : List Pn := lastF [] L

theorem leadW_eq : ∀ (l : List Pn) (s : Pn) (i : Nat), i ≤ l.length → (∀ j, j < i → wLt (l.getD j pn0) s = true) → (i < l.length → wLt (l.getD i pn0) s = false) → leadW l s = i
  | [], _, i, hi, _, _ => by simp at hi; subst hi; rfl
  | x :: l, s, 0, _, _, h2 => by
    have : wLt x s = false := h2 (by simp)
    simp [leadW, this]
  | x :: l, s, i + 1, hi, h1, h2 => by
    have h0 : wLt x s = true := h1 0 (by omega)
    have ih := leadW_eq l s i (by simpa using hi) (fun j hj => h1 (j + 1) (by omega)) (fun h => h2 (by simpa using h))
    unfold leadW at ih ⊢
    rw [List.takeWhile_cons, if_pos (by simpa using h0), List.length_cons, ih]
theorem drop_at {L : List Pn} {i : Nat} (h : i < L.length) : L.drop i = L.getD i pn0 :: L.drop (i + 1) := by
  rw [List.getD_eq_getElem?_getD, List.getElem?_eq_getElem h]
  exact List.drop_eq_getElem_cons h
theorem lastF_next {L O : List Pn} {i : Nat} (h : i < L.length) : lastF O (L.drop i) = lastF (if laterP (L.drop (i + 1)) (L.getD i pn0) then O else insW O (L.getD i pn0)) (L.drop (i + 1)) := by
  rw [drop_at h]; rfl
theorem lastF_end {L O : List Pn} : lastF O (L.drop L.length) = O := by rw [List.drop_of_length_le (Nat.le_refl _)]; rfl
/-- Is there a later one among those up to j? -/
def lateJ (L : List Pn) (i j : Nat) : Bool := laterP ((L.drop (i + 1)).take (j - (i + 1))) (L.getD i pn0)
theorem lateJ_zero (L : List Pn) (i : Nat) : lateJ L i (i + 1) = false := by unfold lateJ; rw [Nat.sub_self]; rfl
theorem lateJ_next {L : List Pn} {i j : Nat} (hi : i + 1 ≤ j) (hj : j < L.length) : lateJ L i (j + 1) = (lateJ L i j || sameW (L.getD j pn0) (L.getD i pn0)) := by
  unfold lateJ laterP
  have e : j + 1 - (i + 1) = (j - (i + 1)) + 1 := by omega
  rw [e, List.take_add_one, List.getElem?_drop, show i + 1 + (j - (i + 1)) = j by omega, List.getElem?_eq_getElem hj, List.any_append]
  rw [List.getD_eq_getElem?_getD (i := j), List.getElem?_eq_getElem hj]
  simp
theorem lateJ_end (L : List Pn) (i : Nat) : lateJ L i L.length = laterP (L.drop (i + 1)) (L.getD i pn0) := by
  unfold lateJ
  rw [List.take_of_length_le (by rw [List.length_drop]; omega)]
theorem insW_len (O : List Pn) (p : Pn) : (insW O p).length = O.length + 1 := by
  unfold insW
  have : leadW O p ≤ O.length := List.IsPrefix.length_le (List.takeWhile_prefix _)
  simp only [List.length_append, List.length_take, List.length_drop, List.length_cons, List.length_nil]; omega

/-- A pane put in at a place of a row of one's own, in a new row. -/
theorem pn_put {W : World} {base : Nat} {ao : Option Addr} {cap : Nat} {O : List Pn} (b : Pn) (h : encP.Own 29 W base (.slice ao O.length cap) O) (k : Nat) (hk : k ≤ O.length) (hn : O.length ≤ 1000000000) :
    ∃ so1 sc1 so2 sc2 a1 p1 w3 a2 p2 w4 a3 p3 w5, (∀ V, (Instr.slice 22 (.slice ao O.length cap) none (some (.int .i64 (k : Nat))) none).run Tryd.prog V = .ok (.slice so1 k sc1) V) ∧ (∀ V, (Instr.slice 22 (.slice ao O.length cap) (some (.int .i64 (k : Nat))) none none).run Tryd.prog V = .ok (.slice so2 (O.length - k) sc2) V) ∧
      (Builtin.append_ #[22, 22] 22 #[.slice none 0 0, .slice so1 k sc1]).run Tryd.prog W = .ok (.slice a1 k p1) w3 ∧
      (Builtin.append_ #[22, 22] 22 #[.slice a1 k p1, .slice (some ⟨w3.heap.size, 0, none⟩) 1 1]).run Tryd.prog (w3.alloc (.cells (pnc b) 29)) = .ok (.slice a2 (k + 1) p2) w4 ∧
      (Builtin.append_ #[22, 22] 22 #[.slice a2 (k + 1) p2, .slice so2 (O.length - k) sc2]).run Tryd.prog w4 = .ok (.slice a3 (O.length + 1) p3) w5 ∧
      encP.Own 29 w5 W.heap.size (.slice a3 (O.length + 1) p3) (O.take k ++ [b] ++ O.drop k) ∧ Calm W w3 ∧ Calm W w5 := by
  obtain ⟨i0, hi, hz, hs, hby⟩ := Rc.info_parts infoPane
  have sl := Rc.Own.sl h
  obtain ⟨so1, sc1, hsl1, m1, n1⟩ := Rc.Sl.to Tryd.underlying22 elemPane hi (k := k) sl hk
  obtain ⟨so2, sc2, hsl2, m2, n2⟩ := Rc.Sl.from Tryd.underlying22 elemPane hi hs (k := k) sl hk
  have e1 : (O.take k).length = k := by rw [List.length_take]; omega
  have e2 : (O.drop k).length = O.length - k := by rw [List.length_drop]
  have eb : encP.n = 9 := rfl
  obtain ⟨a1, p1, w3, hr1, ow1, t1, -⟩ := Rc.Own.appw (E := encP) (ty := 22) Tryd.underlying22 hi hz hs hby rfl (Rc.Own.nil 29 W W.heap.size) so1 sc1 (O.take k) m1 n1 (by rw [e1]; simp; unfold maxLen; omega) (by rw [e1]; simp; omega) (by omega) (Nat.le_refl _)
  have C3 : Calm W w3 := Rc.Own.fresh (Rc.Own.nil (E := encP) 29 W W.heap.size) t1 (fun _ h => h) (Touch.refl _ _) (Nat.le_refl _)
  rw [List.nil_append, e1] at hr1
  rw [List.nil_append, e1] at ow1
  have ow1' := Rc.Own.calm ow1 ((Touch.refl (fun _ => False) w3).alloc (.cells (pnc b) 29))
  have hsz3 := C3.size
  have hs1 := al_size w3 (.cells (pnc b) 29)
  obtain ⟨a2, p2, w4, hr2, ow2, t2, -⟩ := Rc.Own.appw (E := encP) (ty := 22) Tryd.underlying22 hi hz hs hby rfl ow1' (some ⟨w3.heap.size, 0, none⟩) 1 [b] (Rc.Mem.new w3 [b] 29) (fun h => (nomatch h)) (by rw [e1]; simp; unfold maxLen; omega) (by rw [e1]; simp; omega) (by omega) (by omega)
  have C4 : Calm W w4 := Rc.Own.fresh ow1' t2 (fun _ h => h) (C3.alloc _) (Nat.le_refl _)
  have e3 : (O.take k ++ [b]).length = k + 1 := by rw [List.length_append, e1]; rfl
  rw [e3] at hr2
  rw [e3] at ow2
  have hsz4 := C4.size
  obtain ⟨a3, p3, w5, hr3, ow3, t3, -⟩ := Rc.Own.appw (E := encP) (ty := 22) Tryd.underlying22 hi hz hs hby rfl ow2 so2 sc2 (O.drop k) (Rc.Mem.calm m2 C4) n2 (by rw [e2, e3]; unfold maxLen; omega) (by rw [e2, e3]; omega) (by omega) (by omega)
  have C5 : Calm W w5 := Rc.Own.fresh ow2 t3 (fun _ h => h) C4 (Nat.le_refl _)
  have e4 : (O.take k ++ [b] ++ O.drop k).length = O.length + 1 := by rw [List.length_append, e3, e2]; omega
  rw [e2, e4] at hr3
  rw [e4] at ow3
  exact ⟨so1, sc1, so2, sc2, a1, p1, w3, a2, p2, w4, a3, p3, w5, fun V => hsl1 V, fun V => hsl2 V, hr1, hr2, hr3, ow3, C3, C5⟩

end Go.Proofs.YtamfcmmhmfhhkaaDoor

namespace Go.Proofs.YtamfcmmhmfhhkaaDoor
open Go.RowKit

theorem lessN_or (x : List UInt8) : ∀ y : List UInt8, (Op.bytesLess x y || x == y) = !Op.bytesLess y x := by
  induction x with
  | nil => intro y; cases y <;> simp [Op.bytesLess]
  | cons a x ih =>
    intro y
    cases y with
    | nil => simp [Op.bytesLess]
    | cons b y =>
      have h := ih y
      simp only [Op.bytesLess]
      by_cases h1 : a < b
      · have h2 : ¬ b < a := by rw [UInt8.lt_iff_toNat_lt] at *; omega
        have h3 : ¬ b = a := by rintro rfl; rw [UInt8.lt_iff_toNat_lt] at h1; omega
        simp [h1, h2, h3]
      · by_cases h2 : b < a
        · have h3 : ¬ a = b := by rintro rfl; exact h1 h2
          simp [h1, h2, h3]
        · have h3 : a = b := by rw [UInt8.lt_iff_toNat_lt] at *; exact UInt8.toNat_inj.mp (by omega)
          subst h3
          simpa [h1] using h
theorem lessN_trans (x : List UInt8) : ∀ y z : List UInt8, Op.bytesLess x y = true → Op.bytesLess y z = true → Op.bytesLess x z = true := by
  induction x with
  | nil =>
    intro y z h1 h2
    cases z with
    | nil => cases y <;> simp [Op.bytesLess] at h2
    | cons c z => simp [Op.bytesLess]
  | cons a x ih =>
    intro y z h1 h2
    cases y with
    | nil => simp [Op.bytesLess] at h1
    | cons b y =>
      cases z with
      | nil => simp [Op.bytesLess] at h2
      | cons c z =>
        simp only [Op.bytesLess, Bool.or_eq_true, Bool.and_eq_true, decide_eq_true_eq, beq_iff_eq] at h1 h2 ⊢
        rcases h1 with h1 | ⟨rfl, h1⟩
        · rcases h2 with h2 | ⟨rfl, h2⟩
          · left; rw [UInt8.lt_iff_toNat_lt] at *; omega
          · left; exact h1
        · rcases h2 with h2 | ⟨rfl, h2⟩
          · left; exact h2
          · right; exact ⟨rfl, ih y z h1 h2⟩
theorem kLt_trans {a b c : ByteArray} (h : kLt a b = true) (h2 : kLt b c = true) : kLt a c = true := lessN_trans _ _ _ h h2
theorem kLt_tri (a b : ByteArray) : kLt a b = true ∨ a = b ∨ kLt b a = true := by
  have h := lessN_or a.toList b.toList
  unfold kLt
  cases h1 : Op.bytesLess a.toList b.toList with
  | true => exact .inl rfl
  | false =>
    cases h2 : Op.bytesLess b.toList a.toList with
    | true => exact .inr (.inr rfl)
    | false =>
      rw [h1, h2] at h
      refine .inr (.inl (ba_ext ?_))
      simpa using h
theorem kLt_asymm {a b : ByteArray} (h : kLt a b = true) : kLt b a = false := by
  cases h2 : kLt b a with
  | false => rfl
  | true =>
    have := kLt_trans h h2
    rw [kLt_self] at this
    cases this

section
variable {α : Type} {lt : α → α → Bool}
/-- Rising lists of the same members are one. -/
theorem rising_ext (irr : ∀ a, lt a a = false) (tr : ∀ a b c, lt a b = true → lt b c = true → lt a c = true) : ∀ {l m : List α}, l.Pairwise (fun a b => lt a b = true) → m.Pairwise (fun a b => lt a b = true) → (∀ x, x ∈ l ↔ x ∈ m) → l = m
  | [], [], _, _, _ => rfl
  | [], b :: m, _, _, h => by have := (h b).2 (by simp); cases this
  | a :: l, [], _, _, h => by have := (h a).1 (by simp); cases this
  | a :: l, b :: m, hl, hm, h => by
    obtain ⟨l1, l2⟩ := List.pairwise_cons.1 hl
    obtain ⟨m1, m2⟩ := List.pairwise_cons.1 hm
    have e : a = b := by
      rcases List.mem_cons.1 ((h a).1 (by simp)) with e | ha
      · exact e
      · rcases List.mem_cons.1 ((h b).2 (by simp)) with e | hb
        · exact e.symm
        · have := tr _ _ _ (l1 b hb) (m1 a ha)
          rw [irr] at this
          cases this
    subst e
    have ne : ∀ x, x ∈ l → x ≠ a := fun x hx e => by subst e; have := l1 x hx; rw [irr] at this; cases this
    have ne2 : ∀ x, x ∈ m → x ≠ a := fun x hx e => by subst e; have := m1 x hx; rw [irr] at this; cases this
    rw [rising_ext irr tr l2 m2 fun x => ⟨fun hx => by
      rcases List.mem_cons.1 ((h x).1 (by simp [hx])) with e | h2
      · exact absurd e (ne x hx)
      · exact h2, fun hx => by
      rcases List.mem_cons.1 ((h x).2 (by simp [hx])) with e | h2
      · exact absurd e (ne2 x hx)
      · exact h2⟩]
theorem tw_take (p : α → Bool) : ∀ O : List α, O.take (O.takeWhile p).length = O.takeWhile p ∧ O.drop (O.takeWhile p).length = O.dropWhile p
  | [] => ⟨rfl, rfl⟩
  | x :: O => by
    rw [List.takeWhile_cons, List.dropWhile_cons]
    cases h : p x with
    | true =>
      obtain ⟨h1, h2⟩ := tw_take p O
      simp [h1, h2]
    | false => simp
theorem tw_mem (p : α → Bool) : ∀ {O : List α} {a : α}, a ∈ O.takeWhile p → p a = true
  | [], a, h => by cases h
  | x :: O, a, h => by
    rw [List.takeWhile_cons] at h
    cases hx : p x with
    | true =>
      rw [hx] at h
      rcases List.mem_cons.1 h with rfl | h
      · exact hx
      · exact tw_mem p h
    | false => rw [hx] at h; cases h
theorem ins_rise (tr : ∀ a b c, lt a b = true → lt b c = true → lt a c = true) {O : List α} {x : α} (hO : O.Pairwise (fun a b => lt a b = true)) (hx : ∀ b B, O.dropWhile (fun a => lt a x) = b :: B → lt x b = true) :
    (O.takeWhile (fun a => lt a x) ++ [x] ++ O.dropWhile (fun a => lt a x)).Pairwise (fun a b => lt a b = true) := by
  have hs : O = O.takeWhile (fun a => lt a x) ++ O.dropWhile (fun a => lt a x) := List.takeWhile_append_dropWhile.symm
  have hA : ∀ a ∈ O.takeWhile (fun a => lt a x), lt a x = true := fun a ha => tw_mem (fun a => lt a x) ha
  rw [hs] at hO
  generalize O.takeWhile (fun a => lt a x) = A at *
  generalize O.dropWhile (fun a => lt a x) = B at *
  obtain ⟨p1, p2, p3⟩ := List.pairwise_append.1 hO
  have hB : ∀ b ∈ B, lt x b = true := by
    cases B with
    | nil => intro b hb; cases hb
    | cons b0 B =>
      have h0 := hx b0 B rfl
      intro b hb
      rcases List.mem_cons.1 hb with rfl | hb
      · exact h0
      · exact tr _ _ _ h0 ((List.pairwise_cons.1 p2).1 b hb)
  rw [List.append_assoc, List.singleton_append]
  refine List.pairwise_append.2 ⟨p1, List.pairwise_cons.2 ⟨hB, p2⟩, fun a ha b hb => ?_⟩
  rcases List.mem_cons.1 hb with rfl | hb
  · exact hA a ha
  · exact p3 a ha b hb
theorem dw_head (p : α → Bool) : ∀ {O : List α} {b : α} {B : List α}, O.dropWhile p = b :: B → p b = false
  | [], b, B, h => by cases h
  | x :: O, b, B, h => by
    rw [List.dropWhile_cons] at h
    cases hx : p x with
    | true => rw [hx] at h; exact dw_head p h
    | false => rw [hx] at h; injection h with h1 h2; rw [← h1]; exact hx
end

/-- Keys rise. -/
abbrev KRise (O : List ByteArray) : Prop := O.Pairwise (fun a b => kLt a b = true)
theorem putK_tw (O : List ByteArray) (k : ByteArray) : ((∃ B, O.dropWhile (fun a => kLt a k) = k :: B) ∧ putK O k = O) ∨ ((¬ ∃ B, O.dropWhile (fun a => kLt a k) = k :: B) ∧ putK O k = O.takeWhile (fun a => kLt a k) ++ [k] ++ O.dropWhile (fun a => kLt a k)) := by
  obtain ⟨h1, h2⟩ := tw_take (fun a => kLt a k) O
  have hc : (leadK O k < O.length ∧ O.getD (leadK O k) ⟨#[]⟩ = k) ↔ ∃ B, O.dropWhile (fun a => kLt a k) = k :: B := by
    rw [← h2]
    constructor
    · rintro ⟨h3, h4⟩
      refine ⟨O.drop (leadK O k + 1), ?_⟩
      rw [List.getD_eq_getElem?_getD, List.getElem?_eq_getElem h3] at h4
      have h4' : O[leadK O k] = k := h4
      show O.drop (leadK O k) = _
      rw [List.drop_eq_getElem_cons h3, h4']
    · rintro ⟨B, h3⟩
      have h4 : leadK O k < O.length := by
        rcases Nat.lt_or_ge (leadK O k) O.length with h | h
        · exact h
        · have h3' : O.drop (leadK O k) = k :: B := h3
          rw [List.drop_of_length_le h] at h3'
          cases h3'
      refine ⟨h4, ?_⟩
      have h3' : O.drop (leadK O k) = k :: B := h3
      rw [List.drop_eq_getElem_cons h4] at h3'
      injection h3' with h5 _
      rw [List.getD_eq_getElem?_getD, List.getElem?_eq_getElem h4]
      exact h5
  unfold putK
  by_cases h : leadK O k < O.length ∧ O.getD (leadK O k) ⟨#[]⟩ = k
  · rw [if_pos h]
    exact .inl ⟨hc.1 h, rfl⟩
  · rw [if_neg h]
    refine .inr ⟨fun h2 => h (hc.2 h2), ?_⟩
    unfold leadK
    rw [h1, h2]
theorem putK_rise {O : List ByteArray} (h : KRise O) (k : ByteArray) : KRise (putK O k) ∧ ∀ x, x ∈ putK O k ↔ x ∈ O ∨ x = k := by
  rcases putK_tw O k with ⟨⟨B, hB⟩, he⟩ | ⟨hB, he⟩
  · rw [he]
    refine ⟨h, fun x => ⟨.inl, ?_⟩⟩
    rintro (hx | rfl)
    · exact hx
    · rw [← List.takeWhile_append_dropWhile (p := fun a => kLt a x) (l := O), hB]; simp
  · rw [he]
    refine ⟨ins_rise (lt := kLt) (fun a b c => kLt_trans) h fun b B e => ?_, fun x => ?_⟩
    · have h1 := dw_head _ e
      rcases kLt_tri k b with h2 | rfl | h2
      · exact h2
      · exact absurd ⟨B, e⟩ hB
      · rw [h2] at h1; cases h1
    · have hs : O = O.takeWhile (fun a => kLt a k) ++ O.dropWhile (fun a => kLt a k) := List.takeWhile_append_dropWhile.symm
      conv => rhs; rw [hs]
      simp only [List.mem_append, List.mem_singleton]
      constructor
      · rintro ((h | h) | h)
        · exact .inl (.inl h)
        · exact .inr h
        · exact .inl (.inr h)
      · rintro ((h | h) | h)
        · exact .inl (.inl h)
        · exact .inr h
        · exact .inl (.inr h)
theorem keysF : ∀ (L : List Pn) (O : List ByteArray), KRise O → KRise (L.foldl (fun O p => putK O p.k) O) ∧ ∀ x, x ∈ L.foldl (fun O p => putK O p.k) O ↔ x ∈ O ∨ ∃ p ∈ L, p.k = x
  | [], O, h => ⟨h, fun x => by simp⟩
  | p :: L, O, h => by
    obtain ⟨h1, h2⟩ := putK_rise h p.k
    obtain ⟨h3, h4⟩ := keysF L _ h1
    refine ⟨h3, fun x => ?_⟩
    rw [List.foldl_cons, h4, h2]
    constructor
    · rintro ((h | h) | ⟨q, h5, h6⟩)
      · exact .inl h
      · exact .inr ⟨p, by simp, h.symm⟩
      · exact .inr ⟨q, by simp [h5], h6⟩
    · rintro (h | ⟨q, h5, h6⟩)
      · exact .inl (.inl h)
      · rcases List.mem_cons.1 h5 with rfl | h5
        · exact .inl (.inr h6.symm)
        · exact .inr ⟨q, h5, h6⟩
theorem keys_rise (L : List Pn) : KRise (keysP L) := (keysF L [] List.Pairwise.nil).1
theorem keys_mem (L : List Pn) (k : ByteArray) : k ∈ keysP L ↔ ∃ p ∈ L, p.k = k := by
  have := (keysF L [] List.Pairwise.nil).2 k
  simpa [keysP] using this
/-- Whoever rises and has these keys is it. -/
theorem keys_one {L : List Pn} {O : List ByteArray} (h : KRise O) (hm : ∀ k, k ∈ O ↔ ∃ p ∈ L, p.k = k) : O = keysP L := rising_ext kLt_self (fun a b c => kLt_trans) h (keys_rise L) fun x => by rw [hm, keys_mem]
theorem keys_of {L : List Pn} {k : ByteArray} : k ∈ keysP L ↔ ofP L k ≠ [] := by
  rw [keys_mem]
  unfold ofP
  constructor
  · rintro ⟨p, h1, h2⟩ h3
    have : p ∈ L.filter fun p => decide (p.k = k) := List.mem_filter.2 ⟨h1, decide_eq_true h2⟩
    rw [h3] at this
    cases this
  · intro h
    obtain ⟨p, t, e⟩ := List.exists_cons_of_ne_nil h
    have : p ∈ L.filter fun p => decide (p.k = k) := by rw [e]; simp
    obtain ⟨h1, h2⟩ := List.mem_filter.1 this
    exact ⟨p, h1, of_decide_eq_true h2⟩
theorem ofP_app (L M : List Pn) (k : ByteArray) : ofP (L ++ M) k = ofP L k ++ ofP M k := by unfold ofP; exact List.filter_append ..
theorem ofP_of (L : List Pn) (k k' : ByteArray) : ofP (ofP L k') k = if k' = k then ofP L k else [] := by
  unfold ofP
  rw [List.filter_filter]
  split
  · rename_i h
    subst h
    congr 1
    funext p
    simp
  · rename_i h
    rw [List.filter_eq_nil_iff]
    intro p _ h2
    simp only [Bool.and_eq_true, decide_eq_true_eq] at h2
    exact h (h2.2.symm.trans h2.1)
/-- One key's panes behind the other's. -/
def catK (L : List Pn) (K : List ByteArray) : List Pn := K.reverse.flatMap (ofP L)
theorem catK_cons (L : List Pn) (k : ByteArray) (K : List ByteArray) : catK L (k :: K) = catK L K ++ ofP L k := by
  unfold catK
  rw [List.reverse_cons, List.flatMap_append, List.flatMap_cons, List.flatMap_nil, List.append_nil]
theorem ofP_cat (L : List Pn) (k : ByteArray) : ∀ {K : List ByteArray}, KRise K → (k ∈ K → ofP (catK L K) k = ofP L k) ∧ (k ∉ K → ofP (catK L K) k = [])
  | [], _ => ⟨fun h => by (cases h), fun _ => rfl⟩
  | x :: K, h => by
    obtain ⟨h1, h2⟩ := List.pairwise_cons.1 h
    obtain ⟨i1, i2⟩ := ofP_cat L k h2
    rw [catK_cons, ofP_app, ofP_of]
    by_cases hx : x = k
    · subst hx
      rw [if_pos rfl, i2 (fun hm => by have := h1 x hm; rw [kLt_self] at this; cases this), List.nil_append]
      exact ⟨fun _ => rfl, fun h => absurd (by simp) h⟩
    · rw [if_neg hx, List.append_nil]
      refine ⟨fun hk => i1 ?_, fun hk => i2 (fun h3 => hk (by simp [h3]))⟩
      rcases List.mem_cons.1 hk with e | hk
      · exact absurd e.symm hx
      · exact hk
theorem cat_of (L : List Pn) (k : ByteArray) : ofP (catK L (keysP L)) k = ofP L k := by
  obtain ⟨h1, h2⟩ := ofP_cat L k (keys_rise L)
  by_cases h : k ∈ keysP L
  · exact h1 h
  · rw [h2 h]
    rw [keys_of] at h
    exact (Classical.not_not.1 h).symm
theorem same_len {L M : List Pn} (h : ∀ k, ofP L k = ofP M k) : L.length = M.length := by
  apply List.Perm.length_eq
  rw [List.perm_iff_count]
  intro x
  have e : ∀ L : List Pn, L.count x = (ofP L x.k).count x := fun L => by
    unfold ofP
    rw [List.count_filter (by simp)]
  rw [e, e M, h]
theorem begins_yes {A B : List Pn} (h : ∀ k, ∃ t, ofP B k = ofP A k ++ t) : beginsP A B = true := by
  unfold beginsP
  rw [List.all_eq_true]
  intro k _
  obtain ⟨t, e⟩ := h k
  unfold okB
  rw [e]
  simp
theorem begins_no {A B : List Pn} {k : ByteArray} (hk : k ∈ keysP A) (h : (ofP B k).length < (ofP A k).length) : beginsP A B = false := by
  unfold beginsP
  rw [List.all_eq_false]
  refine ⟨k, hk, ?_⟩
  unfold okB
  rw [decide_eq_false (by omega)]
  simp

end Go.Proofs.YtamfcmmhmfhhkaaDoor
