/- The program's Parse. The program's Read. Small facts of panes (mathematics; a row that was lent). -/
import Derived.Test.YtamfcmmhmfhhkaaDoorG32
import Derived.Deep.CutRange
import Derived.Test.YtamfcmmhmfhhkaaDoorG16
import Derived.Lib.IndexBytes
import Derived.Test.YtamfcmmhmfhhkaaDoorG13
import Derived.Test.YtamfcmmhmfhhkaaDoorG8
namespace Go.Proofs.YtamfcmmhmfhhkaaDoor
open Go.RowKit

/-- What Parse tells. -/
def parW (o : Option Pn) : Value := .tuple #[pnv (o.getD pn0), .int .i64 (if o.isSome then 0 else 280)]

set_option maxRecDepth 100000 in
set_option maxHeartbeats 4000000 in
theorem parse_any (s : ByteArray) (hs : s.size ≤ 900000) (w : World) (hy : Yv w) : Calls Tryd.prog 15 #[.string s] w fun e w' => (∃ o, ParR s o ∧ e = .returned (parW o)) ∧ Calm w w' := by
  have A0 := hide (al_new w (.cells (pnc pn0) 29))
  have T0 := hide ((Touch.refl (fun _ => False) w).alloc (.cells (pnc pn0) 29))
  have CR := hide (read_any s hs (w.alloc (.cells (pnc pn0) 29)) (hy.calm T0.out))
  have hi9 : (Tryd.prog.info? 29).map (·.size) = some 9 := by kernel_rfl
  clear hy hs
  go_enter Tryd.func15, Tryd.ntmps15
  go_wp2_with fail
  refine CR.out.mono ?_
  rintro e w1 ⟨⟨o, ho, rfl⟩, T1⟩
  have A1 := hide (T1.at A0.out)
  have HT := hide (T0.out.tr T1)
  have hDw : w.heap.size < w1.heap.size := lt_of_heap A1.out
  obtain ⟨D, hD⟩ : ∃ D, D = w.heap.size := ⟨_, rfl⟩
  have HO := hide ho
  have Z0 := hide (al_new w1 (.cells (pnc pn0) 29))
  have Z1 := hide (setRow_heap _ _ _ (pnc (o.getD pn0)) _ _ Z0.out)
  have Z2 : Hid (Touch (fun _ => False) w1 ((w1.alloc (.cells (pnc pn0) 29)).setRow w1.heap.size (pnc (o.getD pn0)))) := hide (((Touch.refl (fun _ => False) w1).alloc _).trans (S' := fun g => g = w1.heap.size) ⟨rfl, rfl, rfl, by simp, fun j _ hj => setRow_other _ _ j _ hj⟩ (fun g hg e => by omega))
  have hq1 : Hid ((pnc (o.getD pn0)).all (·.oneCell') = true) := hide (by simp [Value.oneCell'])
  have hq0 : Hid ((pnc pn0).all (·.oneCell') = true) := hide (by simp [Value.oneCell'])
  have A2 := hide (Z2.out.at A1.out)
  have HT2 := hide (HT.out.tr Z2.out)
  clear ho T1 CR A0 T0 HT A1
  generalize hP : o.getD pn0 = P at *
  have HP := hide hP
  clear hP
  go_upto_region 2 with (refine wpList_store_rowTo rfl 29 (.tmp 4) (.tmp 9) rfl rfl w1.heap.size (pnc P) rfl rfl 29 _ Z0.out hi9 rfl hq1.out ?_)
  generalize (w1.alloc (.cells (pnc pn0) 29)).setRow w1.heap.size (pnc P) = w2 at *
  rw [← hD] at A2 ⊢
  have HD := hide hD
  clear hD Z0 Z2
  generalize w1.heap.size = E at *
  have E3 : Hid (∀ P' : Pn, (w2.setRow D (pnc P')).heap[D]? = some (.cells (pnc P') 29 (0, 0)) ∧ Calm w (w2.setRow D (pnc P'))) := hide fun P' => ⟨setRow_heap _ _ _ (pnc P') _ _ A2.out, HT2.out.trans (S' := fun g => g = D) ⟨rfl, rfl, rfl, by simp, fun j _ hj => setRow_other _ _ j _ hj⟩ (fun g hg e => by have := HD.out; omega)⟩
  cases o with
  | none =>
    go_wp2_with (refine wpList_store_rowTo rfl 29 (.tmp 2) (.tmp 13) rfl rfl D (pnc pn0) rfl rfl 29 _ A2.out hi9 rfl hq0.out ?_)
    refine bodyPost_ret (results_cell_one rfl _ _ _ _ _ _ _ rfl (E3.out pn0).1 Tryd.underlying29 rfl (by kernel_rfl) _ rfl) rfl ?_
    exact ⟨⟨none, HO.out, rfl⟩, (E3.out pn0).2⟩
  | some p =>
    obtain rfl : p = P := HP.out
    obtain ⟨⟨c0, c1, c2, c3, c4⟩, c5, c6, c7, c8⟩ := pn_cells Z1.out
    go_wp2_with (refine wpList_store_rowTo rfl 29 (.tmp 2) (.tmp 14) rfl rfl D (pnc p) rfl rfl 29 _ A2.out hi9 rfl hq1.out ?_)
    refine bodyPost_ret (results_cell_one rfl _ _ _ _ _ _ _ rfl (E3.out p).1 Tryd.underlying29 rfl (by kernel_rfl) _ rfl) rfl ?_
    exact ⟨⟨some p, HO.out, rfl⟩, (E3.out p).2⟩

end Go.Proofs.YtamfcmmhmfhhkaaDoor

namespace Go.Proofs.YtamfcmmhmfhhkaaDoor
open Go.RowKit

theorem ib10 : ∀ R : List UInt8, (Lib.indexByte R 10 = -1 ∧ ∀ b ∈ R, b ≠ 10) ∨ ∃ a r, R = a ++ 10 :: r ∧ (∀ b ∈ a, b ≠ 10) ∧ Lib.indexByte R 10 = (a.length : Int)
  | [] => .inl ⟨rfl, fun b hb => (nomatch hb)⟩
  | b :: R => by
    by_cases h : b = 10
    · subst h
      exact .inr ⟨[], R, rfl, fun b hb => (nomatch hb), rfl⟩
    · have hb : (b == 10) = false := by rw [beq_eq_false_iff_ne]; exact h
      rcases ib10 R with ⟨h1, h2⟩ | ⟨a, r, h1, h2, h3⟩
      · refine .inl ⟨?_, fun c hc => ?_⟩
        · rw [Lib.indexByte, hb, h1]
          rfl
        · rcases List.mem_cons.1 hc with rfl | hc
          · exact h
          · exact h2 c hc
      · refine .inr ⟨b :: a, r, by rw [h1]; rfl, fun c hc => ?_, ?_⟩
        · rcases List.mem_cons.1 hc with rfl | hc
          · exact h
          · exact h2 c hc
        · rw [Lib.indexByte, hb, h3]
          have : ((a.length : Int) == -1) = false := by rw [beq_eq_false_iff_ne]; omega
          rw [this]
          simp
theorem ct_cases (R : List UInt8) : (Lib.cut R [10] = (R, [], false) ∧ ∀ b ∈ R, b ≠ 10) ∨ ∃ a r, R = a ++ 10 :: r ∧ (∀ b ∈ a, b ≠ 10) ∧ Lib.cut R [10] = (a, r, true) := by
  rcases ib10 R with ⟨h1, h2⟩ | ⟨a, r, h1, h2, h3⟩
  · refine .inl ⟨?_, h2⟩
    unfold Lib.cut
    rw [Lib.index_one, h1, if_neg (by omega)]
  · refine .inr ⟨a, r, h1, h2, ?_⟩
    unfold Lib.cut
    rw [Lib.index_one, h3, if_pos (by omega), Int.toNat_natCast]
    have e1 : R.take a.length = a := by rw [h1, List.take_left]
    have e2 : R.drop (a.length + ([10] : List UInt8).length) = r := by
      rw [h1, ← List.drop_drop, List.drop_left]
      rfl
    rw [e1, e2]
theorem lnB_len : ∀ L : List Pn, L.length ≤ (lnB L).length
  | [] => Nat.zero_le _
  | p :: L => by
    rw [lnB_cons, List.length_append, List.length_cons, List.length_cons]
    have := lnB_len L
    omega
theorem stk_of {a r : List UInt8} (ha : ∀ b ∈ a, b ≠ 10) (hp : ParR (bl a) none) : Stk (a ++ 10 :: r) := fun p r' h1 h2 h => by
  obtain ⟨e, -⟩ := cut10 ha (line_no p) h
  exact hp p h1 h2 (ba_ext (by rw [bl_list, e]))

/-- What Read keeps. -/
structure RdL (S : List UInt8) (L : List Pn) (R : List UInt8) : Prop where
  ok : ∀ p ∈ L, mayP p = true ∧ NumOk p
  eq : S = lnB L ++ R
theorem RdL.len {S : List UInt8} {L : List Pn} {R : List UInt8} (h : RdL S L R) : L.length ≤ S.length ∧ R.length ≤ S.length := by
  have := congrArg List.length h.eq
  rw [List.length_append] at this
  have := lnB_len L
  omega
theorem RdL.push {S : List UInt8} {L : List Pn} {a r : List UInt8} (h : RdL S L (a ++ 10 :: r)) {p : Pn} (hp : ParR (bl a) (some p)) : RdL S (L ++ [p]) r := by
  refine ⟨fun q hq => ?_, ?_⟩
  · rcases List.mem_append.1 hq with hq | hq
    · exact h.ok q hq
    · rw [List.mem_singleton] at hq
      subst hq
      exact ⟨hp.1, hp.2.1⟩
  · have e : (lineB p).toList = a := by rw [hp.2.2, bl_list]
    rw [h.eq, lnB_app, lnB_cons, lnB_nil, e]
    simp
/-- The library's Cut at a byte 10. -/
theorem cut_any (R : List UInt8) (hR : R.length ≤ 900000) (w : World) (hy : Yv w) : Calls Tryd.prog 38 #[.string (bl R), .string ⟨#[10]⟩] w fun e w' => e = .returned (.tuple #[.string (bl (Lib.cut R [10]).1), .string (bl (Lib.cut R [10]).2.1), .bool (Lib.cut R [10]).2.2]) ∧ Calm w w' := by
  obtain ⟨m, hm⟩ := hy.errs.2.2
  refine (Any.strings_Cut Tryd.lays145 (bl R) ⟨#[10]⟩ m w (by rw [bl_size]; omega) hm).mono ?_
  rintro e w' ⟨rfl, n, rfl⟩
  rw [bl_data]
  exact ⟨rfl, (Touch.refl (fun _ => False) w).drewN n⟩

set_option maxRecDepth 100000 in
set_option maxHeartbeats 8000000 in
theorem readR_any (S : List UInt8) (hs : S.length ≤ 900000) (w : World) (hy : Yv w) : Calls Tryd.prog 17 #[.string (bl S)] w fun e w' => ∃ L r, RdR S L r ∧ RetRd w e w' L r (.int .i64 (if r = [] then 0 else 280)) := by
  have CC := hide (fun R (hR : R.length ≤ 900000) W (hW : Calm w W) => cut_any R hR W (hy.calm hW))
  have CR := hide (fun t (ht : t.size ≤ 900000) W (hW : Calm w W) => read_any t ht W (hy.calm hW))
  have H0 : Hid (RdL S [] S) := hide ⟨fun p hp => (nomatch hp), rfl⟩
  have hi9 : (Tryd.prog.info? 29).map (·.size) = some 9 := by kernel_rfl
  clear hy
  unfold RetRd
  go_enter Tryd.func17, Tryd.ntmps17
  go_wp2_with fail
  go_loopw [0, 5] (fun s0 s5 wr => ∃ (L : List Pn) (R : List UInt8) (a : Option Addr) (c : Nat), s0 = .string (bl R) ∧ s5 = .slice a L.length c ∧ Hid (RdL S L R) ∧ encP.Own 29 wr w.heap.size (.slice a L.length c) L ∧ Calm w wr) (fun s0 _ _ => match s0 with
    | .string t => t.size
    | _ => 0)
  case atStart => exact ⟨[], S, none, 0, rfl, rfl, H0, Rc.Own.nil _ _ _, Touch.refl _ _⟩
  case round =>
    obtain ⟨L, R, a, c, rfl, rfl, HR, OW, TE⟩ := hrel
    clear H0
    obtain ⟨hL, hRl⟩ := HR.out.len
    cases hR0 : R with
    | nil =>
      have HF : Hid (RdR S L []) := hide ⟨HR.out.ok, by have h := HR.out.eq; rw [hR0] at h; exact h, Stk.nil⟩
      have HO := hide OW
      have HT := hide TE
      have e : bl [] = ⟨#[]⟩ := rfl
      rw [e]
      clear CC CR HR OW TE hR0 hRl
      go_wp2_with fail
      go_ret3
      exact ⟨L, [], HF.out, L, a, c, by rw [if_pos rfl], by rw [if_pos rfl]; rfl, HO.out, HT.out⟩
    | cons b0 R0 =>
      have hRn : R ≠ [] := by rw [hR0]; simp
      rw [← hR0]
      clear hR0
      have hne := bl_ne hRn
      have C1 := hide (CC.out R (by omega) wr TE)
      have HS : Hid (bl R = bl R) := hide rfl
      have HO := hide OW
      have HTE := hide TE
      clear CC OW TE HS
      rcases ct_cases R with ⟨h1, h2⟩ | ⟨a', r', h1, h2, h3⟩
      · rw [h1] at C1
        have HF : Hid (RdR S L R) := hide ⟨HR.out.ok, HR.out.eq, Stk.none10 h2⟩
        have hRz : (bl R).size ≤ 900000 := by rw [bl_size]; omega
        have HRn := hide hRn
        clear h1 h2 HR hRn
        go_wp2_with fail
        refine C1.out.mono ?_
        rintro e w1 ⟨rfl, T1⟩
        have HTa := hide T1
        have HT1 := hide (HTE.out.tr T1)
        have C2 := hide (CR.out (bl R) hRz w1 HT1.out)
        clear T1 C1 CR hne
        go_wp2_with fail
        refine C2.out.mono ?_
        rintro e w2 ⟨⟨o, -, rfl⟩, T2⟩
        have HT2 := hide (HT1.out.tr T2)
        generalize o.getD pn0 = P at *
        generalize o.isSome = bo at *
        have Z0 := hide (al_new w2 (.cells (pnc pn0) 29))
        have Z1 := hide (setRow_heap _ _ _ (pnc P) _ _ Z0.out)
        have Z2 : Hid (Touch (fun _ => False) w2 ((w2.alloc (.cells (pnc pn0) 29)).setRow w2.heap.size (pnc P))) := hide (((Touch.refl (fun _ => False) w2).alloc _).trans (S' := fun g => g = w2.heap.size) ⟨rfl, rfl, rfl, by simp, fun j _ hj => setRow_other _ _ j _ hj⟩ (fun g hg e => by omega))
        have hq1 : Hid ((pnc P).all (·.oneCell') = true) := hide (by simp [Value.oneCell'])
        have HT3 := hide (HT2.out.tr Z2.out)
        go_upto_region 5 with (refine wpList_store_rowTo rfl 29 (.tmp 9) (.tmp 22) rfl rfl w2.heap.size (pnc P) rfl rfl 29 _ Z0.out hi9 rfl hq1.out ?_)
        have HO3 := hide (Rc.Own.calm HO.out ((HTa.out.tr T2).tr Z2.out))
        generalize (w2.alloc (.cells (pnc pn0) 29)).setRow w2.heap.size (pnc P) = w3 at *
        clear Z0 Z2 hq1 hi9 T2 HTa HO C2
        generalize w2.heap.size = E at *
        clear Z1
        go_wp2_with fail
        go_ret3
        exact ⟨L, R, HF.out, [], none, 0, by rw [if_neg HRn.out], by rw [if_neg HRn.out]; rfl, Rc.Own.nil _ _ _, HT3.out⟩
      · rw [h3] at C1
        have hlen : a'.length + 1 + r'.length = R.length := by rw [h1]; simp; omega
        have haz : (bl a').size ≤ 900000 := by rw [bl_size]; omega
        have HSt : Hid (ParR (bl a') none → RdR S L R) := hide fun h => ⟨HR.out.ok, HR.out.eq, by rw [h1]; exact stk_of h2 h⟩
        have HPu : Hid (∀ p, ParR (bl a') (some p) → RdL S (L ++ [p]) r') := hide fun p h => by
          have k := HR.out
          rw [h1] at k
          exact k.push h
        have HRn := hide hRn
        have HZ : Hid ((bl R).size = R.length ∧ (bl r').size = r'.length) := hide ⟨bl_size _, bl_size _⟩
        clear h1 h2 h3 HR hRn
        go_wp2_with fail
        refine C1.out.mono ?_
        rintro e w1 ⟨rfl, T1⟩
        have HTa := hide T1
        have HT1 := hide (HTE.out.tr T1)
        have C2 := hide (CR.out (bl a') haz w1 HT1.out)
        clear T1 C1 CR hne
        generalize bl a' = la at *
        generalize hbR : bl R = tR at *
        generalize hbr : bl r' = tr at *
        have HB := hide (And.intro hbR hbr)
        clear hbR hbr
        go_wp2_with fail
        refine C2.out.mono ?_
        rintro e w2 ⟨⟨o, ho, rfl⟩, T2⟩
        have HT2 := hide (HT1.out.tr T2)
        have HO' := hide ho
        clear ho
        generalize hP : o.getD pn0 = P at *
        have HP := hide hP
        clear hP
        have Z0 := hide (al_new w2 (.cells (pnc pn0) 29))
        have Z1 := hide (setRow_heap _ _ _ (pnc P) _ _ Z0.out)
        have Z2 : Hid (Touch (fun _ => False) w2 ((w2.alloc (.cells (pnc pn0) 29)).setRow w2.heap.size (pnc P))) := hide (((Touch.refl (fun _ => False) w2).alloc _).trans (S' := fun g => g = w2.heap.size) ⟨rfl, rfl, rfl, by simp, fun j _ hj => setRow_other _ _ j _ hj⟩ (fun g hg e => by omega))
        have hq1 : Hid ((pnc P).all (·.oneCell') = true) := hide (by simp [Value.oneCell'])
        have HT3 := hide (HT2.out.tr Z2.out)
        go_upto_region 5 with (refine wpList_store_rowTo rfl 29 (.tmp 9) (.tmp 22) rfl rfl w2.heap.size (pnc P) rfl rfl 29 _ Z0.out hi9 rfl hq1.out ?_)
        have HO3 := hide (Rc.Own.calm HO.out ((HTa.out.tr T2).tr Z2.out))
        generalize (w2.alloc (.cells (pnc pn0) 29)).setRow w2.heap.size (pnc P) = w3 at *
        clear Z0 Z2 hq1 hi9 T2 HTa HO C2
        generalize w2.heap.size = E at *
        cases o with
        | none =>
          have HF := hide (HSt.out HO'.out)
          clear Z1 HSt HPu
          go_wp2_with fail
          go_ret3
          exact ⟨L, R, HF.out, [], none, 0, by rw [if_neg HRn.out], by rw [if_neg HRn.out]; rfl, Rc.Own.nil _ _ _, HT3.out⟩
        | some p =>
          obtain rfl : p = P := HP.out
          have HF := hide (HPu.out p HO'.out)
          obtain ⟨a4, p4, w4, hr, ow, t4⟩ := pn_app1 p HO3.out HT3.out.size (by omega)
          have e1 : (L ++ [p]).length = L.length + 1 := by simp
          have HT4 := hide (Rc.Own.fresh (w0 := w) HO3.out t4 (fun _ h => h) HT3.out (Nat.le_refl _))
          have HR4 := hide hr
          have HO4 := hide ow
          have E1 := hide e1
          obtain ⟨⟨c0, c1, c2, c3, c4⟩, c5, c6, c7, c8⟩ := pn_cells Z1.out
          clear Z1 HSt HPu HP HO' hr ow t4 e1 HO3
          go_wp2_with (at_builtin; refine Rc.wpList_appR rfl (.tmp 32) (.tmp 34) 22 22 rfl _ _ _ rfl rfl HR4.out ?_)
          go_roundw
          case rel => exact ⟨L ++ [p], r', a4, p4, by rw [HB.out.2], by rw [E1.out], HF, HO4.out, HT4.out⟩
          case measure =>
            have h1 := HZ.out
            have h2 := HB.out
            rw [← h2.1] at h1
            first
              | (show tr.size < (bl R).size; omega)
              | (show tr.size < tR.size; rw [← h2.1]; omega)

theorem readL_any (s : ByteArray) (hs : s.size ≤ 900000) (w : World) (hy : Yv w) : Calls Tryd.prog 17 #[.string s] w fun e w' => ∃ L r, RdR s.toList L r ∧ RetRd w e w' L r (.int .i64 (if r = [] then 0 else 280)) := by
  have h := readR_any s.toList (by rw [tl_len]; exact hs) w hy
  rw [bl_of] at h
  exact h

end Go.Proofs.YtamfcmmhmfhhkaaDoor

namespace Go.Proofs.YtamfcmmhmfhhkaaDoor
open Go.RowKit

theorem less_irr : ∀ x : List UInt8, Op.bytesLess x x = false
  | [] => rfl
  | a :: x => by simp [Op.bytesLess, less_irr x]
theorem kLt_self (k : ByteArray) : kLt k k = false := less_irr _
theorem cmpP_self (p : Pn) : cmpP p p = 0 := by
  unfold cmpP
  rw [kLt_self, if_neg (by decide), if_pos rfl, cmpL_eq]
theorem LentP.sl {w : World} {base g c : Nat} {L : List Pn} (h : LentP w base g c L) : encP.Sl w (some ⟨g, 0, none⟩) c L := ⟨h.mem.1, fun h => (nomatch h), by have := h.mem.2.1; omega⟩


end Go.Proofs.YtamfcmmhmfhhkaaDoor
