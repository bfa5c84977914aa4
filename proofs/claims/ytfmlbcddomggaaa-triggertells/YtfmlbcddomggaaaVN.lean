/- The walk of TriggerTells, by contracts of the program's trigger. -/
import Derived.Test.YtfmlbcddomggaaaVM
namespace Go.Proofs.Ytfmlbcddomggaaa
open Go.RowKit

set_option maxRecDepth 100000 in
set_option maxHeartbeats 4000000 in
theorem tells_walk (hB : BehC) (hO : OnC) (hT : TellC) (hE : EvC) (c : Cf) (k : ByteArray) (x : Wn) (b0 b1 d : Int) (hx : x.Ok) (w : World) :
    Calls Try.prog 3 #[cfv c, .string k, wnv x, .agg (a3c b0 b1 d)] w fun e w' => e = .returned (.bool true) ∧ Calm w w' := by
  have CK := fun w => hide (known10_any hB hO hT hE w)
  have C1 := fun w => hide (hB c x b0 w)
  have C2 := fun w => hide (rbehind_any c x b0 w)
  have C3 := fun w => hide (hO x b0 b1 w)
  have C4 := fun w => hide (rontime_any x b0 b1 w)
  have C5 := fun w => hide (hT k x d c.di hx w)
  have C6 := fun w => hide (rtell_any k x d c.di hx.p w)
  have CN := fun n w => hide (num_any n w)
  generalize behK c.ea b0 x = bk at *
  generalize behB c.ea b0 x = bb at *
  generalize onT x b0 b1 = ot at *
  obtain ⟨A0, A1, A2⟩ := al3 w (.cells (cfc c) 24) (.cells (wnc x) 30) (.cells (a3c b0 b1 d) 31)
  have T0 : Calm w (((w.alloc (.cells (cfc c) 24)).alloc (.cells (wnc x) 30)).alloc (.cells (a3c b0 b1 d) 31)) := (((Touch.refl _ _).alloc _).alloc _).alloc _
  have HA0 := hide A0
  have HA1 := hide A1
  have HA2 := hide A2
  have HT0 := hide T0
  clear A0 A1 A2 T0 hB hO hT hE hx
  go_enter Try.func3, Try.ntmps3
  go_wp2_with fail
  refine (C1 _).out.mono ?_
  rintro e w1 ⟨rfl, T1⟩
  have H0 := hide (T1.at HA0.out)
  have H1 := hide (T1.at HA1.out)
  have H2 := hide (T1.at HA2.out)
  have HT := hide (HT0.out.tr T1)
  clear T1 HA0 HA1 HA2 HT0 C1
  generalize w.heap.size = B at *
  obtain ⟨⟨g0, g1, g2, g3, g4, g5, g6⟩, g7, g8, g9⟩ := cf_cells H0.out
  obtain ⟨⟨c0, c1, c2⟩, ⟨c3, c4, c5, c6⟩, c7, c8⟩ := wn_cells H1.out
  obtain ⟨a0, a1, a2⟩ := a3_cells H2.out
  go_wp2_with fail
  refine (C2 _).out.mono ?_
  rintro e w2 ⟨rfl, T2⟩
  have G0 := hide (T2.at H0.out)
  have G1 := hide (T2.at H1.out)
  have G2 := hide (T2.at H2.out)
  have GT := hide (HT.out.tr T2)
  clear T2 H0 H1 H2 HT C2 g0 g1 g2 g3 g4 g5 g6 g7 g8 g9 c0 c1 c2 c3 c4 c5 c6 c7 c8 a0 a1 a2
  go_wp2_with fail
  refine wp_region_held (S := Calm w2) (by kernel_rfl) ?_
  have hT0 : Calm w2 { w2 with drawn := w2.drawn + 1 } := (Touch.refl _ w2).drew
  refine wpAnyH_yield 0 35 (.int .i64 bk) rfl rfl (by kernel_rfl) (by kernel_rfl) (by kernel_rfl) (fun _ _ _ h => h) (by kernel_rfl) (fun W hW => by kernel_rfl) (by assumption) rfl rfl ?_
  simp only [Act.put, List.setIfInBounds_toArray, List.set_cons_zero, List.set_cons_succ]
  refine wpAnyH_yield 1 36 (.int .i64 bk) rfl rfl (by kernel_rfl) (by kernel_rfl) (by kernel_rfl) (fun _ _ _ h => h) (by kernel_rfl) (fun W hW => by kernel_rfl) (by assumption) rfl rfl ?_
  simp only [Act.put, List.setIfInBounds_toArray, List.set_cons_zero, List.set_cons_succ]
  refine wpAnyH_yield 2 37 (.bool false) rfl rfl (by kernel_rfl) (by kernel_rfl) (by kernel_rfl) (fun _ _ _ h => h) (by kernel_rfl) (fun W hW => by go_simp) (by assumption) rfl rfl ?_
  simp only [Act.put, List.setIfInBounds_toArray, List.set_cons_zero, List.set_cons_succ]
  refine wpAnyH_yield 3 38 (.bool false) rfl rfl (by kernel_rfl) (by kernel_rfl) (by kernel_rfl) (fun _ _ _ h => h) (by kernel_rfl) (fun W hW => by kernel_rfl) (by assumption) rfl rfl ?_
  simp only [Act.put, List.setIfInBounds_toArray, List.set_cons_zero, List.set_cons_succ]
  refine wpAnyH_yield 4 39 (.bool bb) rfl rfl (by kernel_rfl) (by kernel_rfl) (by kernel_rfl) (fun _ _ _ h => h) (by kernel_rfl) (fun W hW => by kernel_rfl) (by assumption) rfl rfl ?_
  simp only [Act.put, List.setIfInBounds_toArray, List.set_cons_zero, List.set_cons_succ]
  refine wpAnyH_yield 5 40 (.bool bb) rfl rfl (by kernel_rfl) (by kernel_rfl) (by kernel_rfl) (fun _ _ _ h => h) (by kernel_rfl) (fun W hW => by kernel_rfl) (by assumption) rfl rfl ?_
  simp only [Act.put, List.setIfInBounds_toArray, List.set_cons_zero, List.set_cons_succ]
  refine wpAnyH_yield 6 41 (.bool false) rfl rfl (by kernel_rfl) (by kernel_rfl) (by kernel_rfl) (fun _ _ _ h => h) (by kernel_rfl) (fun W hW => by go_simp) (by assumption) rfl rfl ?_
  simp only [Act.put, List.setIfInBounds_toArray, List.set_cons_zero, List.set_cons_succ]
  refine wpAnyH_yield 7 42 (.bool false) rfl rfl (by kernel_rfl) (by kernel_rfl) (by kernel_rfl) (fun _ _ _ h => h) (by kernel_rfl) (fun W hW => by kernel_rfl) (by assumption) rfl rfl ?_
  simp only [Act.put, List.setIfInBounds_toArray, List.set_cons_zero, List.set_cons_succ]
  refine wpAnyH_yield 8 43 (.bool false) rfl rfl (by kernel_rfl) (by kernel_rfl) (by kernel_rfl) (fun _ _ _ h => h) (by kernel_rfl) (fun W hW => by kernel_rfl) (by assumption) rfl rfl ?_
  simp only [Act.put, List.setIfInBounds_toArray, List.set_cons_zero, List.set_cons_succ]
  refine wpAnyH_yield 9 44 (wnv x) rfl rfl (by kernel_rfl) (by kernel_rfl) (by kernel_rfl) (fun _ _ _ h => h) (by kernel_rfl) (fun W hW => by obtain ⟨⟨c0, c1, c2⟩, ⟨c3, c4, c5, c6⟩, c7, c8⟩ := wn_cells (hW.at G1.out); go_simp) (by assumption) rfl rfl ?_
  simp only [Act.put, List.setIfInBounds_toArray, List.set_cons_zero, List.set_cons_succ]
  refine wpAnyH_yield 10 45 (.pointer (some ⟨B + 1 + 1, 0, none⟩)) rfl rfl (by kernel_rfl) (by kernel_rfl) (by kernel_rfl) (fun _ _ _ h => h) (by kernel_rfl) (fun W hW => by go_simp) (by assumption) rfl rfl ?_
  simp only [Act.put, List.setIfInBounds_toArray, List.set_cons_zero, List.set_cons_succ]
  refine wpAnyH_yield 11 46 (.int .i64 b0) rfl rfl (by kernel_rfl) (by kernel_rfl) (by kernel_rfl) (fun _ _ _ h => h) (by kernel_rfl) (fun W hW => by obtain ⟨a0, a1, a2⟩ := a3_cells (hW.at G2.out); go_simp) (by assumption) rfl rfl ?_
  simp only [Act.put, List.setIfInBounds_toArray, List.set_cons_zero, List.set_cons_succ]
  refine wpAnyH_yield 12 47 (.pointer (some ⟨B + 1 + 1, 1, none⟩)) rfl rfl (by kernel_rfl) (by kernel_rfl) (by kernel_rfl) (fun _ _ _ h => h) (by kernel_rfl) (fun W hW => by go_simp) (by assumption) rfl rfl ?_
  simp only [Act.put, List.setIfInBounds_toArray, List.set_cons_zero, List.set_cons_succ]
  refine wpAnyH_yield 13 48 (.int .i64 b1) rfl rfl (by kernel_rfl) (by kernel_rfl) (by kernel_rfl) (fun _ _ _ h => h) (by kernel_rfl) (fun W hW => by obtain ⟨a0, a1, a2⟩ := a3_cells (hW.at G2.out); go_simp) (by assumption) rfl rfl ?_
  simp only [Act.put, List.setIfInBounds_toArray, List.set_cons_zero, List.set_cons_succ]
  refine wpAnyH_yield 15 50 (wnv x) rfl rfl (by kernel_rfl) (by kernel_rfl) (by kernel_rfl) (fun _ _ _ h => h) (by kernel_rfl) (fun W hW => by obtain ⟨⟨c0, c1, c2⟩, ⟨c3, c4, c5, c6⟩, c7, c8⟩ := wn_cells (hW.at G1.out); go_simp) (by assumption) rfl rfl ?_
  simp only [Act.put, List.setIfInBounds_toArray, List.set_cons_zero, List.set_cons_succ]
  refine wpAnyH_yield 16 51 (.pointer (some ⟨B + 1 + 1, 0, none⟩)) rfl rfl (by kernel_rfl) (by kernel_rfl) (by kernel_rfl) (fun _ _ _ h => h) (by kernel_rfl) (fun W hW => by go_simp) (by assumption) rfl rfl ?_
  simp only [Act.put, List.setIfInBounds_toArray, List.set_cons_zero, List.set_cons_succ]
  refine wpAnyH_yield 17 52 (.int .i64 b0) rfl rfl (by kernel_rfl) (by kernel_rfl) (by kernel_rfl) (fun _ _ _ h => h) (by kernel_rfl) (fun W hW => by obtain ⟨a0, a1, a2⟩ := a3_cells (hW.at G2.out); go_simp) (by assumption) rfl rfl ?_
  simp only [Act.put, List.setIfInBounds_toArray, List.set_cons_zero, List.set_cons_succ]
  refine wpAnyH_yield 18 53 (.pointer (some ⟨B + 1 + 1, 1, none⟩)) rfl rfl (by kernel_rfl) (by kernel_rfl) (by kernel_rfl) (fun _ _ _ h => h) (by kernel_rfl) (fun W hW => by go_simp) (by assumption) rfl rfl ?_
  simp only [Act.put, List.setIfInBounds_toArray, List.set_cons_zero, List.set_cons_succ]
  refine wpAnyH_yield 19 54 (.int .i64 b1) rfl rfl (by kernel_rfl) (by kernel_rfl) (by kernel_rfl) (fun _ _ _ h => h) (by kernel_rfl) (fun W hW => by obtain ⟨a0, a1, a2⟩ := a3_cells (hW.at G2.out); go_simp) (by assumption) rfl rfl ?_
  simp only [Act.put, List.setIfInBounds_toArray, List.set_cons_zero, List.set_cons_succ]
  refine wpAnyH_enter 14 49 10 #[wnv x, .int .i64 b0, .int .i64 b1] rfl rfl (by kernel_rfl) (by kernel_rfl) (by kernel_rfl) ?_
  refine ((C3 _).out).mono ?_
  rintro r w3 ⟨rfl, T3⟩
  have h3 := hT0.tr T3
  refine ⟨_, rfl, h3, ?_⟩
  simp only [Act.put, List.setIfInBounds_toArray, List.set_cons_zero, List.set_cons_succ]
  refine wpAnyH_enter 20 55 11 #[wnv x, .int .i64 b0, .int .i64 b1] rfl rfl (by kernel_rfl) (by kernel_rfl) (by kernel_rfl) ?_
  refine ((C4 _).out).mono ?_
  rintro r w4 ⟨rfl, T4⟩
  have h4 := h3.tr T4
  refine ⟨_, rfl, h4, ?_⟩
  simp only [Act.put, List.setIfInBounds_toArray, List.set_cons_zero, List.set_cons_succ]
  refine wpAnyH_yield 21 56 (.bool false) rfl rfl (by kernel_rfl) (by kernel_rfl) (by kernel_rfl) (fun _ _ _ h => h) (by kernel_rfl) (fun W hW => by go_simp) (by assumption) rfl rfl ?_
  simp only [Act.put, List.setIfInBounds_toArray, List.set_cons_zero, List.set_cons_succ]
  refine wpAnyH_yield 22 57 (.bool false) rfl rfl (by kernel_rfl) (by kernel_rfl) (by kernel_rfl) (fun _ _ _ h => h) (by kernel_rfl) (fun W hW => by kernel_rfl) (by assumption) rfl rfl ?_
  simp only [Act.put, List.setIfInBounds_toArray, List.set_cons_zero, List.set_cons_succ]
  refine wpAnyH_done (by kernel_rfl) ?_ _
  have K0 := hide (h4.at G0.out)
  have K1 := hide (h4.at G1.out)
  have K2 := hide (h4.at G2.out)
  have KT := hide (GT.out.tr h4)
  clear hT0 h3 h4 T3 T4 G0 G1 G2 GT C3 C4
  obtain ⟨⟨g0, g1, g2, g3, g4, g5, g6⟩, g7, g8, g9⟩ := cf_cells K0.out
  obtain ⟨⟨c0, c1, c2⟩, ⟨c3, c4, c5, c6⟩, c7, c8⟩ := wn_cells K1.out
  obtain ⟨a0, a1, a2⟩ := a3_cells K2.out
  go_wp2_with fail
  refine (C5 _).out.mono ?_
  rintro e w5 ⟨rfl, T5⟩
  by_cases hk : kindB d = true
  · have hd : 1 ≤ d ∧ d ≤ 3 := by unfold kindB at hk; simp only [Bool.and_eq_true, decide_eq_true_eq] at hk; exact hk
    have hd1 : decide (d < 1) = false := decide_eq_false (by omega)
    have hd2 : decide (3 < d) = false := decide_eq_false (by omega)
    simp only [hk, if_true]
    generalize tellP k x d = q at *
    generalize tellW x c.di = r at *
    clear hk hd
    have L0 := al_old (al_old (T5.at K0.out) (.cells (pnc q) 37)) (.cells (wnc r) 30)
    have L1 := al_old (al_old (T5.at K1.out) (.cells (pnc q) 37)) (.cells (wnc r) 30)
    have LT := ((KT.out.tr T5).alloc (.cells (pnc q) 37)).alloc (.cells (wnc r) 30)
    obtain ⟨L2, L3⟩ := al1 w5 (.cells (pnc q) 37) (.cells (wnc r) 30)
    obtain ⟨w6, ew6⟩ : ∃ w6, (w5.alloc (.cells #[.string q.k, .int .i64 q.a, .int .i64 q.b, .int .i64 q.d, .int .i64 q.n, .int .i64 q.t.c, .int .i64 q.t.s, .int .i64 q.t.m, .int .i64 q.t.x] 37)).alloc (.cells #[.int .i64 r.a, .int .i64 r.b, .int .i64 r.h, .int .i64 r.t.c, .int .i64 r.t.s, .int .i64 r.t.m, .int .i64 r.t.x, .int .i64 r.n, .int .i64 r.p] 30) = w6 := ⟨_, rfl⟩
    have ew6' : (w5.alloc (.cells (pnc q) 37)).alloc (.cells (wnc r) 30) = w6 := ew6
    rw [ew6'] at L0 L1 L2 L3 LT
    clear g0 g1 g2 g3 g4 g5 g6 g7 g8 g9 c0 c1 c2 c3 c4 c5 c6 c7 c8 a0 a1 a2 T5 K0 K1 K2 KT C5 ew6'
    obtain ⟨-, -, -, g9⟩ := cf_cells L0
    obtain ⟨⟨c0, c1, c2⟩, ⟨c3, c4, c5, c6⟩, c7, c8⟩ := wn_cells L1
    have HL2 := hide L2
    have HL3 := hide L3
    have HLT := hide LT
    clear L0 L1 L2 L3 LT
    go_wp2_with fail
    refine (C6 _).out.mono ?_
    rintro e w7 ⟨rfl, T7⟩
    have M2 := al_old (al_old (T7.at HL2.out) (.cells (pnc q) 37)) (.cells (wnc r) 30)
    have M3 := al_old (al_old (T7.at HL3.out) (.cells (pnc q) 37)) (.cells (wnc r) 30)
    have MT := ((HLT.out.tr T7).alloc (.cells (pnc q) 37)).alloc (.cells (wnc r) 30)
    obtain ⟨N2, N3⟩ := al1 w7 (.cells (pnc q) 37) (.cells (wnc r) 30)
    obtain ⟨w8, ew8⟩ : ∃ w8, (w7.alloc (.cells #[.string q.k, .int .i64 q.a, .int .i64 q.b, .int .i64 q.d, .int .i64 q.n, .int .i64 q.t.c, .int .i64 q.t.s, .int .i64 q.t.m, .int .i64 q.t.x] 37)).alloc (.cells #[.int .i64 r.a, .int .i64 r.b, .int .i64 r.h, .int .i64 r.t.c, .int .i64 r.t.s, .int .i64 r.t.m, .int .i64 r.t.x, .int .i64 r.n, .int .i64 r.p] 30) = w8 := ⟨_, rfl⟩
    have ew8' : (w7.alloc (.cells (pnc q) 37)).alloc (.cells (wnc r) 30) = w8 := ew8
    rw [ew8'] at M2 M3 MT N2 N3
    clear g9 c0 c1 c2 c3 c4 c5 c6 c7 c8 T7 HL2 HL3 HLT C6 ew8' ew6
    obtain ⟨⟨c0, c1, c2⟩, ⟨c3, c4, c5, c6⟩, c7, c8⟩ := wn_cells M3
    obtain ⟨⟨i0, i1, i2⟩, ⟨i3, i4, i5, i6⟩, i7, i8⟩ := wn_cells N3
    obtain ⟨⟨d0, d1, d2, d3, d4⟩, d5, d6, d7, d8⟩ := pn_cells M2
    obtain ⟨⟨f0, f1, f2, f3, f4⟩, f5, f6, f7, f8⟩ := pn_cells N2
    have HMT := hide MT
    clear M2 M3 N2 N3 MT
    go_wp2_with fail
    refine (CN _ _).out.mono ?_
    rintro e w9 ⟨rfl, hq9⟩
    subst hq9
    go_wp2_with fail
    refine (CK _).out.mono ?_
    rintro e wa ⟨rfl, Ta⟩
    have Ha := hide (HMT.out.tr Ta)
    clear Ta
    go_wp2_with fail
    go_ret
    exact ⟨rfl, Ha.out⟩
  · have hd : d < 1 ∨ (¬ d < 1 ∧ 3 < d) := by
      unfold kindB at hk
      simp only [Bool.and_eq_true, decide_eq_true_eq, not_and] at hk
      by_cases h : d < 1
      · exact .inl h
      · exact .inr ⟨h, by have := hk (by omega); omega⟩
    simp only [hk, if_false, Bool.false_eq_true]
    clear hk
    have LT := ((KT.out.tr T5).alloc (.cells (pnc pn0) 37)).alloc (.cells (wnc wn0) 30)
    obtain ⟨L2, L3⟩ := al1 w5 (.cells (pnc pn0) 37) (.cells (wnc wn0) 30)
    clear g0 g1 g2 g3 g4 g5 g6 g7 g8 g9 c0 c1 c2 c3 c4 c5 c6 c7 c8 a0 a1 a2 T5 K0 K1 K2 KT C5 C6
    obtain ⟨⟨c0, c1, c2⟩, ⟨c3, c4, c5, c6⟩, c7, c8⟩ := wn_cells L3
    obtain ⟨⟨d0, d1, d2, d3, d4⟩, d5, d6, d7, d8⟩ := pn_cells L2
    have HLT := hide LT
    clear L2 L3 LT
    rcases hd with hd | ⟨hd0, hd⟩
    · have hd1 : decide (d < 1) = true := decide_eq_true hd
      clear hd
      go_wp2_with fail
      refine (CN _ _).out.mono ?_
      rintro e w9 ⟨rfl, hq9⟩
      subst hq9
      go_wp2_with fail
      refine (CK _).out.mono ?_
      rintro e wa ⟨rfl, Ta⟩
      have Ha := hide (HLT.out.tr Ta)
      clear Ta
      go_wp2_with fail
      go_ret
      exact ⟨rfl, Ha.out⟩
    · have hd1 : decide (d < 1) = false := decide_eq_false hd0
      have hd2 : decide (3 < d) = true := decide_eq_true hd
      clear hd hd0
      go_wp2_with fail
      refine (CN _ _).out.mono ?_
      rintro e w9 ⟨rfl, hq9⟩
      subst hq9
      go_wp2_with fail
      refine (CK _).out.mono ?_
      rintro e wa ⟨rfl, Ta⟩
      have Ha := hide (HLT.out.tr Ta)
      clear Ta
      go_wp2_with fail
      go_ret
      exact ⟨rfl, Ha.out⟩

end Go.Proofs.Ytfmlbcddomggaaa
