/- The walk of TallyCompares. -/
import Derived.Test.YtakpeopghhblmaaDoorYK2
namespace Go.Proofs.YtakpeopghhblmaaDoor
open Go.RowKit Go.Lib

theorem tl_differ {t u : Tl} (h : t ≠ u) : ¬ t.c = u.c ∨ (t.c = u.c ∧ ¬ t.s = u.s) ∨ (t.c = u.c ∧ t.s = u.s ∧ ¬ t.m = u.m) ∨ (t.c = u.c ∧ t.s = u.s ∧ t.m = u.m ∧ ¬ t.x = u.x) := by
  by_cases h0 : t.c = u.c
  · by_cases h1 : t.s = u.s
    · by_cases h2 : t.m = u.m
      · by_cases h3 : t.x = u.x
        · exfalso
          apply h
          obtain ⟨_, _, _, _⟩ := t
          obtain ⟨_, _, _, _⟩ := u
          simp at h0 h1 h2 h3
          rw [h0, h1, h2, h3]
        · exact .inr (.inr (.inr ⟨h0, h1, h2, h3⟩))
      · exact .inr (.inr (.inl ⟨h0, h1, h2⟩))
    · exact .inr (.inl ⟨h0, h1⟩)
  · exact .inl h0

set_option maxRecDepth 100000 in
set_option maxHeartbeats 2000000 in
theorem cp_z (a c : Tl) (y z : Int) (hz : y ≤ 0 → z ≤ 0) (w : World)
    (C1 : ∀ w, Hid (Calls Tryd.prog 24 #[tlv a, tlv a] w fun e w' => e = .returned (.int .i64 0) ∧ Calm w w'))
    (C2 : ∀ w, Hid (Calls Tryd.prog 24 #[tlv a, tlv c] w fun e w' => e = .returned (.int .i64 y) ∧ Calm w w'))
    (C3 : ∀ w, Hid (Calls Tryd.prog 25 #[tlv a, tlv a] w fun e w' => e = .returned (.int .i64 0) ∧ Calm w w'))
    (C4 : ∀ w, Hid (Calls Tryd.prog 24 #[tlv a, tlv a] w fun e w' => e = .returned (.int .i64 0) ∧ Calm w w'))
    (C5 : ∀ w, Hid (Calls Tryd.prog 25 #[tlv a, tlv c] w fun e w' => e = .returned (.int .i64 y) ∧ Calm w w'))
    (C6 : ∀ w, Hid (Calls Tryd.prog 24 #[tlv a, tlv c] w fun e w' => e = .returned (.int .i64 z) ∧ Calm w w'))
    (C7 : ∀ w, Hid (Calls Tryd.prog 24 #[tlv a, tlv a] w fun e w' => e = .returned (.int .i64 0) ∧ Calm w w')) :
    Calls Tryd.prog 7 #[tlv a, tlv a, tlv c] w fun e w' => e = .returned (.bool true) ∧ Calm w w' := by
  have C8 := fun w => hide (works_any w)
  have HZ := hide hz
  clear hz
  go_enter Tryd.func7, Tryd.ntmps7
  go_wp2_with fail
  obtain ⟨A0, A1, A2⟩ := al3 w (.cells (tlc a) 24) (.cells (tlc a) 24) (.cells (tlc c) 24)
  have T0 : Calm w (((w.alloc (.cells (tlc a) 24)).alloc (.cells (tlc a) 24)).alloc (.cells (tlc c) 24)) := (((Touch.refl (fun _ => False) w).alloc _).alloc _).alloc _
  refine (C1 _).out.mono ?_
  rintro e w1 ⟨rfl, T⟩
  have B0 := T.at A0
  have B1 := T.at A1
  have B2 := T.at A2
  have TT := T0.tr T
  clear A0 A1 A2 T T0 C1
  generalize w.heap.size = B at *
  obtain ⟨c0, c1, c2, c3⟩ := tl_cells B0
  obtain ⟨d0, d1, d2, d3⟩ := tl_cells B1
  obtain ⟨e0, e1, e2, e3⟩ := tl_cells B2
  have H0 := hide B0
  have H1 := hide B1
  have H2 := hide B2
  have HT := hide TT
  clear B0 B1 B2 TT
  go_wp2_with fail
  refine (C2 _).out.mono ?_
  rintro e w2 ⟨rfl, T⟩
  have B0 := T.at H0.out
  have B1 := T.at H1.out
  have B2 := T.at H2.out
  have TT := HT.out.tr T
  clear H0 H1 H2 HT T C2 c0 c1 c2 c3 d0 d1 d2 d3 e0 e1 e2 e3
  obtain ⟨c0, c1, c2, c3⟩ := tl_cells B0
  obtain ⟨d0, d1, d2, d3⟩ := tl_cells B1
  obtain ⟨e0, e1, e2, e3⟩ := tl_cells B2
  have H0 := hide B0
  have H1 := hide B1
  have H2 := hide B2
  have HT := hide TT
  clear B0 B1 B2 TT
  go_wp2_with fail
  refine (C3 _).out.mono ?_
  rintro e w3 ⟨rfl, T⟩
  have B0 := T.at H0.out
  have B1 := T.at H1.out
  have B2 := T.at H2.out
  have TT := HT.out.tr T
  clear H0 H1 H2 HT T C3 c0 c1 c2 c3 d0 d1 d2 d3 e0 e1 e2 e3
  obtain ⟨c0, c1, c2, c3⟩ := tl_cells B0
  obtain ⟨d0, d1, d2, d3⟩ := tl_cells B1
  obtain ⟨e0, e1, e2, e3⟩ := tl_cells B2
  have H0 := hide B0
  have H1 := hide B1
  have H2 := hide B2
  have HT := hide TT
  clear B0 B1 B2 TT
  go_wp2_with fail
  refine (C4 _).out.mono ?_
  rintro e w4 ⟨rfl, T⟩
  have B0 := T.at H0.out
  have B1 := T.at H1.out
  have B2 := T.at H2.out
  have TT := HT.out.tr T
  clear H0 H1 H2 HT T C4 c0 c1 c2 c3 d0 d1 d2 d3 e0 e1 e2 e3
  obtain ⟨c0, c1, c2, c3⟩ := tl_cells B0
  obtain ⟨d0, d1, d2, d3⟩ := tl_cells B1
  obtain ⟨e0, e1, e2, e3⟩ := tl_cells B2
  have H0 := hide B0
  have H1 := hide B1
  have H2 := hide B2
  have HT := hide TT
  clear B0 B1 B2 TT
  go_wp2_with fail
  refine (C5 _).out.mono ?_
  rintro e w5 ⟨rfl, T⟩
  have B0 := T.at H0.out
  have B1 := T.at H1.out
  have B2 := T.at H2.out
  have TT := HT.out.tr T
  clear H0 H1 H2 HT T C5 c0 c1 c2 c3 d0 d1 d2 d3 e0 e1 e2 e3
  by_cases hy : 0 < y
  · clear HZ C6
    obtain ⟨c0, c1, c2, c3⟩ := tl_cells B0
    obtain ⟨d0, d1, d2, d3⟩ := tl_cells B1
    obtain ⟨e0, e1, e2, e3⟩ := tl_cells B2
    have H0 := hide B0
    have H1 := hide B1
    have H2 := hide B2
    have HT := hide TT
    clear B0 B1 B2 TT
    go_wp2_with fail
    refine (C7 _).out.mono ?_
    rintro e w6 ⟨rfl, T⟩
    have B0 := T.at H0.out
    have B1 := T.at H1.out
    have B2 := T.at H2.out
    have TT := HT.out.tr T
    clear H0 H1 H2 HT T C7 c0 c1 c2 c3 d0 d1 d2 d3 e0 e1 e2 e3
    obtain ⟨c0, c1, c2, c3⟩ := tl_cells B0
    obtain ⟨d0, d1, d2, d3⟩ := tl_cells B1
    obtain ⟨e0, e1, e2, e3⟩ := tl_cells B2
    have H0 := hide B0
    have H1 := hide B1
    have H2 := hide B2
    have HT := hide TT
    clear B0 B1 B2 TT
    go_wp2_with fail
    refine (C8 _).out.mono ?_
    rintro e w7 ⟨rfl, T⟩
    have B0 := T.at H0.out
    have B1 := T.at H1.out
    have B2 := T.at H2.out
    have TT := HT.out.tr T
    clear H0 H1 H2 HT T C8 c0 c1 c2 c3 d0 d1 d2 d3 e0 e1 e2 e3
    have HT := hide TT
    clear B0 B1 B2 TT
    go_wp2_with fail
    go_ret
    exact ⟨rfl, HT.out⟩
  · have hz : z ≤ 0 := HZ.out (by omega)
    have hd : decide (z ≤ 0) = true := decide_eq_true hz
    clear HZ hz
    obtain ⟨c0, c1, c2, c3⟩ := tl_cells B0
    obtain ⟨d0, d1, d2, d3⟩ := tl_cells B1
    obtain ⟨e0, e1, e2, e3⟩ := tl_cells B2
    have H0 := hide B0
    have H1 := hide B1
    have H2 := hide B2
    have HT := hide TT
    clear B0 B1 B2 TT
    go_wp2_with fail
    refine (C6 _).out.mono ?_
    rintro e w6 ⟨rfl, T⟩
    have B0 := T.at H0.out
    have B1 := T.at H1.out
    have B2 := T.at H2.out
    have TT := HT.out.tr T
    clear H0 H1 H2 HT T C6 c0 c1 c2 c3 d0 d1 d2 d3 e0 e1 e2 e3
    obtain ⟨c0, c1, c2, c3⟩ := tl_cells B0
    obtain ⟨d0, d1, d2, d3⟩ := tl_cells B1
    obtain ⟨e0, e1, e2, e3⟩ := tl_cells B2
    have H0 := hide B0
    have H1 := hide B1
    have H2 := hide B2
    have HT := hide TT
    clear B0 B1 B2 TT
    go_wp2_with fail
    refine (C7 _).out.mono ?_
    rintro e w7 ⟨rfl, T⟩
    have B0 := T.at H0.out
    have B1 := T.at H1.out
    have B2 := T.at H2.out
    have TT := HT.out.tr T
    clear H0 H1 H2 HT T C7 c0 c1 c2 c3 d0 d1 d2 d3 e0 e1 e2 e3
    obtain ⟨c0, c1, c2, c3⟩ := tl_cells B0
    obtain ⟨d0, d1, d2, d3⟩ := tl_cells B1
    obtain ⟨e0, e1, e2, e3⟩ := tl_cells B2
    have H0 := hide B0
    have H1 := hide B1
    have H2 := hide B2
    have HT := hide TT
    clear B0 B1 B2 TT
    go_wp2_with fail
    refine (C8 _).out.mono ?_
    rintro e w8 ⟨rfl, T⟩
    have B0 := T.at H0.out
    have B1 := T.at H1.out
    have B2 := T.at H2.out
    have TT := HT.out.tr T
    clear H0 H1 H2 HT T C8 c0 c1 c2 c3 d0 d1 d2 d3 e0 e1 e2 e3
    have HT := hide TT
    clear B0 B1 B2 TT
    go_wp2_with fail
    go_ret
    exact ⟨rfl, HT.out⟩

set_option maxRecDepth 100000 in
set_option maxHeartbeats 2000000 in
theorem cp_n0 (a b c : Tl) (y z : Int) (hz : y ≤ 0 → z ≤ 0) (h0 : ¬ a.c = b.c) (w : World)
    (C1 : ∀ w, Hid (Calls Tryd.prog 24 #[tlv a, tlv b] w fun e w' => e = .returned (.int .i64 (-1)) ∧ Calm w w'))
    (C2 : ∀ w, Hid (Calls Tryd.prog 24 #[tlv b, tlv c] w fun e w' => e = .returned (.int .i64 y) ∧ Calm w w'))
    (C3 : ∀ w, Hid (Calls Tryd.prog 25 #[tlv a, tlv b] w fun e w' => e = .returned (.int .i64 (-1)) ∧ Calm w w'))
    (C4 : ∀ w, Hid (Calls Tryd.prog 24 #[tlv b, tlv a] w fun e w' => e = .returned (.int .i64 1) ∧ Calm w w'))
    (C5 : ∀ w, Hid (Calls Tryd.prog 25 #[tlv b, tlv c] w fun e w' => e = .returned (.int .i64 y) ∧ Calm w w'))
    (C6 : ∀ w, Hid (Calls Tryd.prog 24 #[tlv a, tlv c] w fun e w' => e = .returned (.int .i64 z) ∧ Calm w w'))
    (C7 : ∀ w, Hid (Calls Tryd.prog 24 #[tlv a, tlv a] w fun e w' => e = .returned (.int .i64 0) ∧ Calm w w')) :
    Calls Tryd.prog 7 #[tlv a, tlv b, tlv c] w fun e w' => e = .returned (.bool true) ∧ Calm w w' := by
  have C8 := fun w => hide (works_any w)
  have HZ := hide hz
  clear hz
  go_enter Tryd.func7, Tryd.ntmps7
  go_wp2_with fail
  obtain ⟨A0, A1, A2⟩ := al3 w (.cells (tlc a) 24) (.cells (tlc b) 24) (.cells (tlc c) 24)
  have T0 : Calm w (((w.alloc (.cells (tlc a) 24)).alloc (.cells (tlc b) 24)).alloc (.cells (tlc c) 24)) := (((Touch.refl (fun _ => False) w).alloc _).alloc _).alloc _
  refine (C1 _).out.mono ?_
  rintro e w1 ⟨rfl, T⟩
  have B0 := T.at A0
  have B1 := T.at A1
  have B2 := T.at A2
  have TT := T0.tr T
  clear A0 A1 A2 T T0 C1
  generalize w.heap.size = B at *
  obtain ⟨c0, c1, c2, c3⟩ := tl_cells B0
  obtain ⟨d0, d1, d2, d3⟩ := tl_cells B1
  obtain ⟨e0, e1, e2, e3⟩ := tl_cells B2
  have H0 := hide B0
  have H1 := hide B1
  have H2 := hide B2
  have HT := hide TT
  clear B0 B1 B2 TT
  go_wp2_with fail
  refine (C2 _).out.mono ?_
  rintro e w2 ⟨rfl, T⟩
  have B0 := T.at H0.out
  have B1 := T.at H1.out
  have B2 := T.at H2.out
  have TT := HT.out.tr T
  clear H0 H1 H2 HT T C2 c0 c1 c2 c3 d0 d1 d2 d3 e0 e1 e2 e3
  obtain ⟨c0, c1, c2, c3⟩ := tl_cells B0
  obtain ⟨d0, d1, d2, d3⟩ := tl_cells B1
  obtain ⟨e0, e1, e2, e3⟩ := tl_cells B2
  have H0 := hide B0
  have H1 := hide B1
  have H2 := hide B2
  have HT := hide TT
  clear B0 B1 B2 TT
  go_wp2_with fail
  refine (C3 _).out.mono ?_
  rintro e w3 ⟨rfl, T⟩
  have B0 := T.at H0.out
  have B1 := T.at H1.out
  have B2 := T.at H2.out
  have TT := HT.out.tr T
  clear H0 H1 H2 HT T C3 c0 c1 c2 c3 d0 d1 d2 d3 e0 e1 e2 e3
  obtain ⟨c0, c1, c2, c3⟩ := tl_cells B0
  obtain ⟨d0, d1, d2, d3⟩ := tl_cells B1
  obtain ⟨e0, e1, e2, e3⟩ := tl_cells B2
  have H0 := hide B0
  have H1 := hide B1
  have H2 := hide B2
  have HT := hide TT
  clear B0 B1 B2 TT
  go_wp2_with fail
  refine (C4 _).out.mono ?_
  rintro e w4 ⟨rfl, T⟩
  have B0 := T.at H0.out
  have B1 := T.at H1.out
  have B2 := T.at H2.out
  have TT := HT.out.tr T
  clear H0 H1 H2 HT T C4 c0 c1 c2 c3 d0 d1 d2 d3 e0 e1 e2 e3
  obtain ⟨c0, c1, c2, c3⟩ := tl_cells B0
  obtain ⟨d0, d1, d2, d3⟩ := tl_cells B1
  obtain ⟨e0, e1, e2, e3⟩ := tl_cells B2
  have H0 := hide B0
  have H1 := hide B1
  have H2 := hide B2
  have HT := hide TT
  clear B0 B1 B2 TT
  go_wp2_with fail
  refine (C5 _).out.mono ?_
  rintro e w5 ⟨rfl, T⟩
  have B0 := T.at H0.out
  have B1 := T.at H1.out
  have B2 := T.at H2.out
  have TT := HT.out.tr T
  clear H0 H1 H2 HT T C5 c0 c1 c2 c3 d0 d1 d2 d3 e0 e1 e2 e3
  by_cases hy : 0 < y
  · clear HZ C6
    obtain ⟨c0, c1, c2, c3⟩ := tl_cells B0
    obtain ⟨d0, d1, d2, d3⟩ := tl_cells B1
    obtain ⟨e0, e1, e2, e3⟩ := tl_cells B2
    have H0 := hide B0
    have H1 := hide B1
    have H2 := hide B2
    have HT := hide TT
    clear B0 B1 B2 TT
    go_wp2_with fail
    refine (C7 _).out.mono ?_
    rintro e w6 ⟨rfl, T⟩
    have B0 := T.at H0.out
    have B1 := T.at H1.out
    have B2 := T.at H2.out
    have TT := HT.out.tr T
    clear H0 H1 H2 HT T C7 c0 c1 c2 c3 d0 d1 d2 d3 e0 e1 e2 e3
    obtain ⟨c0, c1, c2, c3⟩ := tl_cells B0
    obtain ⟨d0, d1, d2, d3⟩ := tl_cells B1
    obtain ⟨e0, e1, e2, e3⟩ := tl_cells B2
    have H0 := hide B0
    have H1 := hide B1
    have H2 := hide B2
    have HT := hide TT
    clear B0 B1 B2 TT
    go_wp2_with fail
    refine (C8 _).out.mono ?_
    rintro e w7 ⟨rfl, T⟩
    have B0 := T.at H0.out
    have B1 := T.at H1.out
    have B2 := T.at H2.out
    have TT := HT.out.tr T
    clear H0 H1 H2 HT T C8 c0 c1 c2 c3 d0 d1 d2 d3 e0 e1 e2 e3
    have HT := hide TT
    clear B0 B1 B2 TT
    go_wp2_with fail
    go_ret
    exact ⟨rfl, HT.out⟩
  · have hz : z ≤ 0 := HZ.out (by omega)
    have hd : decide (z ≤ 0) = true := decide_eq_true hz
    clear HZ hz
    obtain ⟨c0, c1, c2, c3⟩ := tl_cells B0
    obtain ⟨d0, d1, d2, d3⟩ := tl_cells B1
    obtain ⟨e0, e1, e2, e3⟩ := tl_cells B2
    have H0 := hide B0
    have H1 := hide B1
    have H2 := hide B2
    have HT := hide TT
    clear B0 B1 B2 TT
    go_wp2_with fail
    refine (C6 _).out.mono ?_
    rintro e w6 ⟨rfl, T⟩
    have B0 := T.at H0.out
    have B1 := T.at H1.out
    have B2 := T.at H2.out
    have TT := HT.out.tr T
    clear H0 H1 H2 HT T C6 c0 c1 c2 c3 d0 d1 d2 d3 e0 e1 e2 e3
    obtain ⟨c0, c1, c2, c3⟩ := tl_cells B0
    obtain ⟨d0, d1, d2, d3⟩ := tl_cells B1
    obtain ⟨e0, e1, e2, e3⟩ := tl_cells B2
    have H0 := hide B0
    have H1 := hide B1
    have H2 := hide B2
    have HT := hide TT
    clear B0 B1 B2 TT
    go_wp2_with fail
    refine (C7 _).out.mono ?_
    rintro e w7 ⟨rfl, T⟩
    have B0 := T.at H0.out
    have B1 := T.at H1.out
    have B2 := T.at H2.out
    have TT := HT.out.tr T
    clear H0 H1 H2 HT T C7 c0 c1 c2 c3 d0 d1 d2 d3 e0 e1 e2 e3
    obtain ⟨c0, c1, c2, c3⟩ := tl_cells B0
    obtain ⟨d0, d1, d2, d3⟩ := tl_cells B1
    obtain ⟨e0, e1, e2, e3⟩ := tl_cells B2
    have H0 := hide B0
    have H1 := hide B1
    have H2 := hide B2
    have HT := hide TT
    clear B0 B1 B2 TT
    go_wp2_with fail
    refine (C8 _).out.mono ?_
    rintro e w8 ⟨rfl, T⟩
    have B0 := T.at H0.out
    have B1 := T.at H1.out
    have B2 := T.at H2.out
    have TT := HT.out.tr T
    clear H0 H1 H2 HT T C8 c0 c1 c2 c3 d0 d1 d2 d3 e0 e1 e2 e3
    have HT := hide TT
    clear B0 B1 B2 TT
    go_wp2_with fail
    go_ret
    exact ⟨rfl, HT.out⟩

set_option maxRecDepth 100000 in
set_option maxHeartbeats 2000000 in
theorem cp_p0 (a b c : Tl) (y : Int) (h0 : ¬ a.c = b.c) (w : World)
    (C1 : ∀ w, Hid (Calls Tryd.prog 24 #[tlv a, tlv b] w fun e w' => e = .returned (.int .i64 1) ∧ Calm w w'))
    (C2 : ∀ w, Hid (Calls Tryd.prog 24 #[tlv b, tlv c] w fun e w' => e = .returned (.int .i64 y) ∧ Calm w w'))
    (C3 : ∀ w, Hid (Calls Tryd.prog 25 #[tlv a, tlv b] w fun e w' => e = .returned (.int .i64 1) ∧ Calm w w'))
    (C4 : ∀ w, Hid (Calls Tryd.prog 24 #[tlv b, tlv a] w fun e w' => e = .returned (.int .i64 (-1)) ∧ Calm w w'))
    (C5 : ∀ w, Hid (Calls Tryd.prog 25 #[tlv b, tlv c] w fun e w' => e = .returned (.int .i64 y) ∧ Calm w w'))
    
    (C7 : ∀ w, Hid (Calls Tryd.prog 24 #[tlv a, tlv a] w fun e w' => e = .returned (.int .i64 0) ∧ Calm w w')) :
    Calls Tryd.prog 7 #[tlv a, tlv b, tlv c] w fun e w' => e = .returned (.bool true) ∧ Calm w w' := by
  have C8 := fun w => hide (works_any w)
  go_enter Tryd.func7, Tryd.ntmps7
  go_wp2_with fail
  obtain ⟨A0, A1, A2⟩ := al3 w (.cells (tlc a) 24) (.cells (tlc b) 24) (.cells (tlc c) 24)
  have T0 : Calm w (((w.alloc (.cells (tlc a) 24)).alloc (.cells (tlc b) 24)).alloc (.cells (tlc c) 24)) := (((Touch.refl (fun _ => False) w).alloc _).alloc _).alloc _
  refine (C1 _).out.mono ?_
  rintro e w1 ⟨rfl, T⟩
  have B0 := T.at A0
  have B1 := T.at A1
  have B2 := T.at A2
  have TT := T0.tr T
  clear A0 A1 A2 T T0 C1
  generalize w.heap.size = B at *
  obtain ⟨c0, c1, c2, c3⟩ := tl_cells B0
  obtain ⟨d0, d1, d2, d3⟩ := tl_cells B1
  obtain ⟨e0, e1, e2, e3⟩ := tl_cells B2
  have H0 := hide B0
  have H1 := hide B1
  have H2 := hide B2
  have HT := hide TT
  clear B0 B1 B2 TT
  go_wp2_with fail
  refine (C2 _).out.mono ?_
  rintro e w2 ⟨rfl, T⟩
  have B0 := T.at H0.out
  have B1 := T.at H1.out
  have B2 := T.at H2.out
  have TT := HT.out.tr T
  clear H0 H1 H2 HT T C2 c0 c1 c2 c3 d0 d1 d2 d3 e0 e1 e2 e3
  obtain ⟨c0, c1, c2, c3⟩ := tl_cells B0
  obtain ⟨d0, d1, d2, d3⟩ := tl_cells B1
  obtain ⟨e0, e1, e2, e3⟩ := tl_cells B2
  have H0 := hide B0
  have H1 := hide B1
  have H2 := hide B2
  have HT := hide TT
  clear B0 B1 B2 TT
  go_wp2_with fail
  refine (C3 _).out.mono ?_
  rintro e w3 ⟨rfl, T⟩
  have B0 := T.at H0.out
  have B1 := T.at H1.out
  have B2 := T.at H2.out
  have TT := HT.out.tr T
  clear H0 H1 H2 HT T C3 c0 c1 c2 c3 d0 d1 d2 d3 e0 e1 e2 e3
  obtain ⟨c0, c1, c2, c3⟩ := tl_cells B0
  obtain ⟨d0, d1, d2, d3⟩ := tl_cells B1
  obtain ⟨e0, e1, e2, e3⟩ := tl_cells B2
  have H0 := hide B0
  have H1 := hide B1
  have H2 := hide B2
  have HT := hide TT
  clear B0 B1 B2 TT
  go_wp2_with fail
  refine (C4 _).out.mono ?_
  rintro e w4 ⟨rfl, T⟩
  have B0 := T.at H0.out
  have B1 := T.at H1.out
  have B2 := T.at H2.out
  have TT := HT.out.tr T
  clear H0 H1 H2 HT T C4 c0 c1 c2 c3 d0 d1 d2 d3 e0 e1 e2 e3
  obtain ⟨c0, c1, c2, c3⟩ := tl_cells B0
  obtain ⟨d0, d1, d2, d3⟩ := tl_cells B1
  obtain ⟨e0, e1, e2, e3⟩ := tl_cells B2
  have H0 := hide B0
  have H1 := hide B1
  have H2 := hide B2
  have HT := hide TT
  clear B0 B1 B2 TT
  go_wp2_with fail
  refine (C5 _).out.mono ?_
  rintro e w5 ⟨rfl, T⟩
  have B0 := T.at H0.out
  have B1 := T.at H1.out
  have B2 := T.at H2.out
  have TT := HT.out.tr T
  clear H0 H1 H2 HT T C5 c0 c1 c2 c3 d0 d1 d2 d3 e0 e1 e2 e3
  obtain ⟨c0, c1, c2, c3⟩ := tl_cells B0
  obtain ⟨d0, d1, d2, d3⟩ := tl_cells B1
  obtain ⟨e0, e1, e2, e3⟩ := tl_cells B2
  have H0 := hide B0
  have H1 := hide B1
  have H2 := hide B2
  have HT := hide TT
  clear B0 B1 B2 TT
  go_wp2_with fail
  refine (C7 _).out.mono ?_
  rintro e w6 ⟨rfl, T⟩
  have B0 := T.at H0.out
  have B1 := T.at H1.out
  have B2 := T.at H2.out
  have TT := HT.out.tr T
  clear H0 H1 H2 HT T C7 c0 c1 c2 c3 d0 d1 d2 d3 e0 e1 e2 e3
  obtain ⟨c0, c1, c2, c3⟩ := tl_cells B0
  obtain ⟨d0, d1, d2, d3⟩ := tl_cells B1
  obtain ⟨e0, e1, e2, e3⟩ := tl_cells B2
  have H0 := hide B0
  have H1 := hide B1
  have H2 := hide B2
  have HT := hide TT
  clear B0 B1 B2 TT
  go_wp2_with fail
  refine (C8 _).out.mono ?_
  rintro e w7 ⟨rfl, T⟩
  have B0 := T.at H0.out
  have B1 := T.at H1.out
  have B2 := T.at H2.out
  have TT := HT.out.tr T
  clear H0 H1 H2 HT T C8 c0 c1 c2 c3 d0 d1 d2 d3 e0 e1 e2 e3
  have HT := hide TT
  clear B0 B1 B2 TT
  go_wp2_with fail
  go_ret
  exact ⟨rfl, HT.out⟩

set_option maxRecDepth 100000 in
set_option maxHeartbeats 2000000 in
theorem cp_n1 (a c : Tl) (s1 m1 x1 : Int) (y z : Int) (hz : y ≤ 0 → z ≤ 0) (h1 : ¬ a.s = s1) (w : World)
    (C1 : ∀ w, Hid (Calls Tryd.prog 24 #[tlv a, tlv ⟨a.c, s1, m1, x1⟩] w fun e w' => e = .returned (.int .i64 (-1)) ∧ Calm w w'))
    (C2 : ∀ w, Hid (Calls Tryd.prog 24 #[tlv ⟨a.c, s1, m1, x1⟩, tlv c] w fun e w' => e = .returned (.int .i64 y) ∧ Calm w w'))
    (C3 : ∀ w, Hid (Calls Tryd.prog 25 #[tlv a, tlv ⟨a.c, s1, m1, x1⟩] w fun e w' => e = .returned (.int .i64 (-1)) ∧ Calm w w'))
    (C4 : ∀ w, Hid (Calls Tryd.prog 24 #[tlv ⟨a.c, s1, m1, x1⟩, tlv a] w fun e w' => e = .returned (.int .i64 1) ∧ Calm w w'))
    (C5 : ∀ w, Hid (Calls Tryd.prog 25 #[tlv ⟨a.c, s1, m1, x1⟩, tlv c] w fun e w' => e = .returned (.int .i64 y) ∧ Calm w w'))
    (C6 : ∀ w, Hid (Calls Tryd.prog 24 #[tlv a, tlv c] w fun e w' => e = .returned (.int .i64 z) ∧ Calm w w'))
    (C7 : ∀ w, Hid (Calls Tryd.prog 24 #[tlv a, tlv a] w fun e w' => e = .returned (.int .i64 0) ∧ Calm w w')) :
    Calls Tryd.prog 7 #[tlv a, tlv ⟨a.c, s1, m1, x1⟩, tlv c] w fun e w' => e = .returned (.bool true) ∧ Calm w w' := by
  have C8 := fun w => hide (works_any w)
  have HZ := hide hz
  clear hz
  go_enter Tryd.func7, Tryd.ntmps7
  go_wp2_with fail
  obtain ⟨A0, A1, A2⟩ := al3 w (.cells (tlc a) 24) (.cells (tlc ⟨a.c, s1, m1, x1⟩) 24) (.cells (tlc c) 24)
  have T0 : Calm w (((w.alloc (.cells (tlc a) 24)).alloc (.cells (tlc ⟨a.c, s1, m1, x1⟩) 24)).alloc (.cells (tlc c) 24)) := (((Touch.refl (fun _ => False) w).alloc _).alloc _).alloc _
  refine (C1 _).out.mono ?_
  rintro e w1 ⟨rfl, T⟩
  have B0 := T.at A0
  have B1 := T.at A1
  have B2 := T.at A2
  have TT := T0.tr T
  clear A0 A1 A2 T T0 C1
  generalize w.heap.size = B at *
  obtain ⟨c0, c1, c2, c3⟩ := tl_cells B0
  obtain ⟨d0, d1, d2, d3⟩ := tl_cells B1
  obtain ⟨e0, e1, e2, e3⟩ := tl_cells B2
  have H0 := hide B0
  have H1 := hide B1
  have H2 := hide B2
  have HT := hide TT
  clear B0 B1 B2 TT
  go_wp2_with fail
  refine (C2 _).out.mono ?_
  rintro e w2 ⟨rfl, T⟩
  have B0 := T.at H0.out
  have B1 := T.at H1.out
  have B2 := T.at H2.out
  have TT := HT.out.tr T
  clear H0 H1 H2 HT T C2 c0 c1 c2 c3 d0 d1 d2 d3 e0 e1 e2 e3
  obtain ⟨c0, c1, c2, c3⟩ := tl_cells B0
  obtain ⟨d0, d1, d2, d3⟩ := tl_cells B1
  obtain ⟨e0, e1, e2, e3⟩ := tl_cells B2
  have H0 := hide B0
  have H1 := hide B1
  have H2 := hide B2
  have HT := hide TT
  clear B0 B1 B2 TT
  go_wp2_with fail
  refine (C3 _).out.mono ?_
  rintro e w3 ⟨rfl, T⟩
  have B0 := T.at H0.out
  have B1 := T.at H1.out
  have B2 := T.at H2.out
  have TT := HT.out.tr T
  clear H0 H1 H2 HT T C3 c0 c1 c2 c3 d0 d1 d2 d3 e0 e1 e2 e3
  obtain ⟨c0, c1, c2, c3⟩ := tl_cells B0
  obtain ⟨d0, d1, d2, d3⟩ := tl_cells B1
  obtain ⟨e0, e1, e2, e3⟩ := tl_cells B2
  have H0 := hide B0
  have H1 := hide B1
  have H2 := hide B2
  have HT := hide TT
  clear B0 B1 B2 TT
  go_wp2_with fail
  refine (C4 _).out.mono ?_
  rintro e w4 ⟨rfl, T⟩
  have B0 := T.at H0.out
  have B1 := T.at H1.out
  have B2 := T.at H2.out
  have TT := HT.out.tr T
  clear H0 H1 H2 HT T C4 c0 c1 c2 c3 d0 d1 d2 d3 e0 e1 e2 e3
  obtain ⟨c0, c1, c2, c3⟩ := tl_cells B0
  obtain ⟨d0, d1, d2, d3⟩ := tl_cells B1
  obtain ⟨e0, e1, e2, e3⟩ := tl_cells B2
  have H0 := hide B0
  have H1 := hide B1
  have H2 := hide B2
  have HT := hide TT
  clear B0 B1 B2 TT
  go_wp2_with fail
  refine (C5 _).out.mono ?_
  rintro e w5 ⟨rfl, T⟩
  have B0 := T.at H0.out
  have B1 := T.at H1.out
  have B2 := T.at H2.out
  have TT := HT.out.tr T
  clear H0 H1 H2 HT T C5 c0 c1 c2 c3 d0 d1 d2 d3 e0 e1 e2 e3
  by_cases hy : 0 < y
  · clear HZ C6
    obtain ⟨c0, c1, c2, c3⟩ := tl_cells B0
    obtain ⟨d0, d1, d2, d3⟩ := tl_cells B1
    obtain ⟨e0, e1, e2, e3⟩ := tl_cells B2
    have H0 := hide B0
    have H1 := hide B1
    have H2 := hide B2
    have HT := hide TT
    clear B0 B1 B2 TT
    go_wp2_with fail
    refine (C7 _).out.mono ?_
    rintro e w6 ⟨rfl, T⟩
    have B0 := T.at H0.out
    have B1 := T.at H1.out
    have B2 := T.at H2.out
    have TT := HT.out.tr T
    clear H0 H1 H2 HT T C7 c0 c1 c2 c3 d0 d1 d2 d3 e0 e1 e2 e3
    obtain ⟨c0, c1, c2, c3⟩ := tl_cells B0
    obtain ⟨d0, d1, d2, d3⟩ := tl_cells B1
    obtain ⟨e0, e1, e2, e3⟩ := tl_cells B2
    have H0 := hide B0
    have H1 := hide B1
    have H2 := hide B2
    have HT := hide TT
    clear B0 B1 B2 TT
    go_wp2_with fail
    refine (C8 _).out.mono ?_
    rintro e w7 ⟨rfl, T⟩
    have B0 := T.at H0.out
    have B1 := T.at H1.out
    have B2 := T.at H2.out
    have TT := HT.out.tr T
    clear H0 H1 H2 HT T C8 c0 c1 c2 c3 d0 d1 d2 d3 e0 e1 e2 e3
    have HT := hide TT
    clear B0 B1 B2 TT
    go_wp2_with fail
    go_ret
    exact ⟨rfl, HT.out⟩
  · have hz : z ≤ 0 := HZ.out (by omega)
    have hd : decide (z ≤ 0) = true := decide_eq_true hz
    clear HZ hz
    obtain ⟨c0, c1, c2, c3⟩ := tl_cells B0
    obtain ⟨d0, d1, d2, d3⟩ := tl_cells B1
    obtain ⟨e0, e1, e2, e3⟩ := tl_cells B2
    have H0 := hide B0
    have H1 := hide B1
    have H2 := hide B2
    have HT := hide TT
    clear B0 B1 B2 TT
    go_wp2_with fail
    refine (C6 _).out.mono ?_
    rintro e w6 ⟨rfl, T⟩
    have B0 := T.at H0.out
    have B1 := T.at H1.out
    have B2 := T.at H2.out
    have TT := HT.out.tr T
    clear H0 H1 H2 HT T C6 c0 c1 c2 c3 d0 d1 d2 d3 e0 e1 e2 e3
    obtain ⟨c0, c1, c2, c3⟩ := tl_cells B0
    obtain ⟨d0, d1, d2, d3⟩ := tl_cells B1
    obtain ⟨e0, e1, e2, e3⟩ := tl_cells B2
    have H0 := hide B0
    have H1 := hide B1
    have H2 := hide B2
    have HT := hide TT
    clear B0 B1 B2 TT
    go_wp2_with fail
    refine (C7 _).out.mono ?_
    rintro e w7 ⟨rfl, T⟩
    have B0 := T.at H0.out
    have B1 := T.at H1.out
    have B2 := T.at H2.out
    have TT := HT.out.tr T
    clear H0 H1 H2 HT T C7 c0 c1 c2 c3 d0 d1 d2 d3 e0 e1 e2 e3
    obtain ⟨c0, c1, c2, c3⟩ := tl_cells B0
    obtain ⟨d0, d1, d2, d3⟩ := tl_cells B1
    obtain ⟨e0, e1, e2, e3⟩ := tl_cells B2
    have H0 := hide B0
    have H1 := hide B1
    have H2 := hide B2
    have HT := hide TT
    clear B0 B1 B2 TT
    go_wp2_with fail
    refine (C8 _).out.mono ?_
    rintro e w8 ⟨rfl, T⟩
    have B0 := T.at H0.out
    have B1 := T.at H1.out
    have B2 := T.at H2.out
    have TT := HT.out.tr T
    clear H0 H1 H2 HT T C8 c0 c1 c2 c3 d0 d1 d2 d3 e0 e1 e2 e3
    have HT := hide TT
    clear B0 B1 B2 TT
    go_wp2_with fail
    go_ret
    exact ⟨rfl, HT.out⟩

set_option maxRecDepth 100000 in
set_option maxHeartbeats 2000000 in
theorem cp_p1 (a c : Tl) (s1 m1 x1 : Int) (y : Int) (h1 : ¬ a.s = s1) (w : World)
    (C1 : ∀ w, Hid (Calls Tryd.prog 24 #[tlv a, tlv ⟨a.c, s1, m1, x1⟩] w fun e w' => e = .returned (.int .i64 1) ∧ Calm w w'))
    (C2 : ∀ w, Hid (Calls Tryd.prog 24 #[tlv ⟨a.c, s1, m1, x1⟩, tlv c] w fun e w' => e = .returned (.int .i64 y) ∧ Calm w w'))
    (C3 : ∀ w, Hid (Calls Tryd.prog 25 #[tlv a, tlv ⟨a.c, s1, m1, x1⟩] w fun e w' => e = .returned (.int .i64 1) ∧ Calm w w'))
    (C4 : ∀ w, Hid (Calls Tryd.prog 24 #[tlv ⟨a.c, s1, m1, x1⟩, tlv a] w fun e w' => e = .returned (.int .i64 (-1)) ∧ Calm w w'))
    (C5 : ∀ w, Hid (Calls Tryd.prog 25 #[tlv ⟨a.c, s1, m1, x1⟩, tlv c] w fun e w' => e = .returned (.int .i64 y) ∧ Calm w w'))
    
    (C7 : ∀ w, Hid (Calls Tryd.prog 24 #[tlv a, tlv a] w fun e w' => e = .returned (.int .i64 0) ∧ Calm w w')) :
    Calls Tryd.prog 7 #[tlv a, tlv ⟨a.c, s1, m1, x1⟩, tlv c] w fun e w' => e = .returned (.bool true) ∧ Calm w w' := by
  have C8 := fun w => hide (works_any w)
  go_enter Tryd.func7, Tryd.ntmps7
  go_wp2_with fail
  obtain ⟨A0, A1, A2⟩ := al3 w (.cells (tlc a) 24) (.cells (tlc ⟨a.c, s1, m1, x1⟩) 24) (.cells (tlc c) 24)
  have T0 : Calm w (((w.alloc (.cells (tlc a) 24)).alloc (.cells (tlc ⟨a.c, s1, m1, x1⟩) 24)).alloc (.cells (tlc c) 24)) := (((Touch.refl (fun _ => False) w).alloc _).alloc _).alloc _
  refine (C1 _).out.mono ?_
  rintro e w1 ⟨rfl, T⟩
  have B0 := T.at A0
  have B1 := T.at A1
  have B2 := T.at A2
  have TT := T0.tr T
  clear A0 A1 A2 T T0 C1
  generalize w.heap.size = B at *
  obtain ⟨c0, c1, c2, c3⟩ := tl_cells B0
  obtain ⟨d0, d1, d2, d3⟩ := tl_cells B1
  obtain ⟨e0, e1, e2, e3⟩ := tl_cells B2
  have H0 := hide B0
  have H1 := hide B1
  have H2 := hide B2
  have HT := hide TT
  clear B0 B1 B2 TT
  go_wp2_with fail
  refine (C2 _).out.mono ?_
  rintro e w2 ⟨rfl, T⟩
  have B0 := T.at H0.out
  have B1 := T.at H1.out
  have B2 := T.at H2.out
  have TT := HT.out.tr T
  clear H0 H1 H2 HT T C2 c0 c1 c2 c3 d0 d1 d2 d3 e0 e1 e2 e3
  obtain ⟨c0, c1, c2, c3⟩ := tl_cells B0
  obtain ⟨d0, d1, d2, d3⟩ := tl_cells B1
  obtain ⟨e0, e1, e2, e3⟩ := tl_cells B2
  have H0 := hide B0
  have H1 := hide B1
  have H2 := hide B2
  have HT := hide TT
  clear B0 B1 B2 TT
  go_wp2_with fail
  refine (C3 _).out.mono ?_
  rintro e w3 ⟨rfl, T⟩
  have B0 := T.at H0.out
  have B1 := T.at H1.out
  have B2 := T.at H2.out
  have TT := HT.out.tr T
  clear H0 H1 H2 HT T C3 c0 c1 c2 c3 d0 d1 d2 d3 e0 e1 e2 e3
  obtain ⟨c0, c1, c2, c3⟩ := tl_cells B0
  obtain ⟨d0, d1, d2, d3⟩ := tl_cells B1
  obtain ⟨e0, e1, e2, e3⟩ := tl_cells B2
  have H0 := hide B0
  have H1 := hide B1
  have H2 := hide B2
  have HT := hide TT
  clear B0 B1 B2 TT
  go_wp2_with fail
  refine (C4 _).out.mono ?_
  rintro e w4 ⟨rfl, T⟩
  have B0 := T.at H0.out
  have B1 := T.at H1.out
  have B2 := T.at H2.out
  have TT := HT.out.tr T
  clear H0 H1 H2 HT T C4 c0 c1 c2 c3 d0 d1 d2 d3 e0 e1 e2 e3
  obtain ⟨c0, c1, c2, c3⟩ := tl_cells B0
  obtain ⟨d0, d1, d2, d3⟩ := tl_cells B1
  obtain ⟨e0, e1, e2, e3⟩ := tl_cells B2
  have H0 := hide B0
  have H1 := hide B1
  have H2 := hide B2
  have HT := hide TT
  clear B0 B1 B2 TT
  go_wp2_with fail
  refine (C5 _).out.mono ?_
  rintro e w5 ⟨rfl, T⟩
  have B0 := T.at H0.out
  have B1 := T.at H1.out
  have B2 := T.at H2.out
  have TT := HT.out.tr T
  clear H0 H1 H2 HT T C5 c0 c1 c2 c3 d0 d1 d2 d3 e0 e1 e2 e3
  obtain ⟨c0, c1, c2, c3⟩ := tl_cells B0
  obtain ⟨d0, d1, d2, d3⟩ := tl_cells B1
  obtain ⟨e0, e1, e2, e3⟩ := tl_cells B2
  have H0 := hide B0
  have H1 := hide B1
  have H2 := hide B2
  have HT := hide TT
  clear B0 B1 B2 TT
  go_wp2_with fail
  refine (C7 _).out.mono ?_
  rintro e w6 ⟨rfl, T⟩
  have B0 := T.at H0.out
  have B1 := T.at H1.out
  have B2 := T.at H2.out
  have TT := HT.out.tr T
  clear H0 H1 H2 HT T C7 c0 c1 c2 c3 d0 d1 d2 d3 e0 e1 e2 e3
  obtain ⟨c0, c1, c2, c3⟩ := tl_cells B0
  obtain ⟨d0, d1, d2, d3⟩ := tl_cells B1
  obtain ⟨e0, e1, e2, e3⟩ := tl_cells B2
  have H0 := hide B0
  have H1 := hide B1
  have H2 := hide B2
  have HT := hide TT
  clear B0 B1 B2 TT
  go_wp2_with fail
  refine (C8 _).out.mono ?_
  rintro e w7 ⟨rfl, T⟩
  have B0 := T.at H0.out
  have B1 := T.at H1.out
  have B2 := T.at H2.out
  have TT := HT.out.tr T
  clear H0 H1 H2 HT T C8 c0 c1 c2 c3 d0 d1 d2 d3 e0 e1 e2 e3
  have HT := hide TT
  clear B0 B1 B2 TT
  go_wp2_with fail
  go_ret
  exact ⟨rfl, HT.out⟩

set_option maxRecDepth 100000 in
set_option maxHeartbeats 2000000 in
theorem cp_n2 (a c : Tl) (m1 x1 : Int) (y z : Int) (hz : y ≤ 0 → z ≤ 0) (h2 : ¬ a.m = m1) (w : World)
    (C1 : ∀ w, Hid (Calls Tryd.prog 24 #[tlv a, tlv ⟨a.c, a.s, m1, x1⟩] w fun e w' => e = .returned (.int .i64 (-1)) ∧ Calm w w'))
    (C2 : ∀ w, Hid (Calls Tryd.prog 24 #[tlv ⟨a.c, a.s, m1, x1⟩, tlv c] w fun e w' => e = .returned (.int .i64 y) ∧ Calm w w'))
    (C3 : ∀ w, Hid (Calls Tryd.prog 25 #[tlv a, tlv ⟨a.c, a.s, m1, x1⟩] w fun e w' => e = .returned (.int .i64 (-1)) ∧ Calm w w'))
    (C4 : ∀ w, Hid (Calls Tryd.prog 24 #[tlv ⟨a.c, a.s, m1, x1⟩, tlv a] w fun e w' => e = .returned (.int .i64 1) ∧ Calm w w'))
    (C5 : ∀ w, Hid (Calls Tryd.prog 25 #[tlv ⟨a.c, a.s, m1, x1⟩, tlv c] w fun e w' => e = .returned (.int .i64 y) ∧ Calm w w'))
    (C6 : ∀ w, Hid (Calls Tryd.prog 24 #[tlv a, tlv c] w fun e w' => e = .returned (.int .i64 z) ∧ Calm w w'))
    (C7 : ∀ w, Hid (Calls Tryd.prog 24 #[tlv a, tlv a] w fun e w' => e = .returned (.int .i64 0) ∧ Calm w w')) :
    Calls Tryd.prog 7 #[tlv a, tlv ⟨a.c, a.s, m1, x1⟩, tlv c] w fun e w' => e = .returned (.bool true) ∧ Calm w w' := by
  have C8 := fun w => hide (works_any w)
  have HZ := hide hz
  clear hz
  go_enter Tryd.func7, Tryd.ntmps7
  go_wp2_with fail
  obtain ⟨A0, A1, A2⟩ := al3 w (.cells (tlc a) 24) (.cells (tlc ⟨a.c, a.s, m1, x1⟩) 24) (.cells (tlc c) 24)
  have T0 : Calm w (((w.alloc (.cells (tlc a) 24)).alloc (.cells (tlc ⟨a.c, a.s, m1, x1⟩) 24)).alloc (.cells (tlc c) 24)) := (((Touch.refl (fun _ => False) w).alloc _).alloc _).alloc _
  refine (C1 _).out.mono ?_
  rintro e w1 ⟨rfl, T⟩
  have B0 := T.at A0
  have B1 := T.at A1
  have B2 := T.at A2
  have TT := T0.tr T
  clear A0 A1 A2 T T0 C1
  generalize w.heap.size = B at *
  obtain ⟨c0, c1, c2, c3⟩ := tl_cells B0
  obtain ⟨d0, d1, d2, d3⟩ := tl_cells B1
  obtain ⟨e0, e1, e2, e3⟩ := tl_cells B2
  have H0 := hide B0
  have H1 := hide B1
  have H2 := hide B2
  have HT := hide TT
  clear B0 B1 B2 TT
  go_wp2_with fail
  refine (C2 _).out.mono ?_
  rintro e w2 ⟨rfl, T⟩
  have B0 := T.at H0.out
  have B1 := T.at H1.out
  have B2 := T.at H2.out
  have TT := HT.out.tr T
  clear H0 H1 H2 HT T C2 c0 c1 c2 c3 d0 d1 d2 d3 e0 e1 e2 e3
  obtain ⟨c0, c1, c2, c3⟩ := tl_cells B0
  obtain ⟨d0, d1, d2, d3⟩ := tl_cells B1
  obtain ⟨e0, e1, e2, e3⟩ := tl_cells B2
  have H0 := hide B0
  have H1 := hide B1
  have H2 := hide B2
  have HT := hide TT
  clear B0 B1 B2 TT
  go_wp2_with fail
  refine (C3 _).out.mono ?_
  rintro e w3 ⟨rfl, T⟩
  have B0 := T.at H0.out
  have B1 := T.at H1.out
  have B2 := T.at H2.out
  have TT := HT.out.tr T
  clear H0 H1 H2 HT T C3 c0 c1 c2 c3 d0 d1 d2 d3 e0 e1 e2 e3
  obtain ⟨c0, c1, c2, c3⟩ := tl_cells B0
  obtain ⟨d0, d1, d2, d3⟩ := tl_cells B1
  obtain ⟨e0, e1, e2, e3⟩ := tl_cells B2
  have H0 := hide B0
  have H1 := hide B1
  have H2 := hide B2
  have HT := hide TT
  clear B0 B1 B2 TT
  go_wp2_with fail
  refine (C4 _).out.mono ?_
  rintro e w4 ⟨rfl, T⟩
  have B0 := T.at H0.out
  have B1 := T.at H1.out
  have B2 := T.at H2.out
  have TT := HT.out.tr T
  clear H0 H1 H2 HT T C4 c0 c1 c2 c3 d0 d1 d2 d3 e0 e1 e2 e3
  obtain ⟨c0, c1, c2, c3⟩ := tl_cells B0
  obtain ⟨d0, d1, d2, d3⟩ := tl_cells B1
  obtain ⟨e0, e1, e2, e3⟩ := tl_cells B2
  have H0 := hide B0
  have H1 := hide B1
  have H2 := hide B2
  have HT := hide TT
  clear B0 B1 B2 TT
  go_wp2_with fail
  refine (C5 _).out.mono ?_
  rintro e w5 ⟨rfl, T⟩
  have B0 := T.at H0.out
  have B1 := T.at H1.out
  have B2 := T.at H2.out
  have TT := HT.out.tr T
  clear H0 H1 H2 HT T C5 c0 c1 c2 c3 d0 d1 d2 d3 e0 e1 e2 e3
  by_cases hy : 0 < y
  · clear HZ C6
    obtain ⟨c0, c1, c2, c3⟩ := tl_cells B0
    obtain ⟨d0, d1, d2, d3⟩ := tl_cells B1
    obtain ⟨e0, e1, e2, e3⟩ := tl_cells B2
    have H0 := hide B0
    have H1 := hide B1
    have H2 := hide B2
    have HT := hide TT
    clear B0 B1 B2 TT
    go_wp2_with fail
    refine (C7 _).out.mono ?_
    rintro e w6 ⟨rfl, T⟩
    have B0 := T.at H0.out
    have B1 := T.at H1.out
    have B2 := T.at H2.out
    have TT := HT.out.tr T
    clear H0 H1 H2 HT T C7 c0 c1 c2 c3 d0 d1 d2 d3 e0 e1 e2 e3
    obtain ⟨c0, c1, c2, c3⟩ := tl_cells B0
    obtain ⟨d0, d1, d2, d3⟩ := tl_cells B1
    obtain ⟨e0, e1, e2, e3⟩ := tl_cells B2
    have H0 := hide B0
    have H1 := hide B1
    have H2 := hide B2
    have HT := hide TT
    clear B0 B1 B2 TT
    go_wp2_with fail
    refine (C8 _).out.mono ?_
    rintro e w7 ⟨rfl, T⟩
    have B0 := T.at H0.out
    have B1 := T.at H1.out
    have B2 := T.at H2.out
    have TT := HT.out.tr T
    clear H0 H1 H2 HT T C8 c0 c1 c2 c3 d0 d1 d2 d3 e0 e1 e2 e3
    have HT := hide TT
    clear B0 B1 B2 TT
    go_wp2_with fail
    go_ret
    exact ⟨rfl, HT.out⟩
  · have hz : z ≤ 0 := HZ.out (by omega)
    have hd : decide (z ≤ 0) = true := decide_eq_true hz
    clear HZ hz
    obtain ⟨c0, c1, c2, c3⟩ := tl_cells B0
    obtain ⟨d0, d1, d2, d3⟩ := tl_cells B1
    obtain ⟨e0, e1, e2, e3⟩ := tl_cells B2
    have H0 := hide B0
    have H1 := hide B1
    have H2 := hide B2
    have HT := hide TT
    clear B0 B1 B2 TT
    go_wp2_with fail
    refine (C6 _).out.mono ?_
    rintro e w6 ⟨rfl, T⟩
    have B0 := T.at H0.out
    have B1 := T.at H1.out
    have B2 := T.at H2.out
    have TT := HT.out.tr T
    clear H0 H1 H2 HT T C6 c0 c1 c2 c3 d0 d1 d2 d3 e0 e1 e2 e3
    obtain ⟨c0, c1, c2, c3⟩ := tl_cells B0
    obtain ⟨d0, d1, d2, d3⟩ := tl_cells B1
    obtain ⟨e0, e1, e2, e3⟩ := tl_cells B2
    have H0 := hide B0
    have H1 := hide B1
    have H2 := hide B2
    have HT := hide TT
    clear B0 B1 B2 TT
    go_wp2_with fail
    refine (C7 _).out.mono ?_
    rintro e w7 ⟨rfl, T⟩
    have B0 := T.at H0.out
    have B1 := T.at H1.out
    have B2 := T.at H2.out
    have TT := HT.out.tr T
    clear H0 H1 H2 HT T C7 c0 c1 c2 c3 d0 d1 d2 d3 e0 e1 e2 e3
    obtain ⟨c0, c1, c2, c3⟩ := tl_cells B0
    obtain ⟨d0, d1, d2, d3⟩ := tl_cells B1
    obtain ⟨e0, e1, e2, e3⟩ := tl_cells B2
    have H0 := hide B0
    have H1 := hide B1
    have H2 := hide B2
    have HT := hide TT
    clear B0 B1 B2 TT
    go_wp2_with fail
    refine (C8 _).out.mono ?_
    rintro e w8 ⟨rfl, T⟩
    have B0 := T.at H0.out
    have B1 := T.at H1.out
    have B2 := T.at H2.out
    have TT := HT.out.tr T
    clear H0 H1 H2 HT T C8 c0 c1 c2 c3 d0 d1 d2 d3 e0 e1 e2 e3
    have HT := hide TT
    clear B0 B1 B2 TT
    go_wp2_with fail
    go_ret
    exact ⟨rfl, HT.out⟩

set_option maxRecDepth 100000 in
set_option maxHeartbeats 2000000 in
theorem cp_p2 (a c : Tl) (m1 x1 : Int) (y : Int) (h2 : ¬ a.m = m1) (w : World)
    (C1 : ∀ w, Hid (Calls Tryd.prog 24 #[tlv a, tlv ⟨a.c, a.s, m1, x1⟩] w fun e w' => e = .returned (.int .i64 1) ∧ Calm w w'))
    (C2 : ∀ w, Hid (Calls Tryd.prog 24 #[tlv ⟨a.c, a.s, m1, x1⟩, tlv c] w fun e w' => e = .returned (.int .i64 y) ∧ Calm w w'))
    (C3 : ∀ w, Hid (Calls Tryd.prog 25 #[tlv a, tlv ⟨a.c, a.s, m1, x1⟩] w fun e w' => e = .returned (.int .i64 1) ∧ Calm w w'))
    (C4 : ∀ w, Hid (Calls Tryd.prog 24 #[tlv ⟨a.c, a.s, m1, x1⟩, tlv a] w fun e w' => e = .returned (.int .i64 (-1)) ∧ Calm w w'))
    (C5 : ∀ w, Hid (Calls Tryd.prog 25 #[tlv ⟨a.c, a.s, m1, x1⟩, tlv c] w fun e w' => e = .returned (.int .i64 y) ∧ Calm w w'))
    
    (C7 : ∀ w, Hid (Calls Tryd.prog 24 #[tlv a, tlv a] w fun e w' => e = .returned (.int .i64 0) ∧ Calm w w')) :
    Calls Tryd.prog 7 #[tlv a, tlv ⟨a.c, a.s, m1, x1⟩, tlv c] w fun e w' => e = .returned (.bool true) ∧ Calm w w' := by
  have C8 := fun w => hide (works_any w)
  go_enter Tryd.func7, Tryd.ntmps7
  go_wp2_with fail
  obtain ⟨A0, A1, A2⟩ := al3 w (.cells (tlc a) 24) (.cells (tlc ⟨a.c, a.s, m1, x1⟩) 24) (.cells (tlc c) 24)
  have T0 : Calm w (((w.alloc (.cells (tlc a) 24)).alloc (.cells (tlc ⟨a.c, a.s, m1, x1⟩) 24)).alloc (.cells (tlc c) 24)) := (((Touch.refl (fun _ => False) w).alloc _).alloc _).alloc _
  refine (C1 _).out.mono ?_
  rintro e w1 ⟨rfl, T⟩
  have B0 := T.at A0
  have B1 := T.at A1
  have B2 := T.at A2
  have TT := T0.tr T
  clear A0 A1 A2 T T0 C1
  generalize w.heap.size = B at *
  obtain ⟨c0, c1, c2, c3⟩ := tl_cells B0
  obtain ⟨d0, d1, d2, d3⟩ := tl_cells B1
  obtain ⟨e0, e1, e2, e3⟩ := tl_cells B2
  have H0 := hide B0
  have H1 := hide B1
  have H2 := hide B2
  have HT := hide TT
  clear B0 B1 B2 TT
  go_wp2_with fail
  refine (C2 _).out.mono ?_
  rintro e w2 ⟨rfl, T⟩
  have B0 := T.at H0.out
  have B1 := T.at H1.out
  have B2 := T.at H2.out
  have TT := HT.out.tr T
  clear H0 H1 H2 HT T C2 c0 c1 c2 c3 d0 d1 d2 d3 e0 e1 e2 e3
  obtain ⟨c0, c1, c2, c3⟩ := tl_cells B0
  obtain ⟨d0, d1, d2, d3⟩ := tl_cells B1
  obtain ⟨e0, e1, e2, e3⟩ := tl_cells B2
  have H0 := hide B0
  have H1 := hide B1
  have H2 := hide B2
  have HT := hide TT
  clear B0 B1 B2 TT
  go_wp2_with fail
  refine (C3 _).out.mono ?_
  rintro e w3 ⟨rfl, T⟩
  have B0 := T.at H0.out
  have B1 := T.at H1.out
  have B2 := T.at H2.out
  have TT := HT.out.tr T
  clear H0 H1 H2 HT T C3 c0 c1 c2 c3 d0 d1 d2 d3 e0 e1 e2 e3
  obtain ⟨c0, c1, c2, c3⟩ := tl_cells B0
  obtain ⟨d0, d1, d2, d3⟩ := tl_cells B1
  obtain ⟨e0, e1, e2, e3⟩ := tl_cells B2
  have H0 := hide B0
  have H1 := hide B1
  have H2 := hide B2
  have HT := hide TT
  clear B0 B1 B2 TT
  go_wp2_with fail
  refine (C4 _).out.mono ?_
  rintro e w4 ⟨rfl, T⟩
  have B0 := T.at H0.out
  have B1 := T.at H1.out
  have B2 := T.at H2.out
  have TT := HT.out.tr T
  clear H0 H1 H2 HT T C4 c0 c1 c2 c3 d0 d1 d2 d3 e0 e1 e2 e3
  obtain ⟨c0, c1, c2, c3⟩ := tl_cells B0
  obtain ⟨d0, d1, d2, d3⟩ := tl_cells B1
  obtain ⟨e0, e1, e2, e3⟩ := tl_cells B2
  have H0 := hide B0
  have H1 := hide B1
  have H2 := hide B2
  have HT := hide TT
  clear B0 B1 B2 TT
  go_wp2_with fail
  refine (C5 _).out.mono ?_
  rintro e w5 ⟨rfl, T⟩
  have B0 := T.at H0.out
  have B1 := T.at H1.out
  have B2 := T.at H2.out
  have TT := HT.out.tr T
  clear H0 H1 H2 HT T C5 c0 c1 c2 c3 d0 d1 d2 d3 e0 e1 e2 e3
  obtain ⟨c0, c1, c2, c3⟩ := tl_cells B0
  obtain ⟨d0, d1, d2, d3⟩ := tl_cells B1
  obtain ⟨e0, e1, e2, e3⟩ := tl_cells B2
  have H0 := hide B0
  have H1 := hide B1
  have H2 := hide B2
  have HT := hide TT
  clear B0 B1 B2 TT
  go_wp2_with fail
  refine (C7 _).out.mono ?_
  rintro e w6 ⟨rfl, T⟩
  have B0 := T.at H0.out
  have B1 := T.at H1.out
  have B2 := T.at H2.out
  have TT := HT.out.tr T
  clear H0 H1 H2 HT T C7 c0 c1 c2 c3 d0 d1 d2 d3 e0 e1 e2 e3
  obtain ⟨c0, c1, c2, c3⟩ := tl_cells B0
  obtain ⟨d0, d1, d2, d3⟩ := tl_cells B1
  obtain ⟨e0, e1, e2, e3⟩ := tl_cells B2
  have H0 := hide B0
  have H1 := hide B1
  have H2 := hide B2
  have HT := hide TT
  clear B0 B1 B2 TT
  go_wp2_with fail
  refine (C8 _).out.mono ?_
  rintro e w7 ⟨rfl, T⟩
  have B0 := T.at H0.out
  have B1 := T.at H1.out
  have B2 := T.at H2.out
  have TT := HT.out.tr T
  clear H0 H1 H2 HT T C8 c0 c1 c2 c3 d0 d1 d2 d3 e0 e1 e2 e3
  have HT := hide TT
  clear B0 B1 B2 TT
  go_wp2_with fail
  go_ret
  exact ⟨rfl, HT.out⟩

set_option maxRecDepth 100000 in
set_option maxHeartbeats 2000000 in
theorem cp_n3 (a c : Tl) (x1 : Int) (y z : Int) (hz : y ≤ 0 → z ≤ 0) (h3 : ¬ a.x = x1) (w : World)
    (C1 : ∀ w, Hid (Calls Tryd.prog 24 #[tlv a, tlv ⟨a.c, a.s, a.m, x1⟩] w fun e w' => e = .returned (.int .i64 (-1)) ∧ Calm w w'))
    (C2 : ∀ w, Hid (Calls Tryd.prog 24 #[tlv ⟨a.c, a.s, a.m, x1⟩, tlv c] w fun e w' => e = .returned (.int .i64 y) ∧ Calm w w'))
    (C3 : ∀ w, Hid (Calls Tryd.prog 25 #[tlv a, tlv ⟨a.c, a.s, a.m, x1⟩] w fun e w' => e = .returned (.int .i64 (-1)) ∧ Calm w w'))
    (C4 : ∀ w, Hid (Calls Tryd.prog 24 #[tlv ⟨a.c, a.s, a.m, x1⟩, tlv a] w fun e w' => e = .returned (.int .i64 1) ∧ Calm w w'))
    (C5 : ∀ w, Hid (Calls Tryd.prog 25 #[tlv ⟨a.c, a.s, a.m, x1⟩, tlv c] w fun e w' => e = .returned (.int .i64 y) ∧ Calm w w'))
    (C6 : ∀ w, Hid (Calls Tryd.prog 24 #[tlv a, tlv c] w fun e w' => e = .returned (.int .i64 z) ∧ Calm w w'))
    (C7 : ∀ w, Hid (Calls Tryd.prog 24 #[tlv a, tlv a] w fun e w' => e = .returned (.int .i64 0) ∧ Calm w w')) :
    Calls Tryd.prog 7 #[tlv a, tlv ⟨a.c, a.s, a.m, x1⟩, tlv c] w fun e w' => e = .returned (.bool true) ∧ Calm w w' := by
  have C8 := fun w => hide (works_any w)
  have HZ := hide hz
  clear hz
  go_enter Tryd.func7, Tryd.ntmps7
  go_wp2_with fail
  obtain ⟨A0, A1, A2⟩ := al3 w (.cells (tlc a) 24) (.cells (tlc ⟨a.c, a.s, a.m, x1⟩) 24) (.cells (tlc c) 24)
  have T0 : Calm w (((w.alloc (.cells (tlc a) 24)).alloc (.cells (tlc ⟨a.c, a.s, a.m, x1⟩) 24)).alloc (.cells (tlc c) 24)) := (((Touch.refl (fun _ => False) w).alloc _).alloc _).alloc _
  refine (C1 _).out.mono ?_
  rintro e w1 ⟨rfl, T⟩
  have B0 := T.at A0
  have B1 := T.at A1
  have B2 := T.at A2
  have TT := T0.tr T
  clear A0 A1 A2 T T0 C1
  generalize w.heap.size = B at *
  obtain ⟨c0, c1, c2, c3⟩ := tl_cells B0
  obtain ⟨d0, d1, d2, d3⟩ := tl_cells B1
  obtain ⟨e0, e1, e2, e3⟩ := tl_cells B2
  have H0 := hide B0
  have H1 := hide B1
  have H2 := hide B2
  have HT := hide TT
  clear B0 B1 B2 TT
  go_wp2_with fail
  refine (C2 _).out.mono ?_
  rintro e w2 ⟨rfl, T⟩
  have B0 := T.at H0.out
  have B1 := T.at H1.out
  have B2 := T.at H2.out
  have TT := HT.out.tr T
  clear H0 H1 H2 HT T C2 c0 c1 c2 c3 d0 d1 d2 d3 e0 e1 e2 e3
  obtain ⟨c0, c1, c2, c3⟩ := tl_cells B0
  obtain ⟨d0, d1, d2, d3⟩ := tl_cells B1
  obtain ⟨e0, e1, e2, e3⟩ := tl_cells B2
  have H0 := hide B0
  have H1 := hide B1
  have H2 := hide B2
  have HT := hide TT
  clear B0 B1 B2 TT
  go_wp2_with fail
  refine (C3 _).out.mono ?_
  rintro e w3 ⟨rfl, T⟩
  have B0 := T.at H0.out
  have B1 := T.at H1.out
  have B2 := T.at H2.out
  have TT := HT.out.tr T
  clear H0 H1 H2 HT T C3 c0 c1 c2 c3 d0 d1 d2 d3 e0 e1 e2 e3
  obtain ⟨c0, c1, c2, c3⟩ := tl_cells B0
  obtain ⟨d0, d1, d2, d3⟩ := tl_cells B1
  obtain ⟨e0, e1, e2, e3⟩ := tl_cells B2
  have H0 := hide B0
  have H1 := hide B1
  have H2 := hide B2
  have HT := hide TT
  clear B0 B1 B2 TT
  go_wp2_with fail
  refine (C4 _).out.mono ?_
  rintro e w4 ⟨rfl, T⟩
  have B0 := T.at H0.out
  have B1 := T.at H1.out
  have B2 := T.at H2.out
  have TT := HT.out.tr T
  clear H0 H1 H2 HT T C4 c0 c1 c2 c3 d0 d1 d2 d3 e0 e1 e2 e3
  obtain ⟨c0, c1, c2, c3⟩ := tl_cells B0
  obtain ⟨d0, d1, d2, d3⟩ := tl_cells B1
  obtain ⟨e0, e1, e2, e3⟩ := tl_cells B2
  have H0 := hide B0
  have H1 := hide B1
  have H2 := hide B2
  have HT := hide TT
  clear B0 B1 B2 TT
  go_wp2_with fail
  refine (C5 _).out.mono ?_
  rintro e w5 ⟨rfl, T⟩
  have B0 := T.at H0.out
  have B1 := T.at H1.out
  have B2 := T.at H2.out
  have TT := HT.out.tr T
  clear H0 H1 H2 HT T C5 c0 c1 c2 c3 d0 d1 d2 d3 e0 e1 e2 e3
  by_cases hy : 0 < y
  · clear HZ C6
    obtain ⟨c0, c1, c2, c3⟩ := tl_cells B0
    obtain ⟨d0, d1, d2, d3⟩ := tl_cells B1
    obtain ⟨e0, e1, e2, e3⟩ := tl_cells B2
    have H0 := hide B0
    have H1 := hide B1
    have H2 := hide B2
    have HT := hide TT
    clear B0 B1 B2 TT
    go_wp2_with fail
    refine (C7 _).out.mono ?_
    rintro e w6 ⟨rfl, T⟩
    have B0 := T.at H0.out
    have B1 := T.at H1.out
    have B2 := T.at H2.out
    have TT := HT.out.tr T
    clear H0 H1 H2 HT T C7 c0 c1 c2 c3 d0 d1 d2 d3 e0 e1 e2 e3
    obtain ⟨c0, c1, c2, c3⟩ := tl_cells B0
    obtain ⟨d0, d1, d2, d3⟩ := tl_cells B1
    obtain ⟨e0, e1, e2, e3⟩ := tl_cells B2
    have H0 := hide B0
    have H1 := hide B1
    have H2 := hide B2
    have HT := hide TT
    clear B0 B1 B2 TT
    go_wp2_with fail
    refine (C8 _).out.mono ?_
    rintro e w7 ⟨rfl, T⟩
    have B0 := T.at H0.out
    have B1 := T.at H1.out
    have B2 := T.at H2.out
    have TT := HT.out.tr T
    clear H0 H1 H2 HT T C8 c0 c1 c2 c3 d0 d1 d2 d3 e0 e1 e2 e3
    have HT := hide TT
    clear B0 B1 B2 TT
    go_wp2_with fail
    go_ret
    exact ⟨rfl, HT.out⟩
  · have hz : z ≤ 0 := HZ.out (by omega)
    have hd : decide (z ≤ 0) = true := decide_eq_true hz
    clear HZ hz
    obtain ⟨c0, c1, c2, c3⟩ := tl_cells B0
    obtain ⟨d0, d1, d2, d3⟩ := tl_cells B1
    obtain ⟨e0, e1, e2, e3⟩ := tl_cells B2
    have H0 := hide B0
    have H1 := hide B1
    have H2 := hide B2
    have HT := hide TT
    clear B0 B1 B2 TT
    go_wp2_with fail
    refine (C6 _).out.mono ?_
    rintro e w6 ⟨rfl, T⟩
    have B0 := T.at H0.out
    have B1 := T.at H1.out
    have B2 := T.at H2.out
    have TT := HT.out.tr T
    clear H0 H1 H2 HT T C6 c0 c1 c2 c3 d0 d1 d2 d3 e0 e1 e2 e3
    obtain ⟨c0, c1, c2, c3⟩ := tl_cells B0
    obtain ⟨d0, d1, d2, d3⟩ := tl_cells B1
    obtain ⟨e0, e1, e2, e3⟩ := tl_cells B2
    have H0 := hide B0
    have H1 := hide B1
    have H2 := hide B2
    have HT := hide TT
    clear B0 B1 B2 TT
    go_wp2_with fail
    refine (C7 _).out.mono ?_
    rintro e w7 ⟨rfl, T⟩
    have B0 := T.at H0.out
    have B1 := T.at H1.out
    have B2 := T.at H2.out
    have TT := HT.out.tr T
    clear H0 H1 H2 HT T C7 c0 c1 c2 c3 d0 d1 d2 d3 e0 e1 e2 e3
    obtain ⟨c0, c1, c2, c3⟩ := tl_cells B0
    obtain ⟨d0, d1, d2, d3⟩ := tl_cells B1
    obtain ⟨e0, e1, e2, e3⟩ := tl_cells B2
    have H0 := hide B0
    have H1 := hide B1
    have H2 := hide B2
    have HT := hide TT
    clear B0 B1 B2 TT
    go_wp2_with fail
    refine (C8 _).out.mono ?_
    rintro e w8 ⟨rfl, T⟩
    have B0 := T.at H0.out
    have B1 := T.at H1.out
    have B2 := T.at H2.out
    have TT := HT.out.tr T
    clear H0 H1 H2 HT T C8 c0 c1 c2 c3 d0 d1 d2 d3 e0 e1 e2 e3
    have HT := hide TT
    clear B0 B1 B2 TT
    go_wp2_with fail
    go_ret
    exact ⟨rfl, HT.out⟩

set_option maxRecDepth 100000 in
set_option maxHeartbeats 2000000 in
theorem cp_p3 (a c : Tl) (x1 : Int) (y : Int) (h3 : ¬ a.x = x1) (w : World)
    (C1 : ∀ w, Hid (Calls Tryd.prog 24 #[tlv a, tlv ⟨a.c, a.s, a.m, x1⟩] w fun e w' => e = .returned (.int .i64 1) ∧ Calm w w'))
    (C2 : ∀ w, Hid (Calls Tryd.prog 24 #[tlv ⟨a.c, a.s, a.m, x1⟩, tlv c] w fun e w' => e = .returned (.int .i64 y) ∧ Calm w w'))
    (C3 : ∀ w, Hid (Calls Tryd.prog 25 #[tlv a, tlv ⟨a.c, a.s, a.m, x1⟩] w fun e w' => e = .returned (.int .i64 1) ∧ Calm w w'))
    (C4 : ∀ w, Hid (Calls Tryd.prog 24 #[tlv ⟨a.c, a.s, a.m, x1⟩, tlv a] w fun e w' => e = .returned (.int .i64 (-1)) ∧ Calm w w'))
    (C5 : ∀ w, Hid (Calls Tryd.prog 25 #[tlv ⟨a.c, a.s, a.m, x1⟩, tlv c] w fun e w' => e = .returned (.int .i64 y) ∧ Calm w w'))
    
    (C7 : ∀ w, Hid (Calls Tryd.prog 24 #[tlv a, tlv a] w fun e w' => e = .returned (.int .i64 0) ∧ Calm w w')) :
    Calls Tryd.prog 7 #[tlv a, tlv ⟨a.c, a.s, a.m, x1⟩, tlv c] w fun e w' => e = .returned (.bool true) ∧ Calm w w' := by
  have C8 := fun w => hide (works_any w)
  go_enter Tryd.func7, Tryd.ntmps7
  go_wp2_with fail
  obtain ⟨A0, A1, A2⟩ := al3 w (.cells (tlc a) 24) (.cells (tlc ⟨a.c, a.s, a.m, x1⟩) 24) (.cells (tlc c) 24)
  have T0 : Calm w (((w.alloc (.cells (tlc a) 24)).alloc (.cells (tlc ⟨a.c, a.s, a.m, x1⟩) 24)).alloc (.cells (tlc c) 24)) := (((Touch.refl (fun _ => False) w).alloc _).alloc _).alloc _
  refine (C1 _).out.mono ?_
  rintro e w1 ⟨rfl, T⟩
  have B0 := T.at A0
  have B1 := T.at A1
  have B2 := T.at A2
  have TT := T0.tr T
  clear A0 A1 A2 T T0 C1
  generalize w.heap.size = B at *
  obtain ⟨c0, c1, c2, c3⟩ := tl_cells B0
  obtain ⟨d0, d1, d2, d3⟩ := tl_cells B1
  obtain ⟨e0, e1, e2, e3⟩ := tl_cells B2
  have H0 := hide B0
  have H1 := hide B1
  have H2 := hide B2
  have HT := hide TT
  clear B0 B1 B2 TT
  go_wp2_with fail
  refine (C2 _).out.mono ?_
  rintro e w2 ⟨rfl, T⟩
  have B0 := T.at H0.out
  have B1 := T.at H1.out
  have B2 := T.at H2.out
  have TT := HT.out.tr T
  clear H0 H1 H2 HT T C2 c0 c1 c2 c3 d0 d1 d2 d3 e0 e1 e2 e3
  obtain ⟨c0, c1, c2, c3⟩ := tl_cells B0
  obtain ⟨d0, d1, d2, d3⟩ := tl_cells B1
  obtain ⟨e0, e1, e2, e3⟩ := tl_cells B2
  have H0 := hide B0
  have H1 := hide B1
  have H2 := hide B2
  have HT := hide TT
  clear B0 B1 B2 TT
  go_wp2_with fail
  refine (C3 _).out.mono ?_
  rintro e w3 ⟨rfl, T⟩
  have B0 := T.at H0.out
  have B1 := T.at H1.out
  have B2 := T.at H2.out
  have TT := HT.out.tr T
  clear H0 H1 H2 HT T C3 c0 c1 c2 c3 d0 d1 d2 d3 e0 e1 e2 e3
  obtain ⟨c0, c1, c2, c3⟩ := tl_cells B0
  obtain ⟨d0, d1, d2, d3⟩ := tl_cells B1
  obtain ⟨e0, e1, e2, e3⟩ := tl_cells B2
  have H0 := hide B0
  have H1 := hide B1
  have H2 := hide B2
  have HT := hide TT
  clear B0 B1 B2 TT
  go_wp2_with fail
  refine (C4 _).out.mono ?_
  rintro e w4 ⟨rfl, T⟩
  have B0 := T.at H0.out
  have B1 := T.at H1.out
  have B2 := T.at H2.out
  have TT := HT.out.tr T
  clear H0 H1 H2 HT T C4 c0 c1 c2 c3 d0 d1 d2 d3 e0 e1 e2 e3
  obtain ⟨c0, c1, c2, c3⟩ := tl_cells B0
  obtain ⟨d0, d1, d2, d3⟩ := tl_cells B1
  obtain ⟨e0, e1, e2, e3⟩ := tl_cells B2
  have H0 := hide B0
  have H1 := hide B1
  have H2 := hide B2
  have HT := hide TT
  clear B0 B1 B2 TT
  go_wp2_with fail
  refine (C5 _).out.mono ?_
  rintro e w5 ⟨rfl, T⟩
  have B0 := T.at H0.out
  have B1 := T.at H1.out
  have B2 := T.at H2.out
  have TT := HT.out.tr T
  clear H0 H1 H2 HT T C5 c0 c1 c2 c3 d0 d1 d2 d3 e0 e1 e2 e3
  obtain ⟨c0, c1, c2, c3⟩ := tl_cells B0
  obtain ⟨d0, d1, d2, d3⟩ := tl_cells B1
  obtain ⟨e0, e1, e2, e3⟩ := tl_cells B2
  have H0 := hide B0
  have H1 := hide B1
  have H2 := hide B2
  have HT := hide TT
  clear B0 B1 B2 TT
  go_wp2_with fail
  refine (C7 _).out.mono ?_
  rintro e w6 ⟨rfl, T⟩
  have B0 := T.at H0.out
  have B1 := T.at H1.out
  have B2 := T.at H2.out
  have TT := HT.out.tr T
  clear H0 H1 H2 HT T C7 c0 c1 c2 c3 d0 d1 d2 d3 e0 e1 e2 e3
  obtain ⟨c0, c1, c2, c3⟩ := tl_cells B0
  obtain ⟨d0, d1, d2, d3⟩ := tl_cells B1
  obtain ⟨e0, e1, e2, e3⟩ := tl_cells B2
  have H0 := hide B0
  have H1 := hide B1
  have H2 := hide B2
  have HT := hide TT
  clear B0 B1 B2 TT
  go_wp2_with fail
  refine (C8 _).out.mono ?_
  rintro e w7 ⟨rfl, T⟩
  have B0 := T.at H0.out
  have B1 := T.at H1.out
  have B2 := T.at H2.out
  have TT := HT.out.tr T
  clear H0 H1 H2 HT T C8 c0 c1 c2 c3 d0 d1 d2 d3 e0 e1 e2 e3
  have HT := hide TT
  clear B0 B1 B2 TT
  go_wp2_with fail
  go_ret
  exact ⟨rfl, HT.out⟩

theorem compares_walk (a b c : Tl) (w : World) : Calls Tryd.prog 7 #[tlv a, tlv b, tlv c] w fun e w' => e = .returned (.bool true) ∧ Calm w w' := by
  have C1 := fun w => hide (compare_any a b w)
  have C2 := fun w => hide (compare_any b c w)
  have C3 := fun w => hide (rcompare_any a b w)
  have C4 := fun w => hide (compare_any b a w)
  have C5 := fun w => hide (rcompare_any b c w)
  have C6 := fun w => hide (compare_any a c w)
  have C7 := fun w => hide (compare_any a a w)
  rw [cmpT_anti a b] at C4
  rw [cmpT_same a] at C7
  have TR : cmpT a b ≤ 0 → cmpT b c ≤ 0 → cmpT a c ≤ 0 := cmpT_trans
  have ZZ : cmpT a b = 0 → a = b := cmpT_zero
  have NZ : cmpT a b ≠ 0 → a ≠ b := fun h e => h (by rw [e]; exact cmpT_same b)
  have V1 := cmpT_val a b
  generalize cmpT a b = x at *
  generalize cmpT b c = y at *
  generalize cmpT a c = z at *
  obtain ⟨bc, bs, bm, bx⟩ := b
  rcases V1 with rfl | rfl | rfl
  · have hz : y ≤ 0 → z ≤ 0 := fun h => TR (by decide) h
    rcases tl_differ (NZ (by decide)) with h0 | ⟨h0, h1⟩ | ⟨h0, h1, h2⟩ | ⟨h0, h1, h2, h3⟩
    · exact cp_n0 a _ c y z hz h0 w C1 C2 C3 C4 C5 C6 C7
    · simp only at h0; subst h0; exact cp_n1 a c bs bm bx y z hz h1 w C1 C2 C3 C4 C5 C6 C7
    · simp only at h0 h1; subst h0 h1; exact cp_n2 a c bm bx y z hz h2 w C1 C2 C3 C4 C5 C6 C7
    · simp only at h0 h1 h2; subst h0 h1 h2; exact cp_n3 a c bx y z hz h3 w C1 C2 C3 C4 C5 C6 C7
  · have hz : y ≤ 0 → z ≤ 0 := fun h => TR (by decide) h
    have e := ZZ rfl
    rw [← e] at C1 C2 C3 C4 C5 ⊢
    exact cp_z a c y z hz w C1 C2 C3 C4 C5 C6 C7
  · rcases tl_differ (NZ (by decide)) with h0 | ⟨h0, h1⟩ | ⟨h0, h1, h2⟩ | ⟨h0, h1, h2, h3⟩
    · exact cp_p0 a _ c y h0 w C1 C2 C3 C4 C5 C7
    · simp only at h0; subst h0; exact cp_p1 a c bs bm bx y h1 w C1 C2 C3 C4 C5 C7
    · simp only at h0 h1; subst h0 h1; exact cp_p2 a c bm bx y h2 w C1 C2 C3 C4 C5 C7
    · simp only at h0 h1 h2; subst h0 h1 h2; exact cp_p3 a c bx y h3 w C1 C2 C3 C4 C5 C7

end Go.Proofs.YtakpeopghhblmaaDoor
