/- Items (the document's Time, Item). -/
import Derived.Test.YtjambfncemlenaaDoorCA
import Derived.Laws.StructEq
namespace Go.Proofs.YtjambfncemlenaaDoor
open Go.RowKit

/-- A time? -/
def timeB (t : Int) : Bool := inB t (-4611686018427387904) 4611686018427387904

set_option maxRecDepth 100000 in
theorem rtime_any (t : Int) (w : World) : Calls Tryd.prog 45 #[.int .i64 t] w fun e w' => e = .returned (.bool (timeB t)) ∧ w' = w := by
  have CW := fun w => hide (rwithin_any t (-4611686018427387904) 4611686018427387904 w)
  have HT : Hid (timeB t = inB t (-4611686018427387904) 4611686018427387904) := hide rfl
  generalize inB t (-4611686018427387904) 4611686018427387904 = X at *
  go_enter Tryd.func45, Tryd.ntmps45
  go_wp2_with fail
  refine (CW _).out.mono ?_
  rintro e w1 ⟨rfl, rfl⟩
  go_wp2_with fail
  go_ret
  exact ⟨by rw [HT.out]; rfl, rfl⟩

/-- An item. -/
structure It where
  ki : Int
  ke : ByteArray
  tm : Int
  va : Int
  sr : Int
abbrev itc (x : It) : Array Value := #[.int .i64 x.ki, .string x.ke, .int .i64 x.tm, .int .i64 x.va, .int .i64 x.sr]
abbrev itv (x : It) : Value := .agg (itc x)
theorem it_cells {w : World} {b : Nat} {x : It} {ty : TypeId} (h : w.heap[b]? = some (.cells (itc x) ty (0, 0))) :
    w.cell? ⟨b, 0, none⟩ = some (.int .i64 x.ki) ∧ w.cell? ⟨b, 1, none⟩ = some (.string x.ke) ∧ w.cell? ⟨b, 2, none⟩ = some (.int .i64 x.tm) ∧ w.cell? ⟨b, 3, none⟩ = some (.int .i64 x.va) ∧ w.cell? ⟨b, 4, none⟩ = some (.int .i64 x.sr) := by simp [World.cell?, h]

/-- May the item be for the job? -/
def itemB (c : Cf) (x : It) : Bool :=
  if x.ki = 1 then (decide (x.ke.size ≤ 256) && timeB x.tm) && x.sr == 0
  else if x.ki = 2 then (((decide (0 ≤ x.sr) && decide (x.sr < c.so)) && timeB x.tm) && x.ke.toList == []) && x.va == 0
  else if x.ki = 3 then x.ke.toList == [] && (x.tm == 0 && (x.va == 0 && x.sr == 0))
  else false
/-- What the document's Item answers. -/
def itemN (c : Cf) (x : It) : Nat := if wrongN c ≠ 0 then 4 else if itemB c x then 0 else 5

set_option maxRecDepth 100000 in
set_option maxHeartbeats 2000000 in
theorem ritem_wrong (c : Cf) (x : It) (hw : wrongN c ≠ 0) (w : World) : Calls Tryd.prog 20 #[cfv c, itv x] w fun e w' => e = .returned (.int .i64 4) ∧ Calm w w' := by
  have CW := fun w => hide (rwrong_any c w)
  generalize wrongN c = N9 at *
  have hNz : ¬ (N9 : Int) = 0 := by omega
  have T0 := hide (((Touch.refl (fun _ => False) w).alloc (.cells (cfc c) 24)).alloc (.cells (itc x) 49))
  go_enter Tryd.func20, Tryd.ntmps20
  go_wp2_with fail
  refine (CW _).out.mono ?_
  rintro e w1 ⟨rfl, T1⟩
  have HT := hide (T0.out.tr T1)
  clear CW T0 T1
  go_wp2_with fail
  go_ret
  exact ⟨rfl, HT.out⟩

set_option maxRecDepth 100000 in
set_option maxHeartbeats 4000000 in
theorem ritem_3 (c : Cf) (x : It) (hw : wrongN c = 0) (hk : x.ki = 3) (w : World) : Calls Tryd.prog 20 #[cfv c, itv x] w fun e w' => e = .returned (.int .i64 (if x.ke.toList == [] && (x.tm == 0 && (x.va == 0 && x.sr == 0)) then 0 else 5)) ∧ Calm w w' := by
  have CW := fun w => hide (rwrong_any c w)
  rw [hw] at CW
  clear hw
  obtain ⟨ki, ke, tm, va, sr⟩ := x
  simp only at hk
  subst hk
  obtain ⟨R, hR⟩ : ∃ R : Int, R = if ke.toList == [] && (tm == 0 && (va == 0 && sr == 0)) then 0 else 5 := ⟨_, rfl⟩
  have HR := hide hR
  simp only [← hR]
  clear hR
  have T0 := hide (((Touch.refl (fun _ => False) w).alloc (.cells (cfc c) 24)).alloc (.cells (itc ⟨3, ke, tm, va, sr⟩) 49))
  have A0 := hide (al_new (w.alloc (.cells (cfc c) 24)) (.cells (itc ⟨3, ke, tm, va, sr⟩) 49))
  have B0 := hide (al_old (al_new w (.cells (cfc c) 24)) (.cells (itc ⟨3, ke, tm, va, sr⟩) 49))
  go_enter Tryd.func20, Tryd.ntmps20
  go_wp2_with fail
  refine (CW _).out.mono ?_
  rintro e w1 ⟨rfl, T1⟩
  have HT := hide (T0.out.tr T1)
  have A1 := T1.at A0.out
  rw [al_size] at A1
  obtain ⟨c0, c1, c2, c3, c4⟩ := it_cells A1
  obtain ⟨⟨-, b1, -⟩, -⟩ := cf_cells (T1.at B0.out)
  clear CW T0 T1 A0 A1 B0
  go_wp2_with fail
  all_goals
    go_ret
    refine ⟨?_, HT.out⟩
    have hR := HR.out
    simp_all

set_option maxRecDepth 100000 in
set_option maxHeartbeats 4000000 in
theorem ritem_1 (c : Cf) (x : It) (hw : wrongN c = 0) (hk : x.ki = 1) (w : World) : Calls Tryd.prog 20 #[cfv c, itv x] w fun e w' => e = .returned (.int .i64 (if (decide (x.ke.size ≤ 256) && timeB x.tm) && x.sr == 0 then 0 else 5)) ∧ Calm w w' := by
  have CW := fun w => hide (rwrong_any c w)
  rw [hw] at CW
  clear hw
  obtain ⟨ki, ke, tm, va, sr⟩ := x
  simp only at hk
  subst hk
  obtain ⟨R, hR⟩ : ∃ R : Int, R = if (decide (ke.size ≤ 256) && timeB tm) && sr == 0 then 0 else 5 := ⟨_, rfl⟩
  have HR := hide hR
  simp only [← hR]
  clear hR
  have T0 := hide (((Touch.refl (fun _ => False) w).alloc (.cells (cfc c) 24)).alloc (.cells (itc ⟨1, ke, tm, va, sr⟩) 49))
  have A0 := hide (al_new (w.alloc (.cells (cfc c) 24)) (.cells (itc ⟨1, ke, tm, va, sr⟩) 49))
  have B0 := hide (al_old (al_new w (.cells (cfc c) 24)) (.cells (itc ⟨1, ke, tm, va, sr⟩) 49))
  have CT := fun w => hide (rtime_any tm w)
  generalize timeB tm = tb at *
  by_cases h1 : (ke.size : Int) ≤ 256
  · have h1d : decide ((ke.size : Int) ≤ 256) = true := decide_eq_true h1
    have h1n : decide (ke.size ≤ 256) = true := decide_eq_true (by omega)
    cases tb with
    | true =>
      have HF : Hid (R = if sr = 0 then 0 else 5) := hide (by rw [HR.out, h1n]; simp)
      clear HR h1
      go_enter Tryd.func20, Tryd.ntmps20
      go_wp2_with fail
      refine (CW _).out.mono ?_
      rintro e w1 ⟨rfl, T1⟩
      have HT := hide (T0.out.tr T1)
      have A1 := T1.at A0.out
      rw [al_size] at A1
      obtain ⟨c0, c1, c2, c3, c4⟩ := it_cells A1
      obtain ⟨⟨-, b1, -⟩, -⟩ := cf_cells (T1.at B0.out)
      clear CW T0 T1 A0 A1 B0
      go_wp2_with fail
      refine (CT _).out.mono ?_
      rintro e w2 ⟨rfl, rfl⟩
      go_wp2_with fail
      all_goals
        go_ret
        refine ⟨?_, HT.out⟩
        have hR := HF.out
        simp_all
    | false =>
      have HF : Hid (R = 5) := hide (by rw [HR.out, h1n]; simp)
      clear HR h1
      go_enter Tryd.func20, Tryd.ntmps20
      go_wp2_with fail
      refine (CW _).out.mono ?_
      rintro e w1 ⟨rfl, T1⟩
      have HT := hide (T0.out.tr T1)
      have A1 := T1.at A0.out
      rw [al_size] at A1
      obtain ⟨c0, c1, c2, c3, c4⟩ := it_cells A1
      obtain ⟨⟨-, b1, -⟩, -⟩ := cf_cells (T1.at B0.out)
      clear CW T0 T1 A0 A1 B0
      go_wp2_with fail
      refine (CT _).out.mono ?_
      rintro e w2 ⟨rfl, rfl⟩
      go_wp2_with fail
      go_ret
      exact ⟨by rw [HF.out]; rfl, HT.out⟩
  · have h1d : decide ((ke.size : Int) ≤ 256) = false := decide_eq_false h1
    have h1n : decide (ke.size ≤ 256) = false := decide_eq_false (by omega)
    have HF : Hid (R = 5) := hide (by rw [HR.out, h1n]; simp)
    clear HR h1
    go_enter Tryd.func20, Tryd.ntmps20
    go_wp2_with fail
    refine (CW _).out.mono ?_
    rintro e w1 ⟨rfl, T1⟩
    have HT := hide (T0.out.tr T1)
    have A1 := T1.at A0.out
    rw [al_size] at A1
    obtain ⟨c0, c1, c2, c3, c4⟩ := it_cells A1
    obtain ⟨⟨-, b1, -⟩, -⟩ := cf_cells (T1.at B0.out)
    clear CW T0 T1 A0 A1 B0
    go_wp2_with fail
    go_ret
    exact ⟨by rw [HF.out]; rfl, HT.out⟩

set_option maxRecDepth 100000 in
set_option maxHeartbeats 4000000 in
theorem ritem_2 (c : Cf) (x : It) (hw : wrongN c = 0) (hk : x.ki = 2) (w : World) : Calls Tryd.prog 20 #[cfv c, itv x] w fun e w' => e = .returned (.int .i64 (if (((decide (0 ≤ x.sr) && decide (x.sr < c.so)) && timeB x.tm) && x.ke.toList == []) && x.va == 0 then 0 else 5)) ∧ Calm w w' := by
  have CW := fun w => hide (rwrong_any c w)
  rw [hw] at CW
  clear hw
  obtain ⟨ki, ke, tm, va, sr⟩ := x
  simp only at hk
  subst hk
  obtain ⟨R, hR⟩ : ∃ R : Int, R = if (((decide (0 ≤ sr) && decide (sr < c.so)) && timeB tm) && ke.toList == []) && va == 0 then 0 else 5 := ⟨_, rfl⟩
  have HR := hide hR
  simp only [← hR]
  clear hR
  have T0 := hide (((Touch.refl (fun _ => False) w).alloc (.cells (cfc c) 24)).alloc (.cells (itc ⟨2, ke, tm, va, sr⟩) 49))
  have A0 := hide (al_new (w.alloc (.cells (cfc c) 24)) (.cells (itc ⟨2, ke, tm, va, sr⟩) 49))
  have B0 := hide (al_old (al_new w (.cells (cfc c) 24)) (.cells (itc ⟨2, ke, tm, va, sr⟩) 49))
  have CT := fun w => hide (rtime_any tm w)
  generalize timeB tm = tb at *
  by_cases h1 : 0 ≤ sr
  · have h1d : decide (0 ≤ sr) = true := decide_eq_true h1
    by_cases h2 : sr < c.so
    · have h2d : decide (sr < c.so) = true := decide_eq_true h2
      cases tb with
      | true =>
        by_cases h3 : ke.toList = []
        · have HF : Hid (R = if va = 0 then 0 else 5) := hide (by rw [HR.out, h1d, h2d]; simp [h3])
          clear HR h1 h2
          go_enter Tryd.func20, Tryd.ntmps20
          go_wp2_with fail
          refine (CW _).out.mono ?_
          rintro e w1 ⟨rfl, T1⟩
          have HT := hide (T0.out.tr T1)
          have A1 := T1.at A0.out
          rw [al_size] at A1
          obtain ⟨c0, c1, c2, c3, c4⟩ := it_cells A1
          obtain ⟨⟨-, b1, -⟩, -⟩ := cf_cells (T1.at B0.out)
          clear CW T0 T1 A0 A1 B0
          go_wp2_with fail
          refine (CT _).out.mono ?_
          rintro e w2 ⟨rfl, rfl⟩
          go_wp2_with fail
          all_goals
            go_ret
            refine ⟨?_, HT.out⟩
            have hR := HF.out
            simp_all
        · have HF : Hid (R = 5) := hide (by rw [HR.out, h1d, h2d]; simp [h3])
          clear HR h1 h2
          go_enter Tryd.func20, Tryd.ntmps20
          go_wp2_with fail
          refine (CW _).out.mono ?_
          rintro e w1 ⟨rfl, T1⟩
          have HT := hide (T0.out.tr T1)
          have A1 := T1.at A0.out
          rw [al_size] at A1
          obtain ⟨c0, c1, c2, c3, c4⟩ := it_cells A1
          obtain ⟨⟨-, b1, -⟩, -⟩ := cf_cells (T1.at B0.out)
          clear CW T0 T1 A0 A1 B0
          go_wp2_with fail
          refine (CT _).out.mono ?_
          rintro e w2 ⟨rfl, rfl⟩
          go_wp2_with fail
          go_ret
          exact ⟨by rw [HF.out]; rfl, HT.out⟩
      | false =>
        have HF : Hid (R = 5) := hide (by rw [HR.out, h1d, h2d]; simp)
        clear HR h1 h2
        go_enter Tryd.func20, Tryd.ntmps20
        go_wp2_with fail
        refine (CW _).out.mono ?_
        rintro e w1 ⟨rfl, T1⟩
        have HT := hide (T0.out.tr T1)
        have A1 := T1.at A0.out
        rw [al_size] at A1
        obtain ⟨c0, c1, c2, c3, c4⟩ := it_cells A1
        obtain ⟨⟨-, b1, -⟩, -⟩ := cf_cells (T1.at B0.out)
        clear CW T0 T1 A0 A1 B0
        go_wp2_with fail
        refine (CT _).out.mono ?_
        rintro e w2 ⟨rfl, rfl⟩
        go_wp2_with fail
        go_ret
        exact ⟨by rw [HF.out]; rfl, HT.out⟩
    · have h2d : decide (sr < c.so) = false := decide_eq_false h2
      have HF : Hid (R = 5) := hide (by rw [HR.out, h1d, h2d]; simp)
      clear HR h1 h2
      go_enter Tryd.func20, Tryd.ntmps20
      go_wp2_with fail
      refine (CW _).out.mono ?_
      rintro e w1 ⟨rfl, T1⟩
      have HT := hide (T0.out.tr T1)
      have A1 := T1.at A0.out
      rw [al_size] at A1
      obtain ⟨c0, c1, c2, c3, c4⟩ := it_cells A1
      obtain ⟨⟨-, b1, -⟩, -⟩ := cf_cells (T1.at B0.out)
      clear CW T0 T1 A0 A1 B0
      go_wp2_with fail
      go_ret
      exact ⟨by rw [HF.out]; rfl, HT.out⟩
  · have h1d : decide (0 ≤ sr) = false := decide_eq_false h1
    have HF : Hid (R = 5) := hide (by rw [HR.out, h1d]; simp)
    clear HR h1
    go_enter Tryd.func20, Tryd.ntmps20
    go_wp2_with fail
    refine (CW _).out.mono ?_
    rintro e w1 ⟨rfl, T1⟩
    have HT := hide (T0.out.tr T1)
    have A1 := T1.at A0.out
    rw [al_size] at A1
    obtain ⟨c0, c1, c2, c3, c4⟩ := it_cells A1
    obtain ⟨⟨-, b1, -⟩, -⟩ := cf_cells (T1.at B0.out)
    clear CW T0 T1 A0 A1 B0
    go_wp2_with fail
    go_ret
    exact ⟨by rw [HF.out]; rfl, HT.out⟩

set_option maxRecDepth 100000 in
set_option maxHeartbeats 4000000 in
theorem ritem_o (c : Cf) (x : It) (hw : wrongN c = 0) (h1 : x.ki ≠ 1) (h2 : x.ki ≠ 2) (h3 : x.ki ≠ 3) (w : World) : Calls Tryd.prog 20 #[cfv c, itv x] w fun e w' => e = .returned (.int .i64 5) ∧ Calm w w' := by
  have CW := fun w => hide (rwrong_any c w)
  rw [hw] at CW
  clear hw
  obtain ⟨ki, ke, tm, va, sr⟩ := x
  simp only at h1 h2 h3
  have T0 := hide (((Touch.refl (fun _ => False) w).alloc (.cells (cfc c) 24)).alloc (.cells (itc ⟨ki, ke, tm, va, sr⟩) 49))
  have A0 := hide (al_new (w.alloc (.cells (cfc c) 24)) (.cells (itc ⟨ki, ke, tm, va, sr⟩) 49))
  go_enter Tryd.func20, Tryd.ntmps20
  go_wp2_with fail
  refine (CW _).out.mono ?_
  rintro e w1 ⟨rfl, T1⟩
  have HT := hide (T0.out.tr T1)
  have A1 := T1.at A0.out
  rw [al_size] at A1
  obtain ⟨c0, c1, c2, c3, c4⟩ := it_cells A1
  clear CW T0 T1 A0 A1
  go_wp2_with fail
  go_ret
  exact ⟨rfl, HT.out⟩

theorem ritem_any (c : Cf) (x : It) (w : World) : Calls Tryd.prog 20 #[cfv c, itv x] w fun e w' => e = .returned (.int .i64 (itemN c x : Nat)) ∧ Calm w w' := by
  by_cases hw : wrongN c = 0
  · have hE : itemN c x = if itemB c x then 0 else 5 := if_neg (fun h => h hw)
    by_cases h1 : x.ki = 1
    · refine (ritem_1 c x hw h1 w).mono ?_
      rintro e w' ⟨rfl, h⟩
      refine ⟨?_, h⟩
      rw [hE, itemB, if_pos h1]
      split <;> rfl
    · by_cases h2 : x.ki = 2
      · refine (ritem_2 c x hw h2 w).mono ?_
        rintro e w' ⟨rfl, h⟩
        refine ⟨?_, h⟩
        rw [hE, itemB, if_neg h1, if_pos h2]
        split <;> rfl
      · by_cases h3 : x.ki = 3
        · refine (ritem_3 c x hw h3 w).mono ?_
          rintro e w' ⟨rfl, h⟩
          refine ⟨?_, h⟩
          rw [hE, itemB, if_neg h1, if_neg h2, if_pos h3]
          split <;> rfl
        · refine (ritem_o c x hw h1 h2 h3 w).mono ?_
          rintro e w' ⟨rfl, h⟩
          refine ⟨?_, h⟩
          rw [hE, itemB, if_neg h1, if_neg h2, if_neg h3]
          rfl
  · refine (ritem_wrong c x hw w).mono ?_
    rintro e w' ⟨rfl, h⟩
    exact ⟨by rw [itemN, if_pos hw]; rfl, h⟩

end Go.Proofs.YtjambfncemlenaaDoor
