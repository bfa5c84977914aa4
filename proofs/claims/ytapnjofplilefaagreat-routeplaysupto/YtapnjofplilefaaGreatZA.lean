/- The document's Job and Time. -/
import Derived.Test.YtapnjofplilefaaGreatV2
namespace Go.Proofs.YtapnjofplilefaaGreat
open Go.RowKit

/-- May a job be? -/
def jobP (c : Cf) : Prop := (1 ≤ c.gr ∧ c.gr ≤ 32768 ∧ 1 ≤ c.so ∧ c.so ≤ 64 ∧ 0 ≤ c.lt ∧ c.lt ≤ 1099511627776 ∧ 0 ≤ c.ea ∧ c.ea ≤ 2147483647) ∧
  ((c.ki = 1 ∧ 1 ≤ c.sz ∧ c.sz ≤ 1099511627776 ∧ 0 ≤ c.of ∧ c.of < c.sz ∧ c.sl = 0 ∧ c.gp = 0) ∨ (c.ki = 2 ∧ 1 ≤ c.sz ∧ c.sz ≤ 1099511627776 ∧ 1 ≤ c.sl ∧ c.sl ≤ c.sz ∧ c.sz ≤ 64 * c.sl ∧ 0 ≤ c.of ∧ c.of < c.sl ∧ c.gp = 0) ∨ (c.ki = 3 ∧ 1 ≤ c.gp ∧ c.gp ≤ 1099511627776 ∧ c.sz = 0 ∧ c.sl = 0 ∧ c.of = 0))
instance (c : Cf) : Decidable (jobP c) := by unfold jobP; infer_instance
def jobB (c : Cf) : Bool := decide (jobP c)

theorem div_slices {a b : Int} (h1 : 1 ≤ b) (h2 : b ≤ a) (h3 : a ≤ 1099511627776) : ((a + b - 1) / b ≤ 64 ↔ a ≤ 64 * b) ∧ 0 ≤ (a + b - 1) / b ∧ (a + b - 1) / b ≤ 2199023255552 := by
  have e := Int.mul_ediv_add_emod (a + b - 1) b
  have m1 := Int.emod_nonneg (a + b - 1) (show b ≠ 0 by omega)
  have m2 := Int.emod_lt_of_pos (a + b - 1) (show 0 < b by omega)
  have q0 : 0 ≤ (a + b - 1) / b := Int.ediv_nonneg (by omega) (by omega)
  have q1 : (a + b - 1) / b ≤ a + b - 1 := Int.ediv_le_self _ (by omega)
  generalize (a + b - 1) / b = d at *
  generalize (a + b - 1) % b = r at *
  refine ⟨⟨fun h => ?_, fun h => ?_⟩, q0, by omega⟩
  · have : b * d ≤ b * 64 := Int.mul_le_mul_of_nonneg_left h (by omega)
    omega
  · refine Int.not_lt.1 fun hh => ?_
    have : b * 65 ≤ b * d := Int.mul_le_mul_of_nonneg_left hh (by omega)
    omega

set_option maxRecDepth 100000 in
set_option maxHeartbeats 4000000 in
theorem rjob_any (c : Cf) (w : World) : Calls Tryz.prog 12 #[cfv c] w fun e w' => e = .returned (.bool (jobB c)) ∧ Calm w w' := by
  have T0 := hide ((Touch.refl (fun _ => False) w).alloc (.cells (cfc c) 24))
  by_cases f0 : c.gr < 1
  · have HV : Hid (jobB c = false) := hide (decide_eq_false (by unfold jobP; omega))
    generalize jobB c = R at *
    go_enter Tryz.func12, Tryz.ntmps12
    go_wp2_with fail
    go_ret
    exact ⟨by rw [HV.out]; rfl, T0.out⟩
  by_cases f1 : 32768 < c.gr
  · have HV : Hid (jobB c = false) := hide (decide_eq_false (by unfold jobP; omega))
    generalize jobB c = R at *
    go_enter Tryz.func12, Tryz.ntmps12
    go_wp2_with fail
    go_ret
    exact ⟨by rw [HV.out]; rfl, T0.out⟩
  by_cases f2 : c.so < 1
  · have HV : Hid (jobB c = false) := hide (decide_eq_false (by unfold jobP; omega))
    generalize jobB c = R at *
    go_enter Tryz.func12, Tryz.ntmps12
    go_wp2_with fail
    go_ret
    exact ⟨by rw [HV.out]; rfl, T0.out⟩
  by_cases f3 : 64 < c.so
  · have HV : Hid (jobB c = false) := hide (decide_eq_false (by unfold jobP; omega))
    generalize jobB c = R at *
    go_enter Tryz.func12, Tryz.ntmps12
    go_wp2_with fail
    go_ret
    exact ⟨by rw [HV.out]; rfl, T0.out⟩
  by_cases f4 : c.lt < 0
  · have HV : Hid (jobB c = false) := hide (decide_eq_false (by unfold jobP; omega))
    generalize jobB c = R at *
    go_enter Tryz.func12, Tryz.ntmps12
    go_wp2_with fail
    go_ret
    exact ⟨by rw [HV.out]; rfl, T0.out⟩
  by_cases f5 : 1099511627776 < c.lt
  · have HV : Hid (jobB c = false) := hide (decide_eq_false (by unfold jobP; omega))
    generalize jobB c = R at *
    go_enter Tryz.func12, Tryz.ntmps12
    go_wp2_with fail
    go_ret
    exact ⟨by rw [HV.out]; rfl, T0.out⟩
  by_cases f6 : c.ea < 0
  · have HV : Hid (jobB c = false) := hide (decide_eq_false (by unfold jobP; omega))
    generalize jobB c = R at *
    go_enter Tryz.func12, Tryz.ntmps12
    go_wp2_with fail
    go_ret
    exact ⟨by rw [HV.out]; rfl, T0.out⟩
  by_cases f7 : 2147483647 < c.ea
  · have HV : Hid (jobB c = false) := hide (decide_eq_false (by unfold jobP; omega))
    generalize jobB c = R at *
    go_enter Tryz.func12, Tryz.ntmps12
    go_wp2_with fail
    go_ret
    exact ⟨by rw [HV.out]; rfl, T0.out⟩
  by_cases k1 : c.ki = 1
  · by_cases q0 : 1 ≤ c.sz
    · by_cases q1 : c.sz ≤ 1099511627776
      · by_cases q2 : 0 ≤ c.of
        · by_cases q3 : c.of < c.sz
          · by_cases q4 : c.sl = 0
            · have b4 : (c.sl == 0) = true := by simp [q4]
              by_cases q5 : c.gp = 0
              · have b5 : (c.gp == 0) = true := by simp [q5]
                have HV : Hid (jobB c = true) := hide (decide_eq_true (by unfold jobP; omega))
                generalize jobB c = R at *
                go_enter Tryz.func12, Tryz.ntmps12
                go_wp2_with fail
                go_ret
                exact ⟨by rw [HV.out]; rfl, T0.out⟩
              · have b5 : (c.gp == 0) = false := by simp [q5]
                have HV : Hid (jobB c = false) := hide (decide_eq_false (by unfold jobP; omega))
                generalize jobB c = R at *
                go_enter Tryz.func12, Tryz.ntmps12
                go_wp2_with fail
                go_ret
                exact ⟨by rw [HV.out]; rfl, T0.out⟩
            · have b4 : (c.sl == 0) = false := by simp [q4]
              have HV : Hid (jobB c = false) := hide (decide_eq_false (by unfold jobP; omega))
              generalize jobB c = R at *
              go_enter Tryz.func12, Tryz.ntmps12
              go_wp2_with fail
              go_ret
              exact ⟨by rw [HV.out]; rfl, T0.out⟩
          · have HV : Hid (jobB c = false) := hide (decide_eq_false (by unfold jobP; omega))
            generalize jobB c = R at *
            go_enter Tryz.func12, Tryz.ntmps12
            go_wp2_with fail
            go_ret
            exact ⟨by rw [HV.out]; rfl, T0.out⟩
        · have HV : Hid (jobB c = false) := hide (decide_eq_false (by unfold jobP; omega))
          generalize jobB c = R at *
          go_enter Tryz.func12, Tryz.ntmps12
          go_wp2_with fail
          go_ret
          exact ⟨by rw [HV.out]; rfl, T0.out⟩
      · have HV : Hid (jobB c = false) := hide (decide_eq_false (by unfold jobP; omega))
        generalize jobB c = R at *
        go_enter Tryz.func12, Tryz.ntmps12
        go_wp2_with fail
        go_ret
        exact ⟨by rw [HV.out]; rfl, T0.out⟩
    · have HV : Hid (jobB c = false) := hide (decide_eq_false (by unfold jobP; omega))
      generalize jobB c = R at *
      go_enter Tryz.func12, Tryz.ntmps12
      go_wp2_with fail
      go_ret
      exact ⟨by rw [HV.out]; rfl, T0.out⟩
  by_cases k2 : c.ki = 2
  · by_cases q0 : 1 ≤ c.sz
    · by_cases q1 : c.sz ≤ 1099511627776
      · by_cases q2 : 1 ≤ c.sl
        · by_cases q3 : c.sl ≤ c.sz
          · obtain ⟨d, hd⟩ : ∃ d, d = (c.sz + c.sl - 1) / c.sl := ⟨_, rfl⟩
            have hd2 : (d ≤ 64 ↔ c.sz ≤ 64 * c.sl) ∧ 0 ≤ d ∧ d ≤ 2199023255552 := by rw [hd]; exact div_slices (by omega) (by omega) (by omega)
            have y5 : (c.sl == 0) = false := by simp; omega
            have y1 : wrap64 (c.sz + c.sl) = c.sz + c.sl := by unfold wrap64; omega
            have y2 : wrap64 (c.sz + c.sl - 1) = c.sz + c.sl - 1 := by unfold wrap64; omega
            have y4 : ¬ c.sl = 0 := by omega
            have hd' := hd.symm
            have HD2 := hide hd2
            clear hd2 hd
            by_cases q4 : d ≤ 64
            · have q9 : c.sz ≤ 64 * c.sl := HD2.out.1.1 q4
              by_cases q5 : 0 ≤ c.of
              · by_cases q6 : c.of < c.sl
                · by_cases q7 : c.gp = 0
                  · have b7 : (c.gp == 0) = true := by simp [q7]
                    have HV : Hid (jobB c = true) := hide (decide_eq_true (by unfold jobP; omega))
                    generalize jobB c = R at *
                    go_enter Tryz.func12, Tryz.ntmps12
                    go_wp2_with fail
                    go_ret
                    exact ⟨by rw [HV.out]; rfl, T0.out⟩
                  · have b7 : (c.gp == 0) = false := by simp [q7]
                    have HV : Hid (jobB c = false) := hide (decide_eq_false (by unfold jobP; omega))
                    generalize jobB c = R at *
                    go_enter Tryz.func12, Tryz.ntmps12
                    go_wp2_with fail
                    go_ret
                    exact ⟨by rw [HV.out]; rfl, T0.out⟩
                · have HV : Hid (jobB c = false) := hide (decide_eq_false (by unfold jobP; omega))
                  generalize jobB c = R at *
                  go_enter Tryz.func12, Tryz.ntmps12
                  go_wp2_with fail
                  go_ret
                  exact ⟨by rw [HV.out]; rfl, T0.out⟩
              · have HV : Hid (jobB c = false) := hide (decide_eq_false (by unfold jobP; omega))
                generalize jobB c = R at *
                go_enter Tryz.func12, Tryz.ntmps12
                go_wp2_with fail
                go_ret
                exact ⟨by rw [HV.out]; rfl, T0.out⟩
            · have q9 : ¬ c.sz ≤ 64 * c.sl := fun h => q4 (HD2.out.1.2 h)
              have HV : Hid (jobB c = false) := hide (decide_eq_false (by unfold jobP; omega))
              generalize jobB c = R at *
              go_enter Tryz.func12, Tryz.ntmps12
              go_wp2_with fail
              go_ret
              exact ⟨by rw [HV.out]; rfl, T0.out⟩
          · have HV : Hid (jobB c = false) := hide (decide_eq_false (by unfold jobP; omega))
            generalize jobB c = R at *
            go_enter Tryz.func12, Tryz.ntmps12
            go_wp2_with fail
            go_ret
            exact ⟨by rw [HV.out]; rfl, T0.out⟩
        · have HV : Hid (jobB c = false) := hide (decide_eq_false (by unfold jobP; omega))
          generalize jobB c = R at *
          go_enter Tryz.func12, Tryz.ntmps12
          go_wp2_with fail
          go_ret
          exact ⟨by rw [HV.out]; rfl, T0.out⟩
      · have HV : Hid (jobB c = false) := hide (decide_eq_false (by unfold jobP; omega))
        generalize jobB c = R at *
        go_enter Tryz.func12, Tryz.ntmps12
        go_wp2_with fail
        go_ret
        exact ⟨by rw [HV.out]; rfl, T0.out⟩
    · have HV : Hid (jobB c = false) := hide (decide_eq_false (by unfold jobP; omega))
      generalize jobB c = R at *
      go_enter Tryz.func12, Tryz.ntmps12
      go_wp2_with fail
      go_ret
      exact ⟨by rw [HV.out]; rfl, T0.out⟩
  by_cases k3 : c.ki = 3
  · by_cases q0 : 1 ≤ c.gp
    · by_cases q1 : c.gp ≤ 1099511627776
      · by_cases q2 : c.sz = 0
        · have b2 : (c.sz == 0) = true := by simp [q2]
          by_cases q3 : c.sl = 0
          · have b3 : (c.sl == 0) = true := by simp [q3]
            by_cases q4 : c.of = 0
            · have b4 : (c.of == 0) = true := by simp [q4]
              have HV : Hid (jobB c = true) := hide (decide_eq_true (by unfold jobP; omega))
              generalize jobB c = R at *
              go_enter Tryz.func12, Tryz.ntmps12
              go_wp2_with fail
              go_ret
              exact ⟨by rw [HV.out]; rfl, T0.out⟩
            · have b4 : (c.of == 0) = false := by simp [q4]
              have HV : Hid (jobB c = false) := hide (decide_eq_false (by unfold jobP; omega))
              generalize jobB c = R at *
              go_enter Tryz.func12, Tryz.ntmps12
              go_wp2_with fail
              go_ret
              exact ⟨by rw [HV.out]; rfl, T0.out⟩
          · have b3 : (c.sl == 0) = false := by simp [q3]
            have HV : Hid (jobB c = false) := hide (decide_eq_false (by unfold jobP; omega))
            generalize jobB c = R at *
            go_enter Tryz.func12, Tryz.ntmps12
            go_wp2_with fail
            go_ret
            exact ⟨by rw [HV.out]; rfl, T0.out⟩
        · have b2 : (c.sz == 0) = false := by simp [q2]
          have HV : Hid (jobB c = false) := hide (decide_eq_false (by unfold jobP; omega))
          generalize jobB c = R at *
          go_enter Tryz.func12, Tryz.ntmps12
          go_wp2_with fail
          go_ret
          exact ⟨by rw [HV.out]; rfl, T0.out⟩
      · have HV : Hid (jobB c = false) := hide (decide_eq_false (by unfold jobP; omega))
        generalize jobB c = R at *
        go_enter Tryz.func12, Tryz.ntmps12
        go_wp2_with fail
        go_ret
        exact ⟨by rw [HV.out]; rfl, T0.out⟩
    · have HV : Hid (jobB c = false) := hide (decide_eq_false (by unfold jobP; omega))
      generalize jobB c = R at *
      go_enter Tryz.func12, Tryz.ntmps12
      go_wp2_with fail
      go_ret
      exact ⟨by rw [HV.out]; rfl, T0.out⟩
  have HV : Hid (jobB c = false) := hide (decide_eq_false (by unfold jobP; omega))
  generalize jobB c = R at *
  go_enter Tryz.func12, Tryz.ntmps12
  go_wp2_with fail
  go_ret
  exact ⟨by rw [HV.out]; rfl, T0.out⟩

/-- Is it a time? -/
def timZ (t : Int) : Bool := decide (-4611686018427387904 ≤ t) && decide (t ≤ 4611686018427387904)
theorem rtimeZ_any (t : Int) (w : World) : Calls Tryz.prog 50 #[.int .i64 t] w fun e w' => e = .returned (.bool (timZ t)) ∧ w' = w := by
  by_cases h1 : -4611686018427387904 ≤ t
  · have e : Hid (timZ t = decide (t ≤ 4611686018427387904)) := hide (by simp [timZ, h1])
    generalize timZ t = R at *
    go_enter Tryz.func50, Tryz.ntmps50
    go_wp2_with fail
    go_ret
    exact ⟨by rw [e.out]; rfl, rfl⟩
  · have e : Hid (timZ t = false) := hide (by simp [timZ, h1])
    generalize timZ t = R at *
    go_enter Tryz.func50, Tryz.ntmps50
    go_wp2_with fail
    go_ret
    exact ⟨by rw [e.out]; rfl, rfl⟩

end Go.Proofs.YtapnjofplilefaaGreat
