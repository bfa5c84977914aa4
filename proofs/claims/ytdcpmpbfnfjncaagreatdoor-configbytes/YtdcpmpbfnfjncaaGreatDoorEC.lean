/- Jobs: the program's first number that may not be is the document's first field. -/
import Derived.Test.YtdcpmpbfnfjncaaGreatDoorEB
namespace Go.Proofs.YtdcpmpbfnfjncaaGreatDoor
open Go.RowKit

theorem wr_in (n : Int) (h : -9223372036854775808 ≤ n ∧ n ≤ 9223372036854775807) : wrap64 n = n := by unfold wrap64; omega
theorem inB_zero (x : Int) : inB x 0 0 = (x == 0) := by
  unfold inB
  rw [Bool.eq_iff_iff]
  simp
  omega
theorem lsB_eq {x : Int} (h1 : 1 ≤ x) (h2 : x ≤ 1099511627776) : lsB x = (x + 63) / 64 := by
  unfold lsB
  rw [wr_in (x + 64) (by omega), wr_in (x + 64 - 1) (by omega), Int.tdiv_eq_ediv_of_nonneg (by omega), wr_in _ (by omega)]
  omega
theorem ok_2 (f : Nat → Int) : okAt f 2 = fieldB (ofF f) 3 := by
  show (decide (1 ≤ f 2) && decide (f 2 ≤ 3)) = ((f 2 == 1 || f 2 == 2) || f 2 == 3)
  rw [Bool.eq_iff_iff]
  simp
  omega
theorem ok_3 (f : Nat → Int) : okAt f 3 = fieldB (ofF f) 4 := by
  show inB (f 3) (if f 2 = 3 then 0 else 1) (if f 2 = 3 then 0 else 1099511627776) = if f 2 = 3 then f 3 == 0 else inB (f 3) 1 1099511627776
  split
  · exact inB_zero _
  · rfl
theorem ok_4 (f : Nat → Int) (h : okAt f 3 = true) : okAt f 4 = fieldB (ofF f) 5 := by
  have h' : inB (f 3) (if f 2 = 3 then 0 else 1) (if f 2 = 3 then 0 else 1099511627776) = true := h
  show inB (f 4) (if f 2 = 2 then lsB (f 3) else 0) (if f 2 = 2 then f 3 else 0) = if ¬ f 2 = 2 then f 4 == 0 else (inB (f 4) 1 (f 3) && decide (f 3 ≤ wrap64 (64 * f 4)))
  by_cases h2 : f 2 = 2
  · rw [if_neg (by omega), if_neg (by omega)] at h'
    unfold inB at h'
    simp at h'
    rw [if_pos h2, if_pos h2, if_neg (by omega), lsB_eq h'.1 h'.2]
    unfold inB
    by_cases hx : 1 ≤ f 4 ∧ f 4 ≤ f 3
    · rw [wr_in (64 * f 4) (by omega), Bool.eq_iff_iff]
      simp
      omega
    · rw [Bool.eq_iff_iff]
      simp
      constructor
      · intro h; omega
      · intro h; omega
  · rw [if_neg h2, if_neg h2, if_pos h2]
    exact inB_zero _
theorem ok_5 (f : Nat → Int) (h : okAt f 2 = true) : okAt f 5 = fieldB (ofF f) 6 := by
  have h' : inB (f 2) 1 3 = true := h
  unfold inB at h'
  simp at h'
  show inB (f 5) 0 (if f 2 = 2 then wrap64 (f 4 - 1) else if f 2 = 3 then 0 else wrap64 (f 3 - 1)) = if f 2 = 1 then inB (f 5) 0 (wrap64 (f 3 - 1)) else if f 2 = 2 then inB (f 5) 0 (wrap64 (f 4 - 1)) else f 5 == 0
  by_cases h2 : f 2 = 2
  · rw [if_pos h2, if_neg (by omega), if_pos h2]
  · by_cases h3 : f 2 = 3
    · rw [if_neg h2, if_pos h3, if_neg (by omega), if_neg h2]
      exact inB_zero _
    · rw [if_neg h2, if_neg h3, if_pos (by omega)]
theorem ok_6 (f : Nat → Int) : okAt f 6 = fieldB (ofF f) 7 := by
  show inB (f 6) (if f 2 = 3 then 1 else 0) (if f 2 = 3 then 1099511627776 else 0) = if ¬ f 2 = 3 then f 6 == 0 else inB (f 6) 1 1099511627776
  by_cases h3 : f 2 = 3
  · rw [if_pos h3, if_pos h3, if_neg (by omega)]
  · rw [if_neg h3, if_neg h3, if_pos h3]
    exact inB_zero _

theorem fw_link (f : Nat → Int) : fwN f = if wrongN (ofF f) = 0 then (if inB (f 9) 0 1 then none else some 9) else some (wrongN (ofF f) - 1) := by
  have e0 : okAt f 0 = fieldB (ofF f) 1 := rfl
  have e1 : okAt f 1 = fieldB (ofF f) 2 := rfl
  have e2 := ok_2 f
  have e3 := ok_3 f
  have e4 := ok_4 f
  have e5 := ok_5 f
  have e6 := ok_6 f
  have e7 : okAt f 7 = fieldB (ofF f) 8 := rfl
  have e8 : okAt f 8 = fieldB (ofF f) 9 := rfl
  have e9 : okAt f 9 = inB (f 9) 0 1 := rfl
  have E1 : fwN f = if okAt f 0 then (if okAt f 1 then (if okAt f 2 then (if okAt f 3 then (if okAt f 4 then (if okAt f 5 then (if okAt f 6 then (if okAt f 7 then (if okAt f 8 then (if okAt f 9 then none else some 9) else some 8) else some 7) else some 6) else some 5) else some 4) else some 3) else some 2) else some 1) else some 0 := rfl
  have E2 : ∀ c, wrongN c = if fieldB c 1 then (if fieldB c 2 then (if fieldB c 3 then (if fieldB c 4 then (if fieldB c 5 then (if fieldB c 6 then (if fieldB c 7 then (if fieldB c 8 then (if fieldB c 9 then 0 else 9) else 8) else 7) else 6) else 5) else 4) else 3) else 2) else 1 := fun c => rfl
  rw [E1, E2, e9]
  generalize ofF f = c at *
  rw [e0, e1, e7, e8, e6, e2, e3]
  cases h1 : fieldB c 1
  · simp
  cases h2 : fieldB c 2
  · simp
  cases h3 : fieldB c 3
  · simp
  cases h4 : fieldB c 4
  · simp
  rw [e4 (by rw [e3, h4]), e5 (by rw [e2, h3])]
  cases h5 : fieldB c 5
  · simp
  cases h6 : fieldB c 6
  · simp
  cases h7 : fieldB c 7
  · simp
  cases h8 : fieldB c 8
  · simp
  cases h9 : fieldB c 9
  · simp
  · simp
theorem of_fld (c : Cf) : ofF (fldF c) = c := by
  obtain ⟨a, b, d, e, g, h, i, j, k, l⟩ := c
  show Cf.mk a b d e g h i j k ((if l then (1 : Int) else 0) == 1) = _
  cases l <;> rfl
/-- Of a job. -/
theorem fw_job (c : Cf) : fwN (fldF c) = if wrongN c = 0 then none else some (wrongN c - 1) := by
  rw [fw_link, of_fld]
  have : inB (fldF c 9) 0 1 = true := by
    show inB (if c.di then (1 : Int) else 0) 0 1 = true
    cases c.di <;> rfl
  rw [this]
  simp
theorem fw_none {c : Cf} (h : wrongN c = 0) : fwN (fldF c) = none := by rw [fw_job, if_pos h]
theorem fw_some {c : Cf} (h : wrongN c ≠ 0) : fwN (fldF c) = some (wrongN c - 1) := by rw [fw_job, if_neg h]
theorem wr_job (c : Cf) : wrV (fwN (fldF c)) = .tuple #[.int .i64 (wrongN c : Nat), .int .i64 (if wrongN c = 0 then 0 else 4)] := by
  rw [fw_job]
  by_cases h : wrongN c = 0
  · rw [if_pos h, if_pos h, h]; rfl
  · rw [if_neg h, if_neg h]
    show Value.tuple #[.int .i64 ((wrongN c - 1 + 1 : Nat) : Int), .int .i64 4] = _
    rw [show wrongN c - 1 + 1 = wrongN c by omega]
theorem ch_job (c : Cf) : chN (fwN (fldF c)) = if wrongN c = 0 then 0 else 4 := by
  rw [fw_job]
  by_cases h : wrongN c = 0
  · rw [if_pos h, if_pos h]; rfl
  · rw [if_neg h, if_neg h]; rfl
/-- Which job such numbers are. -/
theorem job_link (f : Nat → Int) : jobF f = if wrongN (ofF f) = 0 ∧ inB (f 9) 0 1 = true then ofF f else cfz := by
  unfold jobF
  rw [fw_link]
  by_cases h : wrongN (ofF f) = 0
  · rw [if_pos h]
    cases inB (f 9) 0 1 <;> simp [h]
  · rw [if_neg h]
    simp [h]

end Go.Proofs.YtdcpmpbfnfjncaaGreatDoor
