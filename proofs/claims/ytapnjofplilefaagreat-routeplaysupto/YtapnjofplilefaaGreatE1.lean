/- Jobs: the first number that may not be (the program's firstWrong, fieldAt, Wrong, Check). Jobs: the program's first number that may not be is the document's first field. -/
import Derived.Test.YtapnjofplilefaaGreatEA
import Derived.BigQuiet
import Derived.Deep.QuietTactic
namespace Go.Proofs.YtapnjofplilefaaGreat
open Go.RowKit

theorem Touch.drewQ {S : Nat → Prop} {a w : World} (h : Touch S a w) (n : Nat) : Touch S a (w.drewN n) := ⟨h.os, h.tape, h.output, h.size, h.block⟩

/-- May that number be? -/
def okAt (f : Nat → Int) (i : Nat) : Bool := inB (f i) (loB f i) (hiB f i)
/-- The first one from i on, of k, that may not be. -/
def fwF (f : Nat → Int) : Nat → Nat → Option Nat
  | _, 0 => none
  | i, k + 1 => if okAt f i then fwF f (i + 1) k else some i
def fwN (f : Nat → Int) : Option Nat := fwF f 0 10
/-- What is told of it. -/
def fwV : Option Nat → Value
  | none => .tuple #[.int .i64 0, .bool false]
  | some i => .tuple #[.int .i64 (i : Int), .bool true]

theorem run_index_bounds (f : Nat → Int) (i : Nat) (hi : i < 10) (w : World) : (Instr.index 132 (.agg (b20c f)) (.int .i64 (i : Int))).run Tryz.prog w = .ok (.agg #[.int .i64 (loB f i), .int .i64 (hiB f i)]) w := by
  rcases (by omega : i = 0 ∨ i = 1 ∨ i = 2 ∨ i = 3 ∨ i = 4 ∨ i = 5 ∨ i = 6 ∨ i = 7 ∨ i = 8 ∨ i = 9) with rfl | rfl | rfl | rfl | rfl | rfl | rfl | rfl | rfl | rfl <;> kernel_rfl

set_option maxRecDepth 100000 in
set_option maxHeartbeats 1000000 in
theorem firstWrong_any (f : Nat → Int) (w : World) : Calls Tryz.prog 41 #[.agg (f10c f)] w fun e w' => e = .returned (fwV (fwN f)) ∧ Calm w w' := by
  have CB := fun w => hide (bounds_any f w)
  have IX : Hid (∀ (i : Nat), i < 10 → ∀ W, (Instr.index 132 (.agg (b20c f)) (.int .i64 (i : Int))).run Tryz.prog W = .ok (.agg #[.int .i64 (loB f i), .int .i64 (hiB f i)]) W) := hide fun i hi W => run_index_bounds f i hi W
  have A0 := hide (al_new w (.cells (f10c f) 104))
  have T0 := hide ((Touch.refl (fun _ => False) w).alloc (.cells (f10c f) 104))
  have ST : Hid (∀ n k, fwF f n (k + 1) = if okAt f n then fwF f (n + 1) k else some n) := hide fun n k => rfl
  have S0 : Hid (fwF f 0 10 = fwN f) := hide rfl
  have S1 : Hid (∀ n, fwF f n 0 = none) := hide fun n => rfl
  have OK : Hid (∀ n, okAt f n = (decide (loB f n ≤ f n) && decide (f n ≤ hiB f n))) := hide fun _ => rfl
  generalize fwN f = r at *
  generalize b20c f = C at *
  go_enter Tryz.func41, Tryz.ntmps41
  go_wp2_with fail
  generalize hA : w.heap.size = A at *
  generalize w.alloc (.cells (f10c f) 104) = w0 at *
  refine (CB _).out.mono ?_
  rintro e w1 ⟨rfl, T1⟩
  have A1 := hide (T1.at A0.out)
  have TT := hide (T0.out.tr T1)
  clear CB T1 A0 T0
  go_wp2_with fail
  go_loopw [8] (fun s wr => ∃ n : Nat, s = .int .i64 (n : Int) ∧ n ≤ 10 ∧ fwF f n (10 - n) = r ∧ Calm w1 wr) (fun s _ => 10 - (intOf s).toNat)
  case atStart => exact ⟨0, rfl, by omega, S0.out, Touch.refl _ _⟩
  case round =>
    obtain ⟨n, rfl, h10, hr, TL⟩ := hrel
    by_cases hlt : n < 10
    · have hltz : (n : Int) < 10 := by omega
      have ix := IX.out n hlt
      have hr2 := hr
      rw [show 10 - n = (10 - (n + 1)) + 1 by omega, ST.out, OK.out] at hr2
      have HR := hide hr2
      have c1 := f10_cells (TL.at A1.out) n hlt
      have hAw := lt_of_heap (TL.at A1.out)
      have hAn : ¬ wr.heap.size = A := by omega
      have TN := hide (TL.alloc (.cells #[.int .i64 (loB f n), .int .i64 (hiB f n)] 131))
      clear hr hr2 TL IX OK
      generalize loB f n = lo at *
      generalize hiB f n = hi at *
      generalize f n = x at *
      by_cases hl : lo ≤ x
      · have d1 : decide (x < lo) = false := decide_eq_false (by omega)
        by_cases hh : x ≤ hi
        · have d2 : decide (hi < x) = false := decide_eq_false (by omega)
          have HR2 : Hid (fwF f (n + 1) (10 - (n + 1)) = r) := hide (by have := HR.out; simpa [hl, hh] using this)
          clear HR hl hh
          go_wp2_with fail
          go_quiet (fail)
          rename_i nq
          go_wp2_with fail
          go_roundw
          case rel => exact ⟨n + 1, by go_num, by omega, HR2.out, TN.out.drewQ nq⟩
          case measure => simp [intOf]; omega
        · have d2 : decide (hi < x) = true := decide_eq_true (by omega)
          have HR2 : Hid (some n = r) := hide (by have := HR.out; simpa [hl, hh] using this)
          clear HR hl hh
          go_wp2_with fail
          go_quiet (fail)
          rename_i nq
          go_wp2_with fail
          go_ret2
          exact ⟨by rw [← HR2.out]; rfl, TT.out.tr (TN.out.drewQ nq)⟩
      · have d1 : decide (x < lo) = true := decide_eq_true (by omega)
        have HR2 : Hid (some n = r) := hide (by have := HR.out; simpa [hl] using this)
        clear HR hl
        go_wp2_with fail
        go_quiet (fail)
        rename_i nq
        go_wp2_with fail
        go_ret2
        exact ⟨by rw [← HR2.out]; rfl, TT.out.tr (TN.out.drewQ nq)⟩
    · have hltz : ¬ (n : Int) < 10 := by omega
      obtain rfl : n = 10 := by omega
      have HR : Hid (none = r) := hide (by rw [← hr]; rfl)
      have HTL := hide TL
      clear hr TL
      go_wp2_with fail
      go_ret2
      exact ⟨by rw [← HR.out]; rfl, TT.out.tr HTL.out⟩

set_option maxRecDepth 100000 in
theorem fieldAt_any (i : Nat) (hi : i < 10) (w : World) : Calls Tryz.prog 42 #[.int .i64 (i : Int)] w fun e w' => e = .returned (.int .i64 ((i + 1 : Nat) : Int)) ∧ w' = w := by
  go_enter Tryz.func42, Tryz.ntmps42
  go_wp2_with fail
  go_ret
  exact ⟨by show Ending.returned (.int .i64 (1 + (i : Int))) = _; rw [show ((i + 1 : Nat) : Int) = 1 + (i : Int) by omega], rfl⟩

/-- The first field that may not be, and the error. -/
def wrV : Option Nat → Value
  | none => .tuple #[.int .i64 0, .int .i64 0]
  | some i => .tuple #[.int .i64 ((i + 1 : Nat) : Int), .int .i64 4]
def chN : Option Nat → Int
  | none => 0
  | some _ => 4
theorem fwF_lt (f : Nat → Int) : ∀ (k i j : Nat), fwF f i k = some j → i ≤ j ∧ j < i + k
  | 0, i, j, h => by simp [fwF] at h
  | k + 1, i, j, h => by
    unfold fwF at h
    split at h
    · have := fwF_lt f k (i + 1) j h; omega
    · injection h with h; omega

set_option maxRecDepth 100000 in
theorem wrong_any (c : Cf) (w : World) : Calls Tryz.prog 28 #[cfv c] w fun e w' => e = .returned (wrV (fwN (fldF c))) ∧ Calm w w' := by
  have CN := fun w => hide (numbersOf_any c w)
  have CF := fun w => hide (firstWrong_any (fldF c) w)
  have T0 := hide ((Touch.refl (fun _ => False) w).alloc (.cells (cfc c) 24))
  have LT : Hid (∀ j, fwN (fldF c) = some j → j < 10) := hide fun j h => by have := fwF_lt (fldF c) 10 0 j h; omega
  generalize fldF c = F at *
  generalize fwN F = r at *
  go_enter Tryz.func28, Tryz.ntmps28
  go_wp2_with fail
  refine (CN _).out.mono ?_
  rintro e w1 ⟨rfl, T1⟩
  have HT := hide (T0.out.tr T1)
  clear T0 T1 CN
  go_wp2_with fail
  refine (CF _).out.mono ?_
  rintro e w2 ⟨rfl, T2⟩
  have HT2 := hide (HT.out.tr T2)
  clear HT T2 CF
  cases r with
  | none =>
    simp only [fwV]
    go_wp2_with fail
    go_ret2
    exact ⟨rfl, HT2.out⟩
  | some i =>
    have CA := fun w => hide (fieldAt_any i (LT.out i rfl) w)
    clear LT
    simp only [fwV]
    go_wp2_with fail
    refine (CA _).out.mono ?_
    rintro e w3 ⟨rfl, rfl⟩
    go_wp2_with fail
    go_ret2
    exact ⟨rfl, HT2.out⟩

set_option maxRecDepth 100000 in
theorem check_any (c : Cf) (w : World) : Calls Tryz.prog 9 #[cfv c] w fun e w' => e = .returned (.int .i64 (chN (fwN (fldF c)))) ∧ Calm w w' := by
  have CN := fun w => hide (wrong_any c w)
  have T0 := hide ((Touch.refl (fun _ => False) w).alloc (.cells (cfc c) 24))
  generalize fwN (fldF c) = r at *
  go_enter Tryz.func9, Tryz.ntmps9
  go_wp2_with fail
  refine (CN _).out.mono ?_
  rintro e w1 ⟨rfl, T1⟩
  have HT := hide (T0.out.tr T1)
  clear T0 T1 CN
  cases r with
  | none =>
    simp only [wrV]
    go_wp2_with fail
    go_ret
    exact ⟨rfl, HT.out⟩
  | some i =>
    simp only [wrV]
    go_wp2_with fail
    go_ret
    exact ⟨rfl, HT.out⟩

end Go.Proofs.YtapnjofplilefaaGreat

namespace Go.Proofs.YtapnjofplilefaaGreat
open Go.RowKit

theorem wr_in (n : Int) (h : -9223372036854775808 ≤ n ∧ n ≤ 9223372036854775807) : wrap64 n = n := by unfold wrap64; omega
theorem inB_zero (x : Int) : inB x 0 0 = (x == 0) := by
  unfold inB
  rw [Bool.eq_iff_iff]
  simp
  omega
theorem lsB_eq {x : Int} (h1 : 1 ≤ x) (h2 : x ≤ 1099511627776) : lsB x = (x + 63) / 64 := by
  unfold lsB
  rw [wr_in (x + 64) (by omega), wr_in (x + 64 - 1) (by omega), Int.tdiv_eq_ediv_of_nonneg (by omega), wr_in _ (by omega)]
  omega
theorem ok_2 (f : Nat → Int) : okAt f 2 = fieldB (ofF f) 3 := by
  show (decide (1 ≤ f 2) && decide (f 2 ≤ 3)) = ((f 2 == 1 || f 2 == 2) || f 2 == 3)
  rw [Bool.eq_iff_iff]
  simp
  omega
theorem ok_3 (f : Nat → Int) : okAt f 3 = fieldB (ofF f) 4 := by
  show inB (f 3) (if f 2 = 3 then 0 else 1) (if f 2 = 3 then 0 else 1099511627776) = if f 2 = 3 then f 3 == 0 else inB (f 3) 1 1099511627776
  split
  · exact inB_zero _
  · rfl
theorem ok_4 (f : Nat → Int) (h : okAt f 3 = true) : okAt f 4 = fieldB (ofF f) 5 := by
  have h' : inB (f 3) (if f 2 = 3 then 0 else 1) (if f 2 = 3 then 0 else 1099511627776) = true := h
  show inB (f 4) (if f 2 = 2 then lsB (f 3) else 0) (if f 2 = 2 then f 3 else 0) = if ¬ f 2 = 2 then f 4 == 0 else (inB (f 4) 1 (f 3) && decide (f 3 ≤ wrap64 (64 * f 4)))
  by_cases h2 : f 2 = 2
  · rw [if_neg (by omega), if_neg (by omega)] at h'
    unfold inB at h'
    simp at h'
    rw [if_pos h2, if_pos h2, if_neg (by omega), lsB_eq h'.1 h'.2]
    unfold inB
    by_cases hx : 1 ≤ f 4 ∧ f 4 ≤ f 3
    · rw [wr_in (64 * f 4) (by omega), Bool.eq_iff_iff]
      simp
      omega
    · rw [Bool.eq_iff_iff]
      simp
      constructor
      · intro h; omega
      · intro h; omega
  · rw [if_neg h2, if_neg h2, if_pos h2]
    exact inB_zero _
theorem ok_5 (f : Nat → Int) (h : okAt f 2 = true) : okAt f 5 = fieldB (ofF f) 6 := by
  have h' : inB (f 2) 1 3 = true := h
  unfold inB at h'
  simp at h'
  show inB (f 5) 0 (if f 2 = 2 then wrap64 (f 4 - 1) else if f 2 = 3 then 0 else wrap64 (f 3 - 1)) = if f 2 = 1 then inB (f 5) 0 (wrap64 (f 3 - 1)) else if f 2 = 2 then inB (f 5) 0 (wrap64 (f 4 - 1)) else f 5 == 0
  by_cases h2 : f 2 = 2
  · rw [if_pos h2, if_neg (by omega), if_pos h2]
  · by_cases h3 : f 2 = 3
    · rw [if_neg h2, if_pos h3, if_neg (by omega), if_neg h2]
      exact inB_zero _
    · rw [if_neg h2, if_neg h3, if_pos (by omega)]
theorem ok_6 (f : Nat → Int) : okAt f 6 = fieldB (ofF f) 7 := by
  show inB (f 6) (if f 2 = 3 then 1 else 0) (if f 2 = 3 then 1099511627776 else 0) = if ¬ f 2 = 3 then f 6 == 0 else inB (f 6) 1 1099511627776
  by_cases h3 : f 2 = 3
  · rw [if_pos h3, if_pos h3, if_neg (by omega)]
  · rw [if_neg h3, if_neg h3, if_pos h3]
    exact inB_zero _

theorem fw_link (f : Nat → Int) : fwN f = if wrongN (ofF f) = 0 then (if inB (f 9) 0 1 then none else some 9) else some (wrongN (ofF f) - 1) := by
  have e0 : okAt f 0 = fieldB (ofF f) 1 := rfl
  have e1 : okAt f 1 = fieldB (ofF f) 2 := rfl
  have e2 := ok_2 f
  have e3 := ok_3 f
  have e4 := ok_4 f
  have e5 := ok_5 f
  have e6 := ok_6 f
  have e7 : okAt f 7 = fieldB (ofF f) 8 := rfl
  have e8 : okAt f 8 = fieldB (ofF f) 9 := rfl
  have e9 : okAt f 9 = inB (f 9) 0 1 := rfl
  have E1 : fwN f = if okAt f 0 then (if okAt f 1 then (if okAt f 2 then (if okAt f 3 then (if okAt f 4 then (if okAt f 5 then (if okAt f 6 then (if okAt f 7 then (if okAt f 8 then (if okAt f 9 then none else some 9) else some 8) else some 7) else some 6) else some 5) else some 4) else some 3) else some 2) else some 1) else some 0 := rfl
  have E2 : ∀ c, wrongN c = if fieldB c 1 then (if fieldB c 2 then (if fieldB c 3 then (if fieldB c 4 then (if fieldB c 5 then (if fieldB c 6 then (if fieldB c 7 then (if fieldB c 8 then (if fieldB c 9 then 0 else 9) else 8) else 7) else 6) else 5) else 4) else 3) else 2) else 1 := fun c => rfl
  rw [E1, E2, e9]
  generalize ofF f = c at *
  rw [e0, e1, e7, e8, e6, e2, e3]
  cases h1 : fieldB c 1
  · simp
  cases h2 : fieldB c 2
  · simp
  cases h3 : fieldB c 3
  · simp
  cases h4 : fieldB c 4
  · simp
  rw [e4 (by rw [e3, h4]), e5 (by rw [e2, h3])]
  cases h5 : fieldB c 5
  · simp
  cases h6 : fieldB c 6
  · simp
  cases h7 : fieldB c 7
  · simp
  cases h8 : fieldB c 8
  · simp
  cases h9 : fieldB c 9
  · simp
  · simp
theorem of_fld (c : Cf) : ofF (fldF c) = c := by
  obtain ⟨a, b, d, e, g, h, i, j, k, l⟩ := c
  show Cf.mk a b d e g h i j k ((if l then (1 : Int) else 0) == 1) = _
  cases l <;> rfl
/-- Of a job. -/
theorem fw_job (c : Cf) : fwN (fldF c) = if wrongN c = 0 then none else some (wrongN c - 1) := by
  rw [fw_link, of_fld]
  have : inB (fldF c 9) 0 1 = true := by
    show inB (if c.di then (1 : Int) else 0) 0 1 = true
    cases c.di <;> rfl
  rw [this]
  simp
theorem fw_none {c : Cf} (h : wrongN c = 0) : fwN (fldF c) = none := by rw [fw_job, if_pos h]
theorem fw_some {c : Cf} (h : wrongN c ≠ 0) : fwN (fldF c) = some (wrongN c - 1) := by rw [fw_job, if_neg h]
theorem wr_job (c : Cf) : wrV (fwN (fldF c)) = .tuple #[.int .i64 (wrongN c : Nat), .int .i64 (if wrongN c = 0 then 0 else 4)] := by
  rw [fw_job]
  by_cases h : wrongN c = 0
  · rw [if_pos h, if_pos h, h]; rfl
  · rw [if_neg h, if_neg h]
    show Value.tuple #[.int .i64 ((wrongN c - 1 + 1 : Nat) : Int), .int .i64 4] = _
    rw [show wrongN c - 1 + 1 = wrongN c by omega]
theorem ch_job (c : Cf) : chN (fwN (fldF c)) = if wrongN c = 0 then 0 else 4 := by
  rw [fw_job]
  by_cases h : wrongN c = 0
  · rw [if_pos h, if_pos h]; rfl
  · rw [if_neg h, if_neg h]; rfl

end Go.Proofs.YtapnjofplilefaaGreat
