/- A job out of bytes: the program reads what the document reads (plain mathematics). -/
import Derived.Test.YtjambfncemlenaaDoorEF
import Derived.Test.YtjambfncemlenaaDoorES
namespace Go.Proofs.YtjambfncemlenaaDoor
open Go.RowKit

theorem fld_of {f : Nat → Int} (h9 : inB (f 9) 0 1 = true) : ∀ j, j < 10 → fldF (ofF f) j = f j := fun j hj => by
  unfold inB at h9
  simp at h9
  rcases (by omega : j = 0 ∨ j = 1 ∨ j = 2 ∨ j = 3 ∨ j = 4 ∨ j = 5 ∨ j = 6 ∨ j = 7 ∨ j = 8 ∨ j = 9) with rfl | rfl | rfl | rfl | rfl | rfl | rfl | rfl | rfl | rfl
  all_goals first | rfl | skip
  show (if (f 9 == 1) = true then (1 : Int) else 0) = f 9
  rcases (by omega : f 9 = 0 ∨ f 9 = 1) with h | h <;> rw [h] <;> rfl

/-- What was read stands at the text's begin. -/
theorem pgS_is {b : List Int} (h8 : In8 b) : ∀ i {f : Nat → Int} {p : Nat}, i ≤ 10 → pgS b i = some (f, p) → b.take p = (List.range i).flatMap (fun j => numb (f j).toNat) ∧ p ≤ b.length
  | 0, f, p, _, h => by
    have e : (f0, 0) = (f, p) := Option.some.inj h
    injection e with e1 e2
    subst e2
    simp
  | i + 1, f, p, hi, h => by
    rw [pgS] at h
    cases hS : pgS b i with
    | none => rw [hS] at h; cases h
    | some r =>
      obtain ⟨f', p'⟩ := r
      obtain ⟨ih1, ih2⟩ := pgS_is h8 i (by omega) hS
      rw [hS] at h
      simp only at h
      split at h
      · rename_i hc
        obtain ⟨hc1, hc2⟩ := hc
        have e := Option.some.inj h
        injection e with e1 e2
        have hs : scan (b.drop p') = ((scan (b.drop p')).1, (scan (b.drop p')).2.1, 0) := by rw [← hc1]
        have hf := scan_form (h8.drop p') hs
        have hz := scan_size (b.drop p')
        rw [List.length_drop] at hz
        generalize (scan (b.drop p')).1 = x at *
        generalize (scan (b.drop p')).2.1 = n at *
        subst e2
        refine ⟨?_, by omega⟩
        rw [List.take_add, ih1, ← hf, List.range_succ, List.flatMap_append]
        have hlow : (List.range i).flatMap (fun j => numb (f' j).toNat) = (List.range i).flatMap (fun j => numb (f j).toNat) := by
          rw [← e1]
          have : ∀ j ∈ List.range i, numb (f' j).toNat = numb (stF f' i (x : Int) j).toNat := fun j hj => by
            have := List.mem_range.1 hj
            unfold stF
            rw [if_neg (by omega)]
          rw [List.flatMap_def, List.flatMap_def, List.map_congr_left this]
        rw [hlow]
        have hx : f i = (x : Int) := by rw [← e1]; unfold stF; rw [if_pos rfl]
        simp [hx]
      · cases h

/-- A job's own bytes are read. -/
theorem pgS_of {c : Cf} {m : List Int} (hin : ∀ j, j < 10 → 0 ≤ fldF c j ∧ fldF c j < 72057594037927936) : ∀ i, i ≤ 10 → ∃ f, pgS (cfB c 10 ++ m) i = some (f, (cfB c i).length) ∧ ∀ j, j < i → f j = fldF c j
  | 0, _ => ⟨f0, rfl, fun j hj => absurd hj (by omega)⟩
  | i + 1, hi => by
    obtain ⟨f, ih, hf⟩ := pgS_of hin i (by omega)
    obtain ⟨h0, h1⟩ := hin i (by omega)
    have hp : ∀ q n, n ≤ 10 - q → q + n ≤ 10 → ∃ r, cfB c (q + n) = cfB c q ++ r := by
      intro q n
      induction n with
      | zero => exact fun _ _ => ⟨[], by simp⟩
      | succ n ihn =>
        intro hn hq
        obtain ⟨r, hr⟩ := ihn (by omega) (by omega)
        exact ⟨r ++ numb (fldF c (q + n)).toNat, by rw [← Nat.add_assoc, cfB_next, hr, List.append_assoc]⟩
    obtain ⟨r, hr⟩ := hp (i + 1) (10 - (i + 1)) (by omega) (by omega)
    rw [show i + 1 + (10 - (i + 1)) = 10 by omega] at hr
    have hd : (cfB c 10 ++ m).drop (cfB c i).length = numb (fldF c i).toNat ++ (r ++ m) := by
      rw [hr, cfB_next, List.append_assoc, List.append_assoc, List.drop_left]
    have hs := scan_numb (x := (fldF c i).toNat) (by omega) (r ++ m)
    rw [← hd] at hs
    refine ⟨stF f i (fldF c i), ?_, fun j hj => ?_⟩
    · rw [pgS, ih]
      simp only [hs]
      rw [if_pos ⟨trivial, by omega⟩, cfB_next, List.length_append, show (((fldF c i).toNat : Nat) : Int) = fldF c i by omega]
    · unfold stF
      by_cases hji : j = i
      · rw [if_pos hji, hji]
      · rw [if_neg hji]; exact hf j (by omega)

theorem cfB_of {f : Nat → Int} (h9 : inB (f 9) 0 1 = true) : (List.range 10).flatMap (fun j => numb (f j).toNat) = cfB (ofF f) 10 := by
  unfold cfB
  have : ∀ j ∈ List.range 10, numb (f j).toNat = numb (fldF (ofF f) j).toNat := fun j hj => by rw [fld_of h9 j (List.mem_range.1 hj)]
  rw [List.flatMap_def, List.flatMap_def, List.map_congr_left this]
theorem ext10 {f : Nat → Int} {c : Cf} (h : ∀ j, j < 10 → f j = fldF c j) : ofF f = c := by
  have e : ofF f = ofF (fldF c) := by
    unfold ofF
    rw [h 0 (by omega), h 1 (by omega), h 2 (by omega), h 3 (by omega), h 4 (by omega), h 5 (by omega), h 6 (by omega), h 7 (by omega), h 8 (by omega), h 9 (by omega)]
  rw [e, of_fld]
theorem disc_in (c : Cf) : inB (fldF c 9) 0 1 = true := by
  show inB (if c.di then (1 : Int) else 0) 0 1 = true
  cases c.di <;> rfl
/-- Read of a job's bytes, whatever stands behind them. -/
theorem pg_bytes {c : Cf} (m : List Int) (hw : wrongN c = 0) : pgJ (cfB c 10 ++ m) = (c, ((cfB c 10).length : Int), true) := by
  have hin : ∀ j, j < 10 → 0 ≤ fldF c j ∧ fldF c j < 72057594037927936 := fun j hj => by have := wrong_pos hw j hj; omega
  have hl := cfB_len (c := c) (pos_of hw) 10 (by omega)
  have e : (cfB c 10 ++ m).take 100 = cfB c 10 ++ m.take (100 - (cfB c 10).length) := by
    rw [List.take_append, List.take_of_length_le (by omega)]
  obtain ⟨f, hS, hf⟩ := pgS_of (m := m.take (100 - (cfB c 10).length)) hin 10 (by omega)
  have ef := ext10 hf
  unfold pgJ
  rw [e, hS]
  simp only
  rw [ef, if_pos ⟨hw, by rw [hf 9 (by omega)]; exact disc_in c⟩]
theorem pg_is {b : List Int} (h8 : In8 b) (h : (pgJ b).2.2 = true) : wrongN (pgJ b).1 = 0 ∧ ∃ m, b = cfB (pgJ b).1 10 ++ m := by
  unfold pgJ at h ⊢
  cases hS : pgS (b.take 100) 10 with
  | none => rw [hS] at h; cases h
  | some r =>
    obtain ⟨f, p⟩ := r
    rw [hS] at h
    simp only at h ⊢
    by_cases hc : wrongN (ofF f) = 0 ∧ inB (f 9) 0 1 = true
    · rw [if_pos hc] at h ⊢
      refine ⟨hc.1, ?_⟩
      obtain ⟨h1, h2⟩ := pgS_is (fun x hx => h8 x (List.mem_of_mem_take hx)) 10 (by omega) hS
      rw [cfB_of hc.2] at h1
      refine ⟨(b.take 100).drop p ++ b.drop 100, ?_⟩
      show b = cfB (ofF f) 10 ++ ((b.take 100).drop p ++ b.drop 100)
      rw [← h1, ← List.append_assoc, List.take_append_drop, List.take_append_drop]
    · rw [if_neg hc] at h; cases h
theorem pg_none {b : List Int} (h : (pgJ b).2.2 = false) : pgJ b = (cfz, 0, false) := by
  unfold pgJ at h ⊢
  cases hS : pgS (b.take 100) 10 with
  | none => rfl
  | some r =>
    obtain ⟨f, p⟩ := r
    rw [hS] at h
    simp only at h ⊢
    by_cases hc : wrongN (ofF f) = 0 ∧ inB (f 9) 0 1 = true
    · rw [if_pos hc] at h; cases h
    · rw [if_neg hc]

end Go.Proofs.YtjambfncemlenaaDoor
