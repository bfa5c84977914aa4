/- What Read answers: the job with whose bytes they begin, or none (mathematics alone). -/
import Derived.Test.YtjambfncemlenaaDoorCE
import Derived.Test.YtjambfncemlenaaDoorCN
namespace Go.Proofs.YtjambfncemlenaaDoor
open Go.RowKit
open Cg

theorem rdL_numb : ∀ (k y acc j : Nat) (r : List Int), y < 128 ^ (k + 1) → rdL (k + 1) (numb y ++ r) acc j = some (acc + y * 128 ^ j, j + (numb y).length)
  | k, y, acc, j, r, h => by
    by_cases hy : y < 128
    · have e : (y : Int).toNat % 128 = y := by omega
      rw [numb_lo hy, List.singleton_append, rdL_cons, if_pos (by omega), e, List.length_singleton]
    · obtain ⟨k', rfl⟩ : ∃ k', k = k' + 1 := ⟨k - 1, by
        rcases Nat.eq_zero_or_pos k with h0 | h0
        · subst h0; omega
        · omega⟩
      have ih := rdL_numb k' (y / 128) (acc + y % 128 * 128 ^ j) (j + 1) r (by rw [Nat.pow_succ] at h; omega)
      rw [numb_hi (by omega : 128 ≤ y), List.cons_append, rdL_cons, if_neg (by omega)]
      have e : (((y % 128 + 128 : Nat)) : Int).toNat % 128 = y % 128 := by omega
      rw [e, ih]
      congr 1
      refine Prod.ext ?_ ?_
      · show acc + y % 128 * 128 ^ j + y / 128 * 128 ^ (j + 1) = acc + y * 128 ^ j
        have e2 : y / 128 * 128 ^ (j + 1) = y / 128 * 128 * 128 ^ j := by rw [Nat.pow_succ, Nat.mul_comm (128 ^ j) 128, Nat.mul_assoc]
        rw [e2, Nat.add_assoc, ← Nat.add_mul]
        congr 2
        omega
      · show j + 1 + (numb (y / 128)).length = j + ((numb (y / 128)).length + 1)
        omega

theorem readX_numb {b : List Int} {p x : Nat} {r : List Int} (h : b.drop p = numb x ++ r) (hx : x < 72057594037927936) : readX b p = ((x : Int), ((p + (numb x).length : Nat) : Int), true) := by
  have e := rdL_numb 7 x 0 0 r (by have : (128 : Nat) ^ (7 + 1) = 72057594037927936 := by decide
                                   omega)
  rw [Nat.zero_add, Nat.zero_add, Nat.pow_zero, Nat.mul_one] at e
  unfold readX
  rw [h, e]
  simp

/-- The first numbers of bytes that begin with a job's. -/
theorem rdS_of {c : Cf} {m : List Int} (hin : ∀ j, j < 10 → 0 ≤ fldF c j ∧ fldF c j < 72057594037927936) : ∀ i, i ≤ 10 → rdS (cfB c 10 ++ m) i = some (fun k => if k < i then fldF c k else 0, (cfB c i).length)
  | 0, _ => by
    show some _ = some _
    congr 1
  | i + 1, hi => by
    have ih := rdS_of (m := m) hin i (by omega)
    have hp : ∀ q n, n ≤ 10 - q → q + n ≤ 10 → ∃ r, cfB c (q + n) = cfB c q ++ r := by
      intro q n
      induction n with
      | zero => intro _ _; exact ⟨[], by simp⟩
      | succ n ih =>
        intro h1 h2
        obtain ⟨r, hr⟩ := ih (by omega) (by omega)
        exact ⟨r ++ numb (fldF c (q + n)).toNat, by rw [← Nat.add_assoc, cfB_next, hr, List.append_assoc]⟩
    obtain ⟨r, hr⟩ := hp (i + 1) (10 - (i + 1)) (by omega) (by omega)
    rw [show i + 1 + (10 - (i + 1)) = 10 by omega] at hr
    have hd : (cfB c 10 ++ m).drop (cfB c i).length = numb (fldF c i).toNat ++ (r ++ m) := by
      rw [hr, cfB_next, List.append_assoc, List.append_assoc, List.drop_left]
    have hxi := hin i (by omega)
    have e := readX_numb hd (by omega)
    rw [rdS, ih]
    simp only [e, if_true]
    congr 1
    refine Prod.ext ?_ ?_
    · funext k
      show (if k = i then (((fldF c i).toNat : Nat) : Int) else if k < i then fldF c k else 0) = if k < i + 1 then fldF c k else 0
      by_cases h : k = i
      · rw [if_pos h, h, if_pos (by omega)]
        omega
      · rw [if_neg h]
        by_cases h2 : k < i
        · rw [if_pos h2, if_pos (by omega)]
        · rw [if_neg h2, if_neg (by omega)]
    · show (((cfB c i).length + (numb (fldF c i).toNat).length : Nat) : Int).toNat = (cfB c (i + 1)).length
      rw [cfB_next, List.length_append]
      omega

/-- Read gives a job's own bytes back, whatever stands behind them. -/
theorem rd_bytes {c : Cf} (m : List Int) (hw : wrongN c = 0) (hin : ∀ j, j < 10 → 0 ≤ fldF c j ∧ fldF c j < 72057594037927936) : rdJ (cfB c 10 ++ m) = (c, ((cfB c 10).length : Int), true) := by
  have e := rdS_of (m := m) hin 10 (by omega)
  have ef : fldF c 9 = if c.di then 1 else 0 := rfl
  have hc : ofF (fun k => if k < 10 then fldF c k else 0) = c := by
    have e9 : (fldF c 9 == 1) = c.di := by
      rw [ef]
      cases c.di <;> rfl
    show (⟨fldF c 0, fldF c 1, fldF c 2, fldF c 3, fldF c 4, fldF c 5, fldF c 6, fldF c 7, fldF c 8, fldF c 9 == 1⟩ : Cf) = c
    rw [e9]
    rfl
  have h9 : (fun k => if k < 10 then fldF c k else 0) 9 ≤ 1 := by
    show fldF c 9 ≤ 1
    rw [ef]
    split <;> omega
  have st : rdJ (cfB c 10 ++ m) = if wrongN (ofF fun k => if k < 10 then fldF c k else 0) = 0 ∧ (fun k => if k < 10 then fldF c k else 0) 9 ≤ 1 then (ofF (fun k => if k < 10 then fldF c k else 0), ((cfB c 10).length : Int), true) else (cf0, 0, false) := by
    unfold rdJ
    rw [e]
  rw [st, hc]
  exact if_pos ⟨hw, h9⟩

/-- What Read found true stands at the bytes' begin. -/
theorem rdS_is {b : List Int} : ∀ i {f : Nat → Int} {p : Nat}, i ≤ 10 → rdS b i = some (f, p) → b.take p = (List.range i).flatMap (fun j => numb (f j).toNat) ∧ p ≤ b.length ∧ ∀ k, 0 ≤ f k
  | 0, f, p, _, h => by
    have h : some ((fun _ => (0 : Int)), 0) = some (f, p) := h
    cases h
    exact ⟨rfl, Nat.zero_le _, fun _ => Int.le_refl _⟩
  | i + 1, f, p, hi, h => by
    rw [rdS] at h
    cases e : rdS b i with
    | none => rw [e] at h; cases h
    | some g =>
      obtain ⟨g, q⟩ := g
      rw [e] at h
      obtain ⟨h1, h2, h3⟩ := rdS_is i (by omega) e
      simp only at h
      split at h
      · rename_i hok
        cases h
        obtain ⟨x0, n, hn, hnb⟩ := readX_le h2 hok
        have hx : ∃ x m : Nat, readX b q = ((x : Int), ((q + m : Nat) : Int), decide (numb x = (b.drop q).take m)) := by
          unfold readX at hok ⊢
          cases e8 : rdL 8 (b.drop q) 0 0 with
          | none => rw [e8] at hok; cases hok
          | some r => exact ⟨r.1, r.2, rfl⟩
        obtain ⟨x, m, hx⟩ := hx
        rw [hx] at hok hn x0 ⊢
        have hm : numb x = (b.drop q).take m := of_decide_eq_true hok
        refine ⟨?_, ?_, fun k => ?_⟩
        · show b.take (((q + m : Nat) : Int).toNat) = _
          rw [Int.toNat_natCast, List.range_succ, List.flatMap_append, List.take_add, h1]
          have e1 : (List.range i).flatMap (fun j => numb (upF g i (x : Int) j).toNat) = (List.range i).flatMap fun j => numb (g j).toNat := by
            rw [List.flatMap_def, List.flatMap_def]
            congr 1
            refine List.map_congr_left fun j hj => ?_
            rw [List.mem_range] at hj
            unfold upF
            rw [if_neg (by omega)]
          rw [e1]
          congr 1
          rw [← hm]
          simp [upF]
        · simp only at hn
          show ((q + m : Nat) : Int).toNat ≤ _
          omega
        · show 0 ≤ upF g i (x : Int) k
          unfold upF
          split
          · omega
          · exact h3 k
      · cases h
/-- What Read gives is the job with whose bytes they begin. -/
theorem rd_is {b : List Int} (h : (rdJ b).2.2 = true) : wrongN (rdJ b).1 = 0 ∧ ∃ p : Nat, (rdJ b).2.1 = (p : Int) ∧ p ≤ b.length ∧ b.take p = cfB (rdJ b).1 10 := by
  have st : ∀ f p, rdS b 10 = some (f, p) → rdJ b = if wrongN (ofF f) = 0 ∧ f 9 ≤ 1 then (ofF f, (p : Int), true) else (cf0, 0, false) := fun f p h => by unfold rdJ; rw [h]
  cases e : rdS b 10 with
  | none =>
    have : rdJ b = (cf0, 0, false) := by unfold rdJ; rw [e]
    rw [this] at h
    cases h
  | some r =>
    obtain ⟨f, p⟩ := r
    have s := st f p e
    obtain ⟨h1, h2, h3⟩ := rdS_is 10 (Nat.le_refl _) e
    by_cases hc : wrongN (ofF f) = 0 ∧ f 9 ≤ 1
    · rw [if_pos hc] at s
      rw [s]
      refine ⟨hc.1, p, rfl, h2, ?_⟩
      rw [h1]
      unfold cfB
      rw [List.flatMap_def, List.flatMap_def]
      congr 1
      refine List.map_congr_left fun j hj => ?_
      rw [List.mem_range] at hj
      have hj9 : fldF (ofF f) j = f j := by
        rcases (by omega : j = 0 ∨ j = 1 ∨ j = 2 ∨ j = 3 ∨ j = 4 ∨ j = 5 ∨ j = 6 ∨ j = 7 ∨ j = 8 ∨ j = 9) with rfl | rfl | rfl | rfl | rfl | rfl | rfl | rfl | rfl | rfl
        · rfl
        · rfl
        · rfl
        · rfl
        · rfl
        · rfl
        · rfl
        · rfl
        · rfl
        · have h9 := h3 9
          have ef : fldF (ofF f) 9 = if (f 9 == 1) = true then 1 else 0 := rfl
          rw [ef]
          rcases (by omega : f 9 = 0 ∨ f 9 = 1) with h | h <;> rw [h] <;> rfl
      rw [hj9]
    · rw [if_neg hc] at s
      rw [s] at h
      cases h
theorem rd_none {b : List Int} (h : (rdJ b).2.2 = false) : (rdJ b).1 = cf0 ∧ (rdJ b).2.1 = 0 := by
  unfold rdJ at *
  split at h
  · exact ⟨rfl, rfl⟩
  · split at h
    · cases h
    · rename_i h1
      rw [if_neg h1]
      exact ⟨rfl, rfl⟩

end Go.Proofs.YtjambfncemlenaaDoor
