/- Reading a number back. -/
import Derived.Test.YtdcpmpbfnfjncaaGreatDoorER
namespace Go.Proofs.YtdcpmpbfnfjncaaGreatDoor
open Go.RowKit


theorem scanF_form : ∀ (l : List Int) (i acc x n : Nat), i ≤ 9 → (∀ c ∈ l, 0 ≤ c ∧ c ≤ 255) → scanF i acc l = (x, n, 0) → i < n ∧ ∃ y, x = acc + y * 128 ^ i ∧ numb y = l.take (n - i) ∧ (0 < i → 0 < y)
  | [], i, acc, x, n, _, _, h => by simp [scanF] at h
  | c :: r, i, acc, x, n, hi, hc, h => by
    have hc0 := hc c (by simp)
    rw [scanF] at h
    split at h
    · rename_i h9
      subst h9
      split at h
      · rename_i h1
        subst h1
        simp only [Prod.mk.injEq] at h
        obtain ⟨rfl, rfl, _⟩ := h
        refine ⟨by omega, 1, by rw [show (128 : Nat) ^ 9 = 9223372036854775808 by decide, Nat.one_mul], ?_, fun _ => by omega⟩
        rw [numb_lo (by omega)]; simp
      · simp at h
    · rename_i h9
      split at h
      · rename_i h128
        obtain ⟨hn, y, hx, hy, hp⟩ := scanF_form r (i + 1) _ x n (by omega) (fun d hd => hc d (by simp [hd])) h
        have hy0 := hp (by omega)
        refine ⟨by omega, (c.toNat - 128) + 128 * y, ?_, ?_, fun _ => by omega⟩
        · rw [hx, Nat.pow_succ, Nat.add_mul, Nat.add_assoc]
          congr 2
          rw [Nat.mul_comm 128 y, Nat.mul_assoc, Nat.mul_comm 128 (128 ^ i)]
        · rw [numb_hi (by omega)]
          have e1 : (c.toNat - 128 + 128 * y) / 128 = y := by omega
          have e2 : (((c.toNat - 128 + 128 * y) % 128 + 128 : Nat) : Int) = c := by omega
          rw [e1, e2, hy, show n - i = (n - (i + 1)) + 1 by omega, List.take_succ_cons]
      · rename_i h128
        split at h
        · simp at h
        · rename_i hz
          simp only [Prod.mk.injEq] at h
          obtain ⟨rfl, rfl, _⟩ := h
          refine ⟨by omega, c.toNat, rfl, ?_, fun h0 => by omega⟩
          rw [numb_lo (by omega), show i + 1 - i = 1 by omega]
          simp
          omega

theorem scan_form {l : List Int} {x n : Nat} (h8 : In8 l) (h : scan l = (x, n, 0)) : numb x = l.take n := by
  obtain ⟨_, y, hx, hy, _⟩ := scanF_form l 0 0 x n (by omega) h8 h
  have : x = y := by rw [hx]; omega
  rw [this, hy]; rfl

theorem scanF_numb (y : Nat) : ∀ (i acc : Nat) (r : List Int), i ≤ 9 → acc + y * 128 ^ i < 18446744073709551616 → (0 < i → 0 < y) → scanF i acc (numb y ++ r) = (acc + y * 128 ^ i, i + (numb y).length, 0) := by
  induction y using Nat.strongRecOn with
  | ind y ih =>
    intro i acc r hi hb hp
    have p9 : (128 : Nat) ^ 9 = 9223372036854775808 := by decide
    by_cases h : y < 128
    · rw [numb_lo h]
      show scanF i acc ((y : Int) :: r) = _
      by_cases h9 : i = 9
      · subst h9
        rw [p9] at hb
        have : y = 1 := by have := hp (by omega); omega
        subst this
        rw [scanF, if_pos rfl, if_pos (by rfl), p9]
        simp
      · have hz : ¬ ((y : Int) = 0 ∧ 0 < i) := fun e => by have := hp e.2; omega
        rw [scanF, if_neg h9, if_neg (by omega), if_neg hz]
        simp
    · have h9 : ¬ i = 9 := by
        intro e
        subst e
        rw [p9] at hb
        omega
      rw [numb_hi (by omega)]
      show scanF i acc (((y % 128 + 128 : Nat) : Int) :: (numb (y / 128) ++ r)) = _
      rw [scanF, if_neg h9, if_pos (by omega)]
      have e1 : (((y % 128 + 128 : Nat) : Int)).toNat - 128 = y % 128 := by omega
      have e2 : acc + y % 128 * 128 ^ i + y / 128 * 128 ^ (i + 1) = acc + y * 128 ^ i := by
        rw [Nat.pow_succ, Nat.mul_comm (128 ^ i) 128, ← Nat.mul_assoc, Nat.add_assoc, ← Nat.add_mul, show y % 128 + y / 128 * 128 = y by omega]
      rw [e1, ih (y / 128) (by omega) (i + 1) _ r (by omega) (by rw [e2]; exact hb) (fun _ => by omega), e2]
      rw [List.length_cons, show i + 1 + (numb (y / 128)).length = i + ((numb (y / 128)).length + 1) by omega]

theorem scan_numb {x : Nat} (h : x < 18446744073709551616) (r : List Int) : scan (numb x ++ r) = (x, (numb x).length, 0) := by
  have := scanF_numb x 0 0 r (by omega) (by simpa using h) (fun h => by omega)
  simpa [scan] using this

end Go.Proofs.YtdcpmpbfnfjncaaGreatDoor
