/- Plain mathematics: lengths by their digits, as the document's answer reckons them. -/
import Derived.Test.YtfeifobljgmkkaaDoorFHead
namespace Go.Proofs.YtfeifobljgmkkaaDoor
open Go.RowKit Crcx

/-- The number of digits of seven bits, the lowest first. -/
def dsum : List Int → Nat
  | [] => 0
  | c :: r => c.toNat % 128 + 128 * dsum r

/-- Bytes of 128 and more. -/
def High (l : List Int) : Prop := ∀ c ∈ l, 128 ≤ c ∧ c ≤ 255

theorem dsum_append : ∀ (l r : List Int), dsum (l ++ r) = dsum l + 128 ^ l.length * dsum r
  | [], r => by simp [dsum]
  | c :: l, r => by
    rw [List.cons_append, dsum, dsum, dsum_append l r, List.length_cons, Nat.pow_succ, Nat.mul_add]
    rw [Nat.mul_comm (128 ^ l.length) 128, Nat.mul_assoc]; omega

theorem dsum_lt : ∀ (l : List Int), dsum l < 128 ^ l.length
  | [] => by simp [dsum]
  | c :: l => by
    have := dsum_lt l
    rw [dsum, List.length_cons, Nat.pow_succ]
    omega

theorem scanF_through : ∀ (l : List Int) (i acc : Nat) (r : List Int), High l → i + l.length ≤ 9 → scanF i acc (l ++ r) = scanF (i + l.length) (acc + dsum l * 128 ^ i) r
  | [], i, acc, r, _, _ => by simp [dsum]
  | c :: l, i, acc, r, h, hl => by
    have hc := h c (by simp)
    rw [List.cons_append, scan_more i acc c _ (by simp at hl; omega) hc.1 hc.2, scanF_through l (i + 1) _ r (fun x hx => h x (by simp [hx])) (by simp at hl; omega)]
    congr 1
    · simp; omega
    · rw [dsum, Nat.add_mul, Nat.pow_succ, Nat.mul_comm (128 ^ i) 128, ← Nat.mul_assoc, Nat.mul_comm (dsum l) 128, Nat.add_assoc]

theorem scan_high {l : List Int} (h : High l) (hl : l.length ≤ 9) : scan l = (0, 0, 110) := by
  have := scanF_through l 0 0 [] h (by omega)
  rw [List.append_nil] at this
  unfold scan; rw [this]; unfold scanF; rfl

theorem scan_then {l : List Int} {c : Int} (r : List Int) (h : High l) (hl : l.length ≤ 8) (h0 : 0 ≤ c) (h1 : c < 128) : scan (l ++ c :: r) = if c = 0 ∧ 0 < l.length then (0, 0, 111) else (dsum (l ++ [c]), l.length + 1, 0) := by
  unfold scan
  rw [scanF_through l 0 0 _ h (by omega), Nat.zero_add, Nat.zero_add, Nat.pow_zero, Nat.mul_one]
  by_cases hz : c = 0 ∧ 0 < l.length
  · rw [if_pos hz, scan_zero _ _ _ _ (by omega) (by omega) hz]
  · rw [if_neg hz, scan_last _ _ _ _ (by omega) h0 (by omega) hz, dsum_append]
    simp only [dsum]
    rw [Nat.mul_comm, Nat.mul_zero, Nat.add_zero]
    rfl

theorem pow_five {k : Nat} (h : 5 ≤ k) : 268435456 < 128 ^ k := by
  have : 128 ^ 5 ≤ 128 ^ k := Nat.pow_le_pow_right (by omega) h
  omega

theorem High.take {l : List Int} (h : High l) (n : Nat) : High (l.take n) := fun c hc => h c (List.mem_of_mem_take hc)

/-- All bytes are 128 and more. -/
theorem lenF_high {r : List Int} (h : High r) : lenF r = if dsum r + 128 ^ r.length ≤ 268435456 then (0, 130) else (0, 131) := by
  have h5 : (r.take 5).length ≤ 5 := by simp; omega
  have e1 := scan_high (h.take 5) (by omega)
  have e2 := scan_then (c := 1) [] (h.take 5) (by omega) (by omega) (by omega)
  rw [if_neg (by omega)] at e2
  unfold lenF
  rw [e1, e2, if_neg (by simp)]
  simp only [true_and]
  have hd : dsum (r.take 5 ++ [1]) = dsum (r.take 5) + 128 ^ (r.take 5).length := by
    rw [dsum_append]; simp [dsum]
  rw [hd]
  by_cases hr : r.length ≤ 5
  · rw [List.take_of_length_le hr]
  · have hl : (r.take 5).length = 5 := by simp; omega
    have a := pow_five (k := (r.take 5).length) (by omega)
    have b := pow_five (k := r.length) (by omega)
    rw [if_neg (by omega), if_neg (by omega)]

theorem numb_dsum : ∀ (l : List Int) (c : Int), High l → 0 ≤ c → c < 128 → (c ≠ 0 ∨ l = []) → numb (dsum (l ++ [c])) = l ++ [c]
  | [], c, _, h0, h1, _ => by
    have e : dsum ([] ++ [c]) = c.toNat := by simp [dsum]; omega
    rw [e, numb_lo (by omega)]
    simp; omega
  | x :: l, c, h, h0, h1, hc => by
    have hx := h x (by simp)
    have hc0 : c ≠ 0 := by rcases hc with hc | hc; exact hc; cases hc
    have ih := numb_dsum l c (fun y hy => h y (by simp [hy])) h0 h1 (.inl hc0)
    have hpos : 0 < dsum (l ++ [c]) := by
      rw [dsum_append]
      have : dsum [c] = c.toNat := by simp [dsum]; omega
      rw [this]
      have : 0 < 128 ^ l.length := Nat.pow_pos (by omega)
      have := Nat.mul_pos this (show 0 < c.toNat by omega)
      omega
    have e : dsum (x :: l ++ [c]) = x.toNat % 128 + 128 * dsum (l ++ [c]) := rfl
    rw [e, numb_hi (by omega), show (x.toNat % 128 + 128 * dsum (l ++ [c])) / 128 = dsum (l ++ [c]) by omega, ih]
    rw [List.cons_append]
    congr 1
    omega

/-- There is a byte below 128. -/
theorem lenF_low {l : List Int} {c : Int} (r : List Int) (h : High l) (h0 : 0 ≤ c) (h1 : c < 128) : lenF (l ++ c :: r) = if dsum (l ++ [c]) ≤ 268435456 ∧ (numb (dsum (l ++ [c]))).length = l.length + 1 then (dsum (l ++ [c]), 0) else (0, 131) := by
  by_cases hk : l.length ≤ 4
  · have e : (l ++ c :: r).take 5 = l ++ c :: r.take (4 - l.length) := by
      rw [List.take_append, List.take_of_length_le (by omega), show 5 - l.length = (4 - l.length) + 1 by omega, List.take_succ_cons]
    have hs := scan_then (r.take (4 - l.length)) h (by omega) h0 h1
    unfold lenF
    rw [e, hs]
    by_cases hz : c = 0 ∧ 0 < l.length
    · rw [if_pos hz, if_neg (by simp), if_neg (by simp), if_neg]
      intro hh
      have e2 : dsum (l ++ [c]) = dsum l := by rw [dsum_append, hz.1]; simp [dsum]
      have hlt := dsum_lt l
      rw [e2] at hh
      obtain ⟨k, hk'⟩ : ∃ k, l.length = k + 1 := ⟨l.length - 1, by omega⟩
      have := numb_len k (dsum l) (by rw [← hk']; exact hlt)
      omega
    · rw [if_neg hz]
      have hn := numb_dsum l c h h0 h1 (by
        by_cases hc : c = 0
        · right; exact List.eq_nil_of_length_eq_zero (by omega)
        · exact .inl hc)
      have hlen : (numb (dsum (l ++ [c]))).length = l.length + 1 := by rw [hn]; simp
      by_cases hm : dsum (l ++ [c]) ≤ 268435456
      · rw [if_pos ⟨rfl, hm⟩, if_pos ⟨hm, hlen⟩]
      · rw [if_neg (fun h => hm h.2), if_neg (by simp), if_neg (fun h => hm h.1)]
  · have e : (l ++ c :: r).take 5 = l.take 5 := List.take_append_of_le_length (by omega)
    have hl5 : (l.take 5).length = 5 := by simp; omega
    have e1 := scan_high (h.take 5) (by omega)
    have e2 := scan_then (c := 1) [] (h.take 5) (by omega) (by omega) (by omega)
    rw [if_neg (by omega)] at e2
    have hd : dsum (l.take 5 ++ [1]) = dsum (l.take 5) + 128 ^ (l.take 5).length := by
      rw [dsum_append]; simp [dsum]
    have a := pow_five (k := (l.take 5).length) (by omega)
    unfold lenF
    rw [e, e1, e2, if_neg (by simp), hd, if_neg (fun h => by have := h.2; simp only at this; omega), if_neg]
    intro hh
    have := numb5 hh.1
    omega

end Go.Proofs.YtfeifobljgmkkaaDoor
