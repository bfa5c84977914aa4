/- Plain mathematics: what was read as a number, a text, a rising list has just the bytes of its form. -/
import Derived.Test.YthhajlbnnffgnaaClimb
namespace Go.Proofs.Ythhajlbnnffgnaa

theorem scanF_form : ∀ (l : List Int) (i acc x n : Nat), i ≤ 9 → (∀ c ∈ l, 0 ≤ c ∧ c ≤ 255) → scanF i acc l = (x, n, 0) → i < n ∧ ∃ y, x = acc + y * 128 ^ i ∧ numb y = l.take (n - i) ∧ (0 < i → 0 < y)
  | [], i, acc, x, n, _, _, h => by simp [scanF] at h
  | c :: r, i, acc, x, n, hi, hc, h => by
    have hc0 := hc c (by simp)
    rw [scanF] at h
    split at h
    · rename_i h9
      subst h9
      split at h
      · rename_i h1
        subst h1
        simp only [Prod.mk.injEq] at h
        obtain ⟨rfl, rfl, _⟩ := h
        refine ⟨by omega, 1, by rw [show (128 : Nat) ^ 9 = 9223372036854775808 by decide, Nat.one_mul], ?_, fun _ => by omega⟩
        rw [numb_lo (by omega)]; simp
      · simp at h
    · rename_i h9
      split at h
      · rename_i h128
        obtain ⟨hn, y, hx, hy, hp⟩ := scanF_form r (i + 1) _ x n (by omega) (fun d hd => hc d (by simp [hd])) h
        have hy0 := hp (by omega)
        refine ⟨by omega, (c.toNat - 128) + 128 * y, ?_, ?_, fun _ => by omega⟩
        · rw [hx, Nat.pow_succ, Nat.add_mul, Nat.add_assoc]
          congr 2
          rw [Nat.mul_comm 128 y, Nat.mul_assoc, Nat.mul_comm 128 (128 ^ i)]
        · rw [numb_hi (by omega)]
          have e1 : (c.toNat - 128 + 128 * y) / 128 = y := by omega
          have e2 : (((c.toNat - 128 + 128 * y) % 128 + 128 : Nat) : Int) = c := by omega
          rw [e1, e2, hy, show n - i = (n - (i + 1)) + 1 by omega, List.take_succ_cons]
      · rename_i h128
        split at h
        · simp at h
        · rename_i hz
          simp only [Prod.mk.injEq] at h
          obtain ⟨rfl, rfl, _⟩ := h
          refine ⟨by omega, c.toNat, rfl, ?_, fun h0 => by omega⟩
          rw [numb_lo (by omega), show i + 1 - i = 1 by omega]
          simp
          omega

theorem scan_form {l : List Int} {x n : Nat} (h8 : In8 l) (h : scan l = (x, n, 0)) : numb x = l.take n := by
  obtain ⟨_, y, hx, hy, _⟩ := scanF_form l 0 0 x n (by omega) h8 h
  have : x = y := by rw [hx]; omega
  rw [this, hy]; rfl

theorem zigzag_unz (u : Nat) : Lib.zigzag (unz u) = u := by
  unfold Lib.zigzag unz
  split <;> split <;> omega

theorem bytesOf_str : ∀ (xs : List Int), In8 xs → bytesOf (strOfNums xs) = xs := by
  intro xs h
  unfold bytesOf
  rw [strOfNums_data, List.map_map]
  have : ∀ x ∈ xs, ((fun b : UInt8 => (b.toNat : Int)) ∘ fun n : Int => UInt8.ofNat n.toNat) x = id x := by
    intro x hx
    have := h x hx
    simp [UInt8.toNat_ofNat']
    omega
  rw [List.map_congr_left this, List.map_id]

theorem risItem_append (l : List Int) (y : Int) (i : Nat) (hi : i < l.length) : risItem (l ++ [y]) i = risItem l i := by
  have g : ∀ j, j < l.length → (l ++ [y]).getD j 0 = l.getD j 0 := by
    intro j hj
    rw [List.getD_eq_getElem?_getD, List.getElem?_append_left hj, ← List.getD_eq_getElem?_getD]
  unfold risItem
  split
  · rw [g 0 (by omega)]
  · rw [g i hi, g (i - 1) (by omega)]

theorem risTo_append (l : List Int) (y : Int) : ∀ k, k ≤ l.length → risTo (l ++ [y]) k = risTo l k
  | 0, _ => rfl
  | k + 1, h => by rw [risTo_succ, risTo_succ, risTo_append l y k (by omega), risItem_append l y k (by omega)]

theorem take_more (bs : List Int) (p q m : Nat) (h : p ≤ q) : (bs.drop p).take (q - p) ++ (bs.drop q).take m = (bs.drop p).take (q + m - p) := by
  have e : q + m - p = (q - p) + m := by omega
  rw [e, List.take_add, List.drop_drop, show p + (q - p) = q by omega]

theorem climb_form {bs : List Int} {p : Nat} (h8 : In8 bs) (hp : p ≤ bs.length) : ∀ (k : Nat) (l : List Int) (q : Nat), climbF bs p k = (l, q, 0) → risTo l k = (bs.drop p).take (q - p) ∧ p ≤ q ∧ q ≤ bs.length
  | 0, l, q, h => by
    simp [climbF] at h
    obtain ⟨rfl, rfl⟩ := h
    exact ⟨by simp [risTo], Nat.le_refl _, hp⟩
  | k + 1, l, q, h => by
    have hz : (climbF bs p k).2.2 = 0 := by
      by_cases e : (climbF bs p k).2.2 = 0
      · exact e
      · exfalso
        have := climb_stays (n := k + 1) rfl e (by omega)
        rw [h] at this; exact e this.symm
    obtain ⟨l0, q0, e0, hl0⟩ : ∃ l0 q0 e0, climbF bs p k = (l0, q0, e0) := ⟨_, _, _, rfl⟩
    rw [hl0] at hz
    simp only at hz
    subst hz
    obtain ⟨a, b, c⟩ := climb_form h8 hp k l0 q0 hl0
    obtain ⟨ll, _, h64, _⟩ := climb_ok h8 k l0 q0 hl0
    obtain ⟨x, m, e, hs⟩ : ∃ x m e, scan (bs.drop q0) = (x, m, e) := ⟨_, _, _, rfl⟩
    by_cases he : e = 0
    · subst he
      have hf := scan_form (h8.drop q0) hs
      have hsz := scan_size (bs.drop q0)
      rw [hs] at hsz
      simp at hsz
      by_cases hk : k = 0
      · subst hk
        have hl : l0 = [] := List.eq_nil_of_length_eq_zero ll
        have hq : q0 = p := by simp [climbF] at hl0; omega
        subst hl hq
        rw [climb_first hs] at h
        simp at h
        obtain ⟨rfl, rfl⟩ := h
        refine ⟨?_, by omega, by omega⟩
        rw [risTo_succ, risTo_zero, List.nil_append]
        unfold risItem
        rw [if_pos rfl, show [unz x].getD 0 0 = unz x from rfl, zigzag_unz, hf, show q0 + m - q0 = m by omega]
      · by_cases ht : top - l0.getD (k - 1) 0 ≤ (x : Int)
        · have := climb_no hl0 hk hs ht
          rw [h] at this; cases this
        · rw [climb_next hl0 hk hs ht] at h
          simp only [Prod.mk.injEq] at h
          obtain ⟨rfl, rfl, _⟩ := h
          refine ⟨?_, by omega, by omega⟩
          rw [risTo_succ, risTo_append l0 _ k (by omega), a, ← take_more bs p q0 m b]
          congr 1
          unfold risItem
          rw [if_neg hk]
          have g1 : (l0 ++ [l0.getD (k - 1) 0 + (x : Int) + 1]).getD k 0 = l0.getD (k - 1) 0 + (x : Int) + 1 := by
            rw [List.getD_eq_getElem?_getD, List.getElem?_append_right (by omega), ll]; simp
          have g0 : (l0 ++ [l0.getD (k - 1) 0 + (x : Int) + 1]).getD (k - 1) 0 = l0.getD (k - 1) 0 := by
            rw [List.getD_eq_getElem?_getD, List.getElem?_append_left (by omega), ← List.getD_eq_getElem?_getD]
          rw [g1, g0, show (l0.getD (k - 1) 0 + (x : Int) + 1 - l0.getD (k - 1) 0 - 1).toNat = x by omega, hf]
    · have := climb_err hl0 hs he
      rw [h] at this; exact absurd this.symm he

end Go.Proofs.Ythhajlbnnffgnaa
