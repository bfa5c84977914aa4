/- The bits in which two texts differ, and what follows for their sums. -/
import Derived.Test.YtfeifobljgmkkaaDoorCrc1
namespace Go.Proofs.YtfeifobljgmkkaaDoor
open Go.RowKit Crcx

/-- Byte i of a text. -/
def byt (xs : List Int) (i : Nat) : Nat := (xs.getD i 0).toNat

/-- Bit n of a text. -/
def bitOf (xs : List Int) (n : Nat) : Nat := byt xs (n / 8) / 2 ^ (n % 8) % 2

/-- They differ there. -/
def Dif (xs ys : List Int) (n : Nat) : Prop := bitOf xs n ≠ bitOf ys n

/-- The first and the last bit in which they differ, if there is one. -/
def Brst (xs ys : List Int) (m n : Nat) (ok : Bool) : Prop :=
  (ok = true ∧ Dif xs ys m ∧ Dif xs ys n ∧ ∀ j, Dif xs ys j → m ≤ j ∧ j ≤ n) ∨ (ok = false ∧ m = 0 ∧ n = 0 ∧ ∀ j, ¬ Dif xs ys j)

theorem Brst.unique {xs ys : List Int} {m n m' n' : Nat} {ok ok' : Bool} (h : Brst xs ys m n ok) (h' : Brst xs ys m' n' ok') : m = m' ∧ n = n' ∧ ok = ok' := by
  rcases h with ⟨a, b, c, d⟩ | ⟨a, b, c, d⟩ <;> rcases h' with ⟨a', b', c', d'⟩ | ⟨a', b', c', d'⟩
  · have p1 := d m' b'; have p2 := d n' c'; have p3 := d' m b; have p4 := d' n c
    exact ⟨by omega, by omega, by rw [a, a']⟩
  · exact absurd b (d' m)
  · exact absurd b' (d m')
  · exact ⟨by omega, by omega, by rw [a, a']⟩

/-- What Burst returns. -/
def RetBurst (xs ys : List Int) (e : Ending) : Prop := ∃ (m n : Nat) (ok : Bool), e = .returned (.tuple #[.int .i64 (m : Int), .int .i64 (n : Int), .bool ok]) ∧ Brst xs ys m n ok

theorem byt_lt {xs : List Int} (h : In8 xs) (i : Nat) : byt xs i < 256 := by
  have := h.at i; unfold byt; omega

theorem bit_ext : ∀ p q : Nat, p < 256 → q < 256 → (∀ k, k < 8 → p / 2 ^ k % 2 = q / 2 ^ k % 2) → p = q := by
  intro p q hp hq h
  apply Nat.eq_of_testBit_eq
  intro i
  rw [Nat.testBit_eq_decide_div_mod_eq, Nat.testBit_eq_decide_div_mod_eq]
  by_cases hi : i < 8
  · rw [h i hi]
  · have e (x : Nat) (hx : x < 256) : x / 2 ^ i = 0 := Nat.div_eq_of_lt (Nat.lt_of_lt_of_le hx (Nat.pow_le_pow_right (n := 2) (by omega) (show 8 ≤ i by omega)))
    rw [e p hp, e q hq]

theorem not_dif_byte {xs ys : List Int} {i : Nat} (h : byt xs i = byt ys i) (k : Nat) (hk : k < 8) : ¬ Dif xs ys (8 * i + k) := by
  intro hd
  apply hd
  unfold bitOf
  rw [show (8 * i + k) / 8 = i by omega, h]

theorem dif_byte {xs ys : List Int} {i k : Nat} (hk : k < 8) : Dif xs ys (8 * i + k) ↔ byt xs i / 2 ^ k % 2 ≠ byt ys i / 2 ^ k % 2 := by
  unfold Dif bitOf
  rw [show (8 * i + k) / 8 = i by omega, show (8 * i + k) % 8 = k by omega]

theorem xor_bit (p q k : Nat) : (p ^^^ q) / 2 ^ k % 2 = 1 ↔ p / 2 ^ k % 2 ≠ q / 2 ^ k % 2 := by
  rw [Nat.xor_div_two_pow, xor_mod2]
  rcases Nat.mod_two_eq_zero_or_one (p / 2 ^ k) with a | a <;> rcases Nat.mod_two_eq_zero_or_one (q / 2 ^ k) with b | b <;> rw [a, b] <;> decide

/-- The lowest and the highest bit of a byte. -/
def low8 (x : Nat) : Nat := ((List.range 8).find? fun k => x / 2 ^ k % 2 == 1).getD 8
def high8 (x : Nat) : Nat := ((List.range 8).reverse.find? fun k => x / 2 ^ k % 2 == 1).getD 8

theorem low8_spec : ∀ x : Fin 256, x.1 ≠ 0 → low8 x.1 < 8 ∧ x.1 / 2 ^ low8 x.1 % 2 = 1 ∧ ∀ k : Fin 8, k.1 < low8 x.1 → x.1 / 2 ^ k.1 % 2 = 0 := by decide +kernel
theorem high8_spec : ∀ x : Fin 256, x.1 ≠ 0 → high8 x.1 < 8 ∧ x.1 / 2 ^ high8 x.1 % 2 = 1 ∧ ∀ k : Fin 8, high8 x.1 < k.1 → x.1 / 2 ^ k.1 % 2 = 0 := by decide +kernel

/-- What the program works out: by the first and the last byte in which they differ. -/
theorem brst_of {xs ys : List Int} {f l : Nat} (h8 : In8 xs) (h8' : In8 ys) (hf : byt xs f ≠ byt ys f) (hl : byt xs l ≠ byt ys l) (hlo : ∀ i, i < f → byt xs i = byt ys i) (hhi : ∀ i, l < i → byt xs i = byt ys i) :
    Brst xs ys (8 * f + low8 (byt xs f ^^^ byt ys f)) (8 * l + high8 (byt xs l ^^^ byt ys l)) true := by
  have xl (i : Nat) : byt xs i ^^^ byt ys i < 256 := Nat.xor_lt_two_pow (n := 8) (byt_lt h8 i) (byt_lt h8' i)
  have nz {i : Nat} (h : byt xs i ≠ byt ys i) : byt xs i ^^^ byt ys i ≠ 0 := fun e => h (xor_eq_zero e)
  obtain ⟨a1, a2, a3⟩ := low8_spec ⟨_, xl f⟩ (nz hf)
  obtain ⟨b1, b2, b3⟩ := high8_spec ⟨_, xl l⟩ (nz hl)
  simp only at a1 a2 a3 b1 b2 b3
  refine .inl ⟨rfl, (dif_byte a1).2 ((xor_bit _ _ _).1 a2), (dif_byte b1).2 ((xor_bit _ _ _).1 b2), fun j hj => ?_⟩
  have hjb : Dif xs ys (8 * (j / 8) + j % 8) := by rw [Nat.div_add_mod]; exact hj
  have hk : j % 8 < 8 := by omega
  have hne : byt xs (j / 8) ≠ byt ys (j / 8) := fun e => not_dif_byte e _ hk hjb
  have hbit := (xor_bit _ _ _).2 ((dif_byte hk).1 hjb)
  have hfj : f ≤ j / 8 := Nat.le_of_not_lt fun h => hne (hlo _ h)
  have hjl : j / 8 ≤ l := Nat.le_of_not_lt fun h => hne (hhi _ h)
  constructor
  · by_cases e : j / 8 = f
    · rw [e] at hbit
      have : low8 (byt xs f ^^^ byt ys f) ≤ j % 8 := Nat.le_of_not_lt fun h =>
        absurd (hbit.symm.trans (a3 ⟨j % 8, hk⟩ h)) (by decide)
      omega
    · omega
  · by_cases e : j / 8 = l
    · rw [e] at hbit
      have : j % 8 ≤ high8 (byt xs l ^^^ byt ys l) := Nat.le_of_not_lt fun h =>
        absurd (hbit.symm.trans (b3 ⟨j % 8, hk⟩ h)) (by decide)
      omega
    · omega

theorem brst_same {xs ys : List Int} (h : ∀ i, byt xs i = byt ys i) : Brst xs ys 0 0 false :=
  .inr ⟨rfl, rfl, rfl, fun j hj => not_dif_byte (h (j / 8)) (j % 8) (by omega) (by rw [Nat.div_add_mod]; exact hj)⟩

/-! The text as a number: its bits. -/

theorem val_bit : ∀ (l : List Nat) (n : Nat), (∀ b ∈ l, b < 256) → val l / 2 ^ n % 2 = l.getD (n / 8) 0 / 2 ^ (n % 8) % 2
  | [], n, _ => by rw [val_nil]; simp
  | b :: t, n, h => by
    have hb := h b (by simp)
    rw [val_cons, Nat.xor_div_two_pow, xor_mod2]
    by_cases hn : n < 8
    · have e1 : n / 8 = 0 := by omega
      have e2 : n % 8 = n := by omega
      rw [e1, e2]
      have e3 : 256 * val t / 2 ^ n % 2 = 0 := by
        rw [show (256 : Nat) = 2 ^ n * 2 ^ (8 - n) by rw [← Nat.pow_add, show n + (8 - n) = 8 by omega], Nat.mul_assoc, Nat.mul_div_cancel_left _ (Nat.two_pow_pos n)]
        rw [show 8 - n = (7 - n) + 1 by omega, Nat.pow_succ, Nat.mul_comm (2 ^ (7 - n)) 2, Nat.mul_assoc]
        omega
      rw [e3]
      simp
    · have e0 : b / 2 ^ n = 0 := Nat.div_eq_of_lt (Nat.lt_of_lt_of_le hb (Nat.pow_le_pow_right (n := 2) (by omega) (show 8 ≤ n by omega)))
      have e1 : n / 8 = (n - 8) / 8 + 1 := by omega
      have e2 : n % 8 = (n - 8) % 8 := by omega
      have ih := val_bit t (n - 8) (fun c hc => h c (by simp [hc]))
      have e3 : 256 * val t / 2 ^ n = val t / 2 ^ (n - 8) := by
        rw [show n = 8 + (n - 8) by omega, Nat.pow_add, ← Nat.div_div_eq_div_mul, show (2 : Nat) ^ 8 = 256 by decide, Nat.mul_div_cancel_left _ (by omega), Nat.add_sub_cancel_left]
      rw [e0, e3, e1, e2, ih]
      simp

theorem val_bitOf {xs : List Int} (h : In8 xs) (n : Nat) : val (nats xs) / 2 ^ n % 2 = bitOf xs n := by
  rw [val_bit _ _ (nats_lt h)]
  unfold bitOf byt nats
  congr 2
  rw [List.getD_eq_getElem?_getD, List.getD_eq_getElem?_getD, List.getElem?_map]
  cases xs[n / 8]? <;> rfl

theorem low_zero {d m : Nat} (h : ∀ j, j < m → d / 2 ^ j % 2 = 0) : d % 2 ^ m = 0 := by
  apply Nat.eq_of_testBit_eq
  intro i
  rw [Nat.testBit_mod_two_pow, Nat.zero_testBit]
  by_cases hi : i < m
  · rw [Nat.testBit_eq_decide_div_mod_eq, h i hi]; simp
  · simp [hi]

theorem high_lt {d m : Nat} (h : ∀ j, m ≤ j → d / 2 ^ j % 2 = 0) : d < 2 ^ m := by
  apply Nat.lt_pow_two_of_testBit
  intro i hi
  rw [Nat.testBit_eq_decide_div_mod_eq, h i hi]; simp

/-- Unlike texts of as many bytes that differ within 32 bits have unlike sums. -/
theorem sums_differ {xs ys : List Int} (h8 : In8 xs) (h8' : In8 ys) (hl : xs.length = ys.length) {m : Nat} (hm : ∃ j, Dif xs ys j) (hlow : ∀ j, Dif xs ys j → m ≤ j) (hhigh : ∀ j, Dif xs ys j → j < m + 32) (s : Nat) : more s (nats xs) ≠ more s (nats ys) := by
  have hbit (j : Nat) : (val (nats xs) ^^^ val (nats ys)) / 2 ^ j % 2 = 1 ↔ Dif xs ys j := by
    rw [xor_bit, val_bitOf h8, val_bitOf h8']; rfl
  have hzero {j : Nat} (h : ¬ Dif xs ys j) : (val (nats xs) ^^^ val (nats ys)) / 2 ^ j % 2 = 0 := by
    rcases Nat.mod_two_eq_zero_or_one ((val (nats xs) ^^^ val (nats ys)) / 2 ^ j) with e | e
    · exact e
    · exact absurd ((hbit j).1 e) h
  have hlen : (nats xs).length = (nats ys).length := by simp [nats, hl]
  obtain ⟨j0, hj0⟩ := hm
  have hj8 : j0 < 8 * xs.length := Nat.lt_of_not_le fun h => hj0 (by
    unfold bitOf byt
    rw [List.getD_eq_getElem?_getD, List.getD_eq_getElem?_getD, List.getElem?_eq_none (by omega), List.getElem?_eq_none (by omega)])
  refine more_differs hlen (burst_told (m := m) ?_ ?_ ?_ ?_)
  · intro e
    have := (hbit j0).2 hj0
    rw [e] at this
    simp at this
  · have := hlow j0 hj0
    have : (nats xs).length = xs.length := by simp [nats]
    omega
  · exact low_zero fun j hj => hzero fun h => by have := hlow j h; omega
  · exact high_lt fun j hj => hzero fun h => by have := hhigh j h; omega

end Go.Proofs.YtfeifobljgmkkaaDoor
