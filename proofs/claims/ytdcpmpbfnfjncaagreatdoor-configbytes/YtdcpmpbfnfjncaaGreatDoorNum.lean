/- The plain mathematics of the wire forms: the number form's bytes, the fold of signs. No program, no memory. -/
import Derived.Test.YtdcpmpbfnfjncaaGreatDoorBase
import Derived.Lib.Varint
import Derived.Lib.Zigzag
import Derived.Laws.BitsAllLaws
namespace Go.Proofs.YtdcpmpbfnfjncaaGreatDoor

/-- The bytes of the number form. -/
def numb (x : Nat) : List Int :=
  if x < 128 then [(x : Int)] else ((x % 128 + 128 : Nat) : Int) :: numb (x / 128)

theorem numb_lo {x : Nat} (h : x < 128) : numb x = [(x : Int)] := by rw [numb, if_pos h]
theorem numb_hi {x : Nat} (h : 128 ≤ x) : numb x = ((x % 128 + 128 : Nat) : Int) :: numb (x / 128) := by rw [numb, if_neg (by omega)]

theorem numb_len : ∀ (n : Nat) (x : Nat), x < 128 ^ (n + 1) → (numb x).length ≤ n + 1
  | 0, x, h => by rw [numb_lo (by simpa using h)]; simp
  | n + 1, x, h => by
    by_cases hx : x < 128
    · rw [numb_lo hx]; simp
    · rw [numb_hi (by omega)]
      have := numb_len n (x / 128) (Nat.div_lt_of_lt_mul (by rw [Nat.pow_succ, Nat.mul_comm] at h; exact h))
      simp; omega

theorem numb_len10 {x : Nat} (h : x < 18446744073709551616) : (numb x).length ≤ 10 := numb_len 9 x (by omega)

theorem numb_pos (x : Nat) : 0 < (numb x).length := by
  rw [numb]; split <;> simp

theorem numb_bytes : ∀ (n x : Nat), x ≤ n → ∀ b ∈ numb x, 0 ≤ b ∧ b ≤ 255
  | n, x, hn, b, hb => by
    by_cases hx : x < 128
    · rw [numb_lo hx] at hb; simp at hb; omega
    · rw [numb_hi (by omega)] at hb
      rcases List.mem_cons.1 hb with h | h
      · omega
      · match n, hn with
        | n + 1, hn => exact numb_bytes n (x / 128) (by omega) b h
        | 0, hn => omega

theorem fold_eq (x : Int) (h0 : -9223372036854775808 ≤ x) (h1 : x ≤ 9223372036854775807) :
    bits .xor .u64 (IntKind.u64.wrap (IntKind.u64.wrap x * 2)) (IntKind.u64.wrap (x / 9223372036854775808)) = ((Lib.zigzag x : Nat) : Int) := by
  by_cases h : 0 ≤ x
  · have e1 : IntKind.u64.wrap (IntKind.u64.wrap x * 2) = (((2 * x).toNat : Nat) : Int) := by rw [IntKind.wrap_u64, IntKind.wrap_u64]; omega
    have e2 : IntKind.u64.wrap (x / 9223372036854775808) = ((0 : Nat) : Int) := by rw [IntKind.wrap_u64]; omega
    rw [e1, e2, bits_xor_u64_nat _ _ (by omega) (by omega), Nat.xor_zero]
    unfold Lib.zigzag; rw [if_pos h]
  · have e1 : IntKind.u64.wrap (IntKind.u64.wrap x * 2) = (((2 * x + 18446744073709551616).toNat : Nat) : Int) := by rw [IntKind.wrap_u64, IntKind.wrap_u64]; omega
    have e2 : IntKind.u64.wrap (x / 9223372036854775808) = ((2 ^ 64 - 1 : Nat) : Int) := by rw [IntKind.wrap_u64]; omega
    rw [e1, e2, bits_xor_u64_nat _ _ (by omega) (by decide), Nat.xor_comm, Lib.xor_ones64 _ (by omega)]
    unfold Lib.zigzag; rw [if_neg h]; omega

/-- The bytes of the fixed form. -/
def fixb (x : Nat) : List Int := [(x : Int) % 256, (x : Int) / 256 % 256, (x : Int) / 65536 % 256, (x : Int) / 16777216]

/-- The bytes of number i of a rising form. -/
def risItem (xs : List Int) (i : Nat) : List Int := if i = 0 then numb (Lib.zigzag (xs.getD 0 0)) else numb (xs.getD i 0 - xs.getD (i - 1) 0 - 1).toNat

/-- The bytes of its first k numbers. -/
def risTo (xs : List Int) (k : Nat) : List Int := (List.range k).flatMap (risItem xs)

theorem risTo_zero (xs : List Int) : risTo xs 0 = [] := rfl
theorem risTo_succ (xs : List Int) (k : Nat) : risTo xs (k + 1) = risTo xs k ++ risItem xs k := by
  unfold risTo; rw [List.range_succ, List.flatMap_append]; simp

/-- The bytes of a rising form. -/
def risb (xs : List Int) : List Int := numb xs.length ++ risTo xs xs.length

theorem gap_eq (x p : Int) (h0 : -9223372036854775808 ≤ p) (h : p < x) (h1 : x ≤ 9223372036854775807) :
    IntKind.u64.wrap (IntKind.u64.wrap (IntKind.u64.wrap x - IntKind.u64.wrap p) - 1) = ((x - p - 1).toNat : Int) := by
  rw [IntKind.wrap_u64, IntKind.wrap_u64, IntKind.wrap_u64, IntKind.wrap_u64]; omega

/-- One digit more of a number: 'x | uint64(c &^ 128) << (7 * i)'. -/
theorem digit_or (i acc : Nat) (c : Int) (hi : i ≤ 8) (ha : acc < 128 ^ i) (h0 : 0 ≤ c) (h1 : c ≤ 255) :
    bits .or .u64 (acc : Int) (IntKind.u64.wrap (IntKind.u64.wrap (bits .andNot .u8 c 128) * 2 ^ (7 * i))) = ((acc + c.toNat % 128 * 128 ^ i : Nat) : Int) := by
  have e7 : (2 : Nat) ^ (7 * i) = 128 ^ i := by rw [Nat.pow_mul]
  have hp : (128 : Nat) ^ i ≤ 128 ^ 8 := Nat.pow_le_pow_right (by decide) hi
  have hp8 : (128 : Nat) ^ 8 = 72057594037927936 := by decide
  rw [hp8] at hp
  have ea : bits .andNot .u8 c 128 = ((c.toNat % 128 : Nat) : Int) := by
    rw [u8_andNot c 128 h0 (by omega) (by omega) (by omega)]
    rw [show (255 - (128 : Int).toNat) = 127 from by decide, nat_mask7]
  have hd : c.toNat % 128 < 128 := Nat.mod_lt _ (by decide)
  have hm : c.toNat % 128 * 128 ^ i ≤ 127 * 72057594037927936 := Nat.mul_le_mul (by omega) hp
  have e2 : ((c.toNat % 128 : Nat) : Int) * 2 ^ (7 * i) = ((c.toNat % 128 * 128 ^ i : Nat) : Int) := by
    rw [Int.natCast_mul, ← e7, Int.natCast_pow]; rfl
  have w1 : IntKind.u64.wrap ((c.toNat % 128 : Nat) : Int) = ((c.toNat % 128 : Nat) : Int) := by rw [IntKind.wrap_u64]; omega
  have w2 : IntKind.u64.wrap ((c.toNat % 128 * 128 ^ i : Nat) : Int) = ((c.toNat % 128 * 128 ^ i : Nat) : Int) := by
    rw [IntKind.wrap_u64]; generalize c.toNat % 128 * 128 ^ i = z at hm ⊢; omega
  rw [ea, w1, e2, w2, u64_or_nat _ _ (by omega) (by omega), Nat.or_comm, nat_join (7 * i) _ _ (by rw [e7]; exact Nat.mul_mod_left _ _) (by rw [e7]; exact ha), Nat.add_comm]

theorem or_top (acc : Nat) (h : acc < 9223372036854775808) : bits .or .u64 (acc : Int) 9223372036854775808 = ((acc + 9223372036854775808 : Nat) : Int) := by
  have := u64_or_nat acc 9223372036854775808 (by omega) (by omega)
  rw [show ((9223372036854775808 : Nat) : Int) = 9223372036854775808 from rfl] at this
  rw [this, Nat.or_comm, nat_join 63 _ _ (by decide) (by simpa using h), Nat.add_comm]

theorem or128 (y : Nat) : bits .or .u8 ((y : Int) % 256) 128 = ((y % 128 + 128 : Nat) : Int) := by
  rw [Lib.u8_or128_any _ (by omega) (by omega)]; omega

end Go.Proofs.YtdcpmpbfnfjncaaGreatDoor
