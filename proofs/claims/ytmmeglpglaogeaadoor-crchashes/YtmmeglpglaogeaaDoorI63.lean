/- Numbers of bytes, and the steps that they stand for. -/
import Derived.Test.YtmmeglpglaogeaaDoorBase
import Derived.Test.YtmmeglpglaogeaaDoorPoly
import Derived.Laws.BitsAllLaws
namespace Go.Proofs.YtmmeglpglaogeaaDoor
open Go.RowKit Crcx

/-- A number that an int can be. -/
structure I63 (n : Int) : Prop where
  le : n < 9223372036854775808

theorem wrap_small {n : Int} (h0 : 0 ≤ n) (h1 : I63 n) : wrap64 n = n := by
  have := h1.le
  unfold wrap64; omega

/-- How many steps a number of bytes is. -/
def far (n : Int) : Nat := 8 * n.toNat

theorem i64_and1 (N : Nat) (h : N < 9223372036854775808) : bits .and .i64 (N : Int) 1 = ((N % 2 : Nat) : Int) := by
  show IntKind.i64.wrap ((BitVec.ofInt 64 (N : Int) &&& BitVec.ofInt 64 1).toNat : Int) = _
  have h1 : (BitVec.ofInt 64 1).toNat = 1 := by decide
  rw [BitVec.toNat_and, ofInt_u64 N (by omega), h1, Nat.and_one_is_mod]
  simp [IntKind.wrap, IntKind.bits, IntKind.signed]
  omega

theorem steps_even (e N y : Nat) (h : N % 2 = 0) : stps ((e + e) * (N / 2)) y = stps (e * N) y := by
  have : (e + e) * (N / 2) = e * N := by
    rw [← Nat.two_mul, Nat.mul_comm 2 e, Nat.mul_assoc]; congr 1; omega
  rw [this]

theorem steps_odd (e N y : Nat) (h : N % 2 = 1) : stps ((e + e) * (N / 2)) (stps e y) = stps (e * N) y := by
  rw [← stps_add]
  have : e + (e + e) * (N / 2) = e * N := by
    conv => rhs; rw [show N = 1 + 2 * (N / 2) by omega, Nat.mul_add, Nat.mul_one, ← Nat.mul_assoc]
    rw [← Nat.two_mul, Nat.mul_comm 2 e]
  rw [this]

end Go.Proofs.YtmmeglpglaogeaaDoor
