/- Trailing noughts; whether a sum is reached. -/
import Derived.Test.YtakpeopghhblmaaDoorYD
namespace Go.Proofs.YtakpeopghhblmaaDoor
open Go.RowKit Go.Lib

/-- The table in its variable. -/
def Tab64 (w : World) : Prop := ∀ j, j < Lib.deBruijn64tab.length → w.cell? ⟨1, j, none⟩ = some (.int .u8 (Lib.deBruijn64tab.getD j 0))

theorem Tab64.calm {w w' : World} (h : Tab64 w) (ht : Calm w w') : Tab64 w' := fun j hj => (ht.cell (p := ⟨1, j, none⟩) (lt_of_cell (h j hj)) (fun h => h)).trans (h j hj)

set_option maxRecDepth 100000 in
set_option maxHeartbeats 1000000 in
theorem tz64_core (x k idx : Nat) (w : World) (hx0 : ((x : Int) == 0) = false)
    (key : IntKind.u64.wrap (bits BinOp.and IntKind.u64 (x : Int) (IntKind.u64.wrap (-(x : Int))) * 285870213051353865) / 288230376151711744 = (idx : Int))
    (hi : idx < 64) (hk : k < 64) (hcell : w.cell? ⟨1, idx, none⟩ = some (.int .u8 k)) :
    Calls Tryd.prog 37 #[.int .u64 x] w fun e w' => e = .returned (.int .i64 k) ∧ w' = w := by
  go_enter Tryd.func37, Tryd.ntmps37
  go_wp2_with (simp only [key])
  go_ret
  exact ⟨rfl, rfl⟩

set_option maxRecDepth 100000 in
theorem tz64_zero (w : World) : Calls Tryd.prog 37 #[.int .u64 0] w fun e w' => e = .returned (.int .i64 64) ∧ w' = w := by
  go_enter Tryd.func37, Tryd.ntmps37
  go_wp2
  go_ret
  exact ⟨rfl, rfl⟩

theorem tz64_key' (x a : Nat) (hx : x < 18446744073709551616) (hx0 : x ≠ 0) (hlow : x &&& (18446744073709551616 - x) = a) :
    IntKind.u64.wrap (bits BinOp.and IntKind.u64 (x : Int) (IntKind.u64.wrap (-(x : Int))) * 285870213051353865) / 288230376151711744 = ((a * 285870213051353865 % 18446744073709551616 / 288230376151711744 : Nat) : Int) := by
  have e1 : IntKind.u64.wrap (-(x : Int)) = ((18446744073709551616 - x : Nat) : Int) := by rw [IntKind.wrap_u64]; omega
  rw [e1, bits_and_u64_nat x _ hx (by omega), hlow, IntKind.wrap_u64]
  omega

theorem tz64_nat (x : Nat) (hx : x < 18446744073709551616) (w : World) (hT : Tab64 w) : Calls Tryd.prog 37 #[.int .u64 x] w fun e w' => e = .returned (.int .i64 (Lib.ctz 64 x)) ∧ w' = w := by
  by_cases hx0 : x = 0
  · subst hx0
    exact tz64_zero w
  · obtain ⟨hlow, hk⟩ := Lib.lowest_bit 64 x hx0 hx
    obtain ⟨hi, htab⟩ := Lib.deBruijn64_at _ hk
    have hcell := hT _ hi
    rw [htab] at hcell
    exact tz64_core x _ _ w (by simp; omega) (tz64_key' x _ hx hx0 hlow) hi hk hcell

/-- Of whole numbers. -/
def tzI (x : Int) : Int := (Lib.ctz 64 x.toNat : Nat)

theorem tz64_any (x : Int) (h0 : 0 ≤ x) (hx : x < 18446744073709551616) (w : World) (hT : Tab64 w) : Calls Tryd.prog 37 #[.int .u64 x] w fun e w' => e = .returned (.int .i64 (tzI x)) ∧ w' = w := by
  obtain ⟨a, rfl⟩ := Int.eq_ofNat_of_zero_le h0
  exact tz64_nat a (by omega) w hT

/-- The lower half of what is left, and so on. -/
theorem ctz_step (n x : Nat) (hn : n < 64) (hx : x % 2 = 0) : n + Lib.ctzFrom (64 - n) x = n + 1 + Lib.ctzFrom (64 - (n + 1)) (x / 2) := by
  obtain ⟨f, hf⟩ : ∃ f, 64 - n = f + 1 := ⟨64 - n - 1, by omega⟩
  have e : 64 - (n + 1) = f := by omega
  rw [hf, e]
  have : ¬ x % 2 = 1 := by omega
  simp only [Lib.ctzFrom, this, if_false]
  omega
theorem ctz_end (n x : Nat) (hx : x % 2 = 1) : n + Lib.ctzFrom (64 - n) x = n := by
  cases h : 64 - n with
  | zero => rfl
  | succ f => simp [Lib.ctzFrom, hx]
theorem ctz_zero : ∀ f : Nat, Lib.ctzFrom f 0 = f
  | 0 => rfl
  | f + 1 => by simp [Lib.ctzFrom, ctz_zero f]; omega
theorem ctz_all (x : Nat) : Lib.ctz 64 x = Lib.ctzFrom 64 x := by
  unfold Lib.ctz
  split
  · rename_i h; subst h; rw [ctz_zero]
  · rfl

set_option maxRecDepth 100000 in
set_option maxHeartbeats 1000000 in
theorem twos_nat (x : Nat) (hx : x < 18446744073709551616) (w : World) : Calls Tryd.prog 31 #[.int .u64 x] w fun e w' => e = .returned (.int .i64 (Lib.ctz 64 x)) ∧ w' = w := by
  rw [ctz_all]
  generalize hr : Lib.ctzFrom 64 x = r
  have HR := hide hr
  clear hr
  go_enter Tryd.func31, Tryd.ntmps31
  go_wp2_with fail
  go_loopw [0, 3] (fun v i wr => ∃ (n y : Nat), i = .int .i64 n ∧ v = .int .u64 y ∧ n ≤ 64 ∧ y < 18446744073709551616 ∧ n + Lib.ctzFrom (64 - n) y = r ∧ wr = w) (fun _ i _ => 64 - (intOf i).toNat)
  case atStart => exact ⟨0, x, rfl, rfl, by omega, hx, by rw [← HR.out, Nat.zero_add], rfl⟩
  case round =>
    obtain ⟨n, y, rfl, rfl, hn, hy, he, rfl⟩ := hrel
    by_cases h : n < 64
    · by_cases h2 : y % 2 = 0
      · have hs := hide ((ctz_step n y h h2).symm.trans he)
        have h2' : (y : Int) % 2 = 0 := by omega
        have h3 : (n : Int) < 64 := by omega
        have hq : IntKind.u64.wrap ((y : Int) / 2) = ((y / 2 : Nat) : Int) := by rw [IntKind.wrap_u64]; omega
        have hb : y / 2 < 18446744073709551616 := by omega
        have HB := hide hb
        clear he h2 hy hb
        go_wp2_with fail
        go_roundw
        case rel => exact ⟨n + 1, y / 2, by go_num, by first | rfl | (rw [hq]), by omega, HB.out, hs.out, by first | rfl | trivial⟩
        case measure => simp [intOf]; omega
      · have hs := hide ((ctz_end n y (by omega)).symm.trans he)
        have h2' : ¬ (y : Int) % 2 = 0 := by omega
        have h3 : (n : Int) < 64 := by omega
        clear he h2 hy
        go_wp2_with fail
        go_ret
        exact ⟨by rw [hs.out]; rfl, rfl⟩
    · have e : n = 64 := by omega
      subst e
      clear h hy
      have hs := hide he
      clear he
      go_wp2_with fail
      go_ret
      refine ⟨?_, rfl⟩
      obtain rfl : r = 64 := hs.out.symm
      rfl

theorem twos_any (x : Int) (h0 : 0 ≤ x) (hx : x < 18446744073709551616) (w : World) : Calls Tryd.prog 31 #[.int .u64 x] w fun e w' => e = .returned (.int .i64 (tzI x)) ∧ w' = w := by
  obtain ⟨a, rfl⟩ := Int.eq_ofNat_of_zero_le h0
  exact twos_nat a (by omega) w

end Go.Proofs.YtakpeopghhblmaaDoor
