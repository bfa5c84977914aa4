/- Walks: the size of a number form. -/
import Derived.Test.YtfeifobljgmkkaaDoorPut
import Derived.Laws.BitsAllLaws
import Derived.Lib.Strings
import Derived.Lib.Slices
import Derived.Lib.Small
import Derived.Lib.Walk
import Derived.Lib.BitFns
namespace Go.Proofs.YtfeifobljgmkkaaDoor
open Go.RowKit

theorem bitLen_or1 (z : Nat) (h0 : z ≠ 0) (h : z < 2 ^ 64) : Lib.bitLen (z ||| 1) = Lib.bitLen z := by
  have e : (z ||| 1) / 2 = z / 2 := by
    rw [Nat.or_div_two]; simp
  have hne : z ||| 1 ≠ 0 := by
    intro hz; have := Nat.or_eq_zero_iff.1 hz; omega
  have hlt : z ||| 1 < 2 ^ 64 := Nat.or_lt_two_pow h (by decide)
  rw [Lib.bitLen_half _ hne hlt, Lib.bitLen_half z h0 h, e]

theorem bitLen_pos (z : Nat) (h0 : z ≠ 0) (h : z < 2 ^ 64) : 1 ≤ Lib.bitLen z := by rw [Lib.bitLen_half z h0 h]; omega

theorem size_eq : ∀ (n x : Nat), x ≤ n → x < 2 ^ 64 → (Lib.bitLen (x ||| 1) + 6) / 7 = (numb x).length
  | n, x, hn, h => by
    by_cases hx : x < 128
    · rw [numb_lo hx]
      have hne : x ||| 1 ≠ 0 := by intro hz; have := Nat.or_eq_zero_iff.1 hz; omega
      have hl : x ||| 1 < 2 ^ 7 := Nat.or_lt_two_pow hx (by decide)
      have a := Lib.bitLen_le (x ||| 1) 7 (by decide) hl
      have b := bitLen_pos (x ||| 1) hne (by omega)
      simp; omega
    · rw [numb_hi (x := x) (by omega), bitLen_or1 x (by omega) h, Lib.bitLen_shift 7 x (by omega) h, show (2 : Nat) ^ 7 = 128 from rfl]
      match n, hn with
      | 0, hn => omega
      | n + 1, hn =>
        have ih := size_eq n (x / 128) (by omega) (by omega)
        rw [bitLen_or1 (x / 128) (by omega) (by omega)] at ih
        simp; omega

theorem numb_mono : ∀ (n x y : Nat), y ≤ n → x ≤ y → (numb x).length ≤ (numb y).length
  | n, x, y, hn, h => by
    by_cases hx : x < 128
    · rw [numb_lo hx]; have := numb_pos y; simp; omega
    · rw [numb_hi (x := x) (by omega), numb_hi (x := y) (by omega)]
      match n, hn with
      | 0, hn => omega
      | n + 1, hn =>
        have := numb_mono n (x / 128) (y / 128) (by omega) (by omega)
        simp; omega

theorem tab_at (i : Int) (hp : i.toNat < Lib.len8tab.size) (h0 : 0 ≤ i) (h1 : i ≤ 255) : ((Lib.len8tab[i.toNat]'hp).toNat : Int) = (Lib.bitLen i.toNat : Int) := by
  rw [← Lib.len8_of i h0 h1]
  unfold Lib.len8
  rw [ByteArray.getElem?_lt' _ _ hp]; rfl

theorem fin_len (x i : Int) (c : Nat) (hp : i.toNat < Lib.len8tab.size) (h0 : 0 ≤ i) (h1 : i ≤ 255) (hc : c ≤ 56) (hb : Lib.bitLen x.toNat = c + Lib.bitLen i.toNat) :
    wrap64 ((c : Int) + wrap64 ((Lib.len8tab[i.toNat]'hp).toNat : Int)) = (Lib.bitLen x.toNat : Int) := by
  have l := Lib.bitLen_le8' i h0 h1
  rw [tab_at i hp h0 h1, hb]
  unfold wrap64
  omega

theorem shift_of (x i : Int) (c : Nat) (h0 : 0 ≤ x) (h1 : x ≤ 18446744073709551615) (hi : i = x / ((2 ^ c : Nat) : Int)) (hlo : (2 : Nat) ^ c ≤ x.toNat) : Lib.bitLen x.toNat = c + Lib.bitLen i.toNat := by
  have e : i.toNat = x.toNat / 2 ^ c := by
    obtain ⟨n, rfl⟩ := Int.eq_ofNat_of_zero_le h0
    subst hi
    rw [Int.toNat_natCast, ← Int.natCast_ediv, Int.toNat_natCast]
  rw [e]
  exact Lib.bitLen_shift c x.toNat hlo (by omega)

set_option maxHeartbeats 4000000 in
set_option maxRecDepth 100000 in
theorem len64_int (x : Int) (w : World) (h0 : 0 ≤ x) (h1 : x ≤ 18446744073709551615) :
    Calls Tryd.prog 46 #[.int .u64 x] w fun e w' => e = .returned (.int .i64 (Lib.bitLen x.toNat)) ∧ w = w' := by
  have hsz := Lib.len8tab_size
  go_enter Tryd.func46, Tryd.ntmps46
  go_wp2
  all_goals go_ret
  · exact ⟨ret_int (fin_len x _ 56 _ (by omega) (by omega) (by omega) (shift_of x _ 56 h0 h1 (by omega) (by omega))), rfl⟩
  · exact ⟨ret_int (fin_len x _ 48 _ (by omega) (by omega) (by omega) (shift_of x _ 48 h0 h1 (by omega) (by omega))), rfl⟩
  · exact ⟨ret_int (fin_len x _ 40 _ (by omega) (by omega) (by omega) (shift_of x _ 40 h0 h1 (by omega) (by omega))), rfl⟩
  · exact ⟨ret_int (fin_len x _ 32 _ (by omega) (by omega) (by omega) (shift_of x _ 32 h0 h1 (by omega) (by omega))), rfl⟩
  · exact ⟨ret_int (fin_len x _ 24 _ (by omega) (by omega) (by omega) (shift_of x _ 24 h0 h1 (by omega) (by omega))), rfl⟩
  · exact ⟨ret_int (fin_len x _ 16 _ (by omega) (by omega) (by omega) (shift_of x _ 16 h0 h1 (by omega) (by omega))), rfl⟩
  · exact ⟨ret_int (fin_len x _ 8 _ (by omega) (by omega) (by omega) (shift_of x _ 8 h0 h1 (by omega) (by omega))), rfl⟩
  · refine ⟨ret_int ?_, rfl⟩
    have l := Lib.bitLen_le8' x h0 (by omega)
    rw [tab_at x _ h0 (by omega)]
    unfold wrap64
    omega

set_option maxRecDepth 100000 in
set_option maxHeartbeats 400000 in
theorem size_any (x : Nat) (w : World) (hx : x < 18446744073709551616) :
    Calls Tryd.prog 33 #[.int .u64 x] w fun e w' => e = .returned (.int .i64 (numb x).length) ∧ w = w' := by
  have hor : bits .or .u64 (x : Int) 1 = ((x ||| 1 : Nat) : Int) := u64_or_nat x 1 hx (by omega)
  have HS := hide (size_eq x x (Nat.le_refl _) (by omega))
  obtain ⟨y, hy⟩ : ∃ y, x ||| 1 = y := ⟨_, rfl⟩
  have hyl : y < 2 ^ 64 := by rw [← hy]; exact Nat.or_lt_two_pow (by omega) (by decide)
  have hbl := Lib.bitLen_le y 64 (by decide) hyl
  have HL := hide (fun W => len64_int (y : Int) W (by omega) (by omega))
  rw [Int.toNat_natCast] at HL
  rw [hy] at hor HS
  obtain ⟨b, hb⟩ : ∃ b, Lib.bitLen y = b := ⟨_, rfl⟩
  rw [hb] at HS HL hbl
  clear hx hy hyl hb
  go_enter Tryd.func33, Tryd.ntmps33
  go_wp2_with (go_at_call 46; refine (HL.out _).mono ?_; rintro e w' ⟨rfl, rfl⟩)
  go_ret
  refine ⟨ret_int ?_, rfl⟩
  have := HS.out
  omega

end Go.Proofs.YtfeifobljgmkkaaDoor
