/- The document's answers for crc, as the verifier's package works them out: steps, sums, products, Carry, Zeros, Join. -/
import Derived.Test.YtmmeglpglaogeaaDoorCrc1
import Derived.Test.YtmmeglpglaogeaaDoorI63
namespace Go.Proofs.YtmmeglpglaogeaaDoor
open Go.RowKit Crcx

set_option maxRecDepth 100000 in
theorem rstep_any (x : Nat) (hx : x < 4294967296) (w : World) :
    Calls Tryd.prog 26 #[.int .u32 x] w fun e w' => e = .returned (.int .u32 ((stp x : Nat) : Int)) ∧ w = w' := by
  have hxor := u32_xor_nat (x / 2) 2197175160 (by omega) (by omega)
  rw [show ((x / 2 : Nat) : Int) = (x : Int) / 2 by omega] at hxor
  have h1 := hide (show x % 2 = 1 → stp x = x / 2 ^^^ 2197175160 from fun h => by unfold stp; rw [if_pos h])
  have h0 := hide (show ¬ x % 2 = 1 → stp x = x / 2 from fun h => by unfold stp; rw [if_neg h])
  have hk : (((2197175160 : Nat)) : Int) = 2197175160 := rfl
  rw [hk] at hxor
  generalize stp x = y at *
  by_cases hodd : x % 2 = 1
  · have e1 : (x : Int) % 2 = 1 := by omega
    have ho := h1.out hodd
    subst ho
    clear h0 h1 hk
    go_enter Tryd.func26, Tryd.ntmps26
    go_wp2_with fail
    go_ret
    exact ⟨rfl, rfl⟩
  · have e1 : ¬ (x : Int) % 2 = 1 := by omega
    have ho := h0.out hodd
    subst ho
    clear h0 h1 hk
    go_enter Tryd.func26, Tryd.ntmps26
    go_wp2_with fail
    go_ret
    exact ⟨by go_num, rfl⟩

set_option maxRecDepth 100000 in
theorem reight_any (x : Nat) (hx : x < 4294967296) (w : World) :
    Calls Tryd.prog 24 #[.int .u32 x] w fun e w' => e = .returned (.int .u32 ((stps 8 x : Nat) : Int)) ∧ w = w' := by
  go_enter Tryd.func24, Tryd.ntmps24
  go_wp2_with fail
  go_loopw [0, 3] (fun y i wr => ∃ n : Nat, i = .int .i64 n ∧ n ≤ 8 ∧ y = .int .u32 ((stps n x : Nat) : Int) ∧ wr = w) (fun _ i _ => 8 - (intOf i).toNat)
  case atStart => exact ⟨0, rfl, Nat.zero_le _, rfl, rfl⟩
  case round =>
    obtain ⟨n, rfl, hn, rfl, rfl⟩ := hrel
    by_cases hlast : n < 8
    · have ST := hide (fun W => rstep_any (stps n x) (stps_lt hx) W)
      rw [← stps_last] at ST
      generalize stps n x = y at *
      go_wp2_with fail
      refine (ST.out _).mono ?_
      rintro e w' ⟨rfl, rfl⟩
      go_wp2_with fail
      go_roundw
      case rel => exact ⟨n + 1, by go_num, by omega, rfl, trivial⟩
      case measure => simp [intOf]; omega
    · have e : n = 8 := by omega
      subst e
      go_wp2_with fail
      go_ret
      exact ⟨rfl, rfl⟩

theorem turned_any (x : Nat) (hx : x < 4294967296) (w : World) :
    Calls Tryd.prog 23 #[.int .u32 x] w fun e w' => e = .returned (.int .u32 ((4294967295 ^^^ x : Nat) : Int)) ∧ w = w' := by
  have h := turned hx
  go_enter Tryd.func23, Tryd.ntmps23
  go_wp2_with fail
  go_ret
  exact ⟨by rw [h]; go_num, rfl⟩

set_option maxRecDepth 100000 in
theorem rmore_any (s : Nat) (hs : s < 4294967296) (ao : Option Addr) (xs : List Int) (cap : Nat) (w : World) (hx : Seg w .u8 ao xs) (h8 : In8 xs) (hb : xs.length ≤ 281474976710656) :
    Calls Tryd.prog 17 #[.int .u32 s, .slice ao xs.length cap] w fun e w' => e = .returned (.int .u32 ((more s (nats xs) : Nat) : Int)) ∧ w = w' := by
  have TU := hide (fun W => turned_any s hs W)
  have hlt : ∀ i, run (4294967295 ^^^ s) (nats (xs.take i)) < 4294967296 := fun i => run_lt (xor_lt (by omega) hs) (nats_lt (h8.take i))
  have hm : more s (nats xs) = 4294967295 ^^^ run (4294967295 ^^^ s) (nats xs) := rfl
  have HM := hide hm
  have hstep := run_step (4294967295 ^^^ s) xs
  have h0 : run (4294967295 ^^^ s) (nats (xs.take 0)) = 4294967295 ^^^ s := rfl
  clear hm
  generalize more s (nats xs) = res at *
  generalize 4294967295 ^^^ s = x0 at *
  go_enter Tryd.func17, Tryd.ntmps17
  go_wp2_with fail
  refine (TU.out _).mono ?_
  rintro e w' ⟨rfl, rfl⟩
  go_wp2_with fail
  go_loopw [5, 6] (fun x i wr => ∃ n : Nat, i = .int .i64 n ∧ n ≤ xs.length ∧ x = .int .u32 ((run x0 (nats (xs.take n)) : Nat) : Int) ∧ wr = w) (fun _ i _ => xs.length - (intOf i).toNat)
  case atStart => exact ⟨0, rfl, Nat.zero_le _, by rw [h0], rfl⟩
  case round =>
    obtain ⟨n, rfl, hn, rfl, rfl⟩ := hrel
    by_cases hlast : n < xs.length
    · obtain ⟨b, off, rfl⟩ := hx.addr (by omega)
      have hc := hx.at n hlast
      have hby := h8.at n
      have hst := hstep n hlast
      have hl := hlt n
      obtain ⟨c, hc0⟩ := Int.eq_ofNat_of_zero_le hby.1
      rw [hc0] at hc hst hby
      rw [Int.toNat_natCast] at hst
      have hcw : (c : Int) % 4294967296 = c := by omega
      have hx1 := u32_xor_nat _ c hl (by omega)
      have hlt2 := xor_lt hl (show c < 4294967296 by omega)
      generalize run x0 (nats (xs.take n)) = y at *
      have OB := hide (fun W => reight_any (y ^^^ c) hlt2 W)
      rw [hst] at OB
      generalize y ^^^ c = z at *
      clear hstep hlt hc0 hst h8 hx
      go_wp2_with fail
      refine (OB.out _).mono ?_
      rintro e w' ⟨rfl, rfl⟩
      go_wp2_with fail
      go_roundw
      case rel => exact ⟨n + 1, by go_num, by omega, rfl, trivial⟩
      case measure => simp [intOf]; omega
    · have e : n = xs.length := by omega
      subst e
      have T2 := hide (fun W => turned_any _ (hlt xs.length) W)
      rw [List.take_length] at T2
      rw [← HM.out] at T2
      rw [List.take_length]
      clear hstep hlt h8 hx
      go_wp2_with fail
      refine (T2.out _).mono ?_
      rintro e w' ⟨rfl, rfl⟩
      go_wp2_with fail
      go_ret
      exact ⟨rfl, rfl⟩

set_option maxRecDepth 100000 in
theorem rsum_any (ao : Option Addr) (xs : List Int) (cap : Nat) (w : World) (hx : Seg w .u8 ao xs) (h8 : In8 xs) (hb : xs.length ≤ 281474976710656) :
    Calls Tryd.prog 12 #[.slice ao xs.length cap] w fun e w' => e = .returned (.int .u32 ((more 0 (nats xs) : Nat) : Int)) ∧ w = w' := by
  have MO := hide (rmore_any 0 (by omega) ao xs cap w hx h8 hb)
  generalize more 0 (nats xs) = res at *
  clear hx h8 hb
  go_enter Tryd.func12, Tryd.ntmps12
  go_wp2_with fail
  refine MO.out.mono ?_
  rintro e w' ⟨rfl, rfl⟩
  go_wp2_with fail
  go_ret
  exact ⟨rfl, rfl⟩

end Go.Proofs.YtmmeglpglaogeaaDoor
