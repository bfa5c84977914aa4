/- Walks: wire's Reader: above, further, climb. -/
import Derived.Test.YthhajlbnnffgnaaRd3
namespace Go.Proofs.Ythhajlbnnffgnaa
open Go.RowKit

theorem Try.info2 : (Try.prog.info? 2).map (fun i => (i.zero, i.size, i.bytes)) = some (some (.int .i64 0), 1, 8) := by kernel_rfl

/-- The greatest int64. -/
def top : Int := 9223372036854775807

theorem room_eq (x : Int) (h0 : -9223372036854775808 ≤ x) (h1 : x ≤ 9223372036854775807) : IntKind.u64.wrap (9223372036854775807 - IntKind.u64.wrap x) = top - x := by
  rw [IntKind.wrap_u64, IntKind.wrap_u64]; unfold top; omega

theorem sum_eq (x : Int) (d : Nat) (h0 : -9223372036854775808 ≤ x) (h1 : x ≤ 9223372036854775807) (h : (d : Int) < top - x) : wrap64 (IntKind.u64.wrap (IntKind.u64.wrap (IntKind.u64.wrap x + (d : Int)) + 1)) = x + d + 1 := by
  rw [IntKind.wrap_u64, IntKind.wrap_u64, IntKind.wrap_u64]; unfold top at h; unfold wrap64; omega

set_option maxRecDepth 100000 in
theorem above_no (x : Int) (d : Nat) (w : World) (h0 : -9223372036854775808 ≤ x) (h1 : x ≤ 9223372036854775807) (h : top - x ≤ (d : Int)) :
    Calls Try.prog 78 #[.int .i64 x, .int .u64 d] w fun e w' => e = .returned (.tuple #[.int .i64 0, .bool false]) ∧ w = w' := by
  have hr := room_eq x h0 h1
  obtain ⟨t, ht⟩ : ∃ t, top - x = t := ⟨_, rfl⟩
  rw [ht] at hr h
  clear h0 h1 ht
  go_enter Try.func78, Try.ntmps78
  go_wp2
  go_ret2
  exact ⟨rfl, rfl⟩

set_option maxRecDepth 100000 in
theorem above_yes (x : Int) (d : Nat) (w : World) (h0 : -9223372036854775808 ≤ x) (h1 : x ≤ 9223372036854775807) (h : (d : Int) < top - x) :
    Calls Try.prog 78 #[.int .i64 x, .int .u64 d] w fun e w' => e = .returned (.tuple #[.int .i64 (x + d + 1), .bool true]) ∧ w = w' := by
  have hr := room_eq x h0 h1
  have HS := hide (sum_eq x d h0 h1 h)
  obtain ⟨t, ht⟩ : ∃ t, top - x = t := ⟨_, rfl⟩
  rw [ht] at hr h
  clear h0 h1 ht
  go_enter Try.func78, Try.ntmps78
  go_wp2
  go_ret2
  exact ⟨ret2_int HS.out, rfl⟩

set_option maxRecDepth 100000 in
theorem further_err (rb : Nat) (ao : Option Addr) (cap : Nat) (bs : List Int) (p e : Nat) (x : Int) (w : World) (h : Rd w rb ao cap bs p) (h8 : In8 bs) (hb : bs.length ≤ 140737488351232) (hs : scan (bs.drop p) = (0, 0, e)) (he : e ≠ 0) :
    Calls Try.prog 77 #[.pointer (some ⟨rb, 0, none⟩), .int .i64 x] w fun r w' => r = .returned (.tuple #[.int .i64 0, .int .i64 e]) ∧ Touch (fun k => k = rb) w w' := by
  have H := hide (number_eq rb ao cap bs p 0 0 e w h h8 hb hs)
  have t : ((e : Int) != 0) = true := by simp; omega
  clear hs hb h8
  go_enter Try.func77, Try.ntmps77
  go_wp2_with fail
  refine H.out.mono ?_
  rintro r w1 ⟨rfl, hrd, ht⟩
  go_wp2_with fail
  go_ret2
  exact ⟨rfl, ht⟩

set_option maxRecDepth 100000 in
theorem further_no (rb : Nat) (ao : Option Addr) (cap : Nat) (bs : List Int) (p d n : Nat) (x : Int) (w : World) (h : Rd w rb ao cap bs p) (h8 : In8 bs) (hb : bs.length ≤ 140737488351232) (hs : scan (bs.drop p) = (d, n, 0)) (h0 : -9223372036854775808 ≤ x) (h1 : x ≤ 9223372036854775807) (hd : top - x ≤ (d : Int)) :
    Calls Try.prog 77 #[.pointer (some ⟨rb, 0, none⟩), .int .i64 x] w fun r w' => r = .returned (.tuple #[.int .i64 0, .int .i64 112]) ∧ Touch (fun k => k = rb) w w' := by
  have H := hide (number_eq rb ao cap bs p d n 0 w h h8 hb hs)
  have K := hide (fun W => above_no x d W h0 h1 hd)
  clear hs hb h8 h0 h1 hd
  go_enter Try.func77, Try.ntmps77
  go_wp2_with fail
  refine H.out.mono ?_
  rintro r w1 ⟨rfl, hrd, ht⟩
  go_wp2_with fail
  refine (K.out _).mono ?_
  rintro r w' ⟨rfl, rfl⟩
  go_wp2_with fail
  go_ret2
  exact ⟨rfl, ht⟩

set_option maxRecDepth 100000 in
theorem further_ok (rb : Nat) (ao : Option Addr) (cap : Nat) (bs : List Int) (p d n : Nat) (x : Int) (w : World) (h : Rd w rb ao cap bs p) (h8 : In8 bs) (hb : bs.length ≤ 140737488351232) (hs : scan (bs.drop p) = (d, n, 0)) (h0 : -9223372036854775808 ≤ x) (h1 : x ≤ 9223372036854775807) (hd : (d : Int) < top - x) :
    Calls Try.prog 77 #[.pointer (some ⟨rb, 0, none⟩), .int .i64 x] w fun r w' => r = .returned (.tuple #[.int .i64 (x + d + 1), .int .i64 0]) ∧ Rd w' rb ao cap bs (p + n) ∧ Touch (fun k => k = rb) w w' := by
  have H := hide (number_eq rb ao cap bs p d n 0 w h h8 hb hs)
  have K := hide (fun W => above_yes x d W h0 h1 hd)
  obtain ⟨y, hy⟩ : ∃ y, x + d + 1 = y := ⟨_, rfl⟩
  rw [hy] at K ⊢
  clear hs hb h8 h0 h1 hd hy
  go_enter Try.func77, Try.ntmps77
  go_wp2_with fail
  refine H.out.mono ?_
  rintro r w1 ⟨rfl, hrd, ht⟩
  go_wp2_with fail
  refine (K.out _).mono ?_
  rintro r w' ⟨rfl, rfl⟩
  go_wp2_with fail
  go_ret2
  exact ⟨rfl, hrd, ht⟩

end Go.Proofs.Ythhajlbnnffgnaa
