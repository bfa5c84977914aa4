/- Walks: wire's Reader: take, Byte, Signed, Raw. -/
import Derived.Test.YthhajlbnnffgnaaRd
namespace Go.Proofs.Ythhajlbnnffgnaa
open Go.RowKit

theorem slice_mid {w : World} {ao : Option Addr} {cap : Nat} {bs : List Int} (h : Row w 5 .u8 (.slice ao bs.length cap) bs) (p n : Nat) (hn : p + n ≤ bs.length) (xs : List Int) (hxs : (bs.drop p).take n = xs) :
    ∃ A c, (∀ W, (Instr.slice 25 (.slice ao bs.length cap) (some (.int .i64 p)) (some (.int .i64 ((p : Int) + (n : Int)))) none).run Try.prog W = .ok (.slice A xs.length c) W) ∧ Seg w .u8 A xs := by
  have hcap : bs.length ≤ cap := by
    rcases h.form with ⟨hv, hx⟩ | ⟨g', cap', cur, hv, _, hc, _⟩
    · rw [hx]; exact Nat.zero_le _
    · cases hv; exact hc
  refine ⟨if cap = p then ao else ao.map (·.add (p * 1)), cap - p, fun W => ?_, ?_⟩
  · obtain ⟨i0, hi, hz0, hz1, hz2⟩ := info_parts Try.info5
    have he : Try.prog.elem 25 = 5 := by kernel_rfl
    rw [run_slice_lh W 25 ao bs.length cap (by rw [he]; exact Try.underlying25) .i64 .i64 p _ (by omega) (by omega) (by omega), he]
    have e : ((p : Int) + (n : Int)).toNat = p + n := by omega
    have e2 : xs.length = n := by rw [← hxs]; simp; omega
    simp only [sizeOf, typeInfo, e]
    simp [hi, hz1, sliced, e2]
  · have := seg_slice h p (p + n) (by omega) hn cap rfl
    rw [show p + n - p = n by omega, hxs] at this
    exact this

theorem Seg.touch1 {S : Nat → Prop} {w w' : World} {k : IntKind} {ao : Option Addr} {xs : List Int} (h : Seg w k ao xs) (ht : Touch S w w') (hn : ∀ a, ao = some a → xs ≠ [] → ¬ S a.block) : Seg w' k ao xs := by
  by_cases hx : xs = []
  · subst hx
    exact ⟨fun _ => rfl, fun _ _ h => absurd rfl h, fun _ _ j hj => absurd hj (by simp)⟩
  · exact h.touch ht fun a ha => hn a ha hx

theorem Rd.drewN {w : World} {rb : Nat} {ao : Option Addr} {cap : Nat} {bs : List Int} {p : Nat} (h : Rd w rb ao cap bs p) (n : Nat) : Rd (w.drewN n) rb ao cap bs p := ⟨h.cell, h.row.stays fun _ _ => rfl, h.place⟩

set_option maxRecDepth 100000 in
set_option maxHeartbeats 400000 in
theorem take_no (rb : Nat) (ao : Option Addr) (cap : Nat) (bs : List Int) (p : Nat) (n : Int) (w : World) (h : Rd w rb ao cap bs p) (hb : bs.length ≤ 140737488351232) (hn : ((bs.length - p : Nat) : Int) < n) :
    Calls Try.prog 62 #[.pointer (some ⟨rb, 0, none⟩), .int .i64 n] w fun e w' => e = .returned (.tuple #[.slice none 0 0, .int .i64 110]) ∧ ∃ n, w' = w.drewN n := by
  have H := hide (left_any rb ao cap bs p w h hb)
  obtain ⟨l, hl⟩ : ∃ l, bs.length - p = l := ⟨_, rfl⟩
  rw [hl] at H hn
  clear hb hl
  go_enter Try.func62, Try.ntmps62
  go_wp2_with (go_at_call 20; refine H.out.mono ?_; rintro e w' ⟨rfl, nq, rfl⟩)
  go_ret2
  exact ⟨rfl, _, rfl⟩

set_option maxRecDepth 100000 in
set_option maxHeartbeats 400000 in
theorem take_yes (rb : Nat) (ao : Option Addr) (cap : Nat) (bs : List Int) (p n : Nat) (w : World) (h : Rd w rb ao cap bs p) (hb : bs.length ≤ 140737488351232) (hn : n ≤ bs.length - p) :
    Calls Try.prog 62 #[.pointer (some ⟨rb, 0, none⟩), .int .i64 n] w fun e w' => ∃ A c, e = .returned (.tuple #[.slice A ((bs.drop p).take n).length c, .int .i64 0]) ∧ Seg w' .u8 A ((bs.drop p).take n) ∧ Rd w' rb ao cap bs (p + n) ∧ Touch (fun k => k = rb) w w' := by
  have H := hide (left_any rb ao cap bs p w h hb)
  obtain ⟨c0, c1, f0, f1⟩ := cell_two h.cell
  have hp := h.place
  obtain ⟨xs, hxs⟩ : ∃ xs, (bs.drop p).take n = xs := ⟨_, rfl⟩
  obtain ⟨A, c, hsl, hseg⟩ := slice_mid h.row p n (by omega) xs hxs
  rw [hxs]
  have hpn : (p : Int) + (n : Int) ≤ 140737488351232 := by omega
  have HQ : Hid (p + n ≤ bs.length) := by show _ ≤ _; omega
  obtain ⟨l, hl⟩ : ∃ l, bs.length - p = l := ⟨_, rfl⟩
  rw [hl] at H hn
  have hap : ∀ a, A = some a → xs ≠ [] → a.block ≠ rb := by
    intro a ha hx e
    have hlen : 0 < xs.length := List.length_pos_iff.2 hx
    have := hseg.cell a ha 0 hlen
    obtain ⟨b, off, e2⟩ := hseg.addr hlen
    rw [ha] at e2; injection e2 with e2; subst e2
    simp at e; subst e
    rw [Addr.add_lit] at this
    have hc := h.cell
    simp [World.cell?, hc] at this
    revert this
    rcases off with _ | _ | off
    · simp
    · simp
    · simp
  clear hb hl hxs
  go_enter Try.func62, Try.ntmps62
  go_wp2_with (go_at_call 20; refine H.out.mono ?_; rintro e w' ⟨rfl, nq, rfl⟩)
  go_quiet (fail)
  go_wp2
  go_ret2
  have e : (p : Int) + (n : Int) = ((p + n : Nat) : Int) := by omega
  have T : ∀ m, Touch (fun k => k = rb) w ((w.drewN m).setCell ⟨rb, 1, none⟩ (.int .i64 ((p + n : Nat) : Int))) := fun m =>
    Touch.setCell (S := fun k => k = rb) (p := ⟨rb, 1, none⟩) ((Touch.refl _ w).drewN m) (fun _ => rfl) _
  rw [e]
  exact ⟨A, c, rfl, Seg.touch1 (S := fun k => k = rb) hseg (T _) hap, Rd.moved (h.drewN _) _ HQ.out, T _⟩

/-- The number whose fold is u. -/
def unz (u : Nat) : Int := if u % 2 = 0 then ((u / 2 : Nat) : Int) else -((u / 2 : Nat) : Int) - 1

theorem unfold_eq (u : Nat) (hu : u < 18446744073709551616) :
    wrap64 (bits .xor .u64 ((u : Int) / 2) (IntKind.u64.wrap (wrap64 (IntKind.u64.wrap ((u : Int) * 9223372036854775808)) / 9223372036854775808))) = unz u := by
  have eh : (u : Int) / 2 = ((u / 2 : Nat) : Int) := by omega
  unfold unz
  by_cases h : u % 2 = 0
  · have e1 : IntKind.u64.wrap (wrap64 (IntKind.u64.wrap ((u : Int) * 9223372036854775808)) / 9223372036854775808) = ((0 : Nat) : Int) := by
      have : IntKind.u64.wrap ((u : Int) * 9223372036854775808) = 0 := by rw [IntKind.wrap_u64]; omega
      rw [this, IntKind.wrap_u64]; unfold wrap64; omega
    rw [e1, eh, bits_xor_u64_nat _ _ (by omega) (by omega), Nat.xor_zero, if_pos h]
    unfold wrap64; omega
  · have e1 : IntKind.u64.wrap (wrap64 (IntKind.u64.wrap ((u : Int) * 9223372036854775808)) / 9223372036854775808) = ((2 ^ 64 - 1 : Nat) : Int) := by
      have : IntKind.u64.wrap ((u : Int) * 9223372036854775808) = 9223372036854775808 := by rw [IntKind.wrap_u64]; omega
      rw [this, IntKind.wrap_u64]; unfold wrap64; omega
    rw [e1, eh, bits_xor_u64_nat _ _ (by omega) (by decide), Nat.xor_comm, Lib.xor_ones64 _ (by omega), if_neg h]
    unfold wrap64; omega

theorem unfold_any (u : Nat) (w : World) (hu : u < 18446744073709551616) :
    Calls Try.prog 74 #[.int .u64 u] w fun e w' => e = .returned (.int .i64 (unz u)) ∧ w = w' := by
  have HU := hide hu
  clear hu
  go_enter Try.func74, Try.ntmps74
  go_wp2
  go_ret
  exact ⟨ret_int (unfold_eq u HU.out), rfl⟩

set_option maxRecDepth 100000 in
set_option maxHeartbeats 400000 in
theorem rbyte_yes (rb : Nat) (ao : Option Addr) (cap : Nat) (bs : List Int) (p : Nat) (c : Int) (w : World) (h : Rd w rb ao cap bs p) (hb : bs.length ≤ 140737488351232) (hc : (bs.drop p).take 1 = [c]) :
    Calls Try.prog 45 #[.pointer (some ⟨rb, 0, none⟩)] w fun e w' => e = .returned (.tuple #[.int .u8 c, .int .i64 0]) ∧ Rd w' rb ao cap bs (p + 1) ∧ Touch (fun k => k = rb) w w' := by
  have hl : 1 ≤ bs.length - p := by have := congrArg List.length hc; simp at this; omega
  have H := hide (take_yes rb ao cap bs p 1 w h hb hl)
  rw [hc] at H
  clear hc hl hb
  go_enter Try.func45, Try.ntmps45
  go_wp2_with fail
  refine H.out.mono ?_
  rintro e w1 ⟨A, c1, rfl, hseg, hrd, ht⟩
  obtain ⟨b, off, rfl⟩ := hseg.addr (by simp)
  have hc0 := hseg.at 0 (by simp)
  rw [Nat.add_zero, show [c].getD 0 0 = c from rfl] at hc0
  go_wp2
  go_ret2
  exact ⟨rfl, hrd, ht⟩

set_option maxRecDepth 100000 in
set_option maxHeartbeats 400000 in
theorem rbyte_no (rb : Nat) (ao : Option Addr) (cap : Nat) (bs : List Int) (p : Nat) (w : World) (h : Rd w rb ao cap bs p) (hb : bs.length ≤ 140737488351232) (hc : bs.length - p = 0) :
    Calls Try.prog 45 #[.pointer (some ⟨rb, 0, none⟩)] w fun e w' => e = .returned (.tuple #[.int .u8 0, .int .i64 110]) ∧ ∃ n, w' = w.drewN n := by
  have H := hide (take_no rb ao cap bs p 1 w h hb (by omega))
  clear hc hb
  go_enter Try.func45, Try.ntmps45
  go_wp2_with fail
  refine H.out.mono ?_
  rintro e w1 ⟨rfl, n, rfl⟩
  go_wp2
  go_ret2
  exact ⟨rfl, n, rfl⟩

end Go.Proofs.Ythhajlbnnffgnaa
