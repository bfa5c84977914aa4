/- The verifier's known; Moves of numbers that may not be. -/
import Derived.Test.YtmhobdcnohhaaaaGMoves
namespace Go.Proofs.Ytmhobdcnohhaaaa
open Go.RowKit

set_option maxRecDepth 100000 in
theorem moves_no (p q g : Int) (h : ¬ (mayW p g = true ∧ mayW q g = true)) (w : World) : Calls Try.prog 22 #[.int .i64 p, .int .i64 q, .int .i64 g] w fun e w' => e = .returned (.tuple #[.slice none 0 0, .int .i64 2]) ∧ Touch (fun _ => False) w w' := by
  have M1 := hide (mays_any p g)
  have M2 := hide (mays_any q g)
  cases h1 : mayW p g with
  | false =>
    clear h
    go_enter Try.func22, Try.ntmps22
    go_wp2_with fail
    refine wp_scope_straight ?_
    go_wp2_with fail
    refine (M1.out _).mono ?_
    rintro e w' ⟨rfl, rfl⟩
    go_wp2_with fail
    rw [Exit.noGoto_ret]
    go_ret2
    exact ⟨rfl, ((Touch.refl _ _).alloc _).alloc _⟩
  | true =>
    have h2 : mayW q g = false := by
      cases h2 : mayW q g with
      | false => rfl
      | true => exact absurd ⟨h1, h2⟩ h
    clear h
    go_enter Try.func22, Try.ntmps22
    go_wp2_with fail
    refine wp_scope_straight ?_
    go_wp2_with fail
    refine (M1.out _).mono ?_
    rintro e w' ⟨rfl, rfl⟩
    go_wp2_with fail
    refine (M2.out _).mono ?_
    rintro e w' ⟨rfl, rfl⟩
    go_wp2_with fail
    rw [Exit.noGoto_ret]
    go_ret2
    exact ⟨rfl, ((Touch.refl _ _).alloc _).alloc _⟩

theorem may310 : May 3 10 := ⟨by omega, by omega, by omega, by omega⟩
theorem may210 : May 2 10 := ⟨by omega, by omega, by omega, by omega⟩

theorem scan2310 : scan (wk 2 10) (wk 3 10) 10 = [⟨3, 5, 0, 1⟩, ⟨6, 10, 1, 2⟩] := by
  simp [scan, stepM, wk]

theorem hash6 : hsh { data := #[102, 111, 111, 98, 97, 114] } = 3214735720 := by decide +kernel

theorem group_a : gA { data := #[97] } 32769 = 0 ∧ gE { data := #[97] } 32769 = 2 := gA_no (by decide)

set_option maxRecDepth 100000 in
set_option maxHeartbeats 1000000 in
theorem known_any (w : World) : Calls Try.prog 19 #[] w fun e w' => e = .returned (.bool true) ∧ Touch (fun _ => False) w w' := by
  have K1 : Hid (∀ W, Calls Try.prog 10 #[.int .i64 2, .int .i64 3, .int .i64 10] W fun e w' => e = .returned (.tuple #[.int .i64 6, .int .i64 10, .int .i64 0]) ∧ Touch (fun _ => False) W w') := hide (stretch0_yes 2 3 10 may310 (by omega))
  have K2 : Hid (∀ W, Calls Try.prog 12 #[.int .i64 5, .int .i64 3, .int .i64 10] W fun e w' => e = .returned (.tuple #[.int .i64 1, .int .i64 0]) ∧ w' = W) := hide (worker0_yes 5 3 10 may310 (by omega))
  have K3 := hide (moves_any 2 3 10 may210 may310)
  rw [scan2310] at K3
  have K4 := hide (fun W => group_any { data := #[97] } ⟨by decide⟩ 32769 W)
  rw [group_a.1, group_a.2] at K4
  have K5 := hide (fun W => hash_any { data := #[102, 111, 111, 98, 97, 114] } ⟨by decide⟩ W)
  rw [hash6] at K5
  go_enter Try.func19, Try.ntmps19
  go_wp2_with fail
  refine (K1.out _).mono ?_
  rintro e w1 ⟨rfl, t1⟩
  go_wp2_with fail
  refine (K2.out _).mono ?_
  rintro e w' ⟨rfl, rfl⟩
  go_wp2_with fail
  refine (K3.out _).mono ?_
  rintro e w3 ⟨ao, n, c, rfl, own, t3⟩
  obtain ⟨ao', c', hs⟩ := own_shape own
  injection hs with hs1 hs2 hs3
  subst hs1 hs2 hs3
  rcases own.2 with ⟨_, h0⟩ | ⟨b, cap, cur, e1, _⟩
  · cases h0
  · injection e1 with e1 _ _
    subst e1
    have hc := own.cells (g := b) rfl
    have c0 : w3.cell? ⟨b, 0, none⟩ = some (.int .i64 3) := hc 0 _ rfl
    have c1 : w3.cell? ⟨b, 1, none⟩ = some (.int .i64 5) := hc 1 _ rfl
    have c2 : w3.cell? ⟨b, 2, none⟩ = some (.int .i64 0) := hc 2 _ rfl
    have c3 : w3.cell? ⟨b, 3, none⟩ = some (.int .i64 1) := hc 3 _ rfl
    have T3 := hide (t1.trans t3 (fun _ _ h => h))
    clear own hc t1 t3
    go_wp2_with fail
    refine (K4.out _).mono ?_
    rintro e w' ⟨rfl, rfl⟩
    go_wp2_with fail
    refine (K5.out _).mono ?_
    rintro e w' ⟨rfl, rfl⟩
    go_wp2_with (go_at_call 18; refine (num_any _ _).mono ?_; rintro e w' ⟨rfl, rfl⟩)
    go_ret
    exact ⟨rfl, T3.out⟩

end Go.Proofs.Ytmhobdcnohhaaaa
