/- Whether a tally can be: the program's answer. -/
import Derived.Test.YtakpeopghhblmaaDoorYE
namespace Go.Proofs.YtakpeopghhblmaaDoor
open Go.RowKit Go.Lib

abbrev U (x : Int) : Int := IntKind.u64.wrap x

theorem U_in (x : Int) : 0 ≤ U x ∧ U x < 18446744073709551616 := by unfold U; rw [IntKind.wrap_u64]; omega

/-- How wide it is. -/
def wid (t : Tl) : Int := U (U t.x - U t.m)
/-- The least sum. -/
def low64 (t : Tl) : Int := U (U (U t.m + U t.x) + U ((t.c - 2) * U t.m))
/-- How far the sum is above it. -/
def rais (t : Tl) : Int := U (U t.s - low64 t)
/-- The sum is one of just so many values. -/
def reach (t : Tl) : Bool := decide (0 < (t.c - 2) * wid t / 18446744073709551616) || decide (rais t ≤ (t.c - 2) * wid t % 18446744073709551616)

set_option maxRecDepth 100000 in
theorem width_any (t : Tl) (w : World) : Calls Tryd.prog 21 #[tlv t] w fun e w' => e = .returned (.int .u64 (wid t)) ∧ Calm w w' := by
  go_enter Tryd.func21, Tryd.ntmps21
  go_wp2_with fail
  go_ret
  exact ⟨rfl, (Touch.refl _ _).alloc _⟩

set_option maxRecDepth 100000 in
set_option maxHeartbeats 1000000 in
theorem isReached_any (t : Tl) (h2 : 2 ≤ t.c) (hM : t.c ≤ 9007199254740992) (w : World) : Calls Tryd.prog 29 #[tlv t] w fun e w' => e = .returned (.bool (reach t)) ∧ Calm w w' := by
  have WI := fun w => hide (width_any t w)
  have hb := U_in (U t.x - U t.m)
  have MU := fun w => hide (mul64_any (t.c - 2) (wid t) (by omega) (by omega) hb.1 hb.2 w)
  have e1 : wrap64 (t.c - 2) = t.c - 2 := by unfold wrap64; omega
  have e2 : IntKind.u64.wrap (t.c - 2) = t.c - 2 := by rw [IntKind.wrap_u64]; omega
  have e1' : IntKind.i64.wrap (t.c - 2) = t.c - 2 := by rw [wrapEq, e1]
  unfold reach rais low64
  generalize wid t = wd at *
  clear h2 hM hb
  go_enter Tryd.func29, Tryd.ntmps29
  go_wp2_with fail
  refine (WI _).out.mono ?_
  rintro e w1 ⟨rfl, T1⟩
  go_wp2_with fail
  refine (MU _).out.mono ?_
  rintro e w2 ⟨rfl, hq⟩
  obtain rfl := hq.symm
  cases hd : decide (0 < (t.c - 2) * wd / 18446744073709551616) with
  | true =>
    have hd' := of_decide_eq_true hd
    go_wp2_with fail
    go_ret
    exact ⟨by simp [hd'], ((Touch.refl (fun _ => False) w).alloc _).tr T1⟩
  | false =>
    have hd' := of_decide_eq_false hd
    go_wp2_with fail
    go_ret
    refine ⟨?_, ((Touch.refl (fun _ => False) w).alloc _).tr T1⟩
    simp
    exact fun h => absurd h (Int.not_lt.2 hd')

/-- Some whole number times n is the sum. -/
def multi (s n : Int) : Bool := decide (tzI (U n) ≤ tzI (U s))

set_option maxRecDepth 100000 in
theorem isMultiple_any (s n : Int) (w : World) (hT : Tab64 w) : Calls Tryd.prog 30 #[.int .i64 s, .int .i64 n] w fun e w' => e = .returned (.bool (multi s n)) ∧ w' = w := by
  have T1 := fun w (h : Tab64 w) => hide (tz64_any (U s) (U_in s).1 (U_in s).2 w h)
  have T2 := fun w (h : Tab64 w) => hide (tz64_any (U n) (U_in n).1 (U_in n).2 w h)
  have H := hide hT
  clear hT
  unfold multi
  go_enter Tryd.func30, Tryd.ntmps30
  go_wp2_with fail
  refine (T1 _ H.out).out.mono ?_
  rintro e w1 ⟨rfl, hq⟩
  subst hq
  go_wp2_with fail
  refine (T2 _ H.out).out.mono ?_
  rintro e w1 ⟨rfl, hq⟩
  subst hq
  go_wp2_with fail
  go_ret
  exact ⟨by simp, rfl⟩

/-- Can it be? -/
def canT (t : Tl) : Bool :=
  if t.c = 0 then decide (t.s = 0) && (decide (t.m = 0) && decide (t.x = 0))
  else if t.c < 0 then false
  else if 9007199254740992 < t.c then false
  else if t.x < t.m then false
  else if t.c = 1 then decide (t.m = t.s) && decide (t.x = t.s)
  else if t.c < 9007199254740992 then reach t
  else if t.m < t.x then true else multi t.s t.m

set_option maxRecDepth 100000 in
set_option maxHeartbeats 1000000 in
theorem can_any (t : Tl) (w : World) (hT : t.c = 9007199254740992 → Tab64 w) : Calls Tryd.prog 18 #[tlv t] w fun e w' => e = .returned (.bool (canT t)) ∧ Calm w w' := by
  unfold canT
  by_cases h0 : t.c = 0
  · rw [if_pos h0]
    clear hT
    go_enter Tryd.func18, Tryd.ntmps18
    go_wp2_with fail
    all_goals go_ret
    all_goals refine ⟨?_, (Touch.refl _ _).alloc _⟩
    all_goals simp [*]
  · rw [if_neg h0]
    by_cases h1 : t.c < 0
    · rw [if_pos h1]
      clear hT
      go_enter Tryd.func18, Tryd.ntmps18
      go_wp2_with fail
      go_ret
      exact ⟨rfl, (Touch.refl _ _).alloc _⟩
    · rw [if_neg h1]
      by_cases h2 : 9007199254740992 < t.c
      · rw [if_pos h2]
        clear hT
        go_enter Tryd.func18, Tryd.ntmps18
        go_wp2_with fail
        go_ret
        exact ⟨rfl, (Touch.refl _ _).alloc _⟩
      · rw [if_neg h2]
        by_cases h3 : t.x < t.m
        · rw [if_pos h3]
          clear hT
          go_enter Tryd.func18, Tryd.ntmps18
          go_wp2_with fail
          go_ret
          exact ⟨rfl, (Touch.refl _ _).alloc _⟩
        · rw [if_neg h3]
          by_cases h4 : t.c = 1
          · rw [if_pos h4]
            clear hT
            go_enter Tryd.func18, Tryd.ntmps18
            go_wp2_with fail
            all_goals go_ret
            all_goals refine ⟨?_, (Touch.refl _ _).alloc _⟩
            all_goals first | (simp [*]; done) | (simp [*]; rfl)
          · rw [if_neg h4]
            by_cases h5 : t.c < 9007199254740992
            · rw [if_pos h5]
              have R := fun w => hide (isReached_any t (by omega) (by omega) w)
              clear hT
              go_enter Tryd.func18, Tryd.ntmps18
              go_wp2_with fail
              refine (R _).out.mono ?_
              rintro e w1 ⟨rfl, hq⟩
              go_wp2_with fail
              go_ret
              exact ⟨rfl, ((Touch.refl (fun _ => False) w).alloc _).tr hq⟩
            · rw [if_neg h5]
              have hT' := hT (by omega)
              have HT := hide hT'
              clear hT hT'
              by_cases h6 : t.m < t.x
              · rw [if_pos h6]
                go_enter Tryd.func18, Tryd.ntmps18
                go_wp2_with fail
                go_ret
                exact ⟨rfl, (Touch.refl _ _).alloc _⟩
              · rw [if_neg h6]
                have M := fun w (h : Tab64 w) => hide (isMultiple_any t.s t.m w h)
                go_enter Tryd.func18, Tryd.ntmps18
                go_wp2_with fail
                refine (M _ (HT.out.calm ((Touch.refl _ _).alloc _))).out.mono ?_
                rintro e w1 ⟨rfl, hq⟩
                subst hq
                go_wp2_with fail
                go_ret
                exact ⟨rfl, ((Touch.refl (fun _ => False) w).alloc _)⟩

end Go.Proofs.YtakpeopghhblmaaDoor
