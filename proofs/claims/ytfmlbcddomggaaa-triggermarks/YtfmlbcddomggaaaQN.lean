/- The program's isOver; notions of Mark. -/
import Derived.Test.YtfmlbcddomggaaaQM
import Derived.Test.YtfmlbcddomggaaaQDn
import Derived.Test.YtfmlbcddomggaaaQE
import Derived.Test.YtfmlbcddomggaaaVE
namespace Go.Proofs.Ytfmlbcddomggaaa
open Go.RowKit

set_option maxRecDepth 100000 in
set_option maxHeartbeats 1000000 in
theorem over_any (x : Wn) (l t : Int) (hb : I64 x.b) (hl : I64 l) (ht : I64 t) (w : World) : Calls Try.prog 30 #[wnv x, .int .i64 l, .int .i64 t] w fun e w' => e = .returned (.bool (overB x.b l t)) ∧ Calm w w' := by
  have T0 := hide ((Touch.refl (fun _ => False) w).alloc (.cells (wnc x) 30))
  unfold I64 at hb hl ht
  have fin : (0 < l → ¬ wrap64 (9223372036854775807 - l) < x.b) → (l < 0 → ¬ x.b < wrap64 (-9223372036854775808 - l)) → overB x.b l t = decide (wrap64 (x.b + l) ≤ t) := fun q1 q2 => by
    have : wrap64 (x.b + l) = x.b + l := by
      rcases (by omega : 0 < l ∨ l < 0 ∨ l = 0) with h | h | h
      · have := q1 h; unfold wrap64 at *; omega
      · have := q2 h; unfold wrap64 at *; omega
      · unfold wrap64; omega
    unfold overB
    rw [this]
  by_cases h1 : 0 < l
  · have d1 : decide (0 < l) = true := decide_eq_true h1
    have dn : decide (l < 0) = false := decide_eq_false (by omega)
    by_cases h2 : wrap64 (9223372036854775807 - l) < x.b
    · have HO : Hid (overB x.b l t = false) := hide (by unfold overB; unfold wrap64 at h2; exact decide_eq_false (by omega))
      have d2 : decide (wrap64 (9223372036854775807 - l) < x.b) = true := decide_eq_true h2
      clear h1 h2 hb hl ht fin
      go_enter Try.func30, Try.ntmps30
      go_wp2_with fail
      go_ret
      exact ⟨by rw [HO.out]; rfl, T0.out⟩
    · have HO := hide (fin (fun _ => h2) (fun h => by omega))
      have d2 : decide (wrap64 (9223372036854775807 - l) < x.b) = false := decide_eq_false h2
      clear h1 h2 hb hl ht fin
      go_enter Try.func30, Try.ntmps30
      go_wp2_with fail
      go_ret
      exact ⟨by rw [HO.out]; rfl, T0.out⟩
  · have d1 : decide (0 < l) = false := decide_eq_false h1
    by_cases h3 : l < 0
    · have dn : decide (l < 0) = true := decide_eq_true h3
      by_cases h2 : x.b < wrap64 (-9223372036854775808 - l)
      · have HO : Hid (overB x.b l t = true) := hide (by unfold overB; unfold wrap64 at h2; exact decide_eq_true (by omega))
        have d2 : decide (x.b < wrap64 (-9223372036854775808 - l)) = true := decide_eq_true h2
        clear h1 h2 h3 hb hl ht fin
        go_enter Try.func30, Try.ntmps30
        go_wp2_with fail
        go_ret
        exact ⟨by rw [HO.out]; rfl, T0.out⟩
      · have HO := hide (fin (fun h => by omega) (fun _ => h2))
        have d2 : decide (x.b < wrap64 (-9223372036854775808 - l)) = false := decide_eq_false h2
        clear h1 h2 h3 hb hl ht fin
        go_enter Try.func30, Try.ntmps30
        go_wp2_with fail
        go_ret
        exact ⟨by rw [HO.out]; rfl, T0.out⟩
    · have HO := hide (fin (fun h => by omega) (fun h => by omega))
      have dn : decide (l < 0) = false := decide_eq_false h3
      clear h1 h3 hb hl ht fin
      go_enter Try.func30, Try.ntmps30
      go_wp2_with fail
      go_ret
      exact ⟨by rw [HO.out]; rfl, T0.out⟩

end Go.Proofs.Ytfmlbcddomggaaa
