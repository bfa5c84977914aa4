/- Walks: lists that rise: wire's rises, the document's Rises. -/
import Derived.Test.YthhajlbnnffgnaaWri2
import Derived.Deep.QuietTactic
import Derived.BigQuiet
namespace Go.Proofs.Ythhajlbnnffgnaa
open Go.RowKit

/-- Each number is above the one ahead. -/
def Up (xs : List Int) : Prop := ∀ i, i + 1 < xs.length → xs.getD i 0 < xs.getD (i + 1) 0

/-- Up to the first k. -/
def UpTo (xs : List Int) (k : Nat) : Prop := ∀ i, i + 1 < k → xs.getD i 0 < xs.getD (i + 1) 0

set_option maxRecDepth 100000 in
set_option maxHeartbeats 400000 in
theorem rises_any (ao : Option Addr) (xs : List Int) (cap : Nat) (w : World) (hs : Seg w .i64 ao xs) (hb : xs.length ≤ 140737488351232) :
    Calls Try.prog 65 #[.slice ao xs.length cap] w fun e w' => ∃ b, e = .returned (.bool b) ∧ (b = true ↔ Up xs) ∧ ∃ n, w' = w.drewN n := by
  go_enter Try.func65, Try.ntmps65
  go_wp2
  go_loopw [3] (fun i wr => ∃ k : Nat, 1 ≤ k ∧ (k ≤ xs.length ∨ k = 1) ∧ i = .int .i64 k ∧ UpTo xs k ∧ ∃ n, wr = w.drewN n) (fun i _ => xs.length - (intOf i).toNat)
  case atStart => exact ⟨1, Nat.le_refl _, .inr rfl, rfl, fun i hi => by omega, 0, rfl⟩
  case round =>
    obtain ⟨k, hk1, hk2, rfl, hup, n, rfl⟩ := hrel
    have HU := hide hup
    clear hup
    by_cases hlt : k < xs.length
    · obtain ⟨b, off, rfl⟩ : ∃ b off, ao = some ⟨b, off, none⟩ := hs.addr (by omega)
      have c1 : w.cell? ⟨b, off + k, none⟩ = some (.int .i64 (xs.getD k 0)) := hs.at k hlt
      have c0 : w.cell? ⟨b, off + (k - 1), none⟩ = some (.int .i64 (xs.getD (k - 1) 0)) := hs.at (k - 1) (by omega)
      have e1 : ((k : Int) - 1).toNat = k - 1 := by omega
      have hl := hide hlt
      obtain ⟨x1, hx1⟩ : ∃ x1, xs.getD k 0 = x1 := ⟨_, rfl⟩
      obtain ⟨x0, hx0⟩ : ∃ x0, xs.getD (k - 1) 0 = x0 := ⟨_, rfl⟩
      rw [hx1] at c1
      rw [hx0] at c0
      have HX1 := hide hx1
      have HX0 := hide hx0
      clear hx1 hx0
      by_cases hle : x1 ≤ x0
      · go_wp2
        go_quiet (fail)
        go_wp2
        go_ret
        refine ⟨false, rfl, ⟨fun h => (by cases h), fun h => ?_⟩, ?_⟩
        · have := h (k - 1) (by have := hl.out; omega)
          rw [show k - 1 + 1 = k by omega, HX0.out, HX1.out] at this
          omega
        · first | exact ⟨_, rfl⟩ | exact ⟨_, World.drewN_drewN _ _ _⟩
      · go_wp2
        go_quiet (fail)
        go_wp2
        go_roundw
        case rel =>
          refine ⟨k + 1, by omega, .inl (by have := hl.out; omega), by go_num, fun i hi => ?_, ?_⟩
          · by_cases hik : i + 1 < k
            · exact HU.out i hik
            · have e : i = k - 1 := by omega
              subst e
              rw [show k - 1 + 1 = k by omega, HX0.out, HX1.out]; omega
          · first | exact ⟨_, rfl⟩ | exact ⟨_, World.drewN_drewN _ _ _⟩
        case measure => have := hl.out; simp [intOf]; omega
    · go_wp2
      go_ret
      exact ⟨true, rfl, ⟨fun _ i hi => HU.out i (by omega), fun _ => rfl⟩, n, rfl⟩

set_option maxRecDepth 100000 in
set_option maxHeartbeats 400000 in
theorem refRises_any (ao : Option Addr) (xs : List Int) (cap : Nat) (w : World) (hs : Seg w .i64 ao xs) (hb : xs.length ≤ 140737488351232) :
    Calls Try.prog 41 #[.slice ao xs.length cap] w fun e w' => ∃ b, e = .returned (.bool b) ∧ (b = true ↔ Up xs) ∧ ∃ n, w' = w.drewN n := by
  go_enter Try.func41, Try.ntmps41
  go_wp2
  go_loopw [3] (fun i wr => ∃ k : Nat, 1 ≤ k ∧ (k ≤ xs.length ∨ k = 1) ∧ i = .int .i64 k ∧ UpTo xs k ∧ ∃ n, wr = w.drewN n) (fun i _ => xs.length - (intOf i).toNat)
  case atStart => exact ⟨1, Nat.le_refl _, .inr rfl, rfl, fun i hi => by omega, 0, rfl⟩
  case round =>
    obtain ⟨k, hk1, hk2, rfl, hup, n, rfl⟩ := hrel
    have HU := hide hup
    clear hup
    by_cases hlt : k < xs.length
    · obtain ⟨b, off, rfl⟩ : ∃ b off, ao = some ⟨b, off, none⟩ := hs.addr (by omega)
      have c1 : w.cell? ⟨b, off + k, none⟩ = some (.int .i64 (xs.getD k 0)) := hs.at k hlt
      have c0 : w.cell? ⟨b, off + (k - 1), none⟩ = some (.int .i64 (xs.getD (k - 1) 0)) := hs.at (k - 1) (by omega)
      have e1 : ((k : Int) - 1).toNat = k - 1 := by omega
      have hl := hide hlt
      obtain ⟨x1, hx1⟩ : ∃ x1, xs.getD k 0 = x1 := ⟨_, rfl⟩
      obtain ⟨x0, hx0⟩ : ∃ x0, xs.getD (k - 1) 0 = x0 := ⟨_, rfl⟩
      rw [hx1] at c1
      rw [hx0] at c0
      have HX1 := hide hx1
      have HX0 := hide hx0
      clear hx1 hx0
      by_cases hle : x1 ≤ x0
      · go_wp2
        go_quiet (fail)
        go_wp2
        go_ret
        refine ⟨false, rfl, ⟨fun h => (by cases h), fun h => ?_⟩, ?_⟩
        · have := h (k - 1) (by have := hl.out; omega)
          rw [show k - 1 + 1 = k by omega, HX0.out, HX1.out] at this
          omega
        · first | exact ⟨_, rfl⟩ | exact ⟨_, World.drewN_drewN _ _ _⟩
      · go_wp2
        go_quiet (fail)
        go_wp2
        go_roundw
        case rel =>
          refine ⟨k + 1, by omega, .inl (by have := hl.out; omega), by go_num, fun i hi => ?_, ?_⟩
          · by_cases hik : i + 1 < k
            · exact HU.out i hik
            · have e : i = k - 1 := by omega
              subst e
              rw [show k - 1 + 1 = k by omega, HX0.out, HX1.out]; omega
          · first | exact ⟨_, rfl⟩ | exact ⟨_, World.drewN_drewN _ _ _⟩
        case measure => have := hl.out; simp [intOf]; omega
    · go_wp2
      go_ret
      exact ⟨true, rfl, ⟨fun _ i hi => HU.out i (by omega), fun _ => rfl⟩, n, rfl⟩

end Go.Proofs.Ythhajlbnnffgnaa
