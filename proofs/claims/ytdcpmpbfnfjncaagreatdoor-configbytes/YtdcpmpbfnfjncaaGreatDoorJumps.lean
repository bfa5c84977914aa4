/- A law for a scope in which the run jumps to any of its labels, forward or back. -/
import Derived.Scope
import Derived.ScopeJumps
import Derived.Below
namespace Go.Proofs.YtdcpmpbfnfjncaaGreatDoor
open Go.RowKit

/-- By a goto to label l: J l; else as Q. -/
def jumps (J : Nat → Act → World → Prop) (Q : Exit → Act → World → Prop) : Exit → Act → World → Prop
  | .goto l, a, w => J l a w
  | e, a, w => Q e a w

theorem wp_scope_many {P : Program} {a : Act} {w : World} {Q : Exit → Act → World → Prop} {c : Code} (J : Nat → Act → World → Prop) (m : Nat → Act → World → Nat)
    (first : Hid (∀ l a w X, J l a w → findLabel c l = some (Code.skip.seq X) → X.wp P (jumps J Q) a w) → c.wp P (jumps J Q) a w)
    (pass0 : ∀ l a w, J l a w → ∃ X, findLabel c l = some (Code.skip.seq X) ∧ X.wp P (jumps (fun l' a' w' => J l' a' w' ∧ m l' a' w' < m l a w) Q) a w) : (Code.scope c).wp P Q a w := by
  have pass : ∀ l a w, J l a w → ∃ rest, findLabel c l = some rest ∧ rest.wp P (jumps (fun l' a' w' => J l' a' w' ∧ m l' a' w' < m l a w) Q) a w := by
    intro l a w hJ
    obtain ⟨X, hX, hp⟩ := pass0 l a w hJ
    exact ⟨_, hX, wp_seq (wp_skip hp)⟩
  have weak : ∀ l a w X, J l a w → findLabel c l = some (Code.skip.seq X) → X.wp P (jumps J Q) a w := by
    intro l a w X hJ hr b k cs
    obtain ⟨X', hr', hp⟩ := pass0 l a w hJ
    obtain rfl : X' = X := by rw [hr] at hr'; injection hr' with h; injection h with _ h; exact h.symm
    obtain ⟨e, a1, w1, hq, harr⟩ := hp b k cs
    refine ⟨e, a1, w1, ?_, harr⟩
    cases e with
    | goto l' => exact hq.1
    | normal => exact hq
    | exit id => exact hq
    | ret => exact hq
    | panic ch => exact hq
    | outgrown => exact hq
  intro b k cs
  have key : ∀ n l a w, m l a w = n → J l a w → ∀ rest, findLabel c l = some rest → ∃ e a' w', Q e a' w' ∧ Arrives P (lone (b.at a (.code rest :: .inScope c :: k)) cs w) b k cs e a' w' := by
    intro n
    induction n using Nat.strongRecOn with
    | _ n ih =>
      intro l a w hn hJ rest hr
      obtain ⟨rest', hr', hp⟩ := pass l a w hJ
      obtain rfl : rest' = rest := by rw [hr] at hr'; injection hr' with h; exact h.symm
      obtain ⟨e, a1, w1, hq, harr⟩ := hp b (.inScope c :: k) cs
      cases e with
      | normal => exact ⟨.normal, a1, w1, hq, Steps.trans harr (.one step_inScope)⟩
      | exit id => exact ⟨.exit id, a1, w1, hq, fun k' hk => harr k' (by simp [exitTo, hk])⟩
      | goto l' =>
        obtain ⟨hJ', hlt⟩ := hq
        obtain ⟨rest2, hf2, _⟩ := pass l' a1 w1 hJ'
        obtain ⟨e2, a2, w2, hq2, harr2⟩ := ih _ (by omega) l' a1 w1 rfl hJ' rest2 hf2
        exact ⟨e2, a2, w2, hq2, .of_steps (harr _ (by simp [gotoIn, hf2])) harr2⟩
      | ret => exact ⟨_, a1, w1, hq, harr⟩
      | panic ch => exact ⟨_, a1, w1, hq, harr⟩
      | outgrown => exact ⟨_, a1, w1, hq, harr⟩
  obtain ⟨e, a1, w1, hq, harr⟩ := first weak b (.inScope c :: k) cs
  cases e with
  | normal => exact ⟨.normal, a1, w1, hq, .head step_scope (Steps.trans harr (.one step_inScope))⟩
  | exit id => exact ⟨.exit id, a1, w1, hq, fun k' hk => .head step_scope (harr k' (by simp [exitTo, hk]))⟩
  | goto l' =>
    obtain ⟨rest2, hf2, _⟩ := pass l' a1 w1 hq
    obtain ⟨e2, a2, w2, hq2, harr2⟩ := key _ l' a1 w1 rfl hq rest2 hf2
    exact ⟨e2, a2, w2, hq2, .of_steps (.head step_scope (harr _ (by simp [gotoIn, hf2]))) harr2⟩
  | ret => exact ⟨_, a1, w1, hq, .of_steps (.one step_scope) harr⟩
  | panic ch => exact ⟨_, a1, w1, hq, .of_steps (.one step_scope) harr⟩
  | outgrown => exact ⟨_, a1, w1, hq, .of_steps (.one step_scope) harr⟩

end Go.Proofs.YtdcpmpbfnfjncaaGreatDoor
