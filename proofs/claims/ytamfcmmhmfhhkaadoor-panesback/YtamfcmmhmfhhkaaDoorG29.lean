/- A pane put together (the program's paneOf); what a reader keeps in memory. A law for a scope in which the run jumps to any of its labels, forward or back. A law for a scope in which the run jumps to any of its labels, and falls into a label that stands lower. -/
import Derived.Test.YtamfcmmhmfhhkaaDoorG28
import Derived.Scope
import Derived.ScopeJumps
import Derived.Below
import Derived.Test.YtamfcmmhmfhhkaaDoorG1
namespace Go.Proofs.YtamfcmmhmfhhkaaDoor
open Go.RowKit

set_option maxRecDepth 100000 in
set_option maxHeartbeats 4000000 in
theorem paneOf_any (k : ByteArray) (d : Int) (f : Nat → Int) (w : World) : Calls Tryd.prog 53 #[.string k, .int .i64 d, .agg (f7c f)] w fun e w' => e = .returned (pnv (pnF k d f)) ∧ Calm w w' := by
  have N0 := hide (al_new w (.cells (f7c f) 76))
  have S0 := al_size w (.cells (f7c f) 76)
  have N1 := hide (al_old N0.out (.cells (pnc pn0) 29))
  have P1 := al_new (w.alloc (.cells (f7c f) 76)) (.cells (pnc pn0) 29)
  rw [S0] at P1
  have P2 := hide P1
  have T1 := hide (((Touch.refl (fun _ => False) w).alloc (.cells (f7c f) 76)).alloc (.cells (pnc pn0) 29))
  clear P1 N0
  obtain ⟨c0, c1, c2, c3, c4, c5, c6⟩ := (⟨f7_cells N1.out 0 (by omega), f7_cells N1.out 1 (by omega), f7_cells N1.out 2 (by omega), f7_cells N1.out 3 (by omega), f7_cells N1.out 4 (by omega), f7_cells N1.out 5 (by omega), f7_cells N1.out 6 (by omega)⟩ : _ ∧ _ ∧ _ ∧ _ ∧ _ ∧ _ ∧ _)
  have hi9 : (Tryd.prog.info? 29).map (·.size) = some 9 := by kernel_rfl
  show Calls Tryd.prog 53 #[.string k, .int .i64 d, .agg (f7c f)] w fun e w' => e = .returned (pnv ⟨k, f 0, f 1, d, f 2, ⟨f 3, f 4, f 5, f 6⟩⟩) ∧ Calm w w'
  generalize f 0 = x0 at *
  generalize f 1 = x1 at *
  generalize f 2 = x2 at *
  generalize f 3 = x3 at *
  generalize f 4 = x4 at *
  generalize f 5 = x5 at *
  generalize f 6 = x6 at *
  have hq1 : Hid ((pnc (⟨k, x0, x1, d, x2, ⟨x3, x4, x5, x6⟩⟩ : Pn)).all (·.oneCell') = true) := hide (by simp [Value.oneCell'])
  have Q1 := hide (setRow_heap _ _ _ (pnc (⟨k, x0, x1, d, x2, ⟨x3, x4, x5, x6⟩⟩ : Pn)) _ _ P2.out)
  have Q2 := hide (T1.out.trans (S' := fun g => g = w.heap.size + 1) (c := (((w.alloc (.cells (f7c f) 76)).alloc (.cells (pnc pn0) 29)).setRow (w.heap.size + 1) (pnc (⟨k, x0, x1, d, x2, ⟨x3, x4, x5, x6⟩⟩ : Pn)))) ⟨rfl, rfl, rfl, by simp, fun j _ hj => setRow_other _ _ j _ hj⟩ (fun g hg e => by omega))
  go_enter Tryd.func53, Tryd.ntmps53
  go_wp2_with (refine wpList_store_rowTo rfl 29 (.tmp 6) (.tmp 25) rfl rfl (w.heap.size + 1) (pnc (⟨k, x0, x1, d, x2, ⟨x3, x4, x5, x6⟩⟩ : Pn)) rfl rfl 29 _ P2.out hi9 rfl hq1.out ?_)
  refine bodyPost_ret (results_cell_row rfl _ _ _ _ _ _ _ rfl Q1.out Tryd.underlying29 rfl (by kernel_rfl)) rfl ?_
  exact ⟨rfl, Q2.out⟩

end Go.Proofs.YtamfcmmhmfhhkaaDoor

namespace Go.Proofs.YtamfcmmhmfhhkaaDoor
open Go.RowKit

/-- By a goto to label l: J l; else as Q. -/
def jumps (J : Nat → Act → World → Prop) (Q : Exit → Act → World → Prop) : Exit → Act → World → Prop
  | .goto l, a, w => J l a w
  | e, a, w => Q e a w

theorem wp_scope_many {P : Program} {a : Act} {w : World} {Q : Exit → Act → World → Prop} {c : Code} (J : Nat → Act → World → Prop) (m : Nat → Act → World → Nat)
    (first : Hid (∀ l a w X, J l a w → findLabel c l = some (Code.skip.seq X) → X.wp P (jumps J Q) a w) → c.wp P (jumps J Q) a w)
    (pass0 : ∀ l a w, J l a w → ∃ X, findLabel c l = some (Code.skip.seq X) ∧ X.wp P (jumps (fun l' a' w' => J l' a' w' ∧ m l' a' w' < m l a w) Q) a w) : (Code.scope c).wp P Q a w := by
  have pass : ∀ l a w, J l a w → ∃ rest, findLabel c l = some rest ∧ rest.wp P (jumps (fun l' a' w' => J l' a' w' ∧ m l' a' w' < m l a w) Q) a w := by
    intro l a w hJ
    obtain ⟨X, hX, hp⟩ := pass0 l a w hJ
    exact ⟨_, hX, wp_seq (wp_skip hp)⟩
  have weak : ∀ l a w X, J l a w → findLabel c l = some (Code.skip.seq X) → X.wp P (jumps J Q) a w := by
    intro l a w X hJ hr b k cs
    obtain ⟨X', hr', hp⟩ := pass0 l a w hJ
    obtain rfl : X' = X := by rw [hr] at hr'; injection hr' with h; injection h with _ h; exact h.symm
    obtain ⟨e, a1, w1, hq, harr⟩ := hp b k cs
    refine ⟨e, a1, w1, ?_, harr⟩
    cases e with
    | goto l' => exact hq.1
    | normal => exact hq
    | exit id => exact hq
    | ret => exact hq
    | panic ch => exact hq
    | outgrown => exact hq
  intro b k cs
  have key : ∀ n l a w, m l a w = n → J l a w → ∀ rest, findLabel c l = some rest → ∃ e a' w', Q e a' w' ∧ Arrives P (lone (b.at a (.code rest :: .inScope c :: k)) cs w) b k cs e a' w' := by
    intro n
    induction n using Nat.strongRecOn with
    | _ n ih =>
      intro l a w hn hJ rest hr
      obtain ⟨rest', hr', hp⟩ := pass l a w hJ
      obtain rfl : rest' = rest := by rw [hr] at hr'; injection hr' with h; exact h.symm
      obtain ⟨e, a1, w1, hq, harr⟩ := hp b (.inScope c :: k) cs
      cases e with
      | normal => exact ⟨.normal, a1, w1, hq, Steps.trans harr (.one step_inScope)⟩
      | exit id => exact ⟨.exit id, a1, w1, hq, fun k' hk => harr k' (by simp [exitTo, hk])⟩
      | goto l' =>
        obtain ⟨hJ', hlt⟩ := hq
        obtain ⟨rest2, hf2, _⟩ := pass l' a1 w1 hJ'
        obtain ⟨e2, a2, w2, hq2, harr2⟩ := ih _ (by omega) l' a1 w1 rfl hJ' rest2 hf2
        exact ⟨e2, a2, w2, hq2, .of_steps (harr _ (by simp [gotoIn, hf2])) harr2⟩
      | ret => exact ⟨_, a1, w1, hq, harr⟩
      | panic ch => exact ⟨_, a1, w1, hq, harr⟩
      | outgrown => exact ⟨_, a1, w1, hq, harr⟩
  obtain ⟨e, a1, w1, hq, harr⟩ := first weak b (.inScope c :: k) cs
  cases e with
  | normal => exact ⟨.normal, a1, w1, hq, .head step_scope (Steps.trans harr (.one step_inScope))⟩
  | exit id => exact ⟨.exit id, a1, w1, hq, fun k' hk => .head step_scope (harr k' (by simp [exitTo, hk]))⟩
  | goto l' =>
    obtain ⟨rest2, hf2, _⟩ := pass l' a1 w1 hq
    obtain ⟨e2, a2, w2, hq2, harr2⟩ := key _ l' a1 w1 rfl hq rest2 hf2
    exact ⟨e2, a2, w2, hq2, .of_steps (.head step_scope (harr _ (by simp [gotoIn, hf2]))) harr2⟩
  | ret => exact ⟨_, a1, w1, hq, .of_steps (.one step_scope) harr⟩
  | panic ch => exact ⟨_, a1, w1, hq, .of_steps (.one step_scope) harr⟩
  | outgrown => exact ⟨_, a1, w1, hq, .of_steps (.one step_scope) harr⟩

end Go.Proofs.YtamfcmmhmfhhkaaDoor

namespace Go.Proofs.YtamfcmmhmfhhkaaDoor
open Go.RowKit

theorem jumps_mono {J J' : Nat → Act → World → Prop} {Q : Exit → Act → World → Prop} (h : ∀ l a w, J l a w → J' l a w) (e : Exit) (a : Act) (w : World) (hq : jumps J Q e a w) : jumps J' Q e a w := by
  cases e with
  | goto l => exact h l a w hq
  | normal => exact hq
  | exit id => exact hq
  | ret => exact hq
  | panic ch => exact hq
  | outgrown => exact hq
theorem wp_jumps_mono {P : Program} {X : Code} {J J' : Nat → Act → World → Prop} {Q : Exit → Act → World → Prop} {a : Act} {w : World} (h : ∀ l a w, J l a w → J' l a w) (hw : X.wp P (jumps J Q) a w) : X.wp P (jumps J' Q) a w := by
  intro b k cs
  obtain ⟨e, a1, w1, hq, harr⟩ := hw b k cs
  exact ⟨e, a1, w1, jumps_mono h e a1 w1 hq, harr⟩

theorem wp_scope_fall {P : Program} {a : Act} {w : World} {Q : Exit → Act → World → Prop} {c : Code} (J : Nat → Act → World → Prop) (m : Nat → Act → World → Nat)
    (first : Hid (∀ l a w X, J l a w → findLabel c l = some (Code.skip.seq X) → X.wp P (jumps J Q) a w) → c.wp P (jumps J Q) a w)
    (pass0 : ∀ l a w, J l a w → Hid (∀ l' a' w' X', J l' a' w' → m l' a' w' < m l a w → findLabel c l' = some (Code.skip.seq X') → X'.wp P (jumps (fun l2 a2 w2 => J l2 a2 w2 ∧ m l2 a2 w2 < m l a w) Q) a' w') →
      ∃ X, findLabel c l = some (Code.skip.seq X) ∧ X.wp P (jumps (fun l' a' w' => J l' a' w' ∧ m l' a' w' < m l a w) Q) a w) : (Code.scope c).wp P Q a w := by
  refine wp_scope_many J m first ?_
  have key : ∀ n l a w, m l a w = n → J l a w → ∃ X, findLabel c l = some (Code.skip.seq X) ∧ X.wp P (jumps (fun l' a' w' => J l' a' w' ∧ m l' a' w' < n) Q) a w := by
    intro n
    induction n using Nat.strongRecOn with
    | _ n ih =>
      intro l a w hn hJ
      subst hn
      refine pass0 l a w hJ (hide ?_)
      intro l' a' w' X' hJ' hlt hf
      obtain ⟨X, hX, hw⟩ := ih _ hlt l' a' w' rfl hJ'
      rw [hf] at hX
      injection hX with hX
      injection hX with _ hX
      subst hX
      exact wp_jumps_mono (fun l2 a2 w2 h => ⟨h.1, Nat.lt_trans h.2 hlt⟩) hw
  exact fun l a w hJ => key _ l a w rfl hJ

end Go.Proofs.YtamfcmmhmfhhkaaDoor
