/- A drawn region whose operations come up in many orders: by a relation that each of them keeps. -/
import Derived.Test.YtapnjofplilefaaGreatSLast
namespace Go.Proofs.YtapnjofplilefaaGreat

section
variable {P : Program} {ops : Array Oper} {Q : Exit → Act → World → Prop} {S : World → Prop} {md : Region.Mode}

/-- R n: n operations are left of those that come up in many orders. -/
theorem wpAnyH_sim {fuel : Nat} {R : Nat → Array Bool → Act → World → Prop} (tail : ∀ L a w, R 0 L a w → wpAnyH P md ops Q S fuel L a w)
    (prog : ∀ n L a w, R (n + 1) L a w → Region.ready md ops L ≠ [] ∧ ∀ i ∈ Region.ready md ops L, wpOp P ops Q i (fun a' w' => S w' ∧ R n (L.setIfInBounds i true) a' w') a w) :
    ∀ n L a w, R n L a w → wpAnyH P md ops Q S (fuel + n) L a w
  | 0, L, a, w, h => tail L a w h
  | n + 1, L, a, w, h => by
    obtain ⟨h1, h2⟩ := prog n L a w h
    refine wpAnyH_all rfl h1 fun i hi => wpOp_mono (fun a' w' h' => ⟨h'.1, wpAnyH_sim tail prog n _ a' w' h'.2⟩) (h2 i hi)

/-- The frame under a name. -/
theorem wpAnyH_named {fuel : Nat} {listed : Array Bool} {a : Act} {w : World} (h : ∀ a', a' = a → wpAnyH P md ops Q S fuel listed a' w) : wpAnyH P md ops Q S fuel listed a w := h a rfl

/-- The region, the way on and the frame under names. -/
theorem wpAnyH_names {fuel : Nat} {listed : Array Bool} {a : Act} {w : World} (h : ∀ ops' Q' a', ops' = ops → Q' = Q → a' = a → wpAnyH P md ops' Q' S fuel listed a' w) : wpAnyH P md ops Q S fuel listed a w := h ops Q a rfl rfl rfl

/-- An operation in a drawn region that changes the world. -/
theorem wpAnyH_do (i : Nat) {oi : Oper} {fuel : Nat} {listed : Array Bool} {a : Act} {w : World} (w' : World) (hi : ops[i]? = some oi)
    (hr : Region.ready md ops listed = [i]) (hw : Region.wanted oi (yielded ops a.tmps) = true) (hd : ∀ K : Act → World → Prop, K a w' → oi.wp P a w K Q) (hS : S w') (h : wpAnyH P md ops Q S fuel (listed.setIfInBounds i true) a w') : wpAnyH P md ops Q S (fuel + 1) listed a w := by
  refine wpAnyH_all hr (by simp) ?_
  intro j hj
  obtain rfl : j = i := by simpa using hj
  unfold wpOp
  simp only [hi, hw, if_true]
  left
  exact hd _ ⟨hS, h⟩

/-- An operation in a drawn region that changes the world, the last one aside. -/
theorem wpAnyZ_do {z : Nat} (i : Nat) {oi : Oper} {fuel : Nat} {listed : Array Bool} {a : Act} {w : World} (w' : World) (hi : ops[i]? = some oi) (hiz : i ≠ z)
    (hr : Region.ready md ops listed = [i]) (hw : Region.wanted oi (yielded ops a.tmps) = true) (hd : ∀ K : Act → World → Prop, K a w' → oi.wp P a w K Q) (hS : S w') (h : wpAnyZ P md ops Q S z fuel (listed.setIfInBounds i true) a w') : wpAnyZ P md ops Q S z (fuel + 1) listed a w := by
  refine ⟨fun h0 => (by rw [hr] at h0; cases h0), fun j hj => ?_⟩
  rw [hr] at hj
  obtain rfl : j = i := by simpa using hj
  unfold wpOp
  simp only [hi, hw, if_true, if_neg hiz]
  left
  exact hd _ ⟨hS, h⟩

/-- An operation that changes the world comes up. -/
theorem wpOp_do (i : Nat) {oi : Oper} {K : Act → World → Prop} {a : Act} {w : World} (w' : World) (hi : ops[i]? = some oi) (hw : Region.wanted oi (yielded ops a.tmps) = true) (hd : ∀ K' : Act → World → Prop, K' a w' → oi.wp P a w K' Q) (h : K a w') : wpOp P ops Q i K a w := by
  unfold wpOp
  simp only [hi, hw, if_true]
  left
  exact hd _ h

/-- A call comes up. -/
theorem wpOp_enter (i : Nat) (d : Tmp) (f : FuncId) (args : Array Value) {oi : Oper} {K : Act → World → Prop} {a : Act} {w : World} (hi : ops[i]? = some oi) (hd : oi.dst = some d)
    (hw : Region.wanted oi (yielded ops a.tmps) = true) (hrun : (execOp a.eval oi).run P w = .ok (.enter f args) w) (hc : Calls P f args w fun e w'' => ∃ v, e = .returned v ∧ K (a.put (some d) v) w'') : wpOp P ops Q i K a w := by
  unfold wpOp
  simp only [hi, hw, if_true]
  left
  unfold Oper.wp
  rw [hrun, Oper.upon_enter]
  refine hc.mono fun e w'' hh => ?_
  obtain ⟨v, rfl, h⟩ := hh
  rw [hd]
  exact h

/-- A value comes up, in a world of its own. -/
theorem wpOp_value (i : Nat) (d : Tmp) (v : Value) {oi : Oper} {K : Act → World → Prop} {a : Act} {w w' : World} (hi : ops[i]? = some oi) (hd : oi.dst = some d)
    (hw : Region.wanted oi (yielded ops a.tmps) = true) (hrun : (execOp a.eval oi).run P w = .ok (.value v) w') (h : K (a.put (some d) v) w') : wpOp P ops Q i K a w := by
  unfold wpOp
  simp only [hi, hw, if_true]
  left
  unfold Oper.wp
  rw [hrun, Oper.upon_value, hd]
  exact h

end
end Go.Proofs.YtapnjofplilefaaGreat
