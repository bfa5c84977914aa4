/- A drawn region: operations in a row, and a making that comes up anywhere among them. -/
import Derived.Test.YtdcpmpbfnfjncaaDoorYS
import Derived.Test.YtdcpmpbfnfjncaaDoorYZ
namespace Go.Proofs.YtdcpmpbfnfjncaaDoor

/-- One value of a row turned. -/
def upd (vs : Nat → Value) (k : Nat) (x : Value) : Nat → Value := fun j => if j = k then x else vs j

theorem wpAnyH_float {P : Program} {ops : Array Oper} {Q : Exit → Act → World → Prop} {S : World → Prop} {md : Region.Mode} {fuel m : Nat} (i : Nat → Nat) (f df : Nat) {of : Oper} (o : Obj) (F : (Nat → Value) → Value → Act) (L : Nat → Bool → Array Bool) (I : Nat → (Nat → Value) → World → Prop) (w0 : World)
    (hof : ops[f]? = some of) (hdf : of.dst = some df) (hwf : ∀ vs p, Region.wanted of (yielded ops (F vs p).tmps) = true) (hrf : ∀ vs W, (execOp (F vs undef).eval of).run P W = .ok (.value (.pointer (some ⟨W.heap.size, 0, none⟩))) (W.alloc o))
    (hFp : ∀ vs x, (F vs undef).put (some df) x = F vs x) (hLf : ∀ k, k ≤ m → (L k false).setIfInBounds f true = L k true) (hLi : ∀ k b, k < m → (L k b).setIfInBounds (i k) true = L (k + 1) b)
    (r0 : ∀ k, k < m → Region.ready md ops (L k false) = [i k, f]) (r1 : ∀ k, k < m → Region.ready md ops (L k true) = [i k]) (r2 : Region.ready md ops (L m false) = [f])
    (hI : ∀ k vs W W', I k vs W → Calm W W' → I k vs W') (hS : ∀ W, Calm w0 W → S W)
    (step : ∀ k vs p W (K : Act → World → Prop), k < m → I k vs W → Calm w0 W → (∀ x W', Calm W W' → I (k + 1) (upd vs k x) W' → K (F (upd vs k x) p) W') → wpOp P ops Q (i k) K (F vs p) W)
    (tail : ∀ vs p W, I m vs W → Calm w0 W → w0.heap.size ≤ p → W.heap[p]? = some o → wpAnyH P md ops Q S fuel (L m true) (F vs (.pointer (some ⟨p, 0, none⟩))) W)
    (vs0 : Nat → Value) (w : World) (h0 : I 0 vs0 w) (hc : Calm w0 w) : wpAnyH P md ops Q S (fuel + (m + 1)) (L 0 false) (F vs0 undef) w := by
  refine wpAnyH_sim (R := fun n L' a W => ∃ k b vs p, k ≤ m ∧ n = (m - k) + (if b = true then 0 else 1) ∧ L' = L k b ∧ a = F vs p ∧ I k vs W ∧ Calm w0 W ∧ (b = false → p = undef) ∧ (b = true → ∃ q, p = .pointer (some ⟨q, 0, none⟩) ∧ w0.heap.size ≤ q ∧ W.heap[q]? = some o)) ?_ ?_ (m + 1) _ _ _ ⟨0, false, vs0, undef, Nat.zero_le _, by simp, rfl, rfl, h0, hc, fun _ => rfl, fun h => (nomatch h)⟩
  · rintro L' a W ⟨k, b, vs, p, hk, hn, rfl, rfl, hi, hcw, hb0, hb1⟩
    have hb : b = true := by cases b with | true => rfl | false => simp at hn
    subst hb
    simp at hn
    obtain rfl : k = m := by omega
    obtain ⟨q, rfl, hq, hh⟩ := hb1 rfl
    exact tail vs q W hi hcw hq hh
  · rintro n L' a W ⟨k, b, vs, p, hk, hn, rfl, rfl, hi, hcw, hb0, hb1⟩
    have doStep' : k < m → wpOp P ops Q (i k) (fun a' w' => S w' ∧ ∃ k' b' vs p, k' ≤ m ∧ n = (m - k') + (if b' = true then 0 else 1) ∧ (L k b).setIfInBounds (i k) true = L k' b' ∧ a' = F vs p ∧ I k' vs w' ∧ Calm w0 w' ∧ (b' = false → p = undef) ∧ (b' = true → ∃ q, p = .pointer (some ⟨q, 0, none⟩) ∧ w0.heap.size ≤ q ∧ w'.heap[q]? = some o)) (F vs p) W := fun hlt => by
      refine step k vs p W _ hlt hi hcw fun x W' hW hi' => ⟨hS _ (hcw.tr hW), k + 1, b, upd vs k x, p, hlt, ?_, hLi k b hlt, rfl, hi', hcw.tr hW, hb0, fun h => ?_⟩
      · generalize (if b = true then 0 else 1) = e at hn ⊢; omega
      · obtain ⟨q, h1, h2, h3⟩ := hb1 h
        exact ⟨q, h1, h2, hW.at h3⟩
    cases b with
    | true =>
      simp at hn
      have hlt : k < m := by omega
      rw [r1 k hlt]
      refine ⟨by simp, fun j hj => ?_⟩
      obtain rfl : j = i k := by simpa using hj
      exact doStep' hlt
    | false =>
      obtain rfl := hb0 rfl
      have doAlloc : wpOp P ops Q f (fun a' w' => S w' ∧ ∃ k' b' vs p, k' ≤ m ∧ n = (m - k') + (if b' = true then 0 else 1) ∧ (L k false).setIfInBounds f true = L k' b' ∧ a' = F vs p ∧ I k' vs w' ∧ Calm w0 w' ∧ (b' = false → p = undef) ∧ (b' = true → ∃ q, p = .pointer (some ⟨q, 0, none⟩) ∧ w0.heap.size ≤ q ∧ w'.heap[q]? = some o)) (F vs undef) W := by
        refine wpOp_value f df (.pointer (some ⟨W.heap.size, 0, none⟩)) (w' := W.alloc o) hof hdf (hwf vs undef) (hrf vs W) ?_
        rw [hFp]
        have hW : Calm W (W.alloc o) := (Touch.refl _ _).alloc _
        exact ⟨hS _ (hcw.tr hW), k, true, vs, _, hk, by simp at hn ⊢; omega, hLf k hk, rfl, hI k vs W _ hi hW, hcw.tr hW, fun h => (nomatch h), fun _ => ⟨_, rfl, hcw.size, al_new W o⟩⟩
      rcases Nat.lt_or_ge k m with hlt | hge
      · rw [r0 k hlt]
        refine ⟨by simp, fun j hj => ?_⟩
        rcases (by simpa using hj : j = i k ∨ j = f) with rfl | rfl
        · exact doStep' hlt
        · exact doAlloc
      · obtain rfl : k = m := by omega
        rw [r2]
        refine ⟨by simp, fun j hj => ?_⟩
        obtain rfl : j = f := by simpa using hj
        exact doAlloc

end Go.Proofs.YtdcpmpbfnfjncaaDoor
