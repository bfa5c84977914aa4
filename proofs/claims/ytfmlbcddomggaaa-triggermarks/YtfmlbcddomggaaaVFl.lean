/- A drawn region: operations in a row, and a making that comes up anywhere among them or behind them. -/
import Derived.Test.YtfmlbcddomggaaaYS
import Derived.Test.YtfmlbcddomggaaaYZ
namespace Go.Proofs.Ytfmlbcddomggaaa

theorem wpAnyH_float2 {P : Program} {ops : Array Oper} {Q : Exit → Act → World → Prop} {S : World → Prop} {md : Region.Mode} {fuel m : Nat} (i : Nat → Nat) (f df : Nat) {of : Oper} (o : Obj) (F : (Nat → Value) → Value → Act) (L : Nat → Bool → Array Bool) (I : Nat → (Nat → Value) → World → Prop) (w0 : World)
    (hof : ops[f]? = some of) (hdf : of.dst = some df) (hwf : ∀ vs p, Region.wanted of (yielded ops (F vs p).tmps) = true) (hrf : ∀ vs W, (execOp (F vs undef).eval of).run P W = .ok (.value (.pointer (some ⟨W.heap.size, 0, none⟩))) (W.alloc o))
    (hFp : ∀ vs x, (F vs undef).put (some df) x = F vs x) (hLf : ∀ k, k < m → (L k false).setIfInBounds f true = L k true) (hLi : ∀ k b, k < m → (L k b).setIfInBounds (i k) true = L (k + 1) b)
    (r0 : ∀ k, k < m → Region.ready md ops (L k false) = [i k, f]) (r1 : ∀ k, k < m → Region.ready md ops (L k true) = [i k])
    (hI : ∀ k vs W W', I k vs W → Calm W W' → I k vs W') (hS : ∀ W, Calm w0 W → S W)
    (step : ∀ k vs p W (K : Act → World → Prop), k < m → I k vs W → Calm w0 W → (∀ x W', Calm W W' → I (k + 1) (fun j => if j = k then x else vs j) W' → K (F (fun j => if j = k then x else vs j) p) W') → wpOp P ops Q (i k) K (F vs p) W)
    (tail : ∀ vs p W, I m vs W → Calm w0 W → w0.heap.size ≤ p → W.heap[p]? = some o → wpAnyH P md ops Q S fuel (L m true) (F vs (.pointer (some ⟨p, 0, none⟩))) W)
    (tail0 : ∀ vs W, I m vs W → Calm w0 W → wpAnyH P md ops Q S (fuel + 1) (L m false) (F vs undef) W)
    (vs0 : Nat → Value) (w : World) (h0 : I 0 vs0 w) (hc : Calm w0 w) : wpAnyH P md ops Q S (fuel + (m + 1)) (L 0 false) (F vs0 undef) w := by
  have one : ∀ d k vs p W, k + d = m → I k vs W → Calm w0 W → w0.heap.size ≤ p → W.heap[p]? = some o → wpAnyH P md ops Q S (fuel + d) (L k true) (F vs (.pointer (some ⟨p, 0, none⟩))) W := by
    intro d
    induction d with
    | zero => intro k vs p W hk hi hw hp hh; obtain rfl : k = m := by omega
              exact tail vs p W hi hw hp hh
    | succ d ih =>
      intro k vs p W hk hi hw hp hh
      have hlt : k < m := by omega
      refine wpAnyH_all (r1 k hlt) (by simp) fun j hj => ?_
      obtain rfl : j = i k := by simpa using hj
      refine step k vs _ W _ hlt hi hw fun x W' hW hi' => ⟨hS _ (hw.tr hW), ?_⟩
      rw [hLi k true hlt]
      exact ih (k + 1) _ p W' (by omega) hi' (hw.tr hW) hp (hW.at hh)
  have two : ∀ d k vs W, k + d = m → I k vs W → Calm w0 W → wpAnyH P md ops Q S (fuel + (d + 1)) (L k false) (F vs undef) W := by
    intro d
    induction d with
    | zero => intro k vs W hk hi hw; obtain rfl : k = m := by omega
              exact tail0 vs W hi hw
    | succ d ih =>
      intro k vs W hk hi hw
      have hlt : k < m := by omega
      refine wpAnyH_all (r0 k hlt) (by simp) fun j hj => ?_
      rcases (by simpa using hj : j = i k ∨ j = f) with rfl | rfl
      · refine step k vs _ W _ hlt hi hw fun x W' hW hi' => ⟨hS _ (hw.tr hW), ?_⟩
        rw [hLi k false hlt]
        exact ih (k + 1) _ W' (by omega) hi' (hw.tr hW)
      · refine wpOp_value j df (.pointer (some ⟨W.heap.size, 0, none⟩)) (w' := W.alloc o) hof hdf (hwf vs undef) (hrf vs W) ?_
        rw [hFp, hLf k hlt]
        have hW : Calm W (W.alloc o) := (Touch.refl _ _).alloc _
        exact ⟨hS _ (hw.tr hW), one (d + 1) k vs _ _ hk (hI k vs W _ hi hW) (hw.tr hW) hw.size (al_new W o)⟩
  exact two m 0 vs0 w (by omega) h0 hc

end Go.Proofs.Ytfmlbcddomggaaa
