/- The marks of ranges that are over; regions inside a round. -/
import Derived.Test.YtlnblhajcbmmkaaSQuietR
import Derived.Test.YtlnblhajcbmmkaaSRng
import Derived.Test.YtlnblhajcbmmkaaSTwo
import Derived.Test.YtlnblhajcbmmkaaSLast
namespace Go.Proofs.Ytlnblhajcbmmkaa
open Go.RowKit

/-- The mark of a range that is over. -/
def mark (D : Nat) : Deferred := { target := .collected D, args := #[] }

theorem leaves_marks {F : Fence} {n : Nat} {P : Program} {fn : Func} {tmps : Array Value} {R : Ending → World → Prop} : ∀ (Ds : List Nat) (W : World), (∀ D ∈ Ds, W.heap[D]? = some (.deferred (some []))) → Ds.Nodup →
    (∀ W', Touch (fun g => g ∈ Ds) W W' → LeavesIn F n P fn tmps R [] .returning W') → LeavesInM F n P fn tmps R (Ds.map mark) .returning W
  | [], W, _, _, h => h W (Touch.refl _ _)
  | D :: Ds, W, h1, h2, h3 => by
    rw [List.nodup_cons] at h2
    have t1 := touch_put W D (.deferred none)
    refine ⟨by simp, .inl ⟨D, _, rfl, run_takeDeferred (h1 D (by simp)), leaves_marks Ds _ (fun E hE => ?_) h2.2 (fun W' ht => h3 W' ?_)⟩⟩
    · exact t1.heap (h1 E (by simp [hE])) (fun e => h2.1 (e ▸ hE))
    · exact (t1.mono (fun g _ e => by rw [e]; simp)).trans ht (fun g _ hg => by simp [hg])

/-- A region that draws its order, inside a round. -/
theorem region_held_round {lr n id : Nat} {P : Program} {Q : Exit → Act → World → Prop} {a : Act} {w : World} {ops : Array Oper} {S : World → Prop} (hm : P.follows .mixedOrders = true) (hd : (ops.all fun o => match o.op with | .defer _ => false | _ => true) = true)
    (h : wpAnyH P .any ops (plainly fun a w' => Q .normal a w') S ops.size (Array.replicate ops.size false) a { w with drawn := w.drawn + 1 }) : (Code.region id ops true).wpIn (Fence.wide.inRound lr) n P Q a w := by
  refine wpIn_region_any hm (any_in_round (G := fun a w' => Q .normal a w') (fun o ho c e => ?_) (fun _ _ h => h) _ _ _ _ (wpAny_of_held _ _ _ _ h))
  have := Array.all_eq_true'.1 hd o ho
  rw [e] at this; cases this

theorem plainly_mk {G : Act → World → Prop} {a : Act} {w : World} (h : G a w) : plainly G .normal a w := h

/-- The one operation that may come up changes the world. -/
theorem wpAnyH_do {P : Program} {ops : Array Oper} {Q : Exit → Act → World → Prop} {S : World → Prop} {md : Region.Mode} (i : Nat) {oi : Oper} {fuel : Nat} {listed : Array Bool} {a : Act} {w : World} (w' : World) (hi : ops[i]? = some oi)
    (hr : Region.ready md ops listed = [i]) (hw : Region.wanted oi (yielded ops a.tmps) = true) (hd : ∀ K : Act → World → Prop, K a w' → oi.wp P a w K Q) (hS : S w') (h : wpAnyH P md ops Q S fuel (listed.setIfInBounds i true) a w') : wpAnyH P md ops Q S (fuel + 1) listed a w := by
  refine wpAnyH_all hr (by simp) ?_
  intro j hj
  obtain rfl : j = i := by simpa using hj
  unfold wpOp
  simp only [hi, hw, if_true]
  left
  exact hd _ ⟨hS, h⟩

end Go.Proofs.Ytlnblhajcbmmkaa
