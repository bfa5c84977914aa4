/- Arrays of numbers that are the same are told to be equal. -/
import Derived.Test.YtmhobdcnohhaaaaBase
import Derived.ChangeKeysEq
namespace Go.Proofs.Ytmhobdcnohhaaaa
open Go.RowKit

theorem eqItems_same {P : Program} (d : Nat) (e : TypeId) (k k' : IntKind) (he : P.underlying e = some (.int k')) (xs ys : Array Value) (w : World) :
    ∀ (is : List Nat), (∀ i ∈ is, ∃ x : Int, xs[i]? = some (.int k x) ∧ ys[i]? = some (.int k x)) → (Op.eqItems (d + 1) e 1 xs ys is).run P w = .ok true w
  | [], _ => by simp [Op.eqItems]
  | i :: is, h => by
    obtain ⟨x, h1, h2⟩ := h i (by simp)
    have ih := eqItems_same d e k k' he xs ys w is (fun j hj => h j (by simp [hj]))
    have p1 : (part e xs (i * 1)).run P w = .ok (.int k x) w := by
      simp [part, isAgg, run_underlying he, h1]
    have p2 : (part e ys (i * 1)).run P w = .ok (.int k x) w := by
      simp [part, isAgg, run_underlying he, h2]
    simp only [Op.eqItems, Sem.run_bind, p1, p2, Result.andThen_ok, run_equalIn_int w d e k k' x x he]
    simpa using ih

theorem equalIn_same {P : Program} {t e : TypeId} {n : Nat} {i : TypeInfo} {k k' : IntKind} (hu : P.underlying t = some (.array n e)) (hi : P.info? e = some i) (hc : P.cellsOf e = 1) (he : P.underlying e = some (.int k')) (xs ys : Array Value) (w : World)
    (h : ∀ i, i < n → ∃ x : Int, xs[i]? = some (.int k x) ∧ ys[i]? = some (.int k x)) : (Op.equalIn 10000 t (.agg xs) (.agg ys)).run P w = .ok true w := by
  rw [show (10000 : Nat) = 9999 + 1 from rfl, run_equalIn_array w 9999 xs ys hu hi, hc]
  exact eqItems_same 9998 e k k' he xs ys w _ (fun i hi => h i (by simpa using hi))

end Go.Proofs.Ytmhobdcnohhaaaa
