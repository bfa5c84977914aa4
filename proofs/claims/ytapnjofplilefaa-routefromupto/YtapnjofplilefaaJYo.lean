/- The program's clock: marks stay times. -/
import Derived.Test.YtapnjofplilefaaKB0
namespace Go.Proofs.Ytapnjofplilefaa
open Go.RowKit

theorem ofB_set {L : List Int} {i : Nat} {t : Int} (h : ofB L = true) (ht : timC t = true) : ofB (L.set i (max (L.getD i 0) t)) = true := by
  unfold ofB at *
  simp only [Bool.and_eq_true, decide_eq_true_eq, List.all_eq_true, List.mem_range, List.length_set] at h ⊢
  refine ⟨h.1, h.2.1, fun j hj => ?_⟩
  rw [List.getD_eq_getElem?_getD, List.getElem?_set]
  split
  · rename_i e
    subst e
    have := h.2.2 i hj
    simp only [hj, if_true, Option.getD_some]
    unfold timC at *
    simp only [Bool.and_eq_true, decide_eq_true_eq] at *
    omega
  · have := h.2.2 j hj
    rw [List.getD_eq_getElem?_getD] at this
    exact this

end Go.Proofs.Ytapnjofplilefaa
