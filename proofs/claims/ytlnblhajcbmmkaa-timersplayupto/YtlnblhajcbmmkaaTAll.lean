/- The program's going over all. -/
import Derived.Test.YtlnblhajcbmmkaaTClone
import Derived.Test.YtlnblhajcbmmkaaTNilW
import Derived.Shelf.SlSortCmp.NoneTotal
import Derived.Stop.RegionWithIn
namespace Go.Proofs.Ytlnblhajcbmmkaa
open Go.Shelf Go.RowKit Go.Lib Go.Sort

theorem sort_none (p : Option Addr) (cap : Nat) (fv : Value) (w : World) :
    Calls Try.prog 33 #[.slice p 0 cap, fv] w fun e w' => e = .returned (.tuple #[]) ∧ w' = w :=
  AnyF.slices_SortFunc_none { Try.sortT with } p cap fv w

set_option maxRecDepth 100000 in
theorem tsort_any {base cap : Nat} {ao : Option Addr} {R : List Tm} {w : World} (h : OwnT w base (.slice ao R.length cap) R) (hn : Nd R) (hsz : R.length < 4611686018427387904) :
    Calls Try.prog 33 #[.slice ao R.length cap, .func (.func 16) #[] #[]] w fun e w' =>
      e = .returned (.tuple #[]) ∧ ∃ R', Srt R' ∧ (∀ x, x ∈ R' ↔ x ∈ R) ∧ R'.length = R.length ∧ Tms w' ao R' ∧ Touch (fun x => ∃ a, ao = some a ∧ x = a.block) w w' := by
  by_cases h0 : R = []
  · subst h0
    refine (sort_none ao cap _ w).mono fun e w' ⟨he, hw⟩ => ?_
    subst hw
    exact ⟨he, [], List.Pairwise.nil, fun _ => Iff.rfl, rfl, Tms.nil _ _, Touch.refl _ _⟩
  · have hp : 0 < R.length := List.length_pos_iff.2 h0
    obtain ⟨b, off, e, _⟩ := h.prs.2.1 0 hp
    obtain ⟨_, s2, _⟩ := h.prs.2.2.1 _ e
    simp only at s2
    subst e s2
    refine (sort_any h hsz).mono fun e w' ⟨he, R', hpm, hs, ht, tt⟩ => ?_
    have hl : R'.length = R.length := hpm.length_eq
    refine ⟨he, R', ?_, fun x => hpm.mem_iff, hl, ht, tt.mono fun x _ e => ⟨_, rfl, e⟩⟩
    have hnd : R'.Nodup := hpm.nodup_iff.2 hn.nodup
    rw [List.Nodup, List.pairwise_iff_getElem] at hnd
    refine List.pairwise_iff_getElem.2 fun i j hi hj hij => ?_
    have h1 := hs i j hij (by omega)
    have h2 := hnd i j hi hj hij
    rw [nth_eq hi, nth_eq hj] at h1
    exact cgt h1 (Ne.symm h2)

end Go.Proofs.Ytlnblhajcbmmkaa
