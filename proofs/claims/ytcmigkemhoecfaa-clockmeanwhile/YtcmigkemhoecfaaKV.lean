/- Three places, each with two clocks alike or none. -/
import Derived.Test.YtcmigkemhoecfaaKU
namespace Go.Proofs.Ytcmigkemhoecfaa
open Go.RowKit

section
variable {Pk : World → Nat → (Nat → Prop) → List Int → List Hd → Prop}

/-- The law's two rows of three. -/
structure Tri (Pk : World → Nat → (Nat → Prop) → List Int → List Hd → Prop) (w : World) (Bt Br N : Nat) (s : Nat → Option Pr) (W : World) : Prop where
  calm : Calm w W
  bt : W.heap[Bt]? = some (.cells #[cvO (s 0), cvO (s 1), cvO (s 2)] 36 (0, 0))
  br : W.heap[Br]? = some (.cells #[rvO (s 0), rvO (s 1), rvO (s 2)] 37 (0, 0))
  ok : ∀ i, i < 3 → okO Pk N W (s i)
  ap : ∀ i j, i < 3 → j < 3 → i ≠ j → ∀ g, fpO (s i) g → ¬ fpO (s j) g
  lo : ∀ i, i < 3 → ∀ g, fpO (s i) g → w.heap.size ≤ g ∧ g ≠ Bt ∧ g ≠ Br
  lb : w.heap.size ≤ Bt ∧ w.heap.size ≤ Br
theorem Tri.cells {w W : World} {Bt Br N : Nat} {s : Nat → Option Pr} (h : Tri Pk w Bt Br N s W) (i : Nat) (hi : i < 3) : W.cell? ⟨Bt, i, none⟩ = some (cvO (s i)) ∧ W.cell? ⟨Br, i, none⟩ = some (rvO (s i)) := by
  have h1 := h.bt
  have h2 := h.br
  rcases (by omega : i = 0 ∨ i = 1 ∨ i = 2) with rfl | rfl | rfl <;> simp [World.cell?, h1, h2]
theorem Tri.still (I : Pki Pk) {w W W' : World} {Bt Br N : Nat} {s : Nat → Option Pr} (h : Tri Pk w Bt Br N s W) (ht : Calm W W') : Tri Pk w Bt Br N s W' :=
  ⟨h.calm.tr ht, ht.at h.bt, ht.at h.br, fun i hi => okO_touch I (h.ok i hi) ht fun _ _ h => h, h.ap, h.lo, h.lb⟩
theorem Tri.more {w W : World} {Bt Br N M : Nat} {s : Nat → Option Pr} (h : Tri Pk w Bt Br N s W) (hm : N ≤ M) : Tri Pk w Bt Br M s W :=
  ⟨h.calm, h.bt, h.br, fun i hi => okO_more (h.ok i hi) hm, h.ap, h.lo, h.lb⟩
/-- The place i put anew. -/
def putS (s : Nat → Option Pr) (i : Nat) (o : Option Pr) : Nat → Option Pr := fun j => if j = i then o else s j
/-- A step on one of them. -/
theorem Tri.step (I : Pki Pk) {w W W' : World} {Bt Br N i : Nat} {s : Nat → Option Pr} {o : Option Pr} (h : Tri Pk w Bt Br N s W) (hi : i < 3) (ht : Touch (fpO (s i)) W W') (ho : okO Pk (N + 1) W' o) (hc : cvO o = cvO (s i)) (hr : rvO o = rvO (s i)) (hf : ∀ g, fpO o g → fpO (s i) g ∨ W.heap.size ≤ g) : Tri Pk w Bt Br (N + 1) (putS s i o) W' := by
  have lB := lt_of_heap h.bt
  have lR := lt_of_heap h.br
  have cE : ∀ j, cvO (putS s i o j) = cvO (s j) := fun j => by
    unfold putS
    split
    · next e => rw [e]; exact hc
    · rfl
  have rE : ∀ j, rvO (putS s i o j) = rvO (s j) := fun j => by
    unfold putS
    split
    · next e => rw [e]; exact hr
    · rfl
  refine ⟨h.calm.trans ht (fun g hg s => by have := (h.lo i hi g s).1; omega), ?_, ?_, fun j hj => ?_, fun j k hj hk hjk g hg hg2 => ?_, fun j hj g hg => ?_, h.lb⟩
  · rw [cE, cE, cE]; exact ht.heap h.bt fun s => (h.lo i hi _ s).2.1 rfl
  · rw [rE, rE, rE]; exact ht.heap h.br fun s => (h.lo i hi _ s).2.2 rfl
  · unfold putS
    split
    · exact ho
    · next e => exact okO_more (okO_touch I (h.ok j hj) ht fun g hg hs => h.ap j i hj hi e g hg hs) (by omega)
  · unfold putS at hg hg2
    split at hg
    · next e1 =>
      subst e1
      rw [if_neg (fun e => hjk e.symm)] at hg2
      rcases hf g hg with h1 | h1
      · exact h.ap j k hj hk hjk g h1 hg2
      · have := okO_lt I (h.ok k hk) g hg2; omega
    · next e1 =>
      split at hg2
      · next e2 =>
        subst e2
        rcases hf g hg2 with h1 | h1
        · exact h.ap j k hj hk hjk g hg h1
        · have := okO_lt I (h.ok j hj) g hg; omega
      · exact h.ap j k hj hk hjk g hg hg2
  · unfold putS at hg
    split at hg
    · rcases hf g hg with h1 | h1
      · exact h.lo i hi g h1
      · have := h.calm.size; refine ⟨?_, ?_, ?_⟩ <;> omega
    · exact h.lo j hj g hg
/-- A copy put in place. -/
theorem Tri.put (I : Pki Pk) {w W W' : World} {Bt Br N i : Nat} {s : Nat → Option Pr} {o : Option Pr} (h : Tri Pk w Bt Br N s W) (hi : i < 3) (ht : Touch (fun g => g = Bt ∨ g = Br) W W') (h1 : W'.heap[Bt]? = some (.cells #[cvO (putS s i o 0), cvO (putS s i o 1), cvO (putS s i o 2)] 36 (0, 0))) (h2 : W'.heap[Br]? = some (.cells #[rvO (putS s i o 0), rvO (putS s i o 1), rvO (putS s i o 2)] 37 (0, 0))) (ho : okO Pk N W' o) (hf : ∀ g, fpO o g → W.heap.size ≤ g) : Tri Pk w Bt Br N (putS s i o) W' := by
  have lB := lt_of_heap h.bt
  have lR := lt_of_heap h.br
  refine ⟨h.calm.trans ht (fun g hg s => by have := h.lb; omega), h1, h2, fun j hj => ?_, fun j k hj hk hjk g hg hg2 => ?_, fun j hj g hg => ?_, h.lb⟩
  · unfold putS
    split
    · exact ho
    · exact okO_touch I (h.ok j hj) ht fun g hg hs => hs.elim (h.lo j hj g hg).2.1 (h.lo j hj g hg).2.2
  · unfold putS at hg hg2
    split at hg
    · next e1 =>
      subst e1
      rw [if_neg (fun e => hjk e.symm)] at hg2
      have := hf g hg
      have := okO_lt I (h.ok k hk) g hg2
      omega
    · split at hg2
      · next e2 =>
        have := hf g hg2
        have := okO_lt I (h.ok j hj) g hg
        omega
      · exact h.ap j k hj hk hjk g hg hg2
  · unfold putS at hg
    split at hg
    · have h3 := hf g hg
      have := h.calm.size
      refine ⟨?_, ?_, ?_⟩ <;> omega
    · exact h.lo j hj g hg

end
end Go.Proofs.Ytcmigkemhoecfaa
