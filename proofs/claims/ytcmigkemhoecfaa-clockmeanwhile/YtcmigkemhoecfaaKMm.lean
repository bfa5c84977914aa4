/- ClockMeanwhile: what the law keeps in memory. -/
import Derived.Test.YtcmigkemhoecfaaKW
namespace Go.Proofs.Ytcmigkemhoecfaa
open Go.RowKit

section
variable {Pk : World → Nat → (Nat → Prop) → List Int → List Hd → Prop}

/-- The script (B3), the answer (B4), where the two clocks stand (B5, B7), and the clocks, of n holds at most; Bs are blocks more that no clock has. -/
structure Mw (Pk : World → Nat → (Nat → Prop) → List Int → List Hd → Prop) (w : World) (B3 B4 B5 B7 : Nat) (Bs : Nat → Prop) (mv : Value) (res : Bool) (p : Pr) (n : Nat) (W : World) : Prop where
  calm : Calm w W
  b3 : W.heap[B3]? = some (.cells #[mv] 23 (0, 0))
  b4 : W.heap[B4]? = some (.cells #[.bool res] 4 (0, 0))
  b5 : W.heap[B5]? = some (.cells #[cp p.q] 25 (0, 0))
  b7 : W.heap[B7]? = some (.cells #[cp p.r] 30 (0, 0))
  ok : okO Pk n W (some p)
  lo : w.heap.size ≤ B3 ∧ w.heap.size ≤ B4 ∧ w.heap.size ≤ B5 ∧ w.heap.size ≤ B7
  fp : ∀ g, fpO (some p) g → w.heap.size ≤ g ∧ g ≠ B3 ∧ g ≠ B4 ∧ g ≠ B5 ∧ g ≠ B7 ∧ ¬ Bs g
  lt : ∀ g, Bs g → g < W.heap.size

theorem Mw.turn (I : Pki Pk) {w W W' : World} {B3 B4 B5 B7 n : Nat} {Bs S : Nat → Prop} {mv : Value} {res : Bool} {p : Pr} (h : Mw Pk w B3 B4 B5 B7 Bs mv res p n W) (ht : Touch S W W') (hS : ∀ g, S g → w.heap.size ≤ g ∧ g ≠ B3 ∧ g ≠ B4 ∧ g ≠ B5 ∧ g ≠ B7 ∧ ¬ fpO (some p) g) : Mw Pk w B3 B4 B5 B7 Bs mv res p n W' :=
  ⟨h.calm.trans ht (fun g hg s => by have := (hS g s).1; omega), ht.heap h.b3 (fun s => (hS _ s).2.1 rfl), ht.heap h.b4 (fun s => (hS _ s).2.2.1 rfl), ht.heap h.b5 (fun s => (hS _ s).2.2.2.1 rfl), ht.heap h.b7 (fun s => (hS _ s).2.2.2.2.1 rfl), okO_touch I h.ok ht (fun g hg s => (hS g s).2.2.2.2.2 hg), h.lo, h.fp, fun g hg => Nat.lt_of_lt_of_le (h.lt g hg) ht.size⟩
theorem Mw.still (I : Pki Pk) {w W W' : World} {B3 B4 B5 B7 n : Nat} {Bs : Nat → Prop} {mv : Value} {res : Bool} {p : Pr} (h : Mw Pk w B3 B4 B5 B7 Bs mv res p n W) (ht : Calm W W') : Mw Pk w B3 B4 B5 B7 Bs mv res p n W' := h.turn I ht fun _ h => h.elim
/-- Blocks that were made just now are no clock's. -/
theorem Mw.frame (I : Pki Pk) {w W W' : World} {B3 B4 B5 B7 n : Nat} {Bs Bs' : Nat → Prop} {mv : Value} {res : Bool} {p : Pr} (h : Mw Pk w B3 B4 B5 B7 Bs mv res p n W) (ht : Calm W W') (hB : ∀ g, Bs' g → Bs g ∨ (W.heap.size ≤ g ∧ g < W'.heap.size)) : Mw Pk w B3 B4 B5 B7 Bs' mv res p n W' := by
  have h2 := h.still I ht
  refine ⟨h2.calm, h2.b3, h2.b4, h2.b5, h2.b7, h2.ok, h2.lo, fun g hg => ?_, fun g hg => (hB g hg).elim (h2.lt g) fun h => h.2⟩
  obtain ⟨g1, g2, g3, g4, g5, g6⟩ := h2.fp g hg
  refine ⟨g1, g2, g3, g4, g5, fun hb => (hB g hb).elim g6 fun h3 => ?_⟩
  have := okO_lt I h.ok g hg
  omega
/-- A step on both clocks. -/
theorem Mw.step {w W W' : World} {B3 B4 B5 B7 n : Nat} {Bs : Nat → Prop} {mv : Value} {res : Bool} {p p' : Pr} (h : Mw Pk w B3 B4 B5 B7 Bs mv res p n W) (ht : Touch (fpO (some p)) W W') (ho : okO Pk (n + 1) W' (some p')) (hq : cvO (some p') = cvO (some p)) (hr : rvO (some p') = rvO (some p)) (hf : ∀ g, fpO (some p') g → fpO (some p) g ∨ W.heap.size ≤ g) : Mw Pk w B3 B4 B5 B7 Bs mv res p' (n + 1) W' := by
  have e5 : cp p'.q = cp p.q := hq
  have e7 : cp p'.r = cp p.r := hr
  have l3 := lt_of_heap h.b3
  have l4 := lt_of_heap h.b4
  have l5 := lt_of_heap h.b5
  have l7 := lt_of_heap h.b7
  have sz := h.calm.size
  refine ⟨h.calm.trans ht (fun g hg s => by have := (h.fp g s).1; omega), ht.heap h.b3 (fun s => (h.fp _ s).2.1 rfl), ht.heap h.b4 (fun s => (h.fp _ s).2.2.1 rfl), ?_, ?_, ho, h.lo, fun g hg => ?_, fun g hg => Nat.lt_of_lt_of_le (h.lt g hg) ht.size⟩
  · rw [e5]; exact ht.heap h.b5 (fun s => (h.fp _ s).2.2.2.1 rfl)
  · rw [e7]; exact ht.heap h.b7 (fun s => (h.fp _ s).2.2.2.2.1 rfl)
  · rcases hf g hg with hg | hg
    · exact h.fp g hg
    · exact ⟨by omega, by omega, by omega, by omega, by omega, fun hb => by have := h.lt g hb; omega⟩
/-- The answer said. -/
theorem Mw.say (I : Pki Pk) {w W : World} {B3 B4 B5 B7 n : Nat} {Bs : Nat → Prop} {mv : Value} {res : Bool} {p : Pr} (h : Mw Pk w B3 B4 B5 B7 Bs mv res p n W) (x : Bool) : Mw Pk w B3 B4 B5 B7 Bs mv x p n (W.setCell ⟨B4, 0, none⟩ (.bool x)) := by
  have ht : Touch (fun g => g = B4) W (W.setCell ⟨B4, 0, none⟩ (.bool x)) := (Touch.refl (fun g => g = B4) W).setCell (p := ⟨B4, 0, none⟩) (fun _ => rfl) _
  exact ⟨h.calm.trans ht (fun g hg s => by have := h.lo; omega), ht.heap h.b3 (fun e => tags h.b3 h.b4 (by decide) e), set_one _ h.b4, ht.heap h.b5 (fun e => tags h.b5 h.b4 (by decide) e), ht.heap h.b7 (fun e => tags h.b7 h.b4 (by decide) e), okO_touch I h.ok ht (fun g hg s => (h.fp g hg).2.2.1 s), h.lo, h.fp, fun g hg => Nat.lt_of_lt_of_le (h.lt g hg) ht.size⟩

end
end Go.Proofs.Ytcmigkemhoecfaa
