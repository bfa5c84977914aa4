/- Timers in memory: a row and a map. -/
import Derived.Test.YtlnblhajcbmmkaaTApt
import Derived.Test.YtlnblhajcbmmkaaSLast
import Derived.Test.YtlnblhajcbmmkaaSTwo
namespace Go.Proofs.Ytlnblhajcbmmkaa
open Go.RowKit

/-- What lies in memory. -/
structure Qm (w : World) (q base : Nat) (ao : Option Addr) (cap mb : Nat) (R : List Tm) (n : Nat) (f : Tm → Option Nat) : Prop where
  own : w.heap[q]? = some (.cells #[.slice ao R.length cap, .map (some mb)] 59 (0, 0))
  row : OwnT w base (.slice ao R.length cap) R
  map : Mp w mb n f
  good : ∀ t ∈ R, Good t

section
variable {w w' : World} {q base cap mb n : Nat} {ao : Option Addr} {R : List Tm} {f : Tm → Option Nat} {S : Nat → Prop}

theorem Qm.touch (h : Qm w q base ao cap mb R n f) (ht : Touch S w w') (hq : ¬ S q) (hr : ∀ a, ao = some a → ¬ S a.block) (hm : ¬ S mb) : Qm w' q base ao cap mb R n f :=
  ⟨ht.heap h.own hq, h.row.touch ht (fun g hg => by
    obtain ⟨a, ha⟩ : ∃ a, ao = some a := by cases ao with | none => simp [Value.ownBlock] at hg | some a => exact ⟨a, rfl⟩
    subst ha
    have := hr a rfl
    simp [Value.ownBlock] at hg
    rw [← hg]; exact this), h.map.touch ht hm, h.good⟩

theorem Qm.calm (h : Qm w q base ao cap mb R n f) (ht : Calm w w') : Qm w' q base ao cap mb R n f := h.touch ht (fun h => h) (fun _ _ h => h) (fun h => h)

/-- The three lie apart. -/
theorem Qm.apart (h : Qm w q base ao cap mb R n f) : q < w.heap.size ∧ mb < w.heap.size ∧ q ≠ mb ∧ ∀ a, ao = some a → a.spot = none ∧ a.off = 0 ∧ a.block < w.heap.size ∧ a.block ≠ q ∧ a.block ≠ mb := by
  obtain ⟨es, clock, hm⟩ := h.map.isMap
  refine ⟨lt_of_heap h.own, lt_of_heap hm, fun e => ?_, fun a ha => ?_⟩
  · have h1 := h.own; rw [e, hm] at h1; cases h1
  · obtain ⟨s1, s2, _, cs, hc⟩ := h.row.prs.2.2.1 a ha
    refine ⟨s1, s2, lt_of_heap hc, fun e => tags hc h.own (by decide) e, fun e => ?_⟩
    rw [e, hm] at hc; cases hc

theorem Qm.shape (h : Qm w q base ao cap mb R n f) (h0 : 0 < R.length) : ∃ g, ao = some ⟨g, 0, none⟩ := by
  obtain ⟨b, off, e, _⟩ := h.row.prs.2.1 0 h0
  obtain ⟨_, s2, _⟩ := h.row.prs.2.2.1 _ e
  exact ⟨b, by rw [e]; simp at s2; rw [s2]⟩

theorem Qm.cells (h : Qm w q base ao cap mb R n f) : w.cell? ⟨q, 0, none⟩ = some (.slice ao R.length cap) ∧ w.cell? ⟨q, 1, none⟩ = some (.map (some mb)) := cells2 h.own
end

/-- A timer of a row. -/
theorem Qm.at_ {w : World} {q base cap mb n g : Nat} {R : List Tm} {f : Tm → Option Nat} (h : Qm w q base (some ⟨g, 0, none⟩) cap mb R n f) {p : Nat} (hp : p < R.length) :
    w.cell? ⟨g, p * 4, none⟩ = some (.int .i64 (nth R p).at_) ∧ w.cell? ⟨g, p * 4 + 1, none⟩ = some (.string (nth R p).key) ∧ w.cell? ⟨g, p * 4 + 2, none⟩ = some (.int .i64 (nth R p).start) ∧ w.cell? ⟨g, p * 4 + 3, none⟩ = some (.int .i64 (nth R p).stop) := by
  obtain ⟨b, off, e, h0, h1, h2, h3⟩ := h.row.prs.2.1 p hp
  injection e with e
  injection e with e1 e2
  subst e1 e2
  rw [nth_eq hp]
  rw [Nat.zero_add] at h0 h1 h2 h3
  exact ⟨h0, h1, h2, h3⟩

end Go.Proofs.Ytlnblhajcbmmkaa
