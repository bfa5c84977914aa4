/- The walk of FrameReads. -/
import Derived.Test.YtfeifobljgmkkaaDoorFRAll
import Derived.Test.YtfeifobljgmkkaaDoorFLent
namespace Go.Proofs.YtfeifobljgmkkaaDoor
open Go.RowKit Crcx

/-- Blocks that are being spoilt: from number k on all is as it was. -/
structure Rest (wr : World) (gl : Nat) (bl : List Blk) (k : Nat) : Prop where
  row : ∃ cur : Array Value, wr.heap[gl]? = some (.cells cur 36 (0, 0)) ∧ bl.length * 2 ≤ cur.size ∧ ∀ i (hi : i < bl.length), k ≤ i → cur[i * 2 + 1]? = some bl[i].t.val
  body : ∀ i (hi : i < bl.length), k ≤ i → Row wr 5 .u8 bl[i].t.val bl[i].t.xs

theorem Rest.start {w wr : World} {gl n c : Nat} {bl : List Blk} (h : Blks w wr (.slice (some ⟨gl, 0, none⟩) n c) bl) : Rest wr gl bl 0 := by
  refine ⟨?_, fun i hi _ => (h.body _ (List.getElem_mem hi)).row⟩
  rcases h.own.2 with ⟨e, _⟩ | ⟨g, cap, cur, e, _, hc, hle, _, hs, ht⟩
  · cases e
  · injection e with e1 _ _; injection e1 with e1; injection e1 with e1 _ _
    subst e1
    refine ⟨cur, hc, by omega, fun i hi _ => ?_⟩
    have f := (flat_at bl i hi).2
    rw [← ht] at f
    rw [List.getElem?_take] at f
    split at f
    · simpa using f
    · cases f

theorem Rest.gl_lt {wr : World} {gl : Nat} {bl : List Blk} {k : Nat} (h : Rest wr gl bl k) : gl < wr.heap.size := by
  obtain ⟨cur, hc, _⟩ := h.row
  exact lt_of_heap hc

/-- One of them spoilt, and struck. -/
theorem Rest.next {wr w2 : World} {gl : Nat} {bl : List Blk} {k : Nat} (h : Rest wr gl bl k) (hk : k < bl.length) (hd : bl.Pairwise fun x y => ∀ g, x.t.val.ownBlock = some g → y.t.val.ownBlock ≠ some g) (ht : Touch (fun j => bl[k].t.val.ownBlock = some j) wr w2) (u v : Value) :
    Rest ((w2.setCell ⟨gl, k * 2, none⟩ u).setCell ⟨gl, k * 2 + 1, none⟩ v) gl bl (k + 1) := by
  obtain ⟨cur, hc, hs, hcur⟩ := h.row
  have hbk := h.body k hk (Nat.le_refl _)
  have hgl : bl[k].t.val.ownBlock ≠ some gl := fun e => by
    obtain ⟨cur', hc'⟩ := hbk.block e
    exact tags hc' hc (by decide) rfl
  have hc2 : w2.heap[gl]? = some (.cells cur 36 (0, 0)) := ht.heap hc hgl
  refine ⟨⟨_, heap_setCell_row (i := k * 2 + 1) (heap_setCell_row (i := k * 2) hc2 u) v, by simpa using hs, fun i hi hki => ?_⟩, fun i hi hki => ?_⟩
  · rw [Array.getElem?_setIfInBounds_ne (by omega), Array.getElem?_setIfInBounds_ne (by omega)]
    exact hcur i hi (by omega)
  · have hb := h.body i hi (by omega)
    have t2 : Touch (fun j => bl[k].t.val.ownBlock = some j ∨ j = gl) wr ((w2.setCell ⟨gl, k * 2, none⟩ u).setCell ⟨gl, k * 2 + 1, none⟩ v) :=
      ((ht.mono (fun _ _ h => .inl h)).setCell (p := ⟨gl, k * 2, none⟩) (fun _ => .inr rfl) u).setCell (p := ⟨gl, k * 2 + 1, none⟩) (fun _ => .inr rfl) v
    refine hb.touch t2 (fun g hg hh => ?_)
    rcases hh with hh | rfl
    · exact List.pairwise_iff_getElem.1 hd k i hk hi (by omega) g hh hg
    · obtain ⟨cur', hc'⟩ := hb.block hg
      exact tags hc' hc (by decide) rfl

theorem Rest.touch {S : Nat → Prop} {wr w2 : World} {gl : Nat} {bl : List Blk} {k : Nat} (h : Rest wr gl bl k) (ht : Touch S wr w2) (h1 : ¬ S gl) (h2 : ∀ x ∈ bl, ∀ g, x.t.val.ownBlock = some g → ¬ S g) : Rest w2 gl bl k := by
  obtain ⟨cur, hc, hs, hcur⟩ := h.row
  exact ⟨⟨cur, ht.heap hc h1, hs, hcur⟩, fun i hi hk => (h.body i hi hk).touch ht (h2 _ (List.getElem_mem hi))⟩

theorem Rest.cells {wr : World} {gl : Nat} {bl : List Blk} {k : Nat} (h : Rest wr gl bl k) (hk : k < bl.length) : wr.cell? ⟨gl, k * 2 + 1, none⟩ = some bl[k].t.val ∧ (∃ u, wr.cell? ⟨gl, k * 2, none⟩ = some u) ∧ wr.frozen? ⟨gl, k * 2, none⟩ = false ∧ wr.frozen? ⟨gl, k * 2 + 1, none⟩ = false := by
  obtain ⟨cur, hc, hs, hcur⟩ := h.row
  refine ⟨by rw [cell_of_row _ _ _ _ _ _ hc]; exact hcur k hk (Nat.le_refl _), ?_, by simp [World.frozen?, hc], by simp [World.frozen?, hc]⟩
  rw [cell_of_row _ _ _ _ _ _ hc]
  exact ⟨_, Array.getElem?_eq_getElem (by omega)⟩

end Go.Proofs.YtfeifobljgmkkaaDoor
