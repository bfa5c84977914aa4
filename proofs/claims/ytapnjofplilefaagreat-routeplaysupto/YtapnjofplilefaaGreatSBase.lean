/- Memory, in general: what stands in a block; what a call may touch. -/
import Derived.Test.YtapnjofplilefaaGreatProg
import Derived.BigQuiet
import Derived.Laws.BitsAllLaws
import Derived.Deep.WholeRow
import Derived.Test.YtapnjofplilefaaGreatBase
namespace Go.Proofs.YtapnjofplilefaaGreat
open Go.RowKit

theorem lt_of_heap {w : World} {g : Nat} {o : Obj} (h : w.heap[g]? = some o) : g < w.heap.size := (Array.getElem?_eq_some_iff.1 h).1

theorem Touch.heap {S : Nat → Prop} {w w' : World} (ht : Touch S w w') {g : Nat} {o : Obj} (h : w.heap[g]? = some o) (hn : ¬ S g) : w'.heap[g]? = some o := (ht.block g (lt_of_heap h) hn).trans h

theorem tags {w : World} {g h : Nat} {c c' : Array Value} {t t' : TypeId} {f f' : Nat × Nat} (a : w.heap[g]? = some (.cells c t f)) (b : w.heap[h]? = some (.cells c' t' f')) (ht : t ≠ t') : g ≠ h := by
  intro e; subst e; rw [a] at b; injection b with b; injection b with _ h2 _; exact ht h2

theorem heap_setCell_row {w : World} {g i : Nat} {c : Array Value} {t : TypeId} {fr : Nat × Nat} (h : w.heap[g]? = some (.cells c t fr)) (v : Value) : (w.setCell ⟨g, i, none⟩ v).heap[g]? = some (.cells (c.setIfInBounds i v) t fr) := by
  have hg : g < w.heap.size := (Array.getElem?_eq_some_iff.1 h).1
  have hv : w.heap[g] = .cells c t fr := (Array.getElem?_eq_some_iff.1 h).2
  simp [World.setCell, hg, Array.getElem_modify, hv]

theorem set_one {W : World} {B : Nat} {t : TypeId} {v : Value} (v' : Value) (h : W.heap[B]? = some (.cells #[v] t (0, 0))) : (W.setCell ⟨B, 0, none⟩ v').heap[B]? = some (.cells #[v'] t (0, 0)) := by
  have := heap_setCell_row (i := 0) h v'
  simpa using this

theorem one_cell {W : World} {B : Nat} {t : TypeId} {v : Value} (h : W.heap[B]? = some (.cells #[v] t (0, 0))) : W.cell? ⟨B, 0, none⟩ = some v ∧ W.frozen? ⟨B, 0, none⟩ = false := by simp [World.cell?, World.frozen?, h]

theorem cells2 {w : World} {b : Nat} {u v : Value} {t : TypeId} (h : w.heap[b]? = some (.cells #[u, v] t (0, 0))) : w.cell? ⟨b, 0, none⟩ = some u ∧ w.cell? ⟨b, 1, none⟩ = some v := by simp [World.cell?, h]

theorem cells5 {w : World} {b : Nat} {u v x y z : Value} {t : TypeId} (h : w.heap[b]? = some (.cells #[u, v, x, y, z] t (0, 0))) :
    w.cell? ⟨b, 0, none⟩ = some u ∧ w.cell? ⟨b, 1, none⟩ = some v ∧ w.cell? ⟨b, 2, none⟩ = some x ∧ w.cell? ⟨b, 3, none⟩ = some y ∧ w.cell? ⟨b, 4, none⟩ = some z := by simp [World.cell?, h]

theorem Touch.drewN {S : Nat → Prop} {a w : World} (h : Touch S a w) (n : Nat) : Touch S a (w.drewN n) := ⟨h.os, h.tape, h.output, h.size, h.block⟩

/-- Nothing that was there has turned. -/
abbrev Calm (w w' : World) : Prop := Touch (fun _ => False) w w'

theorem Touch.tr {a b c : World} (h : Calm a b) (g : Calm b c) : Calm a c := Touch.trans h g fun _ _ h => h

theorem Touch.at {w w' : World} (h : Calm w w') {g : Nat} {o : Obj} (hg : w.heap[g]? = some o) : w'.heap[g]? = some o := Touch.heap h hg fun h => h

theorem wrapEq (x : Int) : IntKind.i64.wrap x = wrap64 x := by rw [IntKind.wrap_i64]; unfold wrap64; omega

/-- A world in which only dice were drawn. -/
structure Alike (w w' : World) : Prop where
  os : w'.os = w.os
  tape : w'.tape = w.tape
  output : w'.output = w.output
  heap : w'.heap = w.heap

theorem Alike.calm {w w' : World} (h : Alike w w') : Calm w w' := ⟨h.os, h.tape, h.output, by rw [h.heap]; exact Nat.le_refl _, fun k _ _ => by rw [h.heap]⟩

end Go.Proofs.YtapnjofplilefaaGreat
