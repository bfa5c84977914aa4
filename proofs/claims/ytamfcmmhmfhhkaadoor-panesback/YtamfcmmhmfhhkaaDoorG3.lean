/- Of: the panes of a key, in the list's order (the document's). A record put in place into a row of one's own. Cells that may be written; x[:k]. -/
import Derived.Test.YtamfcmmhmfhhkaaDoorG2
import Derived.Test.YtamfcmmhmfhhkaaDoorG1
namespace Go.Proofs.YtamfcmmhmfhhkaaDoor
open Go.RowKit

/-- One pane behind a row of one's own. -/
theorem pn_app1 {w : World} {base : Nat} {ao : Option Addr} {cap : Nat} {A : List Pn} (x : Pn) (h : encP.Own 29 w base (.slice ao A.length cap) A) (hs : base ≤ w.heap.size) (hn : A.length ≤ 1000000000000) :
    ∃ a2 p2 w4, (Builtin.append_ #[22, 22] 22 #[.slice ao A.length cap, .slice (some ⟨w.heap.size, 0, none⟩) 1 1]).run Tryd.prog (w.alloc (.cells (pnc x) 29)) = .ok (.slice a2 (A.length + 1) p2) w4 ∧
      encP.Own 29 w4 base (.slice a2 (A ++ [x]).length p2) (A ++ [x]) ∧ Touch (fun d => (Value.slice ao A.length cap).ownBlock = some d) w w4 := by
  obtain ⟨i0, hi, hz, hsz, hby⟩ := Rc.info_parts infoPane
  have own := Rc.Own.calm h ((Touch.refl (fun _ => False) w).alloc (.cells (pnc x) 29))
  have hs1 := al_size w (.cells (pnc x) 29)
  obtain ⟨a2, p2, w4, hr, ow, t2, -⟩ := Rc.Own.appw (E := encP) (ty := 22) Tryd.underlying22 hi hz hsz hby rfl own (some ⟨w.heap.size, 0, none⟩) 1 [x] (Rc.Mem.new w [x] 29) (fun h => (nomatch h)) (by simp; unfold maxLen; omega) (by simp; omega) (by omega) (by omega)
  have e3 : (A ++ [x]).length = A.length + 1 := by simp
  refine ⟨a2, p2, w4, by rw [← e3]; exact hr, ow, ?_⟩
  exact Touch.trans (((Touch.refl (fun _ => False) w).alloc _).mono fun _ _ h => h.elim) t2 fun _ _ h => h

/-- The panes of a key. -/
def ofP (L : List Pn) (k : ByteArray) : List Pn := L.filter fun p => decide (p.k = k)
/-- Those of the first i. -/
theorem ofP_succ {L : List Pn} {k : ByteArray} {i : Nat} (hi : i < L.length) : ofP (L.take (i + 1)) k = ofP (L.take i) k ++ (if (L.getD i pn0).k = k then [L.getD i pn0] else []) := by
  unfold ofP
  rw [List.take_add_one, List.filter_append, List.getElem?_eq_getElem hi, List.getD_eq_getElem?_getD, List.getElem?_eq_getElem hi]
  congr 1
  by_cases h : L[i].k = k <;> simp [h]
theorem ofP_le (L : List Pn) (k : ByteArray) : (ofP L k).length ≤ L.length := List.length_filter_le _ _

/-- What a function answers that makes a row of panes. -/
def RetP (w : World) (e : Ending) (w' : World) (L : List Pn) : Prop := ∃ a c, e = .returned (.slice a L.length c) ∧ encP.Own 29 w' w.heap.size (.slice a L.length c) L ∧ Calm w w'

end Go.Proofs.YtamfcmmhmfhhkaaDoor

namespace Go.Proofs.YtamfcmmhmfhhkaaDoor
open Go.RowKit

namespace Rc

/-- Cells put one behind the other. -/
def puts (cs : List Value) (o : Nat) : List Value → List Value
  | [] => cs
  | v :: vs => puts (cs.set o v) (o + 1) vs

theorem puts_mid : ∀ (vs C P S : List Value), C.length = vs.length → puts (P ++ (C ++ S)) P.length vs = P ++ (vs ++ S)
  | [], C, P, S, h => by
    have : C = [] := List.eq_nil_of_length_eq_zero (by simpa using h)
    subst this
    rfl
  | v :: vs, C, P, S, h => by
    cases C with
    | nil => simp at h
    | cons c C =>
      have e : (P ++ (c :: C ++ S)).set P.length v = (P ++ [v]) ++ (C ++ S) := by
        rw [List.set_append_right _ _ (Nat.le_refl _), Nat.sub_self]
        simp
      have ih := puts_mid vs C (P ++ [v]) S (by simpa using h)
      unfold puts
      rw [e]
      have el : (P ++ [v]).length = P.length + 1 := by simp
      rw [el] at ih
      rw [ih]
      simp

variable {α : Type} {E : Enc α}

theorem puts_flat (L : List α) (j : Nat) (hj : j < L.length) (x : α) : puts (E.flat L) (j * E.n) (E.cells x) = E.flat (L.set j x) := by
  have e : L = L.take j ++ L[j] :: L.drop (j + 1) := by rw [← List.drop_eq_getElem_cons hj, List.take_append_drop]
  have e2 : L.set j x = L.take j ++ x :: L.drop (j + 1) := List.set_eq_take_append_cons_drop .. |>.trans (by rw [if_pos hj])
  have f : ∀ y, E.flat (L.take j ++ y :: L.drop (j + 1)) = E.flat (L.take j) ++ (E.cells y ++ E.flat (L.drop (j + 1))) := fun y => by
    rw [E.flat_append]; rfl
  rw [e2, f]
  conv => lhs; arg 1; rw [e, f]
  have hl : j * E.n = (E.flat (L.take j)).length := by rw [E.flat_len, List.length_take, Nat.min_eq_left (by omega)]
  rw [hl]
  exact puts_mid _ _ _ _ (by rw [E.len, E.len])

/-- The record number j turned, cell by cell. -/
theorem Own.set9 (hn : E.n = 9) {e : TypeId} {w : World} {base g n cap : Nat} {L : List α} (h : E.Own e w base (.slice (some ⟨g, 0, none⟩) n cap) L) (j : Nat) (hj : j < L.length) (x : α) {v0 v1 v2 v3 v4 v5 v6 v7 v8 : Value} (hx : E.cells x = [v0, v1, v2, v3, v4, v5, v6, v7, v8]) :
    E.Own e (((((((((w.setCell ⟨g, j * 9, none⟩ v0).setCell ⟨g, j * 9 + 1, none⟩ v1).setCell ⟨g, j * 9 + 2, none⟩ v2).setCell ⟨g, j * 9 + 3, none⟩ v3).setCell ⟨g, j * 9 + 4, none⟩ v4).setCell ⟨g, j * 9 + 5, none⟩ v5).setCell ⟨g, j * 9 + 6, none⟩ v6).setCell ⟨g, j * 9 + 7, none⟩ v7).setCell ⟨g, j * 9 + 8, none⟩ v8) base (.slice (some ⟨g, 0, none⟩) n cap) (L.set j x) ∧
    Touch (fun k => k = g) w (((((((((w.setCell ⟨g, j * 9, none⟩ v0).setCell ⟨g, j * 9 + 1, none⟩ v1).setCell ⟨g, j * 9 + 2, none⟩ v2).setCell ⟨g, j * 9 + 3, none⟩ v3).setCell ⟨g, j * 9 + 4, none⟩ v4).setCell ⟨g, j * 9 + 5, none⟩ v5).setCell ⟨g, j * 9 + 6, none⟩ v6).setCell ⟨g, j * 9 + 7, none⟩ v7).setCell ⟨g, j * 9 + 8, none⟩ v8) := by
  refine ⟨?_, (((((((((Touch.refl (fun k => k = g) w).setCell (p := ⟨g, j * 9, none⟩) (fun _ => rfl) _).setCell (p := ⟨g, j * 9 + 1, none⟩) (fun _ => rfl) _).setCell (p := ⟨g, j * 9 + 2, none⟩) (fun _ => rfl) _).setCell (p := ⟨g, j * 9 + 3, none⟩) (fun _ => rfl) _).setCell (p := ⟨g, j * 9 + 4, none⟩) (fun _ => rfl) _).setCell (p := ⟨g, j * 9 + 5, none⟩) (fun _ => rfl) _).setCell (p := ⟨g, j * 9 + 6, none⟩) (fun _ => rfl) _).setCell (p := ⟨g, j * 9 + 7, none⟩) (fun _ => rfl) _).setCell (p := ⟨g, j * 9 + 8, none⟩) (fun _ => rfl) _⟩
  have hnL : n = L.length := (Own.mem h).1
  obtain ⟨h1, ⟨hv, h2⟩ | ⟨g', cap', cur, hv, h3, h4, h5, h6, h7, h8⟩⟩ := h
  · cases hv
  · injection hv with e1 e2 e3
    injection e1 with e1
    injection e1 with e1
    subst e1 e3
    have k0 := heap_setCell_row (i := j * 9) h4 v0
    have k1 := heap_setCell_row (i := j * 9 + 1) k0 v1
    have k2 := heap_setCell_row (i := j * 9 + 2) k1 v2
    have k3 := heap_setCell_row (i := j * 9 + 3) k2 v3
    have k4 := heap_setCell_row (i := j * 9 + 4) k3 v4
    have k5 := heap_setCell_row (i := j * 9 + 5) k4 v5
    have k6 := heap_setCell_row (i := j * 9 + 6) k5 v6
    have k7 := heap_setCell_row (i := j * 9 + 7) k6 v7
    have k8 := heap_setCell_row (i := j * 9 + 8) k7 v8
    have pf := puts_flat (E := E) L j hj x
    rw [hn, hx] at pf
    refine ⟨by rw [E.flat_len], .inr ⟨g, cap, _, ?_, h3, k8, by rw [List.length_set]; exact h5, h6, by simpa using h7, ?_⟩⟩
    · rw [List.length_set, hnL]
    · rw [List.length_set, ← pf, ← h8]
      simp only [Array.toList_setIfInBounds, List.take_set]
      rfl

end Rc
end Go.Proofs.YtamfcmmhmfhhkaaDoor

namespace Go.Proofs.YtamfcmmhmfhhkaaDoor
open Go.RowKit

theorem wn_frozen {w : World} {b : Nat} {c : Array Value} {ty : TypeId} (h : w.heap[b]? = some (.cells c ty (0, 0))) (o : Nat) : w.frozen? ⟨b, o, none⟩ = false := by simp [World.frozen?, h]

/-- x[:k] of what begins its block. -/
theorem cut_to {P : Program} {t e : TypeId} {i : TypeInfo} (ht : P.underlying t = some (.slice e)) (he : P.elem t = e) (hi : P.info? e = some i) {g n cap k : Nat} (hk : k ≤ cap) (W : World) :
    (Instr.slice t (.slice (some ⟨g, 0, none⟩) n cap) none (some (.int .i64 (k : Nat))) none).run P W = .ok (.slice (some ⟨g, 0, none⟩) k cap) W := by
  rw [run_slice_h W t (some ⟨g, 0, none⟩) n cap (by rw [he]; exact ht) .i64 (k : Nat) (by omega) (by omega), he]
  simp only [sizeOf, typeInfo]
  simp [hi, sliced, Addr.add_lit]

end Go.Proofs.YtamfcmmhmfhhkaaDoor
