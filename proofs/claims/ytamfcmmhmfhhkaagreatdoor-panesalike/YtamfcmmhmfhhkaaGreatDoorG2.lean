/- Appends of records to a row of one's own, up to 2*10^14 bytes. Of: the panes of a key, in the list's order (the document's). A record put in place into a row of one's own. Cells that may be written; x[:k]. -/
import Derived.Test.YtamfcmmhmfhhkaaGreatDoorG1
namespace Go.Proofs.YtamfcmmhmfhhkaaGreatDoor
open Go.RowKit

namespace Rc

/-- What a row is grown to is little more than a quarter above what is asked. -/
theorem nextcap_wide {need old : Nat} (h : old < need) : Builtin.nextslicecap need old ≤ need + need / 4 + 512 := by
  unfold Builtin.nextslicecap
  split
  · omega
  · split
    · omega
    · rw [growBy_four]
      repeat' split
      all_goals omega

theorem fits_wide {need old bytes : Nat} (h : old < need) (hb : need * bytes ≤ 200000000000000) (h1 : bytes ≤ 1000) : Builtin.nextslicecap need old * bytes ≤ 281474976710656 := by
  have g : Builtin.nextslicecap need old * bytes ≤ (need + need / 4 + 512) * bytes := Nat.mul_le_mul_right _ (nextcap_wide h)
  have q : need / 4 * bytes * 4 ≤ need * bytes := by
    rw [Nat.mul_right_comm]
    exact Nat.mul_le_mul_right _ (Nat.div_mul_le_self need 4)
  have s : 512 * bytes ≤ 512000 := by omega
  rw [Nat.add_mul, Nat.add_mul] at g
  omega

variable {α : Type} {E : Enc α}

/-- A row just grown: what it held, what came behind, room. -/
theorem own_grown {e : TypeId} {w : World} {base old : Nat} {z : Value} {L M : List α} (hzs : z.cells.size = E.n) (hbase : base ≤ w.heap.size) (h63 : L.length + M.length ≤ maxLen) :
    E.Own e (w.drew.alloc (.cells ((E.flat L).toArray ++ (E.flat M).toArray ++ Builtin.zeroCells z.cells (grownCap w (L.length + M.length) old e - (L.length + M.length))) e)) base (.slice (some ⟨w.heap.size, 0, none⟩) (L ++ M).length (grownCap w (L.length + M.length) old e)) (L ++ M) := by
  have hge := grownCap_ge w (L.length + M.length) old e
  have hfl : (E.flat (L ++ M)).length = (L.length + M.length) * E.n := by rw [E.flat_len, List.length_append]
  refine ⟨by rw [E.flat_len], .inr ⟨w.heap.size, _, _, rfl, hbase, heap_alloc_new w.drew _, by rw [List.length_append]; exact hge, grownCap_le_maxLen w _ old e h63, ?_, ?_⟩⟩
  · rw [Array.size_append, Array.size_append, List.size_toArray, List.size_toArray, size_zeroCells, hzs, E.flat_len, E.flat_len, ← Nat.add_mul, ← Nat.add_mul]
    congr 1
    omega
  · rw [Array.toList_append, Array.toList_append, List.toList_toArray, List.toList_toArray, ← E.flat_append]
    exact List.take_left' (by rw [E.flat_len])

theorem Own.appw {P : Program} {t ty e : TypeId} {i : TypeInfo} {z : Value} {bytes : Nat} (ht : P.underlying t = some (.slice e)) (hi : P.info? e = some i) (hz : i.zero = some z) (hs : i.size = E.n) (hby : i.bytes = bytes) (hzs : z.cells.size = E.n)
    {w : World} {base : Nat} {v : Value} {L : List α} (hown : E.Own e w base v L) (ao : Option Addr) (c : Nat) (M : List α) (hp : E.Mem w ao M) (hc : ao = none → c = 0) (h63 : L.length + M.length ≤ maxLen) (hb : (L.length + M.length) * bytes ≤ 200000000000000) (hb1 : bytes ≤ 1000) (hbase : base ≤ w.heap.size) :
    ∃ ao' cap' w', (Builtin.append_ #[t, t] ty #[v, .slice ao M.length c]).run P w = .ok (.slice ao' (L ++ M).length cap') w' ∧ E.Own e w' base (.slice ao' (L ++ M).length cap') (L ++ M) ∧ Touch (fun g => v.ownBlock = some g) w w' ∧
      (∀ g, (Value.slice ao' (L ++ M).length cap').ownBlock = some g → v.ownBlock = some g ∨ w.heap.size ≤ g) := by
  by_cases hsm : (L.length + M.length) * bytes ≤ 140737488355328
  · exact Own.app ht hi hz hs hby hzs hown ao c M hp hc h63 hsm hbase
  cases ao with
  | none =>
    have hM : M = [] := by
      cases M with
      | nil => rfl
      | cons x M =>
        obtain ⟨b, off, e, _⟩ := hp 0 _ (List.getElem?_eq_getElem (by rw [E.flat_len]; have := E.pos; simp; omega))
        cases e
    subst hM
    obtain rfl := hc rfl
    have hr := run_append_owned_none (P := P) (w := w) base t ty e i E.n ht hi v L.length (E.flat L) hown
    obtain ⟨ao', cap', hv⟩ := own_shape hown
    refine ⟨ao', cap', w, ?_, ?_, Touch.refl _ _, ?_⟩
    · rw [List.append_nil, ← hv]; exact hr
    · rw [List.append_nil, ← hv]; exact hown
    · rw [List.append_nil, ← hv]; exact fun g hg => .inl hg
  | some a =>
    have hnews : (E.flat M).length = M.length * i.size := by rw [hs]; exact E.flat_len M
    have hlen : (L ++ M).length = L.length + M.length := List.length_append
    have h63' : L.length + M.length ≤ 9223372036854775807 := by simp only [maxLen] at h63; omega
    have T1 : ∀ (o : Obj) (S : Nat → Prop), Touch S w (w.drew.alloc o) := fun o S => ((Touch.refl S w).drew).alloc o
    have hown' := hown
    obtain ⟨q1, ⟨hv, q2⟩ | ⟨g, cap, cur, hv, q3, q4, q5, q6, q7, q8⟩⟩ := hown'
    · have hL : L = [] := List.eq_nil_of_length_eq_zero q2
      subst hL
      subst hv
      have hpos : 0 < M.length := by
        rcases Nat.eq_zero_or_pos M.length with h | h
        · exfalso; apply hsm; rw [h]; simp
        · exact h
      have hr := run_append_nil (P := P) w t ty e i z ht hi hz a M.length c (E.flat M) hnews (Mem.cells hp) hpos (by simp at h63'; omega) (by rw [hby]; simp at hb; omega)
      have hg := own_grown (E := E) (e := e) (w := w) (base := base) (old := 0) (L := []) (M := M) hzs hbase h63
      refine ⟨_, _, _, ?_, hg, T1 _ _, fun g hg' => .inr ?_⟩
      · simp only [List.length_nil, Nat.zero_add, List.nil_append]
        rw [hr]
        simp [Enc.flat]
      · simp [Value.ownBlock] at hg'; omega
    · subst hv
      by_cases hroom : L.length + M.length ≤ cap
      · have hfit : L.length * i.size + (E.flat M).length ≤ cur.size := by rw [hnews, q7, hs, ← Nat.add_mul]; exact Nat.mul_le_mul_right _ hroom
        have hr := run_append_room (P := P) w t ty e i ht hi g L.length cap cur q4 a M.length c (E.flat M) hnews (Mem.cells hp) (E.flat_one M) hroom hfit
        refine ⟨some ⟨g, 0, none⟩, cap, _, by rw [hlen]; exact hr, ⟨by rw [E.flat_len], .inr ⟨g, cap, _, rfl, q3, setRow_heap w g cur _ e _ q4, by rw [hlen]; exact hroom, q6, ?_, ?_⟩⟩, ⟨rfl, rfl, rfl, by simp, fun k _ hk => setRow_other w g k _ (fun h => hk (by rw [h]; rfl))⟩, fun d hd => .inl hd⟩
        · rw [List.size_toArray, List.length_append, List.length_append, List.length_take, List.length_drop, Array.length_toList (xs := cur), ← q7]
          rw [hs] at hfit ⊢
          rw [Nat.min_eq_left (Nat.le_trans (Nat.le_add_right _ _) hfit)]
          exact Nat.add_sub_of_le hfit
        · rw [hs, q8, List.toList_toArray, ← E.flat_append]
          exact List.take_left' (by rw [E.flat_len])
      · have hr := run_append_grow (P := P) w t ty e i z ht hi hz ⟨g, 0, none⟩ L.length cap (E.flat L) (by rw [hs]; exact E.flat_len L) (World.ownsRow.cells hown (g := g) rfl) a M.length c (E.flat M) hnews (Mem.cells hp) (by omega) (by omega) (by rw [hby]; exact fits_wide (by omega) hb hb1)
        have hg := own_grown (E := E) (e := e) (w := w) (base := base) (old := cap) (L := L) (M := M) hzs hbase h63
        refine ⟨_, _, _, by rw [hlen]; exact hr, by rw [hlen] at hg; rw [hlen]; exact hg, T1 _ _, fun d hd => .inr ?_⟩
        simp [Value.ownBlock] at hd; omega

end Rc
end Go.Proofs.YtamfcmmhmfhhkaaGreatDoor

namespace Go.Proofs.YtamfcmmhmfhhkaaGreatDoor
open Go.RowKit

/-- One pane behind a row of one's own. -/
theorem pn_app1 {w : World} {base : Nat} {ao : Option Addr} {cap : Nat} {A : List Pn} (x : Pn) (h : encP.Own 40 w base (.slice ao A.length cap) A) (hs : base ≤ w.heap.size) (hn : A.length ≤ 1000000000000) :
    ∃ a2 p2 w4, (Builtin.append_ #[22, 22] 22 #[.slice ao A.length cap, .slice (some ⟨w.heap.size, 0, none⟩) 1 1]).run Tryz.prog (w.alloc (.cells (pnc x) 40)) = .ok (.slice a2 (A.length + 1) p2) w4 ∧
      encP.Own 40 w4 base (.slice a2 (A ++ [x]).length p2) (A ++ [x]) ∧ Touch (fun d => (Value.slice ao A.length cap).ownBlock = some d) w w4 := by
  obtain ⟨i0, hi, hz, hsz, hby⟩ := Rc.info_parts infoPane
  have own := Rc.Own.calm h ((Touch.refl (fun _ => False) w).alloc (.cells (pnc x) 40))
  have hs1 := al_size w (.cells (pnc x) 40)
  obtain ⟨a2, p2, w4, hr, ow, t2, -⟩ := Rc.Own.appw (E := encP) (ty := 22) Tryz.underlying22 hi hz hsz hby rfl own (some ⟨w.heap.size, 0, none⟩) 1 [x] (Rc.Mem.new w [x] 40) (fun h => (nomatch h)) (by simp; unfold maxLen; omega) (by simp; omega) (by omega) (by omega)
  have e3 : (A ++ [x]).length = A.length + 1 := by simp
  refine ⟨a2, p2, w4, by rw [← e3]; exact hr, ow, ?_⟩
  exact Touch.trans (((Touch.refl (fun _ => False) w).alloc _).mono fun _ _ h => h.elim) t2 fun _ _ h => h

/-- The panes of a key. -/
def ofP (L : List Pn) (k : ByteArray) : List Pn := L.filter fun p => decide (p.k = k)
/-- Those of the first i. -/
theorem ofP_succ {L : List Pn} {k : ByteArray} {i : Nat} (hi : i < L.length) : ofP (L.take (i + 1)) k = ofP (L.take i) k ++ (if (L.getD i pn0).k = k then [L.getD i pn0] else []) := by
  unfold ofP
  rw [List.take_add_one, List.filter_append, List.getElem?_eq_getElem hi, List.getD_eq_getElem?_getD, List.getElem?_eq_getElem hi]
  congr 1
  by_cases h : L[i].k = k <;> simp [h]
theorem ofP_le (L : List Pn) (k : ByteArray) : (ofP L k).length ≤ L.length := List.length_filter_le _ _

/-- What a function answers that makes a row of panes. -/
def RetP (w : World) (e : Ending) (w' : World) (L : List Pn) : Prop := ∃ a c, e = .returned (.slice a L.length c) ∧ encP.Own 40 w' w.heap.size (.slice a L.length c) L ∧ Calm w w'

end Go.Proofs.YtamfcmmhmfhhkaaGreatDoor

namespace Go.Proofs.YtamfcmmhmfhhkaaGreatDoor
open Go.RowKit

namespace Rc

/-- Cells put one behind the other. -/
def puts (cs : List Value) (o : Nat) : List Value → List Value
  | [] => cs
  | v :: vs => puts (cs.set o v) (o + 1) vs

theorem puts_mid : ∀ (vs C P S : List Value), C.length = vs.length → puts (P ++ (C ++ S)) P.length vs = P ++ (vs ++ S)
  | [], C, P, S, h => by
    have : C = [] := List.eq_nil_of_length_eq_zero (by simpa using h)
    subst this
    rfl
  | v :: vs, C, P, S, h => by
    cases C with
    | nil => simp at h
    | cons c C =>
      have e : (P ++ (c :: C ++ S)).set P.length v = (P ++ [v]) ++ (C ++ S) := by
        rw [List.set_append_right _ _ (Nat.le_refl _), Nat.sub_self]
        simp
      have ih := puts_mid vs C (P ++ [v]) S (by simpa using h)
      unfold puts
      rw [e]
      have el : (P ++ [v]).length = P.length + 1 := by simp
      rw [el] at ih
      rw [ih]
      simp

variable {α : Type} {E : Enc α}

theorem puts_flat (L : List α) (j : Nat) (hj : j < L.length) (x : α) : puts (E.flat L) (j * E.n) (E.cells x) = E.flat (L.set j x) := by
  have e : L = L.take j ++ L[j] :: L.drop (j + 1) := by rw [← List.drop_eq_getElem_cons hj, List.take_append_drop]
  have e2 : L.set j x = L.take j ++ x :: L.drop (j + 1) := List.set_eq_take_append_cons_drop .. |>.trans (by rw [if_pos hj])
  have f : ∀ y, E.flat (L.take j ++ y :: L.drop (j + 1)) = E.flat (L.take j) ++ (E.cells y ++ E.flat (L.drop (j + 1))) := fun y => by
    rw [E.flat_append]; rfl
  rw [e2, f]
  conv => lhs; arg 1; rw [e, f]
  have hl : j * E.n = (E.flat (L.take j)).length := by rw [E.flat_len, List.length_take, Nat.min_eq_left (by omega)]
  rw [hl]
  exact puts_mid _ _ _ _ (by rw [E.len, E.len])

/-- The record number j turned, cell by cell. -/
theorem Own.set9 (hn : E.n = 9) {e : TypeId} {w : World} {base g n cap : Nat} {L : List α} (h : E.Own e w base (.slice (some ⟨g, 0, none⟩) n cap) L) (j : Nat) (hj : j < L.length) (x : α) {v0 v1 v2 v3 v4 v5 v6 v7 v8 : Value} (hx : E.cells x = [v0, v1, v2, v3, v4, v5, v6, v7, v8]) :
    E.Own e (((((((((w.setCell ⟨g, j * 9, none⟩ v0).setCell ⟨g, j * 9 + 1, none⟩ v1).setCell ⟨g, j * 9 + 2, none⟩ v2).setCell ⟨g, j * 9 + 3, none⟩ v3).setCell ⟨g, j * 9 + 4, none⟩ v4).setCell ⟨g, j * 9 + 5, none⟩ v5).setCell ⟨g, j * 9 + 6, none⟩ v6).setCell ⟨g, j * 9 + 7, none⟩ v7).setCell ⟨g, j * 9 + 8, none⟩ v8) base (.slice (some ⟨g, 0, none⟩) n cap) (L.set j x) ∧
    Touch (fun k => k = g) w (((((((((w.setCell ⟨g, j * 9, none⟩ v0).setCell ⟨g, j * 9 + 1, none⟩ v1).setCell ⟨g, j * 9 + 2, none⟩ v2).setCell ⟨g, j * 9 + 3, none⟩ v3).setCell ⟨g, j * 9 + 4, none⟩ v4).setCell ⟨g, j * 9 + 5, none⟩ v5).setCell ⟨g, j * 9 + 6, none⟩ v6).setCell ⟨g, j * 9 + 7, none⟩ v7).setCell ⟨g, j * 9 + 8, none⟩ v8) := by
  refine ⟨?_, (((((((((Touch.refl (fun k => k = g) w).setCell (p := ⟨g, j * 9, none⟩) (fun _ => rfl) _).setCell (p := ⟨g, j * 9 + 1, none⟩) (fun _ => rfl) _).setCell (p := ⟨g, j * 9 + 2, none⟩) (fun _ => rfl) _).setCell (p := ⟨g, j * 9 + 3, none⟩) (fun _ => rfl) _).setCell (p := ⟨g, j * 9 + 4, none⟩) (fun _ => rfl) _).setCell (p := ⟨g, j * 9 + 5, none⟩) (fun _ => rfl) _).setCell (p := ⟨g, j * 9 + 6, none⟩) (fun _ => rfl) _).setCell (p := ⟨g, j * 9 + 7, none⟩) (fun _ => rfl) _).setCell (p := ⟨g, j * 9 + 8, none⟩) (fun _ => rfl) _⟩
  have hnL : n = L.length := (Own.mem h).1
  obtain ⟨h1, ⟨hv, h2⟩ | ⟨g', cap', cur, hv, h3, h4, h5, h6, h7, h8⟩⟩ := h
  · cases hv
  · injection hv with e1 e2 e3
    injection e1 with e1
    injection e1 with e1
    subst e1 e3
    have k0 := heap_setCell_row (i := j * 9) h4 v0
    have k1 := heap_setCell_row (i := j * 9 + 1) k0 v1
    have k2 := heap_setCell_row (i := j * 9 + 2) k1 v2
    have k3 := heap_setCell_row (i := j * 9 + 3) k2 v3
    have k4 := heap_setCell_row (i := j * 9 + 4) k3 v4
    have k5 := heap_setCell_row (i := j * 9 + 5) k4 v5
    have k6 := heap_setCell_row (i := j * 9 + 6) k5 v6
    have k7 := heap_setCell_row (i := j * 9 + 7) k6 v7
    have k8 := heap_setCell_row (i := j * 9 + 8) k7 v8
    have pf := puts_flat (E := E) L j hj x
    rw [hn, hx] at pf
    refine ⟨by rw [E.flat_len], .inr ⟨g, cap, _, ?_, h3, k8, by rw [List.length_set]; exact h5, h6, by simpa using h7, ?_⟩⟩
    · rw [List.length_set, hnL]
    · rw [List.length_set, ← pf, ← h8]
      simp only [Array.toList_setIfInBounds, List.take_set]
      rfl

end Rc
end Go.Proofs.YtamfcmmhmfhhkaaGreatDoor

namespace Go.Proofs.YtamfcmmhmfhhkaaGreatDoor
open Go.RowKit

theorem wn_frozen {w : World} {b : Nat} {c : Array Value} {ty : TypeId} (h : w.heap[b]? = some (.cells c ty (0, 0))) (o : Nat) : w.frozen? ⟨b, o, none⟩ = false := by simp [World.frozen?, h]

/-- x[:k] of what begins its block. -/
theorem cut_to {P : Program} {t e : TypeId} {i : TypeInfo} (ht : P.underlying t = some (.slice e)) (he : P.elem t = e) (hi : P.info? e = some i) {g n cap k : Nat} (hk : k ≤ cap) (W : World) :
    (Instr.slice t (.slice (some ⟨g, 0, none⟩) n cap) none (some (.int .i64 (k : Nat))) none).run P W = .ok (.slice (some ⟨g, 0, none⟩) k cap) W := by
  rw [run_slice_h W t (some ⟨g, 0, none⟩) n cap (by rw [he]; exact ht) .i64 (k : Nat) (by omega) (by omega), he]
  simp only [sizeOf, typeInfo]
  simp [hi, sliced, Addr.add_lit]

end Go.Proofs.YtamfcmmhmfhhkaaGreatDoor
