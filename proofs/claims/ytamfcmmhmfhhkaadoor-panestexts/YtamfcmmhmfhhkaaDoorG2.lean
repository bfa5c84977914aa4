/- Panes: how they lie in memory. Appends of records to a row of one's own, up to 2*10^14 bytes. Whole numbers in memory. -/
import Derived.Test.YtamfcmmhmfhhkaaDoorG1
namespace Go.Proofs.YtamfcmmhmfhhkaaDoor
open Go.RowKit

/-- A pane. -/
structure Pn where
  k : ByteArray
  a : Int
  b : Int
  d : Int
  n : Int
  t : Tl
abbrev pnc (p : Pn) : Array Value := #[.string p.k, .int .i64 p.a, .int .i64 p.b, .int .i64 p.d, .int .i64 p.n, .int .i64 p.t.c, .int .i64 p.t.s, .int .i64 p.t.m, .int .i64 p.t.x]
abbrev pnv (p : Pn) : Value := .agg (pnc p)
abbrev pn0 : Pn := ⟨⟨#[]⟩, 0, 0, 0, 0, tl0⟩
def encP : Rc.Enc Pn := ⟨9, fun x => (pnc x).toList, fun _ => rfl, fun _ u hu => by simp at hu; rcases hu with rfl | rfl | rfl | rfl | rfl | rfl | rfl | rfl | rfl <;> rfl, by decide⟩

/-- A pane's cells at a place. -/
def pcell (W : World) (b o : Nat) (x : Pn) : Prop :=
  (W.cell? ⟨b, o, none⟩ = some (.string x.k) ∧ W.cell? ⟨b, o + 1, none⟩ = some (.int .i64 x.a) ∧ W.cell? ⟨b, o + 2, none⟩ = some (.int .i64 x.b) ∧ W.cell? ⟨b, o + 3, none⟩ = some (.int .i64 x.d) ∧ W.cell? ⟨b, o + 4, none⟩ = some (.int .i64 x.n)) ∧
  (W.cell? ⟨b, o + 5, none⟩ = some (.int .i64 x.t.c) ∧ W.cell? ⟨b, o + 6, none⟩ = some (.int .i64 x.t.s) ∧ W.cell? ⟨b, o + 7, none⟩ = some (.int .i64 x.t.m) ∧ W.cell? ⟨b, o + 8, none⟩ = some (.int .i64 x.t.x))

theorem pn_at {w : World} {ao : Option Addr} {L : List Pn} (h : encP.Mem w ao L) (j : Nat) (hj : j < L.length) : ∃ b off, ao = some ⟨b, off, none⟩ ∧ pcell w b (off + j * 9) (L.getD j pn0) := by
  obtain ⟨b, off, e, g⟩ := Rc.Mem.at h j hj
  rw [List.getD_eq_getElem?_getD, List.getElem?_eq_getElem hj]
  exact ⟨b, off, e, ⟨g 0 _ rfl, g 1 _ rfl, g 2 _ rfl, g 3 _ rfl, g 4 _ rfl⟩, g 5 _ rfl, g 6 _ rfl, g 7 _ rfl, g 8 _ rfl⟩

theorem pn_cells {w : World} {b : Nat} {x : Pn} {ty : TypeId} (h : w.heap[b]? = some (.cells (pnc x) ty (0, 0))) :
    (w.cell? ⟨b, 0, none⟩ = some (.string x.k) ∧ w.cell? ⟨b, 1, none⟩ = some (.int .i64 x.a) ∧ w.cell? ⟨b, 2, none⟩ = some (.int .i64 x.b) ∧ w.cell? ⟨b, 3, none⟩ = some (.int .i64 x.d) ∧ w.cell? ⟨b, 4, none⟩ = some (.int .i64 x.n)) ∧
    (w.cell? ⟨b, 5, none⟩ = some (.int .i64 x.t.c) ∧ w.cell? ⟨b, 6, none⟩ = some (.int .i64 x.t.s) ∧ w.cell? ⟨b, 7, none⟩ = some (.int .i64 x.t.m) ∧ w.cell? ⟨b, 8, none⟩ = some (.int .i64 x.t.x)) := by simp [World.cell?, h]

theorem pn_set {w : World} {b : Nat} {x : Pn} {ty : TypeId} (r : Pn) (o : Nat) (v : Value) (h : w.heap[b]? = some (.cells (pnc x) ty (0, 0))) (hr : (pnc x).setIfInBounds o v = pnc r) : (w.setCell ⟨b, o, none⟩ v).heap[b]? = some (.cells (pnc r) ty (0, 0)) := by
  have k1 := heap_setCell_row (i := o) h v
  rw [hr] at k1
  exact k1

/-- A pane in its block turned whole. -/
theorem pn_all {w : World} {b : Nat} {x : Pn} {ty : TypeId} (r : Pn) (h : w.heap[b]? = some (.cells (pnc x) ty (0, 0))) :
    (((((((((w.setCell ⟨b, 0, none⟩ (.string r.k)).setCell ⟨b, 1, none⟩ (.int .i64 r.a)).setCell ⟨b, 2, none⟩ (.int .i64 r.b)).setCell ⟨b, 3, none⟩ (.int .i64 r.d)).setCell ⟨b, 4, none⟩ (.int .i64 r.n)).setCell ⟨b, 5, none⟩ (.int .i64 r.t.c)).setCell ⟨b, 6, none⟩ (.int .i64 r.t.s)).setCell ⟨b, 7, none⟩ (.int .i64 r.t.m)).setCell ⟨b, 8, none⟩ (.int .i64 r.t.x)).heap[b]? = some (.cells (pnc r) ty (0, 0)) ∧
    Touch (fun k => k = b) w (((((((((w.setCell ⟨b, 0, none⟩ (.string r.k)).setCell ⟨b, 1, none⟩ (.int .i64 r.a)).setCell ⟨b, 2, none⟩ (.int .i64 r.b)).setCell ⟨b, 3, none⟩ (.int .i64 r.d)).setCell ⟨b, 4, none⟩ (.int .i64 r.n)).setCell ⟨b, 5, none⟩ (.int .i64 r.t.c)).setCell ⟨b, 6, none⟩ (.int .i64 r.t.s)).setCell ⟨b, 7, none⟩ (.int .i64 r.t.m)).setCell ⟨b, 8, none⟩ (.int .i64 r.t.x)) := by
  have k0 := pn_set { x with k := r.k } 0 (.string r.k) h rfl
  have k1 := pn_set { x with k := r.k, a := r.a } 1 (.int .i64 r.a) k0 rfl
  have k2 := pn_set { x with k := r.k, a := r.a, b := r.b } 2 (.int .i64 r.b) k1 rfl
  have k3 := pn_set { x with k := r.k, a := r.a, b := r.b, d := r.d } 3 (.int .i64 r.d) k2 rfl
  have k4 := pn_set { r with t := x.t } 4 (.int .i64 r.n) k3 rfl
  have k5 := pn_set { r with t := ⟨r.t.c, x.t.s, x.t.m, x.t.x⟩ } 5 (.int .i64 r.t.c) k4 rfl
  have k6 := pn_set { r with t := ⟨r.t.c, r.t.s, x.t.m, x.t.x⟩ } 6 (.int .i64 r.t.s) k5 rfl
  have k7 := pn_set { r with t := ⟨r.t.c, r.t.s, r.t.m, x.t.x⟩ } 7 (.int .i64 r.t.m) k6 rfl
  have k8 := pn_set r 8 (.int .i64 r.t.x) k7 rfl
  exact ⟨k8, (((((((((Touch.refl (fun k => k = b) w).setCell (p := ⟨b, 0, none⟩) (fun _ => rfl) _).setCell (p := ⟨b, 1, none⟩) (fun _ => rfl) _).setCell (p := ⟨b, 2, none⟩) (fun _ => rfl) _).setCell (p := ⟨b, 3, none⟩) (fun _ => rfl) _).setCell (p := ⟨b, 4, none⟩) (fun _ => rfl) _).setCell (p := ⟨b, 5, none⟩) (fun _ => rfl) _).setCell (p := ⟨b, 6, none⟩) (fun _ => rfl) _).setCell (p := ⟨b, 7, none⟩) (fun _ => rfl) _).setCell (p := ⟨b, 8, none⟩) (fun _ => rfl) _⟩

theorem infoPane : (Tryd.prog.info? 29).map (fun i => (i.zero, i.size, i.bytes)) = some (some (pnv pn0), 9, 80) := by kernel_rfl
theorem elemPane : Tryd.prog.elem 22 = 29 := by kernel_rfl

end Go.Proofs.YtamfcmmhmfhhkaaDoor

namespace Go.Proofs.YtamfcmmhmfhhkaaDoor
open Go.RowKit

namespace Rc

/-- What a row is grown to is little more than a quarter above what is asked. -/
theorem nextcap_wide {need old : Nat} (h : old < need) : Builtin.nextslicecap need old ≤ need + need / 4 + 512 := by
  unfold Builtin.nextslicecap
  split
  · omega
  · split
    · omega
    · rw [growBy_four]
      repeat' split
      all_goals omega

theorem fits_wide {need old bytes : Nat} (h : old < need) (hb : need * bytes ≤ 200000000000000) (h1 : bytes ≤ 1000) : Builtin.nextslicecap need old * bytes ≤ 281474976710656 := by
  have g : Builtin.nextslicecap need old * bytes ≤ (need + need / 4 + 512) * bytes := Nat.mul_le_mul_right _ (nextcap_wide h)
  have q : need / 4 * bytes * 4 ≤ need * bytes := by
    rw [Nat.mul_right_comm]
    exact Nat.mul_le_mul_right _ (Nat.div_mul_le_self need 4)
  have s : 512 * bytes ≤ 512000 := by omega
  rw [Nat.add_mul, Nat.add_mul] at g
  omega

variable {α : Type} {E : Enc α}

/-- A row just grown: what it held, what came behind, room. -/
theorem own_grown {e : TypeId} {w : World} {base old : Nat} {z : Value} {L M : List α} (hzs : z.cells.size = E.n) (hbase : base ≤ w.heap.size) (h63 : L.length + M.length ≤ maxLen) :
    E.Own e (w.drew.alloc (.cells ((E.flat L).toArray ++ (E.flat M).toArray ++ Builtin.zeroCells z.cells (grownCap w (L.length + M.length) old e - (L.length + M.length))) e)) base (.slice (some ⟨w.heap.size, 0, none⟩) (L ++ M).length (grownCap w (L.length + M.length) old e)) (L ++ M) := by
  have hge := grownCap_ge w (L.length + M.length) old e
  have hfl : (E.flat (L ++ M)).length = (L.length + M.length) * E.n := by rw [E.flat_len, List.length_append]
  refine ⟨by rw [E.flat_len], .inr ⟨w.heap.size, _, _, rfl, hbase, heap_alloc_new w.drew _, by rw [List.length_append]; exact hge, grownCap_le_maxLen w _ old e h63, ?_, ?_⟩⟩
  · rw [Array.size_append, Array.size_append, List.size_toArray, List.size_toArray, size_zeroCells, hzs, E.flat_len, E.flat_len, ← Nat.add_mul, ← Nat.add_mul]
    congr 1
    omega
  · rw [Array.toList_append, Array.toList_append, List.toList_toArray, List.toList_toArray, ← E.flat_append]
    exact List.take_left' (by rw [E.flat_len])

theorem Own.appw {P : Program} {t ty e : TypeId} {i : TypeInfo} {z : Value} {bytes : Nat} (ht : P.underlying t = some (.slice e)) (hi : P.info? e = some i) (hz : i.zero = some z) (hs : i.size = E.n) (hby : i.bytes = bytes) (hzs : z.cells.size = E.n)
    {w : World} {base : Nat} {v : Value} {L : List α} (hown : E.Own e w base v L) (ao : Option Addr) (c : Nat) (M : List α) (hp : E.Mem w ao M) (hc : ao = none → c = 0) (h63 : L.length + M.length ≤ maxLen) (hb : (L.length + M.length) * bytes ≤ 200000000000000) (hb1 : bytes ≤ 1000) (hbase : base ≤ w.heap.size) :
    ∃ ao' cap' w', (Builtin.append_ #[t, t] ty #[v, .slice ao M.length c]).run P w = .ok (.slice ao' (L ++ M).length cap') w' ∧ E.Own e w' base (.slice ao' (L ++ M).length cap') (L ++ M) ∧ Touch (fun g => v.ownBlock = some g) w w' ∧
      (∀ g, (Value.slice ao' (L ++ M).length cap').ownBlock = some g → v.ownBlock = some g ∨ w.heap.size ≤ g) := by
  by_cases hsm : (L.length + M.length) * bytes ≤ 140737488355328
  · exact Own.app ht hi hz hs hby hzs hown ao c M hp hc h63 hsm hbase
  cases ao with
  | none =>
    have hM : M = [] := by
      cases M with
      | nil => rfl
      | cons x M =>
        obtain ⟨b, off, e, _⟩ := hp 0 _ (List.getElem?_eq_getElem (by rw [E.flat_len]; have := E.pos; simp; omega))
        cases e
    subst hM
    obtain rfl := hc rfl
    have hr := run_append_owned_none (P := P) (w := w) base t ty e i E.n ht hi v L.length (E.flat L) hown
    obtain ⟨ao', cap', hv⟩ := own_shape hown
    refine ⟨ao', cap', w, ?_, ?_, Touch.refl _ _, ?_⟩
    · rw [List.append_nil, ← hv]; exact hr
    · rw [List.append_nil, ← hv]; exact hown
    · rw [List.append_nil, ← hv]; exact fun g hg => .inl hg
  | some a =>
    have hnews : (E.flat M).length = M.length * i.size := by rw [hs]; exact E.flat_len M
    have hlen : (L ++ M).length = L.length + M.length := List.length_append
    have h63' : L.length + M.length ≤ 9223372036854775807 := by simp only [maxLen] at h63; omega
    have T1 : ∀ (o : Obj) (S : Nat → Prop), Touch S w (w.drew.alloc o) := fun o S => ((Touch.refl S w).drew).alloc o
    have hown' := hown
    obtain ⟨q1, ⟨hv, q2⟩ | ⟨g, cap, cur, hv, q3, q4, q5, q6, q7, q8⟩⟩ := hown'
    · have hL : L = [] := List.eq_nil_of_length_eq_zero q2
      subst hL
      subst hv
      have hpos : 0 < M.length := by
        rcases Nat.eq_zero_or_pos M.length with h | h
        · exfalso; apply hsm; rw [h]; simp
        · exact h
      have hr := run_append_nil (P := P) w t ty e i z ht hi hz a M.length c (E.flat M) hnews (Mem.cells hp) hpos (by simp at h63'; omega) (by rw [hby]; simp at hb; omega)
      have hg := own_grown (E := E) (e := e) (w := w) (base := base) (old := 0) (L := []) (M := M) hzs hbase h63
      refine ⟨_, _, _, ?_, hg, T1 _ _, fun g hg' => .inr ?_⟩
      · simp only [List.length_nil, Nat.zero_add, List.nil_append]
        rw [hr]
        simp [Enc.flat]
      · simp [Value.ownBlock] at hg'; omega
    · subst hv
      by_cases hroom : L.length + M.length ≤ cap
      · have hfit : L.length * i.size + (E.flat M).length ≤ cur.size := by rw [hnews, q7, hs, ← Nat.add_mul]; exact Nat.mul_le_mul_right _ hroom
        have hr := run_append_room (P := P) w t ty e i ht hi g L.length cap cur q4 a M.length c (E.flat M) hnews (Mem.cells hp) (E.flat_one M) hroom hfit
        refine ⟨some ⟨g, 0, none⟩, cap, _, by rw [hlen]; exact hr, ⟨by rw [E.flat_len], .inr ⟨g, cap, _, rfl, q3, setRow_heap w g cur _ e _ q4, by rw [hlen]; exact hroom, q6, ?_, ?_⟩⟩, ⟨rfl, rfl, rfl, by simp, fun k _ hk => setRow_other w g k _ (fun h => hk (by rw [h]; rfl))⟩, fun d hd => .inl hd⟩
        · rw [List.size_toArray, List.length_append, List.length_append, List.length_take, List.length_drop, Array.length_toList (xs := cur), ← q7]
          rw [hs] at hfit ⊢
          rw [Nat.min_eq_left (Nat.le_trans (Nat.le_add_right _ _) hfit)]
          exact Nat.add_sub_of_le hfit
        · rw [hs, q8, List.toList_toArray, ← E.flat_append]
          exact List.take_left' (by rw [E.flat_len])
      · have hr := run_append_grow (P := P) w t ty e i z ht hi hz ⟨g, 0, none⟩ L.length cap (E.flat L) (by rw [hs]; exact E.flat_len L) (World.ownsRow.cells hown (g := g) rfl) a M.length c (E.flat M) hnews (Mem.cells hp) (by omega) (by omega) (by rw [hby]; exact fits_wide (by omega) hb hb1)
        have hg := own_grown (E := E) (e := e) (w := w) (base := base) (old := cap) (L := L) (M := M) hzs hbase h63
        refine ⟨_, _, _, by rw [hlen]; exact hr, by rw [hlen] at hg; rw [hlen]; exact hg, T1 _ _, fun d hd => .inr ?_⟩
        simp [Value.ownBlock] at hd; omega

end Rc
end Go.Proofs.YtamfcmmhmfhhkaaDoor

namespace Go.Proofs.YtamfcmmhmfhhkaaDoor
open Go.RowKit

/-- Whole numbers as records of one cell. -/
def encJ : Rc.Enc Int := ⟨1, fun x => [.int .i64 x], fun _ => rfl, fun _ u hu => by simp at hu; subst hu; rfl, by decide⟩
theorem ints_at {w : World} {ao : Option Addr} {L : List Int} (h : encJ.Mem w ao L) (j : Nat) (hj : j < L.length) : ∃ b off, ao = some ⟨b, off, none⟩ ∧ w.cell? ⟨b, off + j, none⟩ = some (.int .i64 (L.getD j 0)) := by
  obtain ⟨b, off, e, g⟩ := Rc.Mem.at h j hj
  rw [List.getD_eq_getElem?_getD, List.getElem?_eq_getElem hj]
  have := g 0 _ rfl
  have e1 : encJ.n = 1 := rfl
  rw [e1, Nat.mul_one] at this
  exact ⟨b, off, e, this⟩

end Go.Proofs.YtamfcmmhmfhhkaaDoor
