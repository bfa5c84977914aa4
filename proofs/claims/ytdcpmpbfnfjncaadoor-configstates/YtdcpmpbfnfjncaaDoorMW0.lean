/- Spans and windows: the notions, and how they lie in memory; no function is named here. -/
import Derived.Test.YtdcpmpbfnfjncaaDoorMR
namespace Go.Proofs.YtdcpmpbfnfjncaaDoor
open Go.RowKit

/-- A span. -/
structure Sp where
  a : Int
  b : Int
/-- A window. -/
structure Wn where
  a : Int
  b : Int
  h : Int
  t : Tl
  n : Int
  p : Int

abbrev spc (s : Sp) : Array Value := #[.int .i64 s.a, .int .i64 s.b]
abbrev spv (s : Sp) : Value := .agg (spc s)
abbrev wnc (x : Wn) : Array Value := #[.int .i64 x.a, .int .i64 x.b, .int .i64 x.h, .int .i64 x.t.c, .int .i64 x.t.s, .int .i64 x.t.m, .int .i64 x.t.x, .int .i64 x.n, .int .i64 x.p]
abbrev wnv (x : Wn) : Value := .agg (wnc x)
/-- A window's span. -/
abbrev Wn.sp (x : Wn) : Sp := ⟨x.a, x.b⟩

def encS : Rc.Enc Sp := ⟨2, fun s => (spc s).toList, fun _ => rfl, fun _ u hu => by simp at hu; rcases hu with rfl | rfl <;> rfl, by decide⟩
def encW : Rc.Enc Wn := ⟨9, fun x => (wnc x).toList, fun _ => rfl, fun _ u hu => by simp at hu; rcases hu with rfl | rfl | rfl | rfl | rfl | rfl | rfl | rfl | rfl <;> rfl, by decide⟩
def encT : Rc.Enc Tl := ⟨4, fun t => (tlc t).toList, fun _ => rfl, fun _ u hu => by simp at hu; rcases hu with rfl | rfl | rfl | rfl <;> rfl, by decide⟩

abbrev sp0 : Sp := ⟨0, 0⟩
abbrev wn0 : Wn := ⟨0, 0, 0, ⟨0, 0, 0, 0⟩, 0, 0⟩

theorem sp_at {w : World} {ao : Option Addr} {L : List Sp} (h : encS.Mem w ao L) (j : Nat) (hj : j < L.length) : ∃ b off, ao = some ⟨b, off, none⟩ ∧ w.cell? ⟨b, off + j * 2, none⟩ = some (.int .i64 (L.getD j sp0).a) ∧ w.cell? ⟨b, off + j * 2 + 1, none⟩ = some (.int .i64 (L.getD j sp0).b) := by
  obtain ⟨b, off, e, g⟩ := Rc.Mem.at h j hj
  rw [List.getD_eq_getElem?_getD, List.getElem?_eq_getElem hj]
  exact ⟨b, off, e, g 0 _ rfl, g 1 _ rfl⟩

theorem wn_at {w : World} {ao : Option Addr} {L : List Wn} (h : encW.Mem w ao L) (j : Nat) (hj : j < L.length) : ∃ b off, ao = some ⟨b, off, none⟩ ∧
    (w.cell? ⟨b, off + j * 9, none⟩ = some (.int .i64 (L.getD j wn0).a) ∧ w.cell? ⟨b, off + j * 9 + 1, none⟩ = some (.int .i64 (L.getD j wn0).b) ∧ w.cell? ⟨b, off + j * 9 + 2, none⟩ = some (.int .i64 (L.getD j wn0).h)) ∧
    (w.cell? ⟨b, off + j * 9 + 3, none⟩ = some (.int .i64 (L.getD j wn0).t.c) ∧ w.cell? ⟨b, off + j * 9 + 4, none⟩ = some (.int .i64 (L.getD j wn0).t.s) ∧ w.cell? ⟨b, off + j * 9 + 5, none⟩ = some (.int .i64 (L.getD j wn0).t.m) ∧ w.cell? ⟨b, off + j * 9 + 6, none⟩ = some (.int .i64 (L.getD j wn0).t.x)) ∧
    w.cell? ⟨b, off + j * 9 + 7, none⟩ = some (.int .i64 (L.getD j wn0).n) ∧ w.cell? ⟨b, off + j * 9 + 8, none⟩ = some (.int .i64 (L.getD j wn0).p) := by
  obtain ⟨b, off, e, g⟩ := Rc.Mem.at h j hj
  rw [List.getD_eq_getElem?_getD, List.getElem?_eq_getElem hj]
  exact ⟨b, off, e, ⟨g 0 _ rfl, g 1 _ rfl, g 2 _ rfl⟩, ⟨g 3 _ rfl, g 4 _ rfl, g 5 _ rfl, g 6 _ rfl⟩, g 7 _ rfl, g 8 _ rfl⟩

theorem sp_cells {w : World} {b : Nat} {s : Sp} {ty : TypeId} (h : w.heap[b]? = some (.cells (spc s) ty (0, 0))) : w.cell? ⟨b, 0, none⟩ = some (.int .i64 s.a) ∧ w.cell? ⟨b, 1, none⟩ = some (.int .i64 s.b) := by simp [World.cell?, h]

theorem wn_cells {w : World} {b : Nat} {x : Wn} {ty : TypeId} (h : w.heap[b]? = some (.cells (wnc x) ty (0, 0))) :
    (w.cell? ⟨b, 0, none⟩ = some (.int .i64 x.a) ∧ w.cell? ⟨b, 1, none⟩ = some (.int .i64 x.b) ∧ w.cell? ⟨b, 2, none⟩ = some (.int .i64 x.h)) ∧
    (w.cell? ⟨b, 3, none⟩ = some (.int .i64 x.t.c) ∧ w.cell? ⟨b, 4, none⟩ = some (.int .i64 x.t.s) ∧ w.cell? ⟨b, 5, none⟩ = some (.int .i64 x.t.m) ∧ w.cell? ⟨b, 6, none⟩ = some (.int .i64 x.t.x)) ∧
    w.cell? ⟨b, 7, none⟩ = some (.int .i64 x.n) ∧ w.cell? ⟨b, 8, none⟩ = some (.int .i64 x.p) := by simp [World.cell?, h]

/-- Have two spans a time in common? -/
def over (x y : Sp) : Bool := decide (x.a < x.b) && (decide (y.a < y.b) && (decide (x.a < y.b) && decide (y.a < x.b)))

/-- Is it from 0 to MaxCount? -/
def inC (n : Int) : Bool := decide (0 ≤ n) && decide (n ≤ 9007199254740992)

/-- A window in its block: one number of it turned. -/
theorem wn_set {w : World} {b : Nat} {x : Wn} {ty : TypeId} (r : Wn) (o : Nat) (v : Int) (h : w.heap[b]? = some (.cells (wnc x) ty (0, 0))) (hr : (wnc x).setIfInBounds o (.int .i64 v) = wnc r) :
    (w.setCell ⟨b, o, none⟩ (.int .i64 v)).heap[b]? = some (.cells (wnc r) ty (0, 0)) ∧ Touch (fun k => k = b) w (w.setCell ⟨b, o, none⟩ (.int .i64 v)) := by
  have k1 := heap_setCell_row (i := o) h (.int .i64 v)
  rw [hr] at k1
  exact ⟨k1, (Touch.refl (fun k => k = b) w).setCell (p := ⟨b, o, none⟩) (fun _ => rfl) _⟩
/-- Its tally turned. -/
theorem wn_tally {w : World} {b : Nat} {x : Wn} {ty : TypeId} (t : Tl) (h : w.heap[b]? = some (.cells (wnc x) ty (0, 0))) :
    ((((w.setCell ⟨b, 3, none⟩ (.int .i64 t.c)).setCell ⟨b, 4, none⟩ (.int .i64 t.s)).setCell ⟨b, 5, none⟩ (.int .i64 t.m)).setCell ⟨b, 6, none⟩ (.int .i64 t.x)).heap[b]? = some (.cells (wnc { x with t := t }) ty (0, 0)) ∧
    Touch (fun k => k = b) w ((((w.setCell ⟨b, 3, none⟩ (.int .i64 t.c)).setCell ⟨b, 4, none⟩ (.int .i64 t.s)).setCell ⟨b, 5, none⟩ (.int .i64 t.m)).setCell ⟨b, 6, none⟩ (.int .i64 t.x)) := by
  obtain ⟨a1, t1⟩ := wn_set { x with t := ⟨t.c, x.t.s, x.t.m, x.t.x⟩ } 3 t.c h rfl
  obtain ⟨a2, t2⟩ := wn_set { x with t := ⟨t.c, t.s, x.t.m, x.t.x⟩ } 4 t.s a1 rfl
  obtain ⟨a3, t3⟩ := wn_set { x with t := ⟨t.c, t.s, t.m, x.t.x⟩ } 5 t.m a2 rfl
  obtain ⟨a4, t4⟩ := wn_set { x with t := t } 6 t.x a3 rfl
  exact ⟨a4, ((((Touch.refl (fun k => k = b) w).setCell (p := ⟨b, 3, none⟩) (fun _ => rfl) _).setCell (p := ⟨b, 4, none⟩) (fun _ => rfl) _).setCell (p := ⟨b, 5, none⟩) (fun _ => rfl) _).setCell (p := ⟨b, 6, none⟩) (fun _ => rfl) _⟩
theorem wn_frozen {w : World} {b : Nat} {c : Array Value} {ty : TypeId} (h : w.heap[b]? = some (.cells c ty (0, 0))) (o : Nat) : w.frozen? ⟨b, o, none⟩ = false := by simp [World.frozen?, h]

theorem infoTally : (Tryd.prog.info? 63).map (fun i => (i.zero, i.size, i.bytes)) = some (some (.agg #[.int .i64 0, .int .i64 0, .int .i64 0, .int .i64 0]), 4, 32) := by kernel_rfl
theorem infoWin : (Tryd.prog.info? 65).map (fun i => (i.zero, i.size, i.bytes)) = some (some (.agg #[.int .i64 0, .int .i64 0, .int .i64 0, .int .i64 0, .int .i64 0, .int .i64 0, .int .i64 0, .int .i64 0, .int .i64 0]), 9, 72) := by kernel_rfl
theorem elemWin : Tryd.prog.elem 38 = 65 := by kernel_rfl

/-- A window in its block turned whole. -/
theorem wn_all {w : World} {b : Nat} {x : Wn} {ty : TypeId} (r : Wn) (h : w.heap[b]? = some (.cells (wnc x) ty (0, 0))) :
    (((((((((w.setCell ⟨b, 0, none⟩ (.int .i64 r.a)).setCell ⟨b, 1, none⟩ (.int .i64 r.b)).setCell ⟨b, 2, none⟩ (.int .i64 r.h)).setCell ⟨b, 3, none⟩ (.int .i64 r.t.c)).setCell ⟨b, 4, none⟩ (.int .i64 r.t.s)).setCell ⟨b, 5, none⟩ (.int .i64 r.t.m)).setCell ⟨b, 6, none⟩ (.int .i64 r.t.x)).setCell ⟨b, 7, none⟩ (.int .i64 r.n)).setCell ⟨b, 8, none⟩ (.int .i64 r.p)).heap[b]? = some (.cells (wnc r) ty (0, 0)) ∧
    Touch (fun k => k = b) w (((((((((w.setCell ⟨b, 0, none⟩ (.int .i64 r.a)).setCell ⟨b, 1, none⟩ (.int .i64 r.b)).setCell ⟨b, 2, none⟩ (.int .i64 r.h)).setCell ⟨b, 3, none⟩ (.int .i64 r.t.c)).setCell ⟨b, 4, none⟩ (.int .i64 r.t.s)).setCell ⟨b, 5, none⟩ (.int .i64 r.t.m)).setCell ⟨b, 6, none⟩ (.int .i64 r.t.x)).setCell ⟨b, 7, none⟩ (.int .i64 r.n)).setCell ⟨b, 8, none⟩ (.int .i64 r.p)) := by
  obtain ⟨a0, -⟩ := wn_set { x with a := r.a } 0 r.a h rfl
  obtain ⟨a1, -⟩ := wn_set { x with a := r.a, b := r.b } 1 r.b a0 rfl
  obtain ⟨a2, -⟩ := wn_set { x with a := r.a, b := r.b, h := r.h } 2 r.h a1 rfl
  obtain ⟨a3, -⟩ := wn_tally r.t a2
  obtain ⟨a4, -⟩ := wn_set { r with p := x.p } 7 r.n a3 rfl
  obtain ⟨a5, -⟩ := wn_set r 8 r.p a4 rfl
  exact ⟨a5, (((((((((Touch.refl (fun k => k = b) w).setCell (p := ⟨b, 0, none⟩) (fun _ => rfl) _).setCell (p := ⟨b, 1, none⟩) (fun _ => rfl) _).setCell (p := ⟨b, 2, none⟩) (fun _ => rfl) _).setCell (p := ⟨b, 3, none⟩) (fun _ => rfl) _).setCell (p := ⟨b, 4, none⟩) (fun _ => rfl) _).setCell (p := ⟨b, 5, none⟩) (fun _ => rfl) _).setCell (p := ⟨b, 6, none⟩) (fun _ => rfl) _).setCell (p := ⟨b, 7, none⟩) (fun _ => rfl) _).setCell (p := ⟨b, 8, none⟩) (fun _ => rfl) _⟩

/-- A window's cells at a place. -/
def wcell (W : World) (b o : Nat) (x : Wn) : Prop :=
  (W.cell? ⟨b, o, none⟩ = some (.int .i64 x.a) ∧ W.cell? ⟨b, o + 1, none⟩ = some (.int .i64 x.b) ∧ W.cell? ⟨b, o + 2, none⟩ = some (.int .i64 x.h)) ∧
  (W.cell? ⟨b, o + 3, none⟩ = some (.int .i64 x.t.c) ∧ W.cell? ⟨b, o + 4, none⟩ = some (.int .i64 x.t.s) ∧ W.cell? ⟨b, o + 5, none⟩ = some (.int .i64 x.t.m) ∧ W.cell? ⟨b, o + 6, none⟩ = some (.int .i64 x.t.x)) ∧
  W.cell? ⟨b, o + 7, none⟩ = some (.int .i64 x.n) ∧ W.cell? ⟨b, o + 8, none⟩ = some (.int .i64 x.p)

/-- x[:k] of what begins its block. -/
theorem cut_to {P : Program} {t e : TypeId} {i : TypeInfo} (ht : P.underlying t = some (.slice e)) (he : P.elem t = e) (hi : P.info? e = some i) {g n cap k : Nat} (hk : k ≤ cap) (W : World) :
    (Instr.slice t (.slice (some ⟨g, 0, none⟩) n cap) none (some (.int .i64 (k : Nat))) none).run P W = .ok (.slice (some ⟨g, 0, none⟩) k cap) W := by
  rw [run_slice_h W t (some ⟨g, 0, none⟩) n cap (by rw [he]; exact ht) .i64 (k : Nat) (by omega) (by omega), he]
  simp only [sizeOf, typeInfo]
  simp [hi, sliced, Addr.add_lit]

end Go.Proofs.YtdcpmpbfnfjncaaDoor
