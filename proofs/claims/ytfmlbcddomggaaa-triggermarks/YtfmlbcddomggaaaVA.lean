/- Panes and jobs: the notions, and how they lie in memory; no function is named here. -/
import Derived.Test.YtfmlbcddomggaaaMW0
namespace Go.Proofs.Ytfmlbcddomggaaa
open Go.RowKit

/-- A pane. -/
structure Pn where
  k : ByteArray
  a : Int
  b : Int
  d : Int
  n : Int
  t : Tl
abbrev pnc (p : Pn) : Array Value := #[.string p.k, .int .i64 p.a, .int .i64 p.b, .int .i64 p.d, .int .i64 p.n, .int .i64 p.t.c, .int .i64 p.t.s, .int .i64 p.t.m, .int .i64 p.t.x]
abbrev pnv (p : Pn) : Value := .agg (pnc p)
abbrev pn0 : Pn := ⟨⟨#[]⟩, 0, 0, 0, 0, tl0⟩
def encP : Rc.Enc Pn := ⟨9, fun x => (pnc x).toList, fun _ => rfl, fun _ u hu => by simp at hu; rcases hu with rfl | rfl | rfl | rfl | rfl | rfl | rfl | rfl | rfl <;> rfl, by decide⟩

/-- A pane's cells at a place. -/
def pcell (W : World) (b o : Nat) (x : Pn) : Prop :=
  (W.cell? ⟨b, o, none⟩ = some (.string x.k) ∧ W.cell? ⟨b, o + 1, none⟩ = some (.int .i64 x.a) ∧ W.cell? ⟨b, o + 2, none⟩ = some (.int .i64 x.b) ∧ W.cell? ⟨b, o + 3, none⟩ = some (.int .i64 x.d) ∧ W.cell? ⟨b, o + 4, none⟩ = some (.int .i64 x.n)) ∧
  (W.cell? ⟨b, o + 5, none⟩ = some (.int .i64 x.t.c) ∧ W.cell? ⟨b, o + 6, none⟩ = some (.int .i64 x.t.s) ∧ W.cell? ⟨b, o + 7, none⟩ = some (.int .i64 x.t.m) ∧ W.cell? ⟨b, o + 8, none⟩ = some (.int .i64 x.t.x))

theorem pn_at {w : World} {ao : Option Addr} {L : List Pn} (h : encP.Mem w ao L) (j : Nat) (hj : j < L.length) : ∃ b off, ao = some ⟨b, off, none⟩ ∧ pcell w b (off + j * 9) (L.getD j pn0) := by
  obtain ⟨b, off, e, g⟩ := Rc.Mem.at h j hj
  rw [List.getD_eq_getElem?_getD, List.getElem?_eq_getElem hj]
  exact ⟨b, off, e, ⟨g 0 _ rfl, g 1 _ rfl, g 2 _ rfl, g 3 _ rfl, g 4 _ rfl⟩, g 5 _ rfl, g 6 _ rfl, g 7 _ rfl, g 8 _ rfl⟩

theorem pn_cells {w : World} {b : Nat} {x : Pn} {ty : TypeId} (h : w.heap[b]? = some (.cells (pnc x) ty (0, 0))) :
    (w.cell? ⟨b, 0, none⟩ = some (.string x.k) ∧ w.cell? ⟨b, 1, none⟩ = some (.int .i64 x.a) ∧ w.cell? ⟨b, 2, none⟩ = some (.int .i64 x.b) ∧ w.cell? ⟨b, 3, none⟩ = some (.int .i64 x.d) ∧ w.cell? ⟨b, 4, none⟩ = some (.int .i64 x.n)) ∧
    (w.cell? ⟨b, 5, none⟩ = some (.int .i64 x.t.c) ∧ w.cell? ⟨b, 6, none⟩ = some (.int .i64 x.t.s) ∧ w.cell? ⟨b, 7, none⟩ = some (.int .i64 x.t.m) ∧ w.cell? ⟨b, 8, none⟩ = some (.int .i64 x.t.x)) := by simp [World.cell?, h]

theorem pn_set {w : World} {b : Nat} {x : Pn} {ty : TypeId} (r : Pn) (o : Nat) (v : Value) (h : w.heap[b]? = some (.cells (pnc x) ty (0, 0))) (hr : (pnc x).setIfInBounds o v = pnc r) : (w.setCell ⟨b, o, none⟩ v).heap[b]? = some (.cells (pnc r) ty (0, 0)) := by
  have k1 := heap_setCell_row (i := o) h v
  rw [hr] at k1
  exact k1

/-- A pane in its block turned whole. -/
theorem pn_all {w : World} {b : Nat} {x : Pn} {ty : TypeId} (r : Pn) (h : w.heap[b]? = some (.cells (pnc x) ty (0, 0))) :
    (((((((((w.setCell ⟨b, 0, none⟩ (.string r.k)).setCell ⟨b, 1, none⟩ (.int .i64 r.a)).setCell ⟨b, 2, none⟩ (.int .i64 r.b)).setCell ⟨b, 3, none⟩ (.int .i64 r.d)).setCell ⟨b, 4, none⟩ (.int .i64 r.n)).setCell ⟨b, 5, none⟩ (.int .i64 r.t.c)).setCell ⟨b, 6, none⟩ (.int .i64 r.t.s)).setCell ⟨b, 7, none⟩ (.int .i64 r.t.m)).setCell ⟨b, 8, none⟩ (.int .i64 r.t.x)).heap[b]? = some (.cells (pnc r) ty (0, 0)) ∧
    Touch (fun k => k = b) w (((((((((w.setCell ⟨b, 0, none⟩ (.string r.k)).setCell ⟨b, 1, none⟩ (.int .i64 r.a)).setCell ⟨b, 2, none⟩ (.int .i64 r.b)).setCell ⟨b, 3, none⟩ (.int .i64 r.d)).setCell ⟨b, 4, none⟩ (.int .i64 r.n)).setCell ⟨b, 5, none⟩ (.int .i64 r.t.c)).setCell ⟨b, 6, none⟩ (.int .i64 r.t.s)).setCell ⟨b, 7, none⟩ (.int .i64 r.t.m)).setCell ⟨b, 8, none⟩ (.int .i64 r.t.x)) := by
  have k0 := pn_set { x with k := r.k } 0 (.string r.k) h rfl
  have k1 := pn_set { x with k := r.k, a := r.a } 1 (.int .i64 r.a) k0 rfl
  have k2 := pn_set { x with k := r.k, a := r.a, b := r.b } 2 (.int .i64 r.b) k1 rfl
  have k3 := pn_set { x with k := r.k, a := r.a, b := r.b, d := r.d } 3 (.int .i64 r.d) k2 rfl
  have k4 := pn_set { r with t := x.t } 4 (.int .i64 r.n) k3 rfl
  have k5 := pn_set { r with t := ⟨r.t.c, x.t.s, x.t.m, x.t.x⟩ } 5 (.int .i64 r.t.c) k4 rfl
  have k6 := pn_set { r with t := ⟨r.t.c, r.t.s, x.t.m, x.t.x⟩ } 6 (.int .i64 r.t.s) k5 rfl
  have k7 := pn_set { r with t := ⟨r.t.c, r.t.s, r.t.m, x.t.x⟩ } 7 (.int .i64 r.t.m) k6 rfl
  have k8 := pn_set r 8 (.int .i64 r.t.x) k7 rfl
  exact ⟨k8, (((((((((Touch.refl (fun k => k = b) w).setCell (p := ⟨b, 0, none⟩) (fun _ => rfl) _).setCell (p := ⟨b, 1, none⟩) (fun _ => rfl) _).setCell (p := ⟨b, 2, none⟩) (fun _ => rfl) _).setCell (p := ⟨b, 3, none⟩) (fun _ => rfl) _).setCell (p := ⟨b, 4, none⟩) (fun _ => rfl) _).setCell (p := ⟨b, 5, none⟩) (fun _ => rfl) _).setCell (p := ⟨b, 6, none⟩) (fun _ => rfl) _).setCell (p := ⟨b, 7, none⟩) (fun _ => rfl) _).setCell (p := ⟨b, 8, none⟩) (fun _ => rfl) _⟩

theorem infoPane : (Try.prog.info? 37).map (fun i => (i.zero, i.size, i.bytes)) = some (some (pnv pn0), 9, 80) := by kernel_rfl
theorem elemPane : Try.prog.elem 46 = 37 := by kernel_rfl

/-- A job. -/
structure Cf where
  gr : Int
  so : Int
  ki : Int
  sz : Int
  sl : Int
  of : Int
  gp : Int
  lt : Int
  ea : Int
  di : Bool
abbrev cfc (c : Cf) : Array Value := #[.int .i64 c.gr, .int .i64 c.so, .int .i64 c.ki, .int .i64 c.sz, .int .i64 c.sl, .int .i64 c.of, .int .i64 c.gp, .int .i64 c.lt, .int .i64 c.ea, .bool c.di]
abbrev cfv (c : Cf) : Value := .agg (cfc c)
theorem cf_cells {w : World} {b : Nat} {c : Cf} {ty : TypeId} (h : w.heap[b]? = some (.cells (cfc c) ty (0, 0))) :
    (w.cell? ⟨b, 0, none⟩ = some (.int .i64 c.gr) ∧ w.cell? ⟨b, 1, none⟩ = some (.int .i64 c.so) ∧ w.cell? ⟨b, 2, none⟩ = some (.int .i64 c.ki) ∧ w.cell? ⟨b, 3, none⟩ = some (.int .i64 c.sz) ∧ w.cell? ⟨b, 4, none⟩ = some (.int .i64 c.sl) ∧ w.cell? ⟨b, 5, none⟩ = some (.int .i64 c.of) ∧ w.cell? ⟨b, 6, none⟩ = some (.int .i64 c.gp)) ∧
    w.cell? ⟨b, 7, none⟩ = some (.int .i64 c.lt) ∧ w.cell? ⟨b, 8, none⟩ = some (.int .i64 c.ea) ∧ w.cell? ⟨b, 9, none⟩ = some (.bool c.di) := by simp [World.cell?, h]

/-- Two results that lie in blocks of their own; one that does, one that does not. -/
theorem results_cell2 {P : Program} {fn : Func} {p p2 : Tmp} {ty ty2 : TypeId} (h : fn.results = #[.cell p ty, .cell p2 ty2]) (tmps : Array Value) (w : World) (g : Nat) (t : TypeId) (cs : Array Value) (fr : Nat × Nat) (d : TypeDesc)
    (hp : tmps.getD p undef = .pointer (some ⟨g, 0, none⟩)) (hg : w.heap[g]? = some (.cells cs t fr)) (hu : P.underlying ty = some d) (hd : (match d with | .struct _ | .array _ _ => true | _ => false) = true) (hi : (P.info? ty).map (·.size) = some cs.size)
    (g2 : Nat) (t2 : TypeId) (cs2 : Array Value) (fr2 : Nat × Nat) (d2 : TypeDesc)
    (hp2 : tmps.getD p2 undef = .pointer (some ⟨g2, 0, none⟩)) (hg2 : w.heap[g2]? = some (.cells cs2 t2 fr2)) (hu2 : P.underlying ty2 = some d2) (hd2 : (match d2 with | .struct _ | .array _ _ => true | _ => false) = true) (hi2 : (P.info? ty2).map (·.size) = some cs2.size) :
    (results fn tmps).run P w = .ok (.tuple #[.agg cs, .agg cs2]) w := by
  have hp' : tmps[p]?.getD undef = .pointer (some ⟨g, 0, none⟩) := by simpa using hp
  have hp2' : tmps[p2]?.getD undef = .pointer (some ⟨g2, 0, none⟩) := by simpa using hp2
  simp [results, h, hp', hp2', asAddr, run_loadVar_row w g t ty cs fr d hg hu hd hi, run_loadVar_row w g2 t2 ty2 cs2 fr2 d2 hg2 hu2 hd2 hi2]
theorem results_cell_slot {P : Program} {fn : Func} {p u : Tmp} {ty : TypeId} (h : fn.results = #[.cell p ty, .tmp u]) (tmps : Array Value) (w : World) (g : Nat) (t : TypeId) (cs : Array Value) (fr : Nat × Nat) (d : TypeDesc)
    (hp : tmps.getD p undef = .pointer (some ⟨g, 0, none⟩)) (hg : w.heap[g]? = some (.cells cs t fr)) (hu : P.underlying ty = some d) (hd : (match d with | .struct _ | .array _ _ => true | _ => false) = true) (hi : (P.info? ty).map (·.size) = some cs.size) (v : Value) (hv : tmps.getD u undef = v) :
    (results fn tmps).run P w = .ok (.tuple #[.agg cs, v]) w := by
  have hp' : tmps[p]?.getD undef = .pointer (some ⟨g, 0, none⟩) := by simpa using hp
  have hv' : tmps[u]?.getD undef = v := by simpa using hv
  simp [results, h, hp', hv', asAddr, run_loadVar_row w g t ty cs fr d hg hu hd hi]

/-- One more. -/
def moreN (n : Int) : Int := if 9007199254740992 ≤ n then 9007199254740992 else n + 1
/-- Which pane is told behind an event; is one told. -/
def behK (ea m : Int) (x : Wn) : Int := if x.b ≤ m then 3 else if ¬ ea = 0 ∧ ea ≤ x.n then 1 else 0
def behB (ea m : Int) (x : Wn) : Bool := decide (x.b ≤ m) || (decide (¬ ea = 0) && decide (ea ≤ x.n))
/-- Is one told at a mark. -/
def onT (x : Wn) (f t : Int) : Bool := decide (f < x.b) && decide (x.b ≤ t)
/-- The pane of a window; the window behind it. -/
def tellP (k : ByteArray) (x : Wn) (d : Int) : Pn := ⟨k, x.a, x.b, d, x.p, x.t⟩
def tellW (x : Wn) (di : Bool) : Wn := ⟨x.a, x.b, x.h, if di then tl0 else x.t, 0, moreN x.p⟩
/-- A window behind a value. -/
def grewW (x : Wn) (v t m : Int) : Wn := ⟨x.a, x.b, min x.h (max t m), addT x.t v, moreN x.n, x.p⟩
/-- An event: the window behind it, and the panes. -/
def evW (c : Cf) (x : Wn) (v t m : Int) : Wn := if behB c.ea m (grewW x v t m) then tellW (grewW x v t m) c.di else grewW x v t m
def evP (c : Cf) (k : ByteArray) (x : Wn) (v t m : Int) : List Pn := if behB c.ea m (grewW x v t m) then [tellP k (grewW x v t m) (behK c.ea m (grewW x v t m))] else []
/-- Is a span's end and what may be late past a mark? -/
def overB (b late m : Int) : Bool := decide (b + late ≤ m)

/-- All numbers of a window have 64 bits. -/
structure Wn.Ok (x : Wn) : Prop where
  a : I64 x.a
  b : I64 x.b
  h : I64 x.h
  t : x.t.Ok
  n : I64 x.n
  p : I64 x.p

theorem moreN_ok {n : Int} (h : I64 n) : I64 (moreN n) := by unfold moreN I64 at *; split <;> omega

end Go.Proofs.Ytfmlbcddomggaaa
