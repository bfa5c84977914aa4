/- A job, and how it lies in memory. Jobs: which field may be (the notions). A job's numbers (notions). -/
import Derived.Test.YtamfcmmhmfhhkaaDoorG1
namespace Go.Proofs.YtamfcmmhmfhhkaaDoor
open Go.RowKit

/-- A job. -/
structure Cf where
  gr : Int
  so : Int
  ki : Int
  sz : Int
  sl : Int
  of : Int
  gp : Int
  lt : Int
  ea : Int
  di : Bool
abbrev cfc (c : Cf) : Array Value := #[.int .i64 c.gr, .int .i64 c.so, .int .i64 c.ki, .int .i64 c.sz, .int .i64 c.sl, .int .i64 c.of, .int .i64 c.gp, .int .i64 c.lt, .int .i64 c.ea, .bool c.di]
abbrev cfv (c : Cf) : Value := .agg (cfc c)
theorem cf_cells {w : World} {b : Nat} {c : Cf} {ty : TypeId} (h : w.heap[b]? = some (.cells (cfc c) ty (0, 0))) :
    (w.cell? ⟨b, 0, none⟩ = some (.int .i64 c.gr) ∧ w.cell? ⟨b, 1, none⟩ = some (.int .i64 c.so) ∧ w.cell? ⟨b, 2, none⟩ = some (.int .i64 c.ki) ∧ w.cell? ⟨b, 3, none⟩ = some (.int .i64 c.sz) ∧ w.cell? ⟨b, 4, none⟩ = some (.int .i64 c.sl) ∧ w.cell? ⟨b, 5, none⟩ = some (.int .i64 c.of) ∧ w.cell? ⟨b, 6, none⟩ = some (.int .i64 c.gp)) ∧
    w.cell? ⟨b, 7, none⟩ = some (.int .i64 c.lt) ∧ w.cell? ⟨b, 8, none⟩ = some (.int .i64 c.ea) ∧ w.cell? ⟨b, 9, none⟩ = some (.bool c.di) := by simp [World.cell?, h]

end Go.Proofs.YtamfcmmhmfhhkaaDoor

namespace Go.Proofs.YtamfcmmhmfhhkaaDoor
open Go.RowKit

/-- From lo to hi? -/
def inB (x lo hi : Int) : Bool := decide (lo ≤ x) && decide (x ≤ hi)
/-- May the field of that number be? -/
def fieldB (c : Cf) : Nat → Bool
  | 1 => inB c.gr 1 32768
  | 2 => inB c.so 1 64
  | 3 => (c.ki == 1 || c.ki == 2) || c.ki == 3
  | 4 => if c.ki = 3 then c.sz == 0 else inB c.sz 1 1099511627776
  | 5 => if ¬ c.ki = 2 then c.sl == 0 else (inB c.sl 1 c.sz && decide (c.sz ≤ wrap64 (64 * c.sl)))
  | 6 => if c.ki = 1 then inB c.of 0 (wrap64 (c.sz - 1)) else if c.ki = 2 then inB c.of 0 (wrap64 (c.sl - 1)) else c.of == 0
  | 7 => if ¬ c.ki = 3 then c.gp == 0 else inB c.gp 1 1099511627776
  | 8 => inB c.lt 0 1099511627776
  | _ => inB c.ea 0 2147483647
/-- The first field from n on, of k, that may not be; 0: none. -/
def wrongF (c : Cf) : Nat → Nat → Nat
  | _, 0 => 0
  | n, k + 1 => if fieldB c n then wrongF c (n + 1) k else n
def wrongN (c : Cf) : Nat := wrongF c 1 9

end Go.Proofs.YtamfcmmhmfhhkaaDoor

namespace Go.Proofs.YtamfcmmhmfhhkaaDoor
open Go.RowKit
/-- Ten numbers; a job's. -/
abbrev f10c (f : Nat → Int) : Array Value := #[.int .i64 (f 0), .int .i64 (f 1), .int .i64 (f 2), .int .i64 (f 3), .int .i64 (f 4), .int .i64 (f 5), .int .i64 (f 6), .int .i64 (f 7), .int .i64 (f 8), .int .i64 (f 9)]
theorem f10_cells {w : World} {b : Nat} {f : Nat → Int} {ty : TypeId} (h : w.heap[b]? = some (.cells (f10c f) ty (0, 0))) (j : Nat) (hj : j < 10) : w.cell? ⟨b, j, none⟩ = some (.int .i64 (f j)) := by
  rcases (by omega : j = 0 ∨ j = 1 ∨ j = 2 ∨ j = 3 ∨ j = 4 ∨ j = 5 ∨ j = 6 ∨ j = 7 ∨ j = 8 ∨ j = 9) with rfl | rfl | rfl | rfl | rfl | rfl | rfl | rfl | rfl | rfl <;> simp [World.cell?, h]
def fldF (c : Cf) : Nat → Int
  | 0 => c.gr
  | 1 => c.so
  | 2 => c.ki
  | 3 => c.sz
  | 4 => c.sl
  | 5 => c.of
  | 6 => c.gp
  | 7 => c.lt
  | 8 => c.ea
  | _ => if c.di then 1 else 0
def ofF (f : Nat → Int) : Cf := ⟨f 0, f 1, f 2, f 3, f 4, f 5, f 6, f 7, f 8, f 9 == 1⟩

end Go.Proofs.YtamfcmmhmfhhkaaDoor
