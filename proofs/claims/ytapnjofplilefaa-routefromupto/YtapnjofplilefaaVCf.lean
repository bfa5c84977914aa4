/- A job, and how it lies in memory. -/
import Derived.Test.YtapnjofplilefaaSBase
namespace Go.Proofs.Ytapnjofplilefaa
open Go.RowKit

/-- A job. -/
structure Cf where
  gr : Int
  so : Int
  ki : Int
  sz : Int
  sl : Int
  of : Int
  gp : Int
  lt : Int
  ea : Int
  di : Bool
abbrev cfc (c : Cf) : Array Value := #[.int .i64 c.gr, .int .i64 c.so, .int .i64 c.ki, .int .i64 c.sz, .int .i64 c.sl, .int .i64 c.of, .int .i64 c.gp, .int .i64 c.lt, .int .i64 c.ea, .bool c.di]
abbrev cfv (c : Cf) : Value := .agg (cfc c)
theorem cf_cells {w : World} {b : Nat} {c : Cf} {ty : TypeId} (h : w.heap[b]? = some (.cells (cfc c) ty (0, 0))) :
    (w.cell? ⟨b, 0, none⟩ = some (.int .i64 c.gr) ∧ w.cell? ⟨b, 1, none⟩ = some (.int .i64 c.so) ∧ w.cell? ⟨b, 2, none⟩ = some (.int .i64 c.ki) ∧ w.cell? ⟨b, 3, none⟩ = some (.int .i64 c.sz) ∧ w.cell? ⟨b, 4, none⟩ = some (.int .i64 c.sl) ∧ w.cell? ⟨b, 5, none⟩ = some (.int .i64 c.of) ∧ w.cell? ⟨b, 6, none⟩ = some (.int .i64 c.gp)) ∧
    w.cell? ⟨b, 7, none⟩ = some (.int .i64 c.lt) ∧ w.cell? ⟨b, 8, none⟩ = some (.int .i64 c.ea) ∧ w.cell? ⟨b, 9, none⟩ = some (.bool c.di) := by simp [World.cell?, h]

end Go.Proofs.Ytapnjofplilefaa
