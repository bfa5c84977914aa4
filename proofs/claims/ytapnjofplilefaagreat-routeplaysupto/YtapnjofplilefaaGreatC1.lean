/- Items: how they lie in memory. Jobs: which field may be (the notions). A job's numbers (notions). Cells that may be written; x[:k]. Times (the notion). Items: which may be (the notion). -/
import Derived.Test.YtapnjofplilefaaGreatSBase
import Derived.Test.YtapnjofplilefaaGreatV2
import Derived.Test.YtapnjofplilefaaGreatMR
namespace Go.Proofs.YtapnjofplilefaaGreat
open Go.RowKit

/-- An item. -/
structure It where
  ki : Int
  ke : ByteArray
  tm : Int
  va : Int
  sr : Int
abbrev itc (x : It) : Array Value := #[.int .i64 x.ki, .string x.ke, .int .i64 x.tm, .int .i64 x.va, .int .i64 x.sr]
abbrev itv (x : It) : Value := .agg (itc x)
theorem it_cells {w : World} {b : Nat} {x : It} {ty : TypeId} (h : w.heap[b]? = some (.cells (itc x) ty (0, 0))) :
    w.cell? ⟨b, 0, none⟩ = some (.int .i64 x.ki) ∧ w.cell? ⟨b, 1, none⟩ = some (.string x.ke) ∧ w.cell? ⟨b, 2, none⟩ = some (.int .i64 x.tm) ∧ w.cell? ⟨b, 3, none⟩ = some (.int .i64 x.va) ∧ w.cell? ⟨b, 4, none⟩ = some (.int .i64 x.sr) := by simp [World.cell?, h]

end Go.Proofs.YtapnjofplilefaaGreat

namespace Go.Proofs.YtapnjofplilefaaGreat
open Go.RowKit

/-- From lo to hi? -/
def inB (x lo hi : Int) : Bool := decide (lo ≤ x) && decide (x ≤ hi)
/-- May the field of that number be? -/
def fieldB (c : Cf) : Nat → Bool
  | 1 => inB c.gr 1 32768
  | 2 => inB c.so 1 64
  | 3 => (c.ki == 1 || c.ki == 2) || c.ki == 3
  | 4 => if c.ki = 3 then c.sz == 0 else inB c.sz 1 1099511627776
  | 5 => if ¬ c.ki = 2 then c.sl == 0 else (inB c.sl 1 c.sz && decide (c.sz ≤ wrap64 (64 * c.sl)))
  | 6 => if c.ki = 1 then inB c.of 0 (wrap64 (c.sz - 1)) else if c.ki = 2 then inB c.of 0 (wrap64 (c.sl - 1)) else c.of == 0
  | 7 => if ¬ c.ki = 3 then c.gp == 0 else inB c.gp 1 1099511627776
  | 8 => inB c.lt 0 1099511627776
  | _ => inB c.ea 0 2147483647
/-- The first field from n on, of k, that may not be; 0: none. -/
def wrongF (c : Cf) : Nat → Nat → Nat
  | _, 0 => 0
  | n, k + 1 => if fieldB c n then wrongF c (n + 1) k else n
def wrongN (c : Cf) : Nat := wrongF c 1 9

end Go.Proofs.YtapnjofplilefaaGreat

namespace Go.Proofs.YtapnjofplilefaaGreat
open Go.RowKit
/-- Ten numbers; a job's. -/
abbrev f10c (f : Nat → Int) : Array Value := #[.int .i64 (f 0), .int .i64 (f 1), .int .i64 (f 2), .int .i64 (f 3), .int .i64 (f 4), .int .i64 (f 5), .int .i64 (f 6), .int .i64 (f 7), .int .i64 (f 8), .int .i64 (f 9)]
theorem f10_cells {w : World} {b : Nat} {f : Nat → Int} {ty : TypeId} (h : w.heap[b]? = some (.cells (f10c f) ty (0, 0))) (j : Nat) (hj : j < 10) : w.cell? ⟨b, j, none⟩ = some (.int .i64 (f j)) := by
  rcases (by omega : j = 0 ∨ j = 1 ∨ j = 2 ∨ j = 3 ∨ j = 4 ∨ j = 5 ∨ j = 6 ∨ j = 7 ∨ j = 8 ∨ j = 9) with rfl | rfl | rfl | rfl | rfl | rfl | rfl | rfl | rfl | rfl <;> simp [World.cell?, h]
def fldF (c : Cf) : Nat → Int
  | 0 => c.gr
  | 1 => c.so
  | 2 => c.ki
  | 3 => c.sz
  | 4 => c.sl
  | 5 => c.of
  | 6 => c.gp
  | 7 => c.lt
  | 8 => c.ea
  | _ => if c.di then 1 else 0
def ofF (f : Nat → Int) : Cf := ⟨f 0, f 1, f 2, f 3, f 4, f 5, f 6, f 7, f 8, f 9 == 1⟩

end Go.Proofs.YtapnjofplilefaaGreat

namespace Go.Proofs.YtapnjofplilefaaGreat
open Go.RowKit

theorem wn_frozen {w : World} {b : Nat} {c : Array Value} {ty : TypeId} (h : w.heap[b]? = some (.cells c ty (0, 0))) (o : Nat) : w.frozen? ⟨b, o, none⟩ = false := by simp [World.frozen?, h]

/-- x[:k] of what begins its block. -/
theorem cut_to {P : Program} {t e : TypeId} {i : TypeInfo} (ht : P.underlying t = some (.slice e)) (he : P.elem t = e) (hi : P.info? e = some i) {g n cap k : Nat} (hk : k ≤ cap) (W : World) :
    (Instr.slice t (.slice (some ⟨g, 0, none⟩) n cap) none (some (.int .i64 (k : Nat))) none).run P W = .ok (.slice (some ⟨g, 0, none⟩) k cap) W := by
  rw [run_slice_h W t (some ⟨g, 0, none⟩) n cap (by rw [he]; exact ht) .i64 (k : Nat) (by omega) (by omega), he]
  simp only [sizeOf, typeInfo]
  simp [hi, sliced, Addr.add_lit]

end Go.Proofs.YtapnjofplilefaaGreat

namespace Go.Proofs.YtapnjofplilefaaGreat
open Go.RowKit

/-- A time? -/
def timeB (t : Int) : Bool := inB t (-4611686018427387904) 4611686018427387904

end Go.Proofs.YtapnjofplilefaaGreat

namespace Go.Proofs.YtapnjofplilefaaGreat
open Go.RowKit

/-- May the item be for the job? -/
def itemB (c : Cf) (x : It) : Bool :=
  if x.ki = 1 then (decide (x.ke.size ≤ 256) && timeB x.tm) && x.sr == 0
  else if x.ki = 2 then (((decide (0 ≤ x.sr) && decide (x.sr < c.so)) && timeB x.tm) && x.ke.toList == []) && x.va == 0
  else if x.ki = 3 then x.ke.toList == [] && (x.tm == 0 && (x.va == 0 && x.sr == 0))
  else false
/-- What the document's Item answers. -/
def itemN (c : Cf) (x : It) : Nat := if wrongN c ≠ 0 then 4 else if itemB c x then 0 else 5

end Go.Proofs.YtapnjofplilefaaGreat
