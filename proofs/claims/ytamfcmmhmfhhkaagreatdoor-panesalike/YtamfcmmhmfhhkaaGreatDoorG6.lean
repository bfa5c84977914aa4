/- A job, and how it lies in memory. Jobs: which field may be (the notions). A job's numbers (notions). Bytes in memory. -/
import Derived.Test.YtamfcmmhmfhhkaaGreatDoorG0
import Derived.Test.YtamfcmmhmfhhkaaGreatDoorG1
import Derived.Test.YtamfcmmhmfhhkaaGreatDoorG2
namespace Go.Proofs.YtamfcmmhmfhhkaaGreatDoor
open Go.RowKit

/-- A job. -/
structure Cf where
  gr : Int
  so : Int
  ki : Int
  sz : Int
  sl : Int
  of : Int
  gp : Int
  lt : Int
  ea : Int
  di : Bool
abbrev cfc (c : Cf) : Array Value := #[.int .i64 c.gr, .int .i64 c.so, .int .i64 c.ki, .int .i64 c.sz, .int .i64 c.sl, .int .i64 c.of, .int .i64 c.gp, .int .i64 c.lt, .int .i64 c.ea, .bool c.di]
abbrev cfv (c : Cf) : Value := .agg (cfc c)
theorem cf_cells {w : World} {b : Nat} {c : Cf} {ty : TypeId} (h : w.heap[b]? = some (.cells (cfc c) ty (0, 0))) :
    (w.cell? ⟨b, 0, none⟩ = some (.int .i64 c.gr) ∧ w.cell? ⟨b, 1, none⟩ = some (.int .i64 c.so) ∧ w.cell? ⟨b, 2, none⟩ = some (.int .i64 c.ki) ∧ w.cell? ⟨b, 3, none⟩ = some (.int .i64 c.sz) ∧ w.cell? ⟨b, 4, none⟩ = some (.int .i64 c.sl) ∧ w.cell? ⟨b, 5, none⟩ = some (.int .i64 c.of) ∧ w.cell? ⟨b, 6, none⟩ = some (.int .i64 c.gp)) ∧
    w.cell? ⟨b, 7, none⟩ = some (.int .i64 c.lt) ∧ w.cell? ⟨b, 8, none⟩ = some (.int .i64 c.ea) ∧ w.cell? ⟨b, 9, none⟩ = some (.bool c.di) := by simp [World.cell?, h]

end Go.Proofs.YtamfcmmhmfhhkaaGreatDoor

namespace Go.Proofs.YtamfcmmhmfhhkaaGreatDoor
open Go.RowKit

/-- From lo to hi? -/
def inB (x lo hi : Int) : Bool := decide (lo ≤ x) && decide (x ≤ hi)
/-- May the field of that number be? -/
def fieldB (c : Cf) : Nat → Bool
  | 1 => inB c.gr 1 32768
  | 2 => inB c.so 1 64
  | 3 => (c.ki == 1 || c.ki == 2) || c.ki == 3
  | 4 => if c.ki = 3 then c.sz == 0 else inB c.sz 1 1099511627776
  | 5 => if ¬ c.ki = 2 then c.sl == 0 else (inB c.sl 1 c.sz && decide (c.sz ≤ wrap64 (64 * c.sl)))
  | 6 => if c.ki = 1 then inB c.of 0 (wrap64 (c.sz - 1)) else if c.ki = 2 then inB c.of 0 (wrap64 (c.sl - 1)) else c.of == 0
  | 7 => if ¬ c.ki = 3 then c.gp == 0 else inB c.gp 1 1099511627776
  | 8 => inB c.lt 0 1099511627776
  | _ => inB c.ea 0 2147483647
/-- The first field from n on, of k, that may not be; 0: none. -/
def wrongF (c : Cf) : Nat → Nat → Nat
  | _, 0 => 0
  | n, k + 1 => if fieldB c n then wrongF c (n + 1) k else n
def wrongN (c : Cf) : Nat := wrongF c 1 9

end Go.Proofs.YtamfcmmhmfhhkaaGreatDoor

namespace Go.Proofs.YtamfcmmhmfhhkaaGreatDoor
open Go.RowKit
/-- Ten numbers; a job's. -/
abbrev f10c (f : Nat → Int) : Array Value := #[.int .i64 (f 0), .int .i64 (f 1), .int .i64 (f 2), .int .i64 (f 3), .int .i64 (f 4), .int .i64 (f 5), .int .i64 (f 6), .int .i64 (f 7), .int .i64 (f 8), .int .i64 (f 9)]
theorem f10_cells {w : World} {b : Nat} {f : Nat → Int} {ty : TypeId} (h : w.heap[b]? = some (.cells (f10c f) ty (0, 0))) (j : Nat) (hj : j < 10) : w.cell? ⟨b, j, none⟩ = some (.int .i64 (f j)) := by
  rcases (by omega : j = 0 ∨ j = 1 ∨ j = 2 ∨ j = 3 ∨ j = 4 ∨ j = 5 ∨ j = 6 ∨ j = 7 ∨ j = 8 ∨ j = 9) with rfl | rfl | rfl | rfl | rfl | rfl | rfl | rfl | rfl | rfl <;> simp [World.cell?, h]
def fldF (c : Cf) : Nat → Int
  | 0 => c.gr
  | 1 => c.so
  | 2 => c.ki
  | 3 => c.sz
  | 4 => c.sl
  | 5 => c.of
  | 6 => c.gp
  | 7 => c.lt
  | 8 => c.ea
  | _ => if c.di then 1 else 0
def ofF (f : Nat → Int) : Cf := ⟨f 0, f 1, f 2, f 3, f 4, f 5, f 6, f 7, f 8, f 9 == 1⟩

end Go.Proofs.YtamfcmmhmfhhkaaGreatDoor

namespace Go.Proofs.YtamfcmmhmfhhkaaGreatDoor
open Go.RowKit

/-- Bytes as records of one cell. -/
def encB : Rc.Enc Int := ⟨1, fun x => [.int .u8 x], fun _ => rfl, fun _ u hu => by simp at hu; subst hu; rfl, by decide⟩
theorem encB_flat (L : List Int) : encB.flat L = L.map (Value.int .u8) := by
  induction L with
  | nil => rfl
  | cons x L ih => show [Value.int .u8 x] ++ encB.flat L = _; rw [ih]; rfl
theorem infoByte : (Tryz.prog.info? 5).map (fun i => (i.zero, i.size, i.bytes)) = some (some (.int .u8 0), 1, 1) := by kernel_rfl
theorem elemByte : Tryz.prog.elem 64 = 5 := by kernel_rfl

/-- A byte's cell. -/
theorem by_at {w : World} {ao : Option Addr} {L : List Int} (h : encB.Mem w ao L) (j : Nat) (hj : j < L.length) : ∃ b off, ao = some ⟨b, off, none⟩ ∧ w.cell? ⟨b, off + j, none⟩ = some (.int .u8 (L.getD j 0)) := by
  obtain ⟨b, off, e, g⟩ := Rc.Mem.at h j hj
  rw [List.getD_eq_getElem?_getD, List.getElem?_eq_getElem hj]
  have := g 0 _ rfl
  have e1 : encB.n = 1 := rfl
  rw [e1, Nat.mul_one] at this
  exact ⟨b, off, e, this⟩

/-- One byte more. -/
theorem by_app {w : World} {base : Nat} {ao : Option Addr} {cap : Nat} {A : List Int} (b : Int) (h : encB.Own 5 w base (.slice ao A.length cap) A) (hs : base ≤ w.heap.size) (hn : A.length ≤ 100000000000000) :
    ∃ a2 p2 w4, (Builtin.append_ #[64, 64] 64 #[.slice ao A.length cap, .slice (some ⟨w.heap.size, 0, none⟩) 1 1]).run Tryz.prog (w.alloc (.cells #[.int .u8 b] 5)) = .ok (.slice a2 (A.length + 1) p2) w4 ∧
      encB.Own 5 w4 base (.slice a2 (A ++ [b]).length p2) (A ++ [b]) ∧ Touch (fun d => (Value.slice ao A.length cap).ownBlock = some d) w w4 := by
  obtain ⟨i0, hi, hz, hsz, hby⟩ := Rc.info_parts infoByte
  have own := Rc.Own.calm h ((Touch.refl (fun _ => False) w).alloc (.cells #[.int .u8 b] 5))
  have hs1 := al_size w (.cells #[.int .u8 b] 5)
  obtain ⟨a2, p2, w4, hr, ow, t2, -⟩ := Rc.Own.appw (E := encB) (ty := 64) Tryz.underlying64 hi hz hsz hby rfl own (some ⟨w.heap.size, 0, none⟩) 1 [b] (Rc.Mem.new w [b] 5) (fun h => (nomatch h)) (by simp; unfold maxLen; omega) (by simp; omega) (by omega) (by omega)
  have e3 : (A ++ [b]).length = A.length + 1 := by simp
  refine ⟨a2, p2, w4, by rw [← e3]; exact hr, ow, ?_⟩
  exact Touch.trans (((Touch.refl (fun _ => False) w).alloc _).mono fun _ _ h => h.elim) t2 fun _ _ h => h

/-- Many bytes more. -/
theorem by_apps {w : World} {base : Nat} {ao : Option Addr} {cap : Nat} {A : List Int} (h : encB.Own 5 w base (.slice ao A.length cap) A) (bo : Option Addr) (bc : Nat) (M : List Int) (hp : encB.Mem w bo M) (hc : bo = none → bc = 0) (hs : base ≤ w.heap.size) (hn : A.length + M.length ≤ 100000000000000) :
    ∃ a2 p2 w4, (Builtin.append_ #[64, 64] 64 #[.slice ao A.length cap, .slice bo M.length bc]).run Tryz.prog w = .ok (.slice a2 (A ++ M).length p2) w4 ∧
      encB.Own 5 w4 base (.slice a2 (A ++ M).length p2) (A ++ M) ∧ Touch (fun d => (Value.slice ao A.length cap).ownBlock = some d) w w4 := by
  obtain ⟨i0, hi, hz, hsz, hby⟩ := Rc.info_parts infoByte
  obtain ⟨a2, p2, w4, hr, ow, t2, -⟩ := Rc.Own.appw (E := encB) (ty := 64) Tryz.underlying64 hi hz hsz hby rfl h bo bc M hp hc (by unfold maxLen; omega) (by omega) (by omega) hs
  exact ⟨a2, p2, w4, hr, ow, t2⟩

/-- A row of one's own that was grown stays apart from all that was there. -/
theorem own_calm {α : Type} {E : Rc.Enc α} {e : TypeId} {w0 w w' : World} {base : Nat} {v : Value} {L : List α} (h : E.Own e w base v L) (ht : Touch (fun d => v.ownBlock = some d) w w') (h0 : Calm w0 w) (hb : w0.heap.size ≤ base) : Calm w0 w' :=
  Rc.Own.fresh h ht (fun _ h => h) h0 hb

/-- What a function answers that makes bytes. -/
def RetB (w : World) (e : Ending) (w' : World) (L : List Int) : Prop := ∃ ao cap, e = .returned (.slice ao L.length cap) ∧ encB.Own 5 w' w.heap.size (.slice ao L.length cap) L ∧ Calm w w'

end Go.Proofs.YtamfcmmhmfhhkaaGreatDoor
