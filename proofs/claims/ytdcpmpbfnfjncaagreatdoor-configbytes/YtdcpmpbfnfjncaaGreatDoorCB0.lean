/- A job's numbers and bytes (notions). -/
import Derived.Test.YtdcpmpbfnfjncaaGreatDoorCA
import Derived.Test.YtdcpmpbfnfjncaaGreatDoorMRw
import Derived.Test.YtdcpmpbfnfjncaaGreatDoorNum
namespace Go.Proofs.YtdcpmpbfnfjncaaGreatDoor
open Go.RowKit

/-- Bytes as records of one cell. -/
def encB : Rc.Enc Int := ⟨1, fun x => [.int .u8 x], fun _ => rfl, fun _ u hu => by simp at hu; subst hu; rfl, by decide⟩
theorem encB_flat (L : List Int) : encB.flat L = L.map (Value.int .u8) := by
  induction L with
  | nil => rfl
  | cons x L ih => show [Value.int .u8 x] ++ encB.flat L = _; rw [ih]; rfl
theorem infoByte : (Tryz.prog.info? 5).map (fun i => (i.zero, i.size, i.bytes)) = some (some (.int .u8 0), 1, 1) := by kernel_rfl
theorem elemByte : Tryz.prog.elem 25 = 5 := by kernel_rfl

/-- A byte's cell. -/
theorem by_at {w : World} {ao : Option Addr} {L : List Int} (h : encB.Mem w ao L) (j : Nat) (hj : j < L.length) : ∃ b off, ao = some ⟨b, off, none⟩ ∧ w.cell? ⟨b, off + j, none⟩ = some (.int .u8 (L.getD j 0)) := by
  obtain ⟨b, off, e, g⟩ := Rc.Mem.at h j hj
  rw [List.getD_eq_getElem?_getD, List.getElem?_eq_getElem hj]
  have := g 0 _ rfl
  have e1 : encB.n = 1 := rfl
  rw [e1, Nat.mul_one] at this
  exact ⟨b, off, e, this⟩

/-- One byte more. -/
theorem by_app {w : World} {base : Nat} {ao : Option Addr} {cap : Nat} {A : List Int} (b : Int) (h : encB.Own 5 w base (.slice ao A.length cap) A) (hs : base ≤ w.heap.size) (hn : A.length ≤ 100000000000000) :
    ∃ a2 p2 w4, (Builtin.append_ #[25, 25] 25 #[.slice ao A.length cap, .slice (some ⟨w.heap.size, 0, none⟩) 1 1]).run Tryz.prog (w.alloc (.cells #[.int .u8 b] 5)) = .ok (.slice a2 (A.length + 1) p2) w4 ∧
      encB.Own 5 w4 base (.slice a2 (A ++ [b]).length p2) (A ++ [b]) ∧ Touch (fun d => (Value.slice ao A.length cap).ownBlock = some d) w w4 := by
  obtain ⟨i0, hi, hz, hsz, hby⟩ := Rc.info_parts infoByte
  have own := Rc.Own.calm h ((Touch.refl (fun _ => False) w).alloc (.cells #[.int .u8 b] 5))
  have hs1 := al_size w (.cells #[.int .u8 b] 5)
  obtain ⟨a2, p2, w4, hr, ow, t2, -⟩ := Rc.Own.appw (E := encB) (ty := 25) Tryz.underlying25 hi hz hsz hby rfl own (some ⟨w.heap.size, 0, none⟩) 1 [b] (Rc.Mem.new w [b] 5) (fun h => (nomatch h)) (by simp; unfold maxLen; omega) (by simp; omega) (by omega) (by omega)
  have e3 : (A ++ [b]).length = A.length + 1 := by simp
  refine ⟨a2, p2, w4, by rw [← e3]; exact hr, ow, ?_⟩
  exact Touch.trans (((Touch.refl (fun _ => False) w).alloc _).mono fun _ _ h => h.elim) t2 fun _ _ h => h

/-- Many bytes more. -/
theorem by_apps {w : World} {base : Nat} {ao : Option Addr} {cap : Nat} {A : List Int} (h : encB.Own 5 w base (.slice ao A.length cap) A) (bo : Option Addr) (bc : Nat) (M : List Int) (hp : encB.Mem w bo M) (hc : bo = none → bc = 0) (hs : base ≤ w.heap.size) (hn : A.length + M.length ≤ 100000000000000) :
    ∃ a2 p2 w4, (Builtin.append_ #[25, 25] 25 #[.slice ao A.length cap, .slice bo M.length bc]).run Tryz.prog w = .ok (.slice a2 (A ++ M).length p2) w4 ∧
      encB.Own 5 w4 base (.slice a2 (A ++ M).length p2) (A ++ M) ∧ Touch (fun d => (Value.slice ao A.length cap).ownBlock = some d) w w4 := by
  obtain ⟨i0, hi, hz, hsz, hby⟩ := Rc.info_parts infoByte
  obtain ⟨a2, p2, w4, hr, ow, t2, -⟩ := Rc.Own.appw (E := encB) (ty := 25) Tryz.underlying25 hi hz hsz hby rfl h bo bc M hp hc (by unfold maxLen; omega) (by omega) (by omega) hs
  exact ⟨a2, p2, w4, hr, ow, t2⟩

/-- A row of one's own that was grown stays apart from all that was there. -/
theorem own_calm {α : Type} {E : Rc.Enc α} {e : TypeId} {w0 w w' : World} {base : Nat} {v : Value} {L : List α} (h : E.Own e w base v L) (ht : Touch (fun d => v.ownBlock = some d) w w') (h0 : Calm w0 w) (hb : w0.heap.size ≤ base) : Calm w0 w' :=
  Rc.Own.fresh h ht (fun _ h => h) h0 hb

/-- What a function answers that makes bytes. -/
def RetB (w : World) (e : Ending) (w' : World) (L : List Int) : Prop := ∃ ao cap, e = .returned (.slice ao L.length cap) ∧ encB.Own 5 w' w.heap.size (.slice ao L.length cap) L ∧ Calm w w'

/-- Ten numbers; a job's. -/
abbrev f10c (f : Nat → Int) : Array Value := #[.int .i64 (f 0), .int .i64 (f 1), .int .i64 (f 2), .int .i64 (f 3), .int .i64 (f 4), .int .i64 (f 5), .int .i64 (f 6), .int .i64 (f 7), .int .i64 (f 8), .int .i64 (f 9)]
theorem f10_cells {w : World} {b : Nat} {f : Nat → Int} {ty : TypeId} (h : w.heap[b]? = some (.cells (f10c f) ty (0, 0))) (j : Nat) (hj : j < 10) : w.cell? ⟨b, j, none⟩ = some (.int .i64 (f j)) := by
  rcases (by omega : j = 0 ∨ j = 1 ∨ j = 2 ∨ j = 3 ∨ j = 4 ∨ j = 5 ∨ j = 6 ∨ j = 7 ∨ j = 8 ∨ j = 9) with rfl | rfl | rfl | rfl | rfl | rfl | rfl | rfl | rfl | rfl <;> simp [World.cell?, h]
def fldF (c : Cf) : Nat → Int
  | 0 => c.gr
  | 1 => c.so
  | 2 => c.ki
  | 3 => c.sz
  | 4 => c.sl
  | 5 => c.of
  | 6 => c.gp
  | 7 => c.lt
  | 8 => c.ea
  | _ => if c.di then 1 else 0
def ofF (f : Nat → Int) : Cf := ⟨f 0, f 1, f 2, f 3, f 4, f 5, f 6, f 7, f 8, f 9 == 1⟩

end Go.Proofs.YtdcpmpbfnfjncaaGreatDoor
