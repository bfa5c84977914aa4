/- Texts in memory. -/
import Derived.Test.YtdcpmpbfnfjncaaGreatDoorYZ
import Derived.Test.YtdcpmpbfnfjncaaGreatDoorMRw
namespace Go.Proofs.YtdcpmpbfnfjncaaGreatDoor
open Go.RowKit

/-- Texts as records of one cell. -/
def encZ : Rc.Enc ByteArray := ⟨1, fun x => [.string x], fun _ => rfl, fun _ u hu => by simp at hu; subst hu; rfl, by decide⟩
theorem infoStr : (Tryz.prog.info? 9).map (fun i => (i.zero, i.size, i.bytes)) = some (some (.string ⟨#[]⟩), 1, 16) := by kernel_rfl
theorem elemStr : Tryz.prog.elem 55 = 9 := by kernel_rfl
theorem st_at {w : World} {ao : Option Addr} {L : List ByteArray} (h : encZ.Mem w ao L) (j : Nat) (hj : j < L.length) : ∃ b off, ao = some ⟨b, off, none⟩ ∧ w.cell? ⟨b, off + j, none⟩ = some (.string (L.getD j ⟨#[]⟩)) := by
  obtain ⟨b, off, e, g⟩ := Rc.Mem.at h j hj
  rw [List.getD_eq_getElem?_getD, List.getElem?_eq_getElem hj]
  have := g 0 _ rfl
  have e1 : encZ.n = 1 := rfl
  rw [e1, Nat.mul_one] at this
  exact ⟨b, off, e, this⟩

/-- One text more. -/
theorem st_app {w : World} {base : Nat} {ao : Option Addr} {cap : Nat} {A : List ByteArray} (b : ByteArray) (h : encZ.Own 9 w base (.slice ao A.length cap) A) (hs : base ≤ w.heap.size) (hn : A.length ≤ 1000000000000) :
    ∃ a2 p2 w4, (Builtin.append_ #[55, 55] 55 #[.slice ao A.length cap, .slice (some ⟨w.heap.size, 0, none⟩) 1 1]).run Tryz.prog (w.alloc (.cells #[.string b] 9)) = .ok (.slice a2 (A.length + 1) p2) w4 ∧
      encZ.Own 9 w4 base (.slice a2 (A ++ [b]).length p2) (A ++ [b]) ∧ Touch (fun d => (Value.slice ao A.length cap).ownBlock = some d) w w4 := by
  obtain ⟨i0, hi, hz, hsz, hby⟩ := Rc.info_parts infoStr
  have own := Rc.Own.calm h ((Touch.refl (fun _ => False) w).alloc (.cells #[.string b] 9))
  have hs1 := al_size w (.cells #[.string b] 9)
  obtain ⟨a2, p2, w4, hr, ow, t2, -⟩ := Rc.Own.appw (E := encZ) (ty := 55) Tryz.underlying55 hi hz hsz hby rfl own (some ⟨w.heap.size, 0, none⟩) 1 [b] (Rc.Mem.new w [b] 9) (fun h => (nomatch h)) (by simp; unfold maxLen; omega) (by simp; omega) (by omega) (by omega)
  have e3 : (A ++ [b]).length = A.length + 1 := by simp
  refine ⟨a2, p2, w4, by rw [← e3]; exact hr, ow, ?_⟩
  exact Touch.trans (((Touch.refl (fun _ => False) w).alloc _).mono fun _ _ h => h.elim) t2 fun _ _ h => h

end Go.Proofs.YtdcpmpbfnfjncaaGreatDoor
