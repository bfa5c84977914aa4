/- Arguments: bytes that came in. -/
import Derived.Test.YtdcpmpbfnfjncaaGreatDoorCD0
import Derived.Test.YtdcpmpbfnfjncaaGreatDoorRows
import Derived.ProofKit
import Derived.OpenShut
import Derived.SizedLaws
namespace Go.Proofs.YtdcpmpbfnfjncaaGreatDoor
open Go.ChangeShapes Go.WideShapes Go.ChangeAt Go.RowKit

theorem bytesU8 : Tryz.prog.bytesOf 5 = 1 := by kernel_rfl
theorem cellsU8 : Tryz.prog.cellsOf 5 = 1 := by kernel_rfl

/-- A slice of bytes that came in. -/
theorem bytes_sl {H : Type} {enc : TypeId × Value → H} {W : World} {fuel base : Nat} {spare : Nat → Bool} {held : Bool} {v : Value} {x : DataW H × List MemPlace}
    (hf : DataW.trod enc Tryz.prog W base spare held fuel 25 [v] = some x) (hw : ∀ es sp, x.1 = .slice es sp → (es.length + sp.length) * 1 ≤ reachBytes) :
    ∃ (ao : Option Addr) (cap : Nat) (xs : List Int), v = .slice ao xs.length cap ∧ encB.Sl W ao cap xs ∧ Cg.In8 xs ∧ xs.length ≤ 140737488351232 := by
  rcases open_ints Tryz.underlying25 Tryz.underlying5 cellsU8 hf with ⟨hcs, _⟩ | ⟨x, l, c, zs, hcs, _, hl, hm, hz, hx, hcell, hwz⟩
  · injection hcs with hcs
    exact ⟨none, 0, [], hcs, Rc.Sl.empty _, fun _ h => (nomatch h), by simp⟩
  · injection hcs with hcs
    have hw := hw _ _ (congrArg Prod.fst hx)
    simp only [lits, List.length_map, List.length_take, List.length_drop, reachBytes] at hw
    have hzl : l ≤ zs.length := by rw [hz]; split <;> omega
    have hlen : (zs.take l).length = l := by simp; omega
    refine ⟨some x, c, zs.take l, by rw [hlen]; exact hcs, ⟨?_, fun h => (nomatch h), by rw [hlen]; omega⟩, fun y hy => bounds_u8 (hwz y (List.mem_of_mem_take hy)), by simp; omega⟩
    intro i u hu
    rw [encB_flat] at hu
    have hi : i < (zs.take l).length := by
      have := (List.getElem?_eq_some_iff.1 hu).1
      simpa using this
    have hi2 : i < zs.length := by rw [List.length_take] at hi; omega
    obtain ⟨b, off, rfl, _⟩ := ints_at hcell (by omega)
    refine ⟨b, off, rfl, ?_⟩
    have hc := hcell i hi2
    rw [Addr.add_lit] at hc
    rw [hc, List.getD_eq_getElem?_getD, List.getElem?_eq_getElem hi2]
    rw [List.getElem?_map, List.getElem?_eq_getElem hi] at hu
    simp [List.getElem_take] at hu
    rw [← hu]; rfl

end Go.Proofs.YtdcpmpbfnfjncaaGreatDoor
