/- Slices of bytes that came in, opened. -/
import Derived.Test.YtmmeglpglaogeaaDoorCrc2
import Derived.Test.YtmmeglpglaogeaaDoorRows
import Derived.ProofKit
import Derived.OpenShut
import Derived.SizedLaws
namespace Go.Proofs.YtmmeglpglaogeaaDoor
open Go.ChangeShapes Go.WideShapes Go.ChangeAt Go.RowKit

/-- A slice of integers that came in, as a segment. -/
theorem seg_ints {W : World} {k : IntKind} {x : Addr} {len : Nat} {zs : List Int} (hcell : ∀ i, i < zs.length → W.cell? (x.add i) = some (.int k (zs.getD i 0))) :
    Seg W k (some x) (zs.take len) := by
  refine ⟨fun e => (nomatch e), fun y hy hne => ?_, fun y hy j hj => ?_⟩
  · injection hy with hy
    subst hy
    have hz : 0 < zs.length := by
      rcases Nat.eq_zero_or_pos zs.length with h | h
      · exact absurd (by rw [List.eq_nil_of_length_eq_zero h]; simp) hne
      · exact h
    obtain ⟨b, off, rfl, _⟩ := ints_at hcell hz
    rfl
  · injection hy with hy
    subst hy
    have hj' : j < len ∧ j < zs.length := by simpa [List.length_take, Nat.lt_min] using hj
    rw [hcell j hj'.2, List.getD_eq_getElem?_getD, List.getElem?_eq_getElem hj'.2]
    simp [List.getElem_take]

theorem bytesU8 : Tryd.prog.bytesOf 5 = 1 := by kernel_rfl
theorem cellsU8 : Tryd.prog.cellsOf 5 = 1 := by kernel_rfl

/-- A slice of bytes that came in. -/
theorem bytes_in {H : Type} {enc : TypeId × Value → H} {W : World} {fuel base : Nat} {spare : Nat → Bool} {held : Bool} {v : Value} {x : DataW H × List MemPlace}
    (hf : DataW.trod enc Tryd.prog W base spare held fuel 25 [v] = some x) (hw : ∀ es sp, x.1 = .slice es sp → (es.length + sp.length) * 1 ≤ reachBytes) :
    ∃ t : Txt, v = t.val ∧ t.Ok W ∧ t.xs.length ≤ 140737488351232 ∧ t.xs.length ≤ t.cap := by
  rcases open_ints Tryd.underlying25 Tryd.underlying5 cellsU8 hf with ⟨hcs, _⟩ | ⟨x, l, c, zs, hcs, _, hl, hm, hz, hx, hcell, hwz⟩
  · injection hcs with hcs
    exact ⟨⟨none, 0, []⟩, hcs, ⟨⟨fun _ => rfl, fun _ h => (nomatch h), fun _ h => (nomatch h)⟩, fun _ h => (nomatch h), by simp⟩, by simp, by simp⟩
  · injection hcs with hcs
    have hw := hw _ _ (congrArg Prod.fst hx)
    simp only [lits, List.length_map, List.length_take, List.length_drop, reachBytes] at hw
    have hzl : l ≤ zs.length := by rw [hz]; split <;> omega
    have hlen : (zs.take l).length = l := by simp; omega
    refine ⟨⟨some x, c, zs.take l⟩, ?_, ⟨seg_ints hcell, fun y hy => bounds_u8 (hwz y (List.mem_of_mem_take hy)), by simp; omega⟩, by simp; omega, by simp; omega⟩
    show v = .slice (some x) (zs.take l).length c
    rw [hlen]; exact hcs

theorem Txt.Ok.touch {w w' : World} {t : Txt} (h : t.Ok w) (ht : Touch (fun _ => False) w w') : t.Ok w' := ⟨h.seg.touch ht (fun _ _ h => h), h.in8, h.len⟩

end Go.Proofs.YtmmeglpglaogeaaDoor
