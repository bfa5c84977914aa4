/- A list of texts that came in, of bounded bulk. -/
import Derived.Test.YtcbaloenlodkdaaXTx
import Derived.Test.YtcbaloenlodkdaaRows
import Derived.Laws.OwnMore
import Derived.SliceStrings
import Derived.OpenShut
namespace Go.Proofs.Ytcbaloenlodkdaa.XM
open Go.ChangeShapes Go.WideShapes Go.RowKit

theorem bulk_pos {H : Type} (d : DataW H) : 1 ≤ Rows.uptoBulk d := by
  cases d with
  | lit l => cases l <;> simp [Rows.uptoBulk]
  | nil => simp [Rows.uptoBulk]
  | ptr d => simp [Rows.uptoBulk]
  | slice e s => simp [Rows.uptoBulk]
  | agg p => simp [Rows.uptoBulk]
  | iface t d => simp [Rows.uptoBulk]
  | map e => simp [Rows.uptoBulk]
  | held h => simp [Rows.uptoBulk]

theorem bulk_len {H : Type} : ∀ (l : List (DataW H)), l.length ≤ Rows.uptoBulkAll l
  | [] => by simp
  | d :: r => by
    have := bulk_pos d
    have := bulk_len r
    simp only [Rows.uptoBulkAll, List.length_cons]; omega

theorem cellsStr : Try.prog.cellsOf 9 = 1 := by kernel_rfl

theorem spot_none {w : World} {a : Addr} {v : Value} (h : w.cell? (a.add 0) = some v) : a.spot = none := by
  obtain ⟨b, o, sp⟩ := a
  have hs : ((⟨b, o, sp⟩ : Addr).add 0) = ⟨b, o, sp⟩ := by unfold Addr.add; split <;> simp_all
  rw [hs] at h
  cases sp with
  | none => rfl
  | some x =>
    unfold World.cell? at h
    split at h <;> simp at h

theorem texts_up {H : Type} {enc : TypeId × Value → H} {W : World} {fuel base : Nat} {held : Bool} {v : Value} {x : DataW H × List MemPlace}
    (hf : DataW.trod enc Try.prog W base (fun _ => true) held fuel 59 [v] = some x) (hb : Rows.uptoBulk x.1 ≤ 1048576) :
    ∃ ao ks c, v = .slice ao ks.length c ∧ SegS W ao ks ∧ ks.length ≤ 1048576 := by
  rcases open_strings Try.underlying59 Try.underlying9 cellsStr hf with ⟨hcs, _⟩ | ⟨a, len, cap, ss, hcs, _, hl, hm, hz, hx, hcell, _⟩
  · injection hcs with hcs
    exact ⟨none, [], 0, hcs, fun j hj => by simp at hj, by simp⟩
  · injection hcs with hcs
    have hzl : len ≤ ss.length := by rw [hz]; split <;> omega
    have hlen : (ss.take len).length = len := by rw [List.length_take]; omega
    rw [hx] at hb
    simp only [Rows.uptoBulk] at hb
    have hb2 := bulk_len (H := H) (strs (ss.take len))
    simp only [strs, List.length_map, hlen] at hb2 hb
    have hcc : ∀ i (h : i < len), W.cell? (a.add i) = some (.string (ss.take len)[i]) := fun i h => by
      have h1 : i < ss.length := by omega
      have := hcell i h1
      rw [List.getD_eq_getElem?_getD, List.getElem?_eq_getElem h1] at this
      simpa using this
    refine ⟨some a, ss.take len, cap, by rw [hcs, hlen], fun j hj => ?_, by rw [hlen]; omega⟩
    have hjl : j < len := by omega
    have hsp := spot_none (hcc 0 (by omega))
    have h1 := hcc j hjl
    obtain ⟨b, o, sp⟩ := a
    simp only at hsp
    subst hsp
    rw [Addr.add_lit] at h1
    exact ⟨b, o, rfl, h1⟩

end Go.Proofs.Ytcbaloenlodkdaa.XM
