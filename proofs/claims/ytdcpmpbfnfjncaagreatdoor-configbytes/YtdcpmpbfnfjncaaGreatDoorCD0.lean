/- Bytes, and the texts that they are. -/
import Derived.Test.YtdcpmpbfnfjncaaGreatDoorCC0
import Derived.Test.YtdcpmpbfnfjncaaGreatDoorYS
import Derived.Laws.BytesArg
import Derived.Laws.BytesString
namespace Go.Proofs.YtdcpmpbfnfjncaaGreatDoor
open Go.RowKit

namespace Cg

/-- Each is a byte. -/
def In8 (xs : List Int) : Prop := ∀ x ∈ xs, 0 ≤ x ∧ x ≤ 255

theorem strOfNums_inj : ∀ {xs ys : List Int}, In8 xs → In8 ys → (strOfNums xs).data.toList = (strOfNums ys).data.toList → xs = ys
  | [], [], _, _, _ => rfl
  | [], y :: ys, _, _, h => by rw [strOfNums_data, strOfNums_data] at h; cases h
  | x :: xs, [], _, _, h => by rw [strOfNums_data, strOfNums_data] at h; cases h
  | x :: xs, y :: ys, hx, hy, h => by
    rw [strOfNums_data, strOfNums_data, List.map_cons, List.map_cons] at h
    injection h with h1 h2
    have a := hx x (by simp)
    have b := hy y (by simp)
    have e : x = y := by
      have := congrArg UInt8.toNat h1
      simp [UInt8.toNat_ofNat'] at this
      omega
    rw [e, strOfNums_inj (xs := xs) (ys := ys) (fun z hz => hx z (by simp [hz])) (fun z hz => hy z (by simp [hz])) h2]

/-- Texts of bytes are the same just where the bytes are. -/
theorem str_same {xs ys : List Int} (h : In8 xs) (h' : In8 ys) : ((strOfNums xs).toList == (strOfNums ys).toList) = decide (xs = ys) := by
  by_cases e : xs = ys
  · subst e; simp
  · rw [decide_eq_false e, beq_eq_false_iff_ne]
    intro q
    exact e (strOfNums_inj h h' (by rw [← ByteArray.toList_eq, ← ByteArray.toList_eq]; exact q))

theorem seg_mem {w : World} {ao : Option Addr} {L : List Int} (h : encB.Mem w ao L) : Seg w .u8 ao L := by
  have g : ∀ j (hj : j < L.length), ∃ b off, ao = some ⟨b, off, none⟩ ∧ w.cell? ⟨b, off + j, none⟩ = some (.int .u8 L[j]) := fun j hj => by
    obtain ⟨b, off, e, c⟩ := by_at h j hj
    rw [List.getD_eq_getElem?_getD, List.getElem?_eq_getElem hj] at c
    exact ⟨b, off, e, c⟩
  refine ⟨fun e => ?_, fun a ha hne => ?_, fun a ha j hj => ?_⟩
  · cases L with
    | nil => rfl
    | cons x L => obtain ⟨b, off, e', _⟩ := g 0 (by simp); rw [e] at e'; cases e'
  · obtain ⟨b, off, e', _⟩ := g 0 (List.length_pos_iff.2 hne)
    rw [ha] at e'
    injection e' with e'
    rw [e']
  · obtain ⟨b, off, e', c⟩ := g j hj
    rw [ha] at e'
    injection e' with e'
    rw [e', Addr.add_lit]
    exact c

set_option maxRecDepth 100000 in
theorem conv_mem {w : World} {ao : Option Addr} {xs : List Int} (hm : encB.Mem w ao xs) (cap : Nat) : (convert 25 9 (.slice ao xs.length cap)).run Tryz.prog w = .ok (.string (strOfNums xs)) w := by
  have h := seg_mem hm
  cases ao with
  | none =>
    rw [h.none rfl]
    exact run_convert_bytes_nil w _ _ Tryz.underlying25 Tryz.underlying5 _ _ _ Tryz.underlying9
  | some a =>
    by_cases hx : xs = []
    · subst hx
      rw [run_convert_bytes_string w _ _ _ _ _ _ Tryz.underlying25 Tryz.underlying5 Tryz.underlying9]
      exact (run_bytesToString w a 0 cap [] (by rfl))
    · obtain ⟨b, off, e⟩ := h.addr (List.length_pos_iff.2 hx)
      cases e
      exact run_convert_bytes_arg w _ _ Tryz.underlying25 Tryz.underlying5 b off _ cap xs rfl (fun i hi => h.at i hi) _ Tryz.underlying9

theorem numb_in8 (x : Nat) : In8 (numb x) := fun b hb => numb_bytes x x (Nat.le_refl _) b hb

end Cg

/-- x[p:q]. -/
theorem Rc.Sl.cut {α : Type} {E : Rc.Enc α} {P : Program} {t e : TypeId} {i : TypeInfo} (ht : P.underlying t = some (.slice e)) (he : P.elem t = e) (hi : P.info? e = some i) (hs : i.size = E.n) {w : World} {ao : Option Addr} {cap p q : Nat} {L : List α} (h : E.Sl w ao cap L) (hp : p ≤ q) (hq : q ≤ L.length) :
    ∃ so sc, (∀ W, (Instr.slice t (.slice ao L.length cap) (some (.int .i64 (p : Nat))) (some (.int .i64 (q : Nat))) none).run P W = .ok (.slice so (q - p) sc) W) ∧ E.Mem w so ((L.drop p).take (q - p)) ∧ (so = none → sc = 0) := by
  have hc := h.cap
  refine ⟨if cap = p then ao else ao.map fun x => x.add (p * E.n), cap - p, fun W => ?_, ?_, ?_⟩
  · rw [run_slice_lh W t ao L.length cap (by rw [he]; exact ht) .i64 .i64 (p : Nat) (q : Nat) (by omega) (by omega) (by omega), he]
    simp only [sizeOf, typeInfo]
    simp [hi, hs, sliced]
  · by_cases hck : cap = p
    · rw [if_pos hck, List.drop_of_length_le (by omega), List.take_nil]; exact Rc.Mem.nil _ _
    · rw [if_neg hck]; exact Rc.Mem.take (Rc.Mem.off h.mem p) _
  · intro h'
    by_cases hck : cap = p
    · omega
    · rw [if_neg hck] at h'
      have := h.nil (by simpa using h')
      omega

end Go.Proofs.YtdcpmpbfnfjncaaGreatDoor
