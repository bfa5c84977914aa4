/- Walks: the document's Same, num. -/
import Derived.Test.YthhajlbnnffgnaaRea
namespace Go.Proofs.Ythhajlbnnffgnaa
open Go.RowKit

/-- Each is a byte. -/
def In8 (xs : List Int) : Prop := ∀ x ∈ xs, 0 ≤ x ∧ x ≤ 255

theorem strOfNums_inj : ∀ {xs ys : List Int}, In8 xs → In8 ys → (strOfNums xs).data.toList = (strOfNums ys).data.toList → xs = ys
  | [], [], _, _, _ => rfl
  | [], y :: ys, _, _, h => by rw [strOfNums_data, strOfNums_data] at h; cases h
  | x :: xs, [], _, _, h => by rw [strOfNums_data, strOfNums_data] at h; cases h
  | x :: xs, y :: ys, hx, hy, h => by
    rw [strOfNums_data, strOfNums_data, List.map_cons, List.map_cons] at h
    injection h with h1 h2
    have a := hx x (by simp)
    have b := hy y (by simp)
    have e : x = y := by
      have := congrArg UInt8.toNat h1
      simp [UInt8.toNat_ofNat'] at this
      omega
    rw [e, strOfNums_inj (xs := xs) (ys := ys) (fun z hz => hx z (by simp [hz])) (fun z hz => hy z (by simp [hz])) h2]

set_option maxRecDepth 100000 in
theorem conv_seg {w : World} {ao : Option Addr} {xs : List Int} (h : Seg w .u8 ao xs) (cap : Nat) : (convert 25 9 (.slice ao xs.length cap)).run Try.prog w = .ok (.string (strOfNums xs)) w := by
  cases ao with
  | none =>
    rw [h.none rfl]
    exact run_convert_bytes_nil w _ _ Try.underlying25 Try.underlying5 _ _ _ Try.underlying9
  | some a =>
    by_cases hx : xs = []
    · subst hx
      rw [run_convert_bytes_string w _ _ _ _ _ _ Try.underlying25 Try.underlying5 Try.underlying9]
      exact (run_bytesToString w a 0 cap [] (by rfl))
    · obtain ⟨b, off, e⟩ := h.addr (List.length_pos_iff.2 hx)
      cases e
      exact run_convert_bytes_arg w _ _ Try.underlying25 Try.underlying5 b off _ cap xs rfl (fun i hi => h.at i hi) _ Try.underlying9

set_option maxRecDepth 100000 in
theorem same_any (ao bo : Option Addr) (xs ys : List Int) (ca cb : Nat) (w : World) (hx : Seg w .u8 ao xs) (hy : Seg w .u8 bo ys) (h8 : In8 xs) (h8' : In8 ys) :
    Calls Try.prog 13 #[.slice ao xs.length ca, .slice bo ys.length cb] w fun e w' => ∃ b, e = .returned (.bool b) ∧ (b = true ↔ xs = ys) ∧ w' = w := by
  have c1 := conv_seg hx ca
  have c2 := conv_seg hy cb
  have H : Hid (∀ b, (b = ((strOfNums xs).toList == (strOfNums ys).toList)) → (b = true ↔ xs = ys)) := by
    intro b hb; rw [hb, beq_iff_eq]
    exact ⟨fun e => strOfNums_inj h8 h8' (by rw [← ByteArray.toList_eq, ← ByteArray.toList_eq]; exact e), fun e => by rw [e]⟩
  clear h8 h8' hx hy
  go_enter Try.func13, Try.ntmps13
  go_wp2
  go_ret
  exact ⟨_, rfl, H.out _ rfl, rfl⟩

end Go.Proofs.Ythhajlbnnffgnaa
