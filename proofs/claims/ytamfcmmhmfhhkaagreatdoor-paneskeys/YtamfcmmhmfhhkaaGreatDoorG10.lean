/- Quote: a key quoted (the document's). Digits: a number in decimal digits (the document's). Quote: a key quoted (the document's; the walk). Line: a pane's line (the document's). -/
import Derived.Test.YtamfcmmhmfhhkaaGreatDoorG9
import Derived.Test.YtamfcmmhmfhhkaaGreatDoorG5
import Derived.Great.BuildSlice
import Derived.Test.YtamfcmmhmfhhkaaGreatDoorG4
namespace Go.Proofs.YtamfcmmhmfhhkaaGreatDoor
open Go.RowKit

/-- How a byte is written. -/
def escL (b : Int) : List Int := if 32 ≤ b ∧ b ≤ 126 ∧ b ≠ 34 ∧ b ≠ 92 then [b] else [92, 120, hexB (b / 16), hexB (b % 16)]
/-- A key's first i bytes, behind their quotation mark. -/
def quoL (s : ByteArray) (i : Nat) : List Int := 34 :: (s.toList.take i).flatMap fun u => escL (u.toNat : Int)
/-- A key quoted. -/
def quoA (s : ByteArray) : List Int := quoL s s.size ++ [34]
theorem quoL_succ {s : ByteArray} {i : Nat} (h : i < s.size) : quoL s (i + 1) = quoL s i ++ escL ((s[i]'h).toNat : Int) := by
  unfold quoL
  rw [ByteArray.toList_eq]
  have h' : i < s.data.toList.length := by rw [Array.length_toList]; exact h
  rw [List.take_add_one, List.getElem?_eq_getElem h', List.flatMap_append, List.cons_append]
  simp
  rfl
theorem escL_len (b : Int) : (escL b).length ≤ 4 := by unfold escL; split <;> simp
theorem quoL_len {s : ByteArray} : ∀ i, i ≤ s.size → (quoL s i).length ≤ 4 * i + 1
  | 0, _ => by simp [quoL]
  | i + 1, h => by
    rw [quoL_succ (by omega), List.length_append]
    have := quoL_len (s := s) i (by omega)
    have := escL_len (((s[i]'(by omega)).toNat : Nat) : Int)
    omega

/-- Some new bytes more. -/
theorem by_appN {w : World} {base : Nat} {ao : Option Addr} {cap : Nat} {A : List Int} (M : List Int) (h : encB.Own 5 w base (.slice ao A.length cap) A) (hs : base ≤ w.heap.size) (hn : A.length + M.length ≤ 100000000000000) :
    ∃ a2 p2 w4, (Builtin.append_ #[64, 64] 64 #[.slice ao A.length cap, .slice (some ⟨w.heap.size, 0, none⟩) M.length M.length]).run Tryz.prog (w.alloc (.cells (encB.flat M).toArray 5)) = .ok (.slice a2 (A ++ M).length p2) w4 ∧
      encB.Own 5 w4 base (.slice a2 (A ++ M).length p2) (A ++ M) ∧ Touch (fun d => (Value.slice ao A.length cap).ownBlock = some d) w w4 := by
  have own := Rc.Own.calm h ((Touch.refl (fun _ => False) w).alloc (.cells (encB.flat M).toArray 5))
  have hs1 := al_size w (.cells (encB.flat M).toArray 5)
  obtain ⟨a2, p2, w4, hr, ow, t2⟩ := by_apps own (some ⟨w.heap.size, 0, none⟩) M.length M (Rc.Mem.new w M 5) (fun h => (nomatch h)) (by omega) hn
  exact ⟨a2, p2, w4, hr, ow, Touch.trans (((Touch.refl (fun _ => False) w).alloc _).mono fun _ _ h => h.elim) t2 fun _ _ h => h⟩

end Go.Proofs.YtamfcmmhmfhhkaaGreatDoor

namespace Go.Proofs.YtamfcmmhmfhhkaaGreatDoor
open Go.RowKit

/-- A number's digits, as a text. -/
def intB (n : Int) : ByteArray := ⟨(Lib.itoa n).toArray⟩
theorem intB_pos {n : Int} (h : 0 ≤ n) : intB n = decB n.toNat := by
  unfold intB decB Lib.itoa
  rw [if_neg (by omega)]
theorem intB_neg {n : Int} (h : n < 0) : intB n = ⟨#[45]⟩ ++ decB n.natAbs := by
  unfold intB decB Lib.itoa
  rw [if_pos h]
  apply ByteArray.ext
  simp only [ByteArray.data_append]
  simp
theorem intB_size {n : Int} (h0 : -9223372036854775808 ≤ n) (h1 : n ≤ 9223372036854775807) : (intB n).size ≤ 21 := by
  by_cases h : 0 ≤ n
  · rw [intB_pos h]
    have := decB_size (u := n.toNat) (by omega)
    omega
  · rw [intB_neg (by omega), ByteArray.size_append]
    have := decB_size (u := n.natAbs) (by omega)
    have e : (⟨#[45]⟩ : ByteArray).size = 1 := rfl
    omega

end Go.Proofs.YtamfcmmhmfhhkaaGreatDoor

namespace Go.Proofs.YtamfcmmhmfhhkaaGreatDoor
open Go.RowKit

theorem Own.byte {w : World} {base g : Nat} {x : Int} (hg : base ≤ g) (h : w.heap[g]? = some (.cells #[.int .u8 x] 5 (0, 0))) : encB.Own 5 w base (.slice (some ⟨g, 0, none⟩) 1 1) [x] :=
  ⟨rfl, .inr ⟨g, 1, #[.int .u8 x], rfl, hg, h, Nat.le_refl _, by decide, rfl, rfl⟩⟩
theorem conv_own {W : World} {base : Nat} {a : Option Addr} {c : Nat} {xs : List Int} (h : encB.Own 5 W base (.slice a xs.length c) xs) (hne : xs ≠ []) : (convert 64 9 (.slice a xs.length c)).run Tryz.prog W = .ok (.string (strOfNums xs)) W := by
  obtain ⟨-, hm, -, -, -, -⟩ := Rc.Own.mem h
  have hl := List.length_pos_iff.2 hne
  obtain ⟨b, off, rfl, -⟩ := by_at hm 0 hl
  refine run_convert_bytes_arg W _ _ Tryz.underlying64 Tryz.underlying5 b off _ c xs rfl (fun i hi => ?_) _ Tryz.underlying9
  obtain ⟨b2, off2, e, k⟩ := by_at hm i hi
  injection e with e
  injection e with e1 e2
  subst e1 e2
  exact k

end Go.Proofs.YtamfcmmhmfhhkaaGreatDoor

namespace Go.Proofs.YtamfcmmhmfhhkaaGreatDoor
open Go.RowKit

/-- A blank. -/
def blB : ByteArray := ⟨#[32]⟩
/-- A pane's line, its first i numbers. -/
def txL (p : Pn) : Nat → ByteArray
  | 0 => (strOfNums (quoA p.k) ++ blB) ++ nameB p.d
  | i + 1 => (txL p i ++ blB) ++ intB ((numsP p).getD i 0)
def lineB (p : Pn) : ByteArray := txL p 7
/-- A pane's numbers are numbers. -/
def NumOk (p : Pn) : Prop := ∀ i, i < 7 → -9223372036854775808 ≤ (numsP p).getD i 0 ∧ (numsP p).getD i 0 ≤ 9223372036854775807
theorem quoA_len {s : ByteArray} (h : s.size ≤ 256) : (quoA s).length ≤ 1026 := by
  unfold quoA
  rw [List.length_append]
  have := quoL_len (s := s) s.size (Nat.le_refl _)
  simp only [List.length_cons, List.length_nil]
  omega
theorem nameB_size (d : Int) : (nameB d).size ≤ 6 := by
  unfold nameB
  split
  · decide
  · split <;> decide
theorem txL_size {p : Pn} (hk : p.k.size ≤ 256) (h : NumOk p) : ∀ i, i ≤ 7 → (txL p i).size ≤ 1040 + 22 * i
  | 0, _ => by
    rw [txL]
    simp only [ByteArray.size_append, strOfNums_size]
    have := quoA_len hk
    have := nameB_size p.d
    have e : blB.size = 1 := rfl
    omega
  | i + 1, hi => by
    rw [txL]
    simp only [ByteArray.size_append]
    have := txL_size hk h i (by omega)
    have := intB_size (h i (by omega)).1 (h i (by omega)).2
    have e : blB.size = 1 := rfl
    omega

end Go.Proofs.YtamfcmmhmfhhkaaGreatDoor
