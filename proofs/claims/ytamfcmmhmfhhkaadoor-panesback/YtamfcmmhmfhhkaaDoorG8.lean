/- digits: a number from 0 on in decimal digits (the document's). Quote: a key quoted (the document's). Digits: a number in decimal digits (the document's). -/
import Derived.Test.YtamfcmmhmfhhkaaDoorG7
import Derived.Lib.ItoaNum
import Derived.Laws.BytesArg
import Derived.Laws.BytesString
namespace Go.Proofs.YtamfcmmhmfhhkaaDoor
open Go.RowKit

theorem dec_len : ∀ (k u : Nat), u < 10 ^ (k + 1) → (Lib.decDigits u).length ≤ k + 1
  | 0, u, h => by rw [Lib.decDigits, dif_pos (by simpa using h)]; simp
  | k + 1, u, h => by
    by_cases h1 : u < 10
    · rw [Lib.decDigits, dif_pos h1]; simp
    · rw [Lib.decDigits, dif_neg h1, List.length_append]
      have := dec_len k (u / 10) (by rw [Nat.pow_succ] at h; omega)
      simp only [List.length_cons, List.length_nil]
      omega
/-- The digits, as a text. -/
def decB (u : Nat) : ByteArray := ⟨(Lib.decDigits u).toArray⟩
theorem decB_size {u : Nat} (h : u < 18446744073709551616) : (decB u).size ≤ 20 := by
  have := dec_len 19 u (by omega)
  show (Lib.decDigits u).toArray.size ≤ 20
  rw [List.size_toArray]
  exact this
theorem decB_one {u : Nat} (h : u < 10) : decB u = strOfNums [48 + (u : Int)] := by
  unfold decB strOfNums
  rw [Lib.decDigits, dif_pos h]
  have e : (48 + (u : Int)).toNat = 48 + u := by omega
  simp only [List.map_cons, List.map_nil, e]
theorem decB_more {u : Nat} (h : ¬ u < 10) : decB (u / 10) ++ strOfNums [48 + ((u % 10 : Nat) : Int)] = decB u := by
  have e : (48 + ((u % 10 : Nat) : Int)).toNat = 48 + u % 10 := by omega
  unfold decB strOfNums
  rw [Lib.decDigits.eq_1 u, dif_neg h]
  apply ByteArray.ext
  simp only [ByteArray.data_append, List.map_cons, List.map_nil, e]
  simp
theorem st_join (t : TypeId) (a b : ByteArray) (h : a.size + b.size ≤ 1000000) : binOp .add t (.string a) (.string b) = pure (.string (a ++ b)) := by
  rw [binOp_string_add]
  unfold Op.stringOp
  have : ¬ ((a.size + b.size : Nat) : Int) > IntKind.i64.max := by
    have e : IntKind.i64.max = 9223372036854775807 := by decide
    rw [e]; omega
  simp only [this, if_false]
/-- A byte, as a text. -/
theorem conv_one {W : World} {p : Nat} (c : Int) (h : W.heap[p]? = some (.cells #[.int .u8 c] 5 (0, 0))) : (convert 55 9 (.slice (some ⟨p, 0, none⟩) 1 1)).run Tryd.prog W = .ok (.string (strOfNums [c])) W :=
  run_convert_bytes_arg W _ _ Tryd.underlying55 Tryd.underlying5 p 0 1 1 [c] rfl (fun i hi => by
    obtain rfl : i = 0 := by simpa using hi
    simp [World.cell?, h]) _ Tryd.underlying9

end Go.Proofs.YtamfcmmhmfhhkaaDoor

namespace Go.Proofs.YtamfcmmhmfhhkaaDoor
open Go.RowKit

/-- How a byte is written. -/
def escL (b : Int) : List Int := if 32 ≤ b ∧ b ≤ 126 ∧ b ≠ 34 ∧ b ≠ 92 then [b] else [92, 120, hexB (b / 16), hexB (b % 16)]
/-- A key's first i bytes, behind their quotation mark. -/
def quoL (s : ByteArray) (i : Nat) : List Int := 34 :: (s.toList.take i).flatMap fun u => escL (u.toNat : Int)
/-- A key quoted. -/
def quoA (s : ByteArray) : List Int := quoL s s.size ++ [34]
theorem quoL_succ {s : ByteArray} {i : Nat} (h : i < s.size) : quoL s (i + 1) = quoL s i ++ escL ((s[i]'h).toNat : Int) := by
  unfold quoL
  rw [ByteArray.toList_eq]
  have h' : i < s.data.toList.length := by rw [Array.length_toList]; exact h
  rw [List.take_add_one, List.getElem?_eq_getElem h', List.flatMap_append, List.cons_append]
  simp
  rfl
theorem escL_len (b : Int) : (escL b).length ≤ 4 := by unfold escL; split <;> simp
theorem quoL_len {s : ByteArray} : ∀ i, i ≤ s.size → (quoL s i).length ≤ 4 * i + 1
  | 0, _ => by simp [quoL]
  | i + 1, h => by
    rw [quoL_succ (by omega), List.length_append]
    have := quoL_len (s := s) i (by omega)
    have := escL_len (((s[i]'(by omega)).toNat : Nat) : Int)
    omega

/-- Some new bytes more. -/
theorem by_appN {w : World} {base : Nat} {ao : Option Addr} {cap : Nat} {A : List Int} (M : List Int) (h : encB.Own 5 w base (.slice ao A.length cap) A) (hs : base ≤ w.heap.size) (hn : A.length + M.length ≤ 100000000000000) :
    ∃ a2 p2 w4, (Builtin.append_ #[55, 55] 55 #[.slice ao A.length cap, .slice (some ⟨w.heap.size, 0, none⟩) M.length M.length]).run Tryd.prog (w.alloc (.cells (encB.flat M).toArray 5)) = .ok (.slice a2 (A ++ M).length p2) w4 ∧
      encB.Own 5 w4 base (.slice a2 (A ++ M).length p2) (A ++ M) ∧ Touch (fun d => (Value.slice ao A.length cap).ownBlock = some d) w w4 := by
  have own := Rc.Own.calm h ((Touch.refl (fun _ => False) w).alloc (.cells (encB.flat M).toArray 5))
  have hs1 := al_size w (.cells (encB.flat M).toArray 5)
  obtain ⟨a2, p2, w4, hr, ow, t2⟩ := by_apps own (some ⟨w.heap.size, 0, none⟩) M.length M (Rc.Mem.new w M 5) (fun h => (nomatch h)) (by omega) hn
  exact ⟨a2, p2, w4, hr, ow, Touch.trans (((Touch.refl (fun _ => False) w).alloc _).mono fun _ _ h => h.elim) t2 fun _ _ h => h⟩

end Go.Proofs.YtamfcmmhmfhhkaaDoor

namespace Go.Proofs.YtamfcmmhmfhhkaaDoor
open Go.RowKit

/-- A number's digits, as a text. -/
def intB (n : Int) : ByteArray := ⟨(Lib.itoa n).toArray⟩
theorem intB_pos {n : Int} (h : 0 ≤ n) : intB n = decB n.toNat := by
  unfold intB decB Lib.itoa
  rw [if_neg (by omega)]
theorem intB_neg {n : Int} (h : n < 0) : intB n = ⟨#[45]⟩ ++ decB n.natAbs := by
  unfold intB decB Lib.itoa
  rw [if_pos h]
  apply ByteArray.ext
  simp only [ByteArray.data_append]
  simp
theorem intB_size {n : Int} (h0 : -9223372036854775808 ≤ n) (h1 : n ≤ 9223372036854775807) : (intB n).size ≤ 21 := by
  by_cases h : 0 ≤ n
  · rw [intB_pos h]
    have := decB_size (u := n.toNat) (by omega)
    omega
  · rw [intB_neg (by omega), ByteArray.size_append]
    have := decB_size (u := n.natAbs) (by omega)
    have e : (⟨#[45]⟩ : ByteArray).size = 1 := rfl
    omega

end Go.Proofs.YtamfcmmhmfhhkaaDoor
