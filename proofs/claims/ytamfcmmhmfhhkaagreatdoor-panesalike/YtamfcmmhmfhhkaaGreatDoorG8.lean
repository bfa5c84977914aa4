/- Digits: a number in decimal digits (the document's). Quote: a key quoted (the document's; the walk). Line: a pane's line (the document's). Text: panes' lines (the document's). -/
import Derived.Test.YtamfcmmhmfhhkaaGreatDoorG7
import Derived.Test.YtamfcmmhmfhhkaaGreatDoorG5
import Derived.Great.BuildSlice
import Derived.Test.YtamfcmmhmfhhkaaGreatDoorG4
import Derived.Lib.AppendStr
namespace Go.Proofs.YtamfcmmhmfhhkaaGreatDoor
open Go.RowKit

/-- A number's digits, as a text. -/
def intB (n : Int) : ByteArray := ⟨(Lib.itoa n).toArray⟩
theorem intB_pos {n : Int} (h : 0 ≤ n) : intB n = decB n.toNat := by
  unfold intB decB Lib.itoa
  rw [if_neg (by omega)]
theorem intB_neg {n : Int} (h : n < 0) : intB n = ⟨#[45]⟩ ++ decB n.natAbs := by
  unfold intB decB Lib.itoa
  rw [if_pos h]
  apply ByteArray.ext
  simp only [ByteArray.data_append]
  simp
theorem intB_size {n : Int} (h0 : -9223372036854775808 ≤ n) (h1 : n ≤ 9223372036854775807) : (intB n).size ≤ 21 := by
  by_cases h : 0 ≤ n
  · rw [intB_pos h]
    have := decB_size (u := n.toNat) (by omega)
    omega
  · rw [intB_neg (by omega), ByteArray.size_append]
    have := decB_size (u := n.natAbs) (by omega)
    have e : (⟨#[45]⟩ : ByteArray).size = 1 := rfl
    omega

end Go.Proofs.YtamfcmmhmfhhkaaGreatDoor

namespace Go.Proofs.YtamfcmmhmfhhkaaGreatDoor
open Go.RowKit

theorem Own.byte {w : World} {base g : Nat} {x : Int} (hg : base ≤ g) (h : w.heap[g]? = some (.cells #[.int .u8 x] 5 (0, 0))) : encB.Own 5 w base (.slice (some ⟨g, 0, none⟩) 1 1) [x] :=
  ⟨rfl, .inr ⟨g, 1, #[.int .u8 x], rfl, hg, h, Nat.le_refl _, by decide, rfl, rfl⟩⟩
theorem conv_own {W : World} {base : Nat} {a : Option Addr} {c : Nat} {xs : List Int} (h : encB.Own 5 W base (.slice a xs.length c) xs) (hne : xs ≠ []) : (convert 64 9 (.slice a xs.length c)).run Tryz.prog W = .ok (.string (strOfNums xs)) W := by
  obtain ⟨-, hm, -, -, -, -⟩ := Rc.Own.mem h
  have hl := List.length_pos_iff.2 hne
  obtain ⟨b, off, rfl, -⟩ := by_at hm 0 hl
  refine run_convert_bytes_arg W _ _ Tryz.underlying64 Tryz.underlying5 b off _ c xs rfl (fun i hi => ?_) _ Tryz.underlying9
  obtain ⟨b2, off2, e, k⟩ := by_at hm i hi
  injection e with e
  injection e with e1 e2
  subst e1 e2
  exact k

end Go.Proofs.YtamfcmmhmfhhkaaGreatDoor

namespace Go.Proofs.YtamfcmmhmfhhkaaGreatDoor
open Go.RowKit

/-- A blank. -/
def blB : ByteArray := ⟨#[32]⟩
/-- A pane's line, its first i numbers. -/
def txL (p : Pn) : Nat → ByteArray
  | 0 => (strOfNums (quoA p.k) ++ blB) ++ nameB p.d
  | i + 1 => (txL p i ++ blB) ++ intB ((numsP p).getD i 0)
def lineB (p : Pn) : ByteArray := txL p 7
/-- A pane's numbers are numbers. -/
def NumOk (p : Pn) : Prop := ∀ i, i < 7 → -9223372036854775808 ≤ (numsP p).getD i 0 ∧ (numsP p).getD i 0 ≤ 9223372036854775807
theorem quoA_len {s : ByteArray} (h : s.size ≤ 256) : (quoA s).length ≤ 1026 := by
  unfold quoA
  rw [List.length_append]
  have := quoL_len (s := s) s.size (Nat.le_refl _)
  simp only [List.length_cons, List.length_nil]
  omega
theorem nameB_size (d : Int) : (nameB d).size ≤ 6 := by
  unfold nameB
  split
  · decide
  · split <;> decide
theorem txL_size {p : Pn} (hk : p.k.size ≤ 256) (h : NumOk p) : ∀ i, i ≤ 7 → (txL p i).size ≤ 1040 + 22 * i
  | 0, _ => by
    rw [txL]
    simp only [ByteArray.size_append, strOfNums_size]
    have := quoA_len hk
    have := nameB_size p.d
    have e : blB.size = 1 := rfl
    omega
  | i + 1, hi => by
    rw [txL]
    simp only [ByteArray.size_append]
    have := txL_size hk h i (by omega)
    have := intB_size (h i (by omega)).1 (h i (by omega)).2
    have e : blB.size = 1 := rfl
    omega

end Go.Proofs.YtamfcmmhmfhhkaaGreatDoor

namespace Go.Proofs.YtamfcmmhmfhhkaaGreatDoor
open Go.RowKit

/-- A text's bytes as numbers. -/
def bsL (s : ByteArray) : List Int := s.data.toList.map fun u => (u.toNat : Int)
theorem bsL_len (s : ByteArray) : (bsL s).length = s.size := by unfold bsL; rw [List.length_map, Array.length_toList]; rfl
theorem bsL_flat (s : ByteArray) : encB.flat (bsL s) = Go.Lib.strCells s := by
  rw [encB_flat]
  unfold bsL Go.Lib.strCells
  rw [List.map_map]
  rfl

/-- A text's bytes more. -/
theorem by_appS {w : World} {base : Nat} {ao : Option Addr} {cap : Nat} {A : List Int} (s : ByteArray) (h : encB.Own 5 w base (.slice ao A.length cap) A) (hs : base ≤ w.heap.size) (hn : A.length + s.size ≤ 100000000000000) :
    ∃ a2 p2 w4, (Builtin.append_ #[64, 9] 64 #[.slice ao A.length cap, .string s]).run Tryz.prog w = .ok (.slice a2 (A ++ bsL s).length p2) w4 ∧
      encB.Own 5 w4 base (.slice a2 (A ++ bsL s).length p2) (A ++ bsL s) ∧ Touch (fun d => (Value.slice ao A.length cap).ownBlock = some d) w w4 := by
  obtain ⟨i0, hi, hz, hsz, hby⟩ := Rc.info_parts infoByte
  obtain ⟨v', w', hr, ow, gr, -⟩ := Go.Lib.run_append_own_string (P := Tryz.prog) w base 64 9 64 5 i0 Tryz.underlying64 Tryz.underlying9 hi hz hsz hby _ A.length (encB.flat A) h s (by unfold maxLen; omega) (by omega) hs
  have h2 : encB.Own 5 w' base v' (A ++ bsL s) := by
    unfold Rc.Enc.Own
    rw [encB.flat_append, List.length_append, bsL_len, bsL_flat]
    exact ow
  obtain ⟨a2, p2, hv⟩ := Rc.own_shape h2
  subst hv
  refine ⟨a2, p2, w', ?_, h2, Touch.of_grownBy gr⟩
  rw [hr]

/-- The lines of the first i panes. -/
def txT (L : List Pn) : Nat → List Int
  | 0 => []
  | i + 1 => (txT L i ++ bsL (lineB (L.getD i pn0))) ++ [10]
theorem txT_len {L : List Pn} (hp : ∀ j, j < L.length → NumOk (L.getD j pn0)) : ∀ i, i ≤ L.length → (∀ j, j < i → mayP (L.getD j pn0) = true) → (txT L i).length ≤ 1200 * i
  | 0, _, _ => by simp [txT]
  | i + 1, h, hk => by
    rw [txT, List.length_append, List.length_append, bsL_len]
    have h1 := txT_len hp i (by omega) fun j hj => hk j (by omega)
    have hm := hk i (by omega)
    unfold mayP at hm
    have h2 : (lineB (L.getD i pn0)).size ≤ 1040 + 22 * 7 := txL_size (of_decide_eq_true hm).1 (hp i (by omega)) 7 (by omega)
    simp only [List.length_cons, List.length_nil]
    omega
/-- May all of them be? -/
def mayT (L : List Pn) : Bool := L.all mayP
theorem mayT_no {L : List Pn} {j : Nat} (hj : j < L.length) (h : mayP (L.getD j pn0) = false) : mayT L = false := by
  unfold mayT
  rw [Bool.eq_false_iff]
  intro h2
  rw [List.all_eq_true] at h2
  have := h2 _ (List.getElem_mem hj)
  rw [List.getD_eq_getElem?_getD, List.getElem?_eq_getElem hj] at h
  rw [Option.getD_some] at h
  rw [h] at this
  cases this
theorem mayT_yes {L : List Pn} (h : ∀ j, j < L.length → mayP (L.getD j pn0) = true) : mayT L = true := by
  unfold mayT
  rw [List.all_eq_true]
  intro x hx
  obtain ⟨j, hj, rfl⟩ := List.getElem_of_mem hx
  have := h j hj
  rw [List.getD_eq_getElem?_getD, List.getElem?_eq_getElem hj] at this
  exact this
theorem len_snoc (A : List Int) (x : Int) : (A ++ [x]).length = A.length + 1 := by rw [List.length_append]; rfl
theorem conv_none {W : World} {base : Nat} {a : Option Addr} {c : Nat} (h : encB.Own 5 W base (.slice a ([] : List Int).length c) []) : (convert 64 9 (.slice a ([] : List Int).length c)).run Tryz.prog W = .ok (.string (strOfNums [])) W := by
  obtain ⟨-, hM, -, -, hc, hA⟩ := Rc.Own.mem h
  cases a with
  | none =>
    obtain rfl := hc rfl
    kernel_rfl
  | some a =>
    obtain ⟨b, off, sp⟩ := a
    obtain ⟨h1, -, -, -⟩ := hA _ rfl
    subst h1
    exact run_convert_bytes_arg W _ _ Tryz.underlying64 Tryz.underlying5 b off _ c [] rfl (fun i hi => absurd hi (Nat.not_lt_zero _)) _ Tryz.underlying9

end Go.Proofs.YtamfcmmhmfhhkaaGreatDoor
