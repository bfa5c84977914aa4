/- Text: panes' lines (the document's). digit: what a byte says to the base 16 (the document's). parts: what stands between blanks (the document's). -/
import Derived.Test.YtamfcmmhmfhhkaaDoorG9
import Derived.Lib.AppendStr
import Derived.Test.YtamfcmmhmfhhkaaDoorG7
import Derived.Test.YtamfcmmhmfhhkaaDoorG4
import Derived.Test.YtamfcmmhmfhhkaaDoorG8
namespace Go.Proofs.YtamfcmmhmfhhkaaDoor
open Go.RowKit

/-- A text's bytes as numbers. -/
def bsL (s : ByteArray) : List Int := s.data.toList.map fun u => (u.toNat : Int)
theorem bsL_len (s : ByteArray) : (bsL s).length = s.size := by unfold bsL; rw [List.length_map, Array.length_toList]; rfl
theorem bsL_flat (s : ByteArray) : encB.flat (bsL s) = Go.Lib.strCells s := by
  rw [encB_flat]
  unfold bsL Go.Lib.strCells
  rw [List.map_map]
  rfl

/-- A text's bytes more. -/
theorem by_appS {w : World} {base : Nat} {ao : Option Addr} {cap : Nat} {A : List Int} (s : ByteArray) (h : encB.Own 5 w base (.slice ao A.length cap) A) (hs : base ≤ w.heap.size) (hn : A.length + s.size ≤ 100000000000000) :
    ∃ a2 p2 w4, (Builtin.append_ #[55, 9] 55 #[.slice ao A.length cap, .string s]).run Tryd.prog w = .ok (.slice a2 (A ++ bsL s).length p2) w4 ∧
      encB.Own 5 w4 base (.slice a2 (A ++ bsL s).length p2) (A ++ bsL s) ∧ Touch (fun d => (Value.slice ao A.length cap).ownBlock = some d) w w4 := by
  obtain ⟨i0, hi, hz, hsz, hby⟩ := Rc.info_parts infoByte
  obtain ⟨v', w', hr, ow, gr, -⟩ := Go.Lib.run_append_own_string (P := Tryd.prog) w base 55 9 55 5 i0 Tryd.underlying55 Tryd.underlying9 hi hz hsz hby _ A.length (encB.flat A) h s (by unfold maxLen; omega) (by omega) hs
  have h2 : encB.Own 5 w' base v' (A ++ bsL s) := by
    unfold Rc.Enc.Own
    rw [encB.flat_append, List.length_append, bsL_len, bsL_flat]
    exact ow
  obtain ⟨a2, p2, hv⟩ := Rc.own_shape h2
  subst hv
  refine ⟨a2, p2, w', ?_, h2, Touch.of_grownBy gr⟩
  rw [hr]

/-- The lines of the first i panes. -/
def txT (L : List Pn) : Nat → List Int
  | 0 => []
  | i + 1 => (txT L i ++ bsL (lineB (L.getD i pn0))) ++ [10]
theorem txT_len {L : List Pn} (hp : ∀ j, j < L.length → NumOk (L.getD j pn0)) : ∀ i, i ≤ L.length → (∀ j, j < i → mayP (L.getD j pn0) = true) → (txT L i).length ≤ 1200 * i
  | 0, _, _ => by simp [txT]
  | i + 1, h, hk => by
    rw [txT, List.length_append, List.length_append, bsL_len]
    have h1 := txT_len hp i (by omega) fun j hj => hk j (by omega)
    have hm := hk i (by omega)
    unfold mayP at hm
    have h2 : (lineB (L.getD i pn0)).size ≤ 1040 + 22 * 7 := txL_size (of_decide_eq_true hm).1 (hp i (by omega)) 7 (by omega)
    simp only [List.length_cons, List.length_nil]
    omega
/-- May all of them be? -/
def mayT (L : List Pn) : Bool := L.all mayP
theorem mayT_no {L : List Pn} {j : Nat} (hj : j < L.length) (h : mayP (L.getD j pn0) = false) : mayT L = false := by
  unfold mayT
  rw [Bool.eq_false_iff]
  intro h2
  rw [List.all_eq_true] at h2
  have := h2 _ (List.getElem_mem hj)
  rw [List.getD_eq_getElem?_getD, List.getElem?_eq_getElem hj] at h
  rw [Option.getD_some] at h
  rw [h] at this
  cases this
theorem mayT_yes {L : List Pn} (h : ∀ j, j < L.length → mayP (L.getD j pn0) = true) : mayT L = true := by
  unfold mayT
  rw [List.all_eq_true]
  intro x hx
  obtain ⟨j, hj, rfl⟩ := List.getElem_of_mem hx
  have := h j hj
  rw [List.getD_eq_getElem?_getD, List.getElem?_eq_getElem hj] at this
  exact this
theorem len_snoc (A : List Int) (x : Int) : (A ++ [x]).length = A.length + 1 := by rw [List.length_append]; rfl
theorem conv_none {W : World} {base : Nat} {a : Option Addr} {c : Nat} (h : encB.Own 5 W base (.slice a ([] : List Int).length c) []) : (convert 55 9 (.slice a ([] : List Int).length c)).run Tryd.prog W = .ok (.string (strOfNums [])) W := by
  obtain ⟨-, hM, -, -, hc, hA⟩ := Rc.Own.mem h
  cases a with
  | none =>
    obtain rfl := hc rfl
    kernel_rfl
  | some a =>
    obtain ⟨b, off, sp⟩ := a
    obtain ⟨h1, -, -, -⟩ := hA _ rfl
    subst h1
    exact run_convert_bytes_arg W _ _ Tryd.underlying55 Tryd.underlying5 b off _ c [] rfl (fun i hi => absurd hi (Nat.not_lt_zero _)) _ Tryd.underlying9

end Go.Proofs.YtamfcmmhmfhhkaaDoor

namespace Go.Proofs.YtamfcmmhmfhhkaaDoor
open Go.RowKit

/-- What a byte says to the base 16; -1: nothing. -/
def digX (c : Int) : Int := if 48 ≤ c ∧ c ≤ 57 then c - 48 else if 97 ≤ c ∧ c ≤ 102 then c - 87 else -1
theorem digX_hex {n : Int} (h0 : 0 ≤ n) (h1 : n < 16) : digX (hexB n) = n := by
  unfold digX hexB
  split <;> (repeat' split) <;> omega
theorem digX_no {c : Int} (h : ∀ n, 0 ≤ n → n < 16 → hexB n ≠ c) : digX c = -1 := by
  unfold digX
  by_cases h1 : 48 ≤ c ∧ c ≤ 57
  · exact absurd (by unfold hexB; rw [if_pos (by omega)]; omega) (h (c - 48) (by omega) (by omega))
  · rw [if_neg h1]
    by_cases h2 : 97 ≤ c ∧ c ≤ 102
    · exact absurd (by unfold hexB; rw [if_neg (by omega)]; omega) (h (c - 87) (by omega) (by omega))
    · rw [if_neg h2]
theorem digX_lo (c : Int) : -1 ≤ digX c ∧ digX c ≤ 15 := by
  unfold digX
  split
  · omega
  · split <;> omega

end Go.Proofs.YtamfcmmhmfhhkaaDoor

namespace Go.Proofs.YtamfcmmhmfhhkaaDoor
open Go.RowKit

theorem encZ_flat (L : List ByteArray) : encZ.flat L = L.map Value.string := by
  induction L with
  | nil => rfl
  | cons x L ih => show [Value.string x] ++ encZ.flat L = _; rw [ih]; rfl

/-- The last text of a row of one's own turned. -/
theorem st_last {w : World} {base n : Nat} {ao : Option Addr} {cap : Nat} {A : List ByteArray} {c : ByteArray} (h : encZ.Own 9 w base (.slice ao n cap) (A ++ [c])) :
    ∃ g, ao = some ⟨g, 0, none⟩ ∧ base ≤ g ∧ w.cell? ⟨g, A.length, none⟩ = some (.string c) ∧ w.frozen? ⟨g, A.length, none⟩ = false ∧ ∀ b, encZ.Own 9 (w.setCell ⟨g, A.length, none⟩ (.string b)) base (.slice (some ⟨g, 0, none⟩) n cap) (A ++ [b]) := by
  have hn := (Rc.Own.mem h).1
  have hone : encZ.n = 1 := rfl
  obtain ⟨h1, ⟨hv, h2⟩ | ⟨g, cap', cur, hv, h3, h4, h5, h6, h7, h8⟩⟩ := h
  · simp at h2
  · injection hv with e1 e2 e3
    subst e1 e3
    rw [hone, Nat.mul_one] at h7 h8
    have ht : cur.toList.take (A ++ [c]).length = (A ++ [c]).map Value.string := by rw [← encZ_flat]; exact h8
    have hl : A.length < cur.size := by
      rw [List.length_append] at h5
      simp only [List.length_cons, List.length_nil] at h5
      omega
    have hget : cur[A.length]? = some (.string c) := by
      have := congrArg (fun l => l[A.length]?) ht
      simp only [List.map_append, List.map_cons, List.map_nil] at this
      rw [List.getElem?_take_of_lt (by simp), List.getElem?_append_right (by simp)] at this
      simpa using this
    refine ⟨g, rfl, h3, ?_, by simp [World.frozen?, h4], fun b => ?_⟩
    · simp only [World.cell?, h4]
      simpa using hget
    · have k0 := heap_setCell_row (i := A.length) h4 (.string b)
      have el : (A ++ [b]).length = (A ++ [c]).length := by simp
      refine ⟨by rw [encZ.flat_len], .inr ⟨g, cap, _, by rw [el, ← hn], h3, k0, by rw [el]; exact h5, h6, by rw [hone, Nat.mul_one]; simpa using h7, ?_⟩⟩
      rw [el, hone, Nat.mul_one, encZ_flat, Array.toList_setIfInBounds, List.take_set, ht, List.map_append, List.map_append]
      show (List.map Value.string A ++ [Value.string c]).set A.length (.string b) = _
      rw [List.set_append_right _ _ (by simp)]
      simp

/-- What stands between blanks, behind the bytes of the piece under way. -/
def ptL : List UInt8 → List UInt8 → List (List UInt8)
  | cur, [] => [cur]
  | cur, b :: r => if b.toNat = 32 then cur :: ptL [] r else ptL (cur ++ [b]) r
theorem ptL_cons (cur : List UInt8) (b : UInt8) (r : List UInt8) : ptL cur (b :: r) = if b.toNat = 32 then cur :: ptL [] r else ptL (cur ++ [b]) r := rfl
/-- What stands between a text's blanks. -/
def ptB (s : ByteArray) : List (List UInt8) := ptL [] s.toList
theorem nilB : (⟨#[]⟩ : ByteArray).toList = [] := by rw [ByteArray.toList_eq]
theorem tl_at (s : ByteArray) (i : Nat) (h : i < s.size) : s.toList.drop i = s[i] :: s.toList.drop (i + 1) := by
  rw [ByteArray.toList_eq]
  have h' : i < s.data.toList.length := by rw [Array.length_toList]; exact h
  rw [List.drop_eq_getElem_cons h']
  rfl
theorem ex_toList (s : ByteArray) (a b : Nat) : (s.extract a b).toList = (s.toList.drop a).take (b - a) := by
  rw [ByteArray.toList_eq, ByteArray.toList_eq, ByteArray.data_extract, Array.toList_extract]
theorem ap_toList (a b : ByteArray) : (a ++ b).toList = a.toList ++ b.toList := by
  rw [ByteArray.toList_eq, ByteArray.toList_eq, ByteArray.toList_eq, ByteArray.data_append, Array.toList_append]
/-- A piece, one byte more. -/
theorem pc_next {s : ByteArray} {i : Nat} (h : i < s.size) (c : ByteArray) : (c ++ s.extract i (i + 1)).toList = c.toList ++ [s[i]'h] := by
  rw [ap_toList, ex_toList, tl_at s i h]
  simp

/-- What a function answers that makes texts. -/
def RetZ (w : World) (e : Ending) (w' : World) (C : List (List UInt8)) : Prop := ∃ ao cap L, e = .returned (.slice ao L.length cap) ∧ encZ.Own 9 w' w.heap.size (.slice ao L.length cap) L ∧ L.map (·.toList) = C ∧ Calm w w'

end Go.Proofs.YtamfcmmhmfhhkaaDoor
