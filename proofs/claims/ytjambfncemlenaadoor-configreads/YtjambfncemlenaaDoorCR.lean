/- A job out of a text (the document's Parse). -/
import Derived.Test.YtjambfncemlenaaDoorCE
import Derived.Test.YtjambfncemlenaaDoorCQ
import Derived.Test.YtjambfncemlenaaDoorCT
namespace Go.Proofs.YtjambfncemlenaaDoor
open Go.RowKit
open Cg

/-- No text. -/
abbrev z0 : ByteArray := ⟨#[]⟩
/-- The kind that a word tells, of the first k; x: none of them. -/
def kinS (z : List UInt8) (x : Int) : Nat → Int
  | 0 => x
  | k + 1 => if ((valB 2 ((k + 1 : Nat) : Int)).toList == z) then ((k + 1 : Nat) : Int) else kinS z x k
/-- A field's number, out of a text's pieces. -/
def pfX (L : List ByteArray) (i : Nat) : Int :=
  if i = 2 then kinS (L.getD 5 z0).toList (digB (L.getD (2 * i + 1) z0) : Nat) 3
  else if i = 9 ∧ ((L.getD 19 z0).toList == [121, 101, 115]) = true then 1 else (digB (L.getD (2 * i + 1) z0) : Nat)
/-- The first i of them. -/
def pfF (L : List ByteArray) (i : Nat) : Nat → Int := fun k => if k < i then pfX L k else 0
theorem pfF_next (L : List ByteArray) (i : Nat) : upF (pfF L i) i (pfX L i) = pfF L (i + 1) := by
  funext k
  unfold upF pfF
  by_cases h : k = i
  · rw [if_pos h, h, if_pos (by omega)]
  · rw [if_neg h]
    by_cases h2 : k < i
    · rw [if_pos h2, if_pos (by omega)]
    · rw [if_neg h2, if_neg (by omega)]
theorem pfF_zero (L : List ByteArray) : pfF L 0 = fun _ => 0 := by
  funext k
  unfold pfF
  rw [if_neg (by omega)]

theorem digL_lt : ∀ (l : List UInt8) (i x : Nat), i ≤ 18 → x < 10 ^ i → digL l i x < 1000000000000000000
  | [], i, x, hi, hx => by
    have h : 10 ^ i ≤ 10 ^ 18 := Nat.pow_le_pow_right (by omega) hi
    have e : (10 : Nat) ^ 18 = 1000000000000000000 := by decide
    show x < _
    omega
  | b :: r, i, x, hi, hx => by
    rw [digL_cons]
    split
    · omega
    · refine digL_lt r (i + 1) _ (by omega) ?_
      rw [Nat.pow_succ]
      omega
theorem kinS_in (z : List UInt8) {x : Int} (h : 0 ≤ x ∧ x < 1000000000000000000) : ∀ k, k ≤ 3 → 0 ≤ kinS z x k ∧ kinS z x k < 1000000000000000000
  | 0, _ => h
  | k + 1, hk => by
    unfold kinS
    split
    · omega
    · exact kinS_in z h k (by omega)
theorem pfX_in (L : List ByteArray) (i : Nat) : 0 ≤ pfX L i ∧ pfX L i < 1000000000000000000 := by
  have h : ∀ s, 0 ≤ ((digB s : Nat) : Int) ∧ ((digB s : Nat) : Int) < 1000000000000000000 := fun s => by
    have := digL_lt s.toList 0 0 (by omega) (by decide)
    unfold digB
    omega
  unfold pfX
  split
  · exact kinS_in _ (h _) 3 (by omega)
  · split
    · omega
    · exact h _
theorem wrong_kind {c : Cf} (h : wrongN c = 0) : 1 ≤ c.ki ∧ c.ki ≤ 3 := by
  have st : ∀ n k, wrongF c n (k + 1) = if fieldB c n then wrongF c (n + 1) k else n := fun _ _ => rfl
  unfold wrongN at h
  rw [st, st, st] at h
  split at h
  · split at h
    · split at h
      · rename_i h3
        unfold fieldB at h3
        simp at h3
        omega
      · cases h
    · cases h
  · cases h
theorem txtOk_of {f : Nat → Int} (h : ∀ k, 0 ≤ f k ∧ f k < 1000000000000000000) (hw : wrongN (ofF f) = 0) : TxtOk (ofF f) := fun i hi => by
  have hk := wrong_kind hw
  have e : ∀ j, j < 9 → fldF (ofF f) j = f j := fun j hj => by
    rcases (by omega : j = 0 ∨ j = 1 ∨ j = 2 ∨ j = 3 ∨ j = 4 ∨ j = 5 ∨ j = 6 ∨ j = 7 ∨ j = 8) with rfl | rfl | rfl | rfl | rfl | rfl | rfl | rfl | rfl <;> rfl
  by_cases h9 : i = 9
  · subst h9
    have : fldF (ofF f) 9 = if (ofF f).di then 1 else 0 := rfl
    rw [this]
    refine ⟨fun h => by omega, fun _ => ?_, ?_, ?_⟩ <;> split <;> omega
  · rw [e i (by omega)]
    have := h i
    refine ⟨fun h2 => ?_, fun h => absurd h h9, by omega, by omega⟩
    subst h2
    exact hk

/-- What the document's Parse answers. -/
def prsJ (L : List ByteArray) (s : ByteArray) : Cf × Bool :=
  if L.length = 20 then if wrongN (ofF (pfF L 10)) = 0 ∧ ((txtS (ofF (pfF L 10)) 10).toList == s.toList) = true then (ofF (pfF L 10), true) else (cf0, false) else (cf0, false)

end Go.Proofs.YtjambfncemlenaaDoor
