/- How two texts compare. -/
import Derived.Test.YtapnjofplilefaaGreatSBase
import Derived.Lib.Bytealg
namespace Go.Proofs.YtapnjofplilefaaGreat
open Go.RowKit
namespace Sc

/-- An order. -/
structure Ordr {K : Type} (c : K → K → Int) : Prop where
  anti : ∀ a b, c b a = - c a b
  trans : ∀ a b d, c a b ≤ 0 → c b d ≤ 0 → c a d ≤ 0

section
variable {K : Type} {c : K → K → Int}

theorem Ordr.lt_le (h : Ordr c) {a b d : K} (h1 : c a b < 0) (h2 : c b d ≤ 0) : c a d < 0 := by
  rcases (show c a d < 0 ∨ 0 ≤ c a d by omega) with h3 | h3
  · exact h3
  · have h4 := h.trans b d a h2 (by rw [h.anti a d]; omega)
    rw [h.anti a b] at h4
    omega

theorem Ordr.le_lt (h : Ordr c) {a b d : K} (h1 : c a b ≤ 0) (h2 : c b d < 0) : c a d < 0 := by
  rcases (show c a d < 0 ∨ 0 ≤ c a d by omega) with h3 | h3
  · exact h3
  · have h4 := h.trans d a b (by rw [h.anti a d]; omega) h1
    rw [h.anti b d] at h4
    omega

theorem Ordr.self (h : Ordr c) (a : K) : c a a = 0 := by have := h.anti a a; omega

end

/-- The model's '<' on texts is the lexical order of their bytes. -/
theorem less_eq : ∀ (x y : List UInt8), Op.bytesLess x y = decide (x < y)
  | [], [] => by simp [Op.bytesLess]
  | _ :: _, [] => by simp [Op.bytesLess]
  | [], _ :: _ => by simp [Op.bytesLess]
  | a :: x, b :: y => by
    rw [Op.bytesLess, less_eq x y]
    simp only [List.cons_lt_cons_iff]
    by_cases h1 : a < b <;> by_cases h2 : a = b <;> by_cases h3 : x < y <;> simp [h1, h2, h3]

/-- How two texts compare. -/
def cmpS (a b : ByteArray) : Int := if Op.bytesLess a.toList b.toList = true then -1 else if (a.toList == b.toList) = true then 0 else 1

theorem cmpS_lt {a b : ByteArray} : cmpS a b < 0 ↔ a.toList < b.toList := by
  unfold cmpS
  rw [less_eq]
  by_cases h : a.toList < b.toList
  · simp [h]
  · simp only [h, decide_false, Bool.false_eq_true, if_false]
    split <;> simp

theorem cmpS_eq {a b : ByteArray} : cmpS a b = 0 ↔ a.toList = b.toList := by
  unfold cmpS
  rw [less_eq]
  by_cases h : a.toList < b.toList
  · simp only [h, decide_true, if_true]
    refine ⟨fun h => by omega, fun e => ?_⟩
    rw [e] at h
    exact absurd h (List.lt_irrefl _)
  · simp only [h, decide_false, Bool.false_eq_true, if_false]
    by_cases e : a.toList = b.toList <;> simp [e]

theorem cmpS_gt {a b : ByteArray} : 0 < cmpS a b ↔ b.toList < a.toList := by
  constructor
  · intro h
    refine Classical.byContradiction fun hn => ?_
    have h1 : ¬ a.toList < b.toList := fun h1 => by have := cmpS_lt.2 h1; omega
    have := cmpS_eq.2 (List.le_antisymm (List.not_lt.1 hn) (List.not_lt.1 h1))
    omega
  · intro h
    rcases (show cmpS a b < 0 ∨ cmpS a b = 0 ∨ 0 < cmpS a b by omega) with h1 | h1 | h1
    · exact absurd (List.lt_trans h (cmpS_lt.1 h1)) (List.lt_irrefl _)
    · rw [cmpS_eq.1 h1] at h; exact absurd h (List.lt_irrefl _)
    · exact h1

theorem cmpS_val (a b : ByteArray) : cmpS a b = -1 ∨ cmpS a b = 0 ∨ cmpS a b = 1 := by
  unfold cmpS
  split
  · simp
  · split <;> simp

theorem cmpS_ord : Ordr cmpS where
  anti := fun a b => by
    rcases cmpS_val a b with h | h | h
    · have h1 := cmpS_gt.2 (cmpS_lt.1 (show cmpS a b < 0 by omega))
      have := cmpS_val b a; omega
    · have h1 := cmpS_eq.2 (cmpS_eq.1 h).symm
      omega
    · have h1 := cmpS_lt.2 (cmpS_gt.1 (show 0 < cmpS a b by omega))
      have := cmpS_val b a; omega
  trans := fun a b d h1 h2 => by
    rcases (show cmpS a b < 0 ∨ cmpS a b = 0 by omega) with g1 | g1
    · rcases (show cmpS b d < 0 ∨ cmpS b d = 0 by omega) with g2 | g2
      · exact Int.le_of_lt (cmpS_lt.2 (List.lt_trans (cmpS_lt.1 g1) (cmpS_lt.1 g2)))
      · refine Int.le_of_lt (cmpS_lt.2 ?_); rw [← cmpS_eq.1 g2]; exact cmpS_lt.1 g1
    · rcases (show cmpS b d < 0 ∨ cmpS b d = 0 by omega) with g2 | g2
      · refine Int.le_of_lt (cmpS_lt.2 ?_); rw [cmpS_eq.1 g1]; exact cmpS_lt.1 g2
      · exact Int.le_of_eq (cmpS_eq.2 ((cmpS_eq.1 g1).trans (cmpS_eq.1 g2)))

theorem cmpS_same {a b : ByteArray} : cmpS a b = 0 ↔ a = b := by
  rw [cmpS_eq, ByteArray.toList_eq, ByteArray.toList_eq]
  constructor
  · intro h
    obtain ⟨⟨la⟩⟩ := a
    obtain ⟨⟨lb⟩⟩ := b
    simp at h
    rw [h]
  · rintro rfl; rfl

theorem compare_bytes : ∀ (x y : List UInt8), Lib.compareBytes x y = if Op.bytesLess x y = true then -1 else if (x == y) = true then 0 else 1
  | [], [] => by simp [Lib.compareBytes, Op.bytesLess]
  | [], _ :: _ => by simp [Lib.compareBytes, Op.bytesLess]
  | _ :: _, [] => by simp [Lib.compareBytes, Op.bytesLess]
  | a :: x, b :: y => by
    rw [Lib.compareBytes, compare_bytes x y, less_eq, less_eq]
    simp only [List.cons_lt_cons_iff]
    by_cases h1 : a < b
    · simp [h1]
    · by_cases h2 : b < a
      · have : ¬ a = b := fun e => by subst e; exact h1 h2
        simp [h1, h2, this]
      · have : a = b := UInt8.le_antisymm (UInt8.not_lt.1 h2) (UInt8.not_lt.1 h1)
        subst this
        simp [h1]

theorem compare_cmpS (a b : ByteArray) : Lib.compareBytes a.data.toList b.data.toList = cmpS a b := by
  rw [compare_bytes]; unfold cmpS; rw [ByteArray.toList_eq, ByteArray.toList_eq]

set_option maxRecDepth 100000 in
theorem cmpStr_any (a b : ByteArray) (w : World) : Calls Tryz.prog 79 #[.string a, .string b] w fun e w' => e = .returned (.int .i64 (cmpS a b)) ∧ w' = w := by
  go_enter Tryz.func79, Tryz.ntmps79
  go_wp2
  rw [run_callFunc_extern Tryz.func90 (by kernel_rfl) (by kernel_rfl) (by kernel_rfl) (e := Extern.BytealgCompare.compare) (by kernel_rfl), Lib.run_compareString]
  simp only [Result.andThen]
  rw [Oper.upon_value, compare_cmpS]
  go_wp2
  go_ret
  exact ⟨rfl, rfl⟩

set_option maxRecDepth 100000 in
theorem compareS_any (a b : ByteArray) (w : World) : Calls Tryz.prog 75 #[.string a, .string b] w fun e w' => e = .returned (.int .i64 (cmpS a b)) ∧ w' = w := by
  have C := hide (cmpStr_any a b w)
  go_enter Tryz.func75, Tryz.ntmps75
  go_wp2_with fail
  refine C.out.mono ?_
  rintro e w' ⟨rfl, hq⟩
  obtain rfl := hq.symm
  clear hq
  go_wp2_with fail
  go_ret
  exact ⟨rfl, rfl⟩

end Sc
end Go.Proofs.YtapnjofplilefaaGreat
