/- cmp.Compare of texts. -/
import Derived.Test.YtcbaloenlodkdaaXCall
import Derived.Test.YtcbaloenlodkdaaSOrd
namespace Go.Proofs.Ytcbaloenlodkdaa.XM
open Go.RowKit

/-- The model's '<' on texts is the lexical order of their bytes. -/
theorem less_eq : ∀ (x y : List UInt8), Op.bytesLess x y = decide (x < y)
  | [], [] => by simp [Op.bytesLess]
  | _ :: _, [] => by simp [Op.bytesLess]
  | [], _ :: _ => by simp [Op.bytesLess]
  | a :: x, b :: y => by
    rw [Op.bytesLess, less_eq x y]
    simp only [List.cons_lt_cons_iff]
    by_cases h1 : a < b <;> by_cases h2 : a = b <;> by_cases h3 : x < y <;> simp [h1, h2, h3]

/-- How two texts compare. -/
def cmpS (a b : ByteArray) : Int := if Op.bytesLess a.toList b.toList = true then -1 else if (a.toList == b.toList) = true then 0 else 1

theorem cmpS_lt {a b : ByteArray} : cmpS a b < 0 ↔ a.toList < b.toList := by
  unfold cmpS
  rw [less_eq]
  by_cases h : a.toList < b.toList
  · simp [h]
  · simp only [h, decide_false, Bool.false_eq_true, if_false]
    split <;> simp

theorem cmpS_eq {a b : ByteArray} : cmpS a b = 0 ↔ a.toList = b.toList := by
  unfold cmpS
  rw [less_eq]
  by_cases h : a.toList < b.toList
  · simp only [h, decide_true, if_true]
    refine ⟨fun h => by omega, fun e => ?_⟩
    rw [e] at h
    exact absurd h (List.lt_irrefl _)
  · simp only [h, decide_false, Bool.false_eq_true, if_false]
    by_cases e : a.toList = b.toList <;> simp [e]

theorem cmpS_gt {a b : ByteArray} : 0 < cmpS a b ↔ b.toList < a.toList := by
  constructor
  · intro h
    refine Classical.byContradiction fun hn => ?_
    have h1 : ¬ a.toList < b.toList := fun h1 => by have := cmpS_lt.2 h1; omega
    have := cmpS_eq.2 (List.le_antisymm (List.not_lt.1 hn) (List.not_lt.1 h1))
    omega
  · intro h
    rcases (show cmpS a b < 0 ∨ cmpS a b = 0 ∨ 0 < cmpS a b by omega) with h1 | h1 | h1
    · exact absurd (List.lt_trans h (cmpS_lt.1 h1)) (List.lt_irrefl _)
    · rw [cmpS_eq.1 h1] at h; exact absurd h (List.lt_irrefl _)
    · exact h1

theorem cmpS_val (a b : ByteArray) : cmpS a b = -1 ∨ cmpS a b = 0 ∨ cmpS a b = 1 := by
  unfold cmpS
  split
  · simp
  · split <;> simp

theorem cmpS_ord : Ordr cmpS where
  anti := fun a b => by
    rcases cmpS_val a b with h | h | h
    · have h1 := cmpS_gt.2 (cmpS_lt.1 (show cmpS a b < 0 by omega))
      have := cmpS_val b a; omega
    · have h1 := cmpS_eq.2 (cmpS_eq.1 h).symm
      omega
    · have h1 := cmpS_lt.2 (cmpS_gt.1 (show 0 < cmpS a b by omega))
      have := cmpS_val b a; omega
  trans := fun a b d h1 h2 => by
    rcases (show cmpS a b < 0 ∨ cmpS a b = 0 by omega) with g1 | g1
    · rcases (show cmpS b d < 0 ∨ cmpS b d = 0 by omega) with g2 | g2
      · exact Int.le_of_lt (cmpS_lt.2 (List.lt_trans (cmpS_lt.1 g1) (cmpS_lt.1 g2)))
      · refine Int.le_of_lt (cmpS_lt.2 ?_); rw [← cmpS_eq.1 g2]; exact cmpS_lt.1 g1
    · rcases (show cmpS b d < 0 ∨ cmpS b d = 0 by omega) with g2 | g2
      · refine Int.le_of_lt (cmpS_lt.2 ?_); rw [cmpS_eq.1 g1]; exact cmpS_lt.1 g2
      · exact Int.le_of_eq (cmpS_eq.2 ((cmpS_eq.1 g1).trans (cmpS_eq.1 g2)))

set_option maxRecDepth 100000 in
theorem isNaNS_any (a : ByteArray) (w : World) : Calls Try.prog 69 #[.string a] w fun e w' => e = .returned (.bool false) ∧ w' = w := by
  go_enter Try.func69, Try.ntmps69
  go_wp2_with fail
  go_ret
  exact ⟨by simp, rfl⟩

set_option maxRecDepth 100000 in
theorem cmpS_any (a b : ByteArray) (w : World) : Calls Try.prog 50 #[.string a, .string b] w fun e w' => e = .returned (.int .i64 (cmpS a b)) ∧ w' = w := by
  have NA := hide (isNaNS_any a w)
  have NB := hide (isNaNS_any b w)
  unfold cmpS
  go_enter Try.func50, Try.ntmps50
  go_wp2_with fail
  refine NA.out.mono ?_
  rintro e w' ⟨rfl, hq⟩
  obtain rfl := hq.symm
  clear hq
  go_wp2_with fail
  refine NB.out.mono ?_
  rintro e w' ⟨rfl, hq⟩
  obtain rfl := hq.symm
  clear hq
  cases h1 : Op.bytesLess a.toList b.toList <;> cases h2 : (a.toList == b.toList)
  all_goals
    go_wp2_with fail
    all_goals
      go_ret
      exact ⟨by simp, rfl⟩

/-- cmp.Compare of texts as an order. -/
theorem cmpOf : Cmp 50 #[] cmpS (fun _ => True) where
  enter := fun args w => by kernel_rfl
  calls := fun a b w _ => cmpS_any a b w
  calm := fun _ _ _ _ => trivial

end Go.Proofs.Ytcbaloenlodkdaa.XM
