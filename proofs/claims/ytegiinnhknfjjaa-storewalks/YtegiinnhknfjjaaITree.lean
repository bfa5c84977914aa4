/- Trees in memory, told by what they hold in order; the small functions. -/
import Derived.Test.YtegiinnhknfjjaaSBase
namespace Go.Proofs.Ytegiinnhknfjjaa.IM
open Go.RowKit

/-- A tree in memory, told by what it holds in order. -/
inductive TL (w : World) : Value → List (Int × Int) → Prop
  | nil : TL w (.pointer none) []
  | node {b : Nat} {k : Int} {v : Int} {p q : Option Addr} {L R : List (Int × Int)}
      (hb : w.heap[b]? = some (.cells #[.int .i64 k, .int .i64 v, .int .i64 (((L.length + 1 + R.length : Nat)) : Int), .pointer p, .pointer q] 105 (0, 0)))
      (hl : TL w (.pointer p) L) (hr : TL w (.pointer q) R) : TL w (.pointer (some ⟨b, 0, none⟩)) (L ++ (k, v) :: R)

theorem TL.calm {w w' : World} {p : Value} {L : List (Int × Int)} (h : TL w p L) (ht : Calm w w') : TL w' p L := by
  induction h with
  | nil => exact .nil
  | node hb _ _ il ir => exact .node (ht.at hb) il ir

theorem TL.ptr {w : World} {p : Value} {L : List (Int × Int)} (h : TL w p L) : ∃ a, p = .pointer a := by cases h <;> exact ⟨_, rfl⟩

theorem TL.none_of {w : World} {p : Value} (h : TL w p []) : p = .pointer none := by
  generalize hX : ([] : List (Int × Int)) = X at h
  cases h with
  | nil => rfl
  | node => simp at hX

theorem TL.some_of {w : World} {p : Option Addr} {X : List (Int × Int)} (h : TL w (.pointer p) X) (hne : X ≠ []) : ∃ b, p = some b := by
  cases h with
  | nil => exact absurd rfl hne
  | node => exact ⟨_, rfl⟩

set_option maxRecDepth 100000 in
theorem size_any (p : Value) (L : List (Int × Int)) (w : World) (h : TL w p L) : Calls Try.prog 64 #[p] w fun e w' => e = .returned (.int .i64 (L.length : Nat)) ∧ w' = w := by
  cases h with
  | nil =>
    go_enter Try.func64, Try.ntmps64
    go_wp2_with fail
    go_ret
    exact ⟨rfl, rfl⟩
  | node hb hl hr =>
    obtain ⟨c0, c1, c2, c3, c4⟩ := cells5 hb
    rename_i b k v p q L R
    have e : (L ++ (k, v) :: R).length = L.length + 1 + R.length := by simp; omega
    rw [e]
    generalize L.length + 1 + R.length = n at *
    go_enter Try.func64, Try.ntmps64
    go_wp2_with fail
    go_ret
    exact ⟨rfl, rfl⟩

end Go.Proofs.Ytegiinnhknfjjaa.IM
