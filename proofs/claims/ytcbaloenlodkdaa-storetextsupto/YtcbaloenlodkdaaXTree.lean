/- Trees in memory, told by what they hold in order; the small functions. -/
import Derived.Test.YtcbaloenlodkdaaSBase
namespace Go.Proofs.Ytcbaloenlodkdaa.XM
open Go.RowKit

/-- A tree in memory, told by what it holds in order. -/
inductive TL (w : World) : Value → List (ByteArray × (Option Addr × Nat × Nat)) → Prop
  | nil : TL w (.pointer none) []
  | node {b : Nat} {k : ByteArray} {v : (Option Addr × Nat × Nat)} {p q : Option Addr} {L R : List (ByteArray × (Option Addr × Nat × Nat))}
      (hb : w.heap[b]? = some (.cells #[.string k, .slice v.1 v.2.1 v.2.2, .int .i64 (((L.length + 1 + R.length : Nat)) : Int), .pointer p, .pointer q] 100 (0, 0)))
      (hl : TL w (.pointer p) L) (hr : TL w (.pointer q) R) : TL w (.pointer (some ⟨b, 0, none⟩)) (L ++ (k, v) :: R)

theorem TL.calm {w w' : World} {p : Value} {L : List (ByteArray × (Option Addr × Nat × Nat))} (h : TL w p L) (ht : Calm w w') : TL w' p L := by
  induction h with
  | nil => exact .nil
  | node hb _ _ il ir => exact .node (ht.at hb) il ir

theorem TL.ptr {w : World} {p : Value} {L : List (ByteArray × (Option Addr × Nat × Nat))} (h : TL w p L) : ∃ a, p = .pointer a := by cases h <;> exact ⟨_, rfl⟩

theorem TL.none_of {w : World} {p : Value} (h : TL w p []) : p = .pointer none := by
  generalize hX : ([] : List (ByteArray × (Option Addr × Nat × Nat))) = X at h
  cases h with
  | nil => rfl
  | node => simp at hX

theorem TL.some_of {w : World} {p : Option Addr} {X : List (ByteArray × (Option Addr × Nat × Nat))} (h : TL w (.pointer p) X) (hne : X ≠ []) : ∃ b, p = some b := by
  cases h with
  | nil => exact absurd rfl hne
  | node => exact ⟨_, rfl⟩

set_option maxRecDepth 100000 in
theorem size_any (p : Value) (L : List (ByteArray × (Option Addr × Nat × Nat))) (w : World) (h : TL w p L) : Calls Try.prog 59 #[p] w fun e w' => e = .returned (.int .i64 (L.length : Nat)) ∧ w' = w := by
  cases h with
  | nil =>
    go_enter Try.func59, Try.ntmps59
    go_wp2_with fail
    go_ret
    exact ⟨rfl, rfl⟩
  | node hb hl hr =>
    obtain ⟨c0, c1, c2, c3, c4⟩ := cells5 hb
    rename_i b k v p q L R
    have e : (L ++ (k, v) :: R).length = L.length + 1 + R.length := by simp; omega
    rw [e]
    generalize L.length + 1 + R.length = n at *
    go_enter Try.func59, Try.ntmps59
    go_wp2_with fail
    go_ret
    exact ⟨rfl, rfl⟩

end Go.Proofs.Ytcbaloenlodkdaa.XM
