/- A span among rising ones: the notions. -/
import Derived.Test.YtbhofihikimgeaaRRMW
namespace Go.Proofs.YtbhofihikimgeaaRR
open Go.RowKit

/-- How many begin ahead of it. -/
def leadS (l : List Sp) (s : Sp) : Nat := (l.takeWhile fun x => decide (x.a < s.a)).length
def putS (l : List Sp) (s : Sp) : List Sp := l.take (leadS l s) ++ [s] ++ l.drop (leadS l s)

theorem leadS_eq : ∀ (l : List Sp) (s : Sp) (i : Nat), i ≤ l.length → (∀ j, j < i → (l.getD j sp0).a < s.a) → (i < l.length → ¬ (l.getD i sp0).a < s.a) → leadS l s = i
  | [], _, i, hi, _, _ => by simp at hi; subst hi; rfl
  | x :: l, s, 0, _, _, h2 => by
    have : ¬ x.a < s.a := h2 (by simp)
    simp [leadS, this]
  | x :: l, s, i + 1, hi, h1, h2 => by
    have h0 : x.a < s.a := h1 0 (by omega)
    have ih := leadS_eq l s i (by simpa using hi) (fun j hj => h1 (j + 1) (by omega)) (fun h => h2 (by simpa using h))
    unfold leadS at ih ⊢
    rw [List.takeWhile_cons, if_pos (by simpa using h0), List.length_cons, ih]

theorem infoSpan : (Try.prog.info? 24).map (fun i => (i.zero, i.size, i.bytes)) = some (some (.agg #[.int .i64 0, .int .i64 0]), 2, 16) := by kernel_rfl
theorem elemSpan : Try.prog.elem 64 = 24 := by kernel_rfl

/-- A list of spans that a call made. -/
def RetS (w : World) (e : Ending) (w' : World) (L : List Sp) : Prop := ∃ ao cap, e = .returned (.slice ao L.length cap) ∧ encS.Own 24 w' w.heap.size (.slice ao L.length cap) L ∧ Calm w w'

theorem C3_at {w1 w2 w3 : World} {g : Nat} {o : Obj} {S : Nat → Prop} (T3 : Calm w1 w2) (t1 : Touch S w2 w3) (h : w1.heap[g]? = some o) (hS : ∀ g, ¬ S g := by intro g h; cases h) : w3.heap[g]? = some o := t1.heap (T3.at h) (hS g)

end Go.Proofs.YtbhofihikimgeaaRR
