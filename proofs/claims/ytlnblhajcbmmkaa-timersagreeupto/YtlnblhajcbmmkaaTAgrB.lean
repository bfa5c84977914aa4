/- TimersAgree: the list told backward and forward. -/
import Derived.Test.YtlnblhajcbmmkaaTEq
import Derived.Test.YtlnblhajcbmmkaaTDrop
namespace Go.Proofs.Ytlnblhajcbmmkaa
open Go.RowKit

/-- Two timers in a row just made. -/
theorem tms_two (w : World) (s t : Tm) : Tms (w.alloc (.cells #[.int .i64 s.at_, .string s.key, .int .i64 s.start, .int .i64 s.stop, .int .i64 t.at_, .string t.key, .int .i64 t.start, .int .i64 t.stop] 35)) (some ⟨w.heap.size, 0, none⟩) [s, t] := fun j hj => by
  have h := heap_alloc_last w (.cells #[.int .i64 s.at_, .string s.key, .int .i64 s.start, .int .i64 s.stop, .int .i64 t.at_, .string t.key, .int .i64 t.start, .int .i64 t.stop] 35)
  refine ⟨w.heap.size, 0, rfl, ?_⟩
  generalize w.alloc (.cells #[.int .i64 s.at_, .string s.key, .int .i64 s.start, .int .i64 s.stop, .int .i64 t.at_, .string t.key, .int .i64 t.start, .int .i64 t.stop] 35) = W at *
  generalize w.heap.size = A at *
  have hj2 : j < 2 := by simpa using hj
  rcases (show j = 0 ∨ j = 1 by omega) with rfl | rfl <;> simp [World.cell?, h]

/-- So much of `back` is laid. -/
structure Bk (w : World) (l : List Tm) (j : Nat) (bo : Option Addr) (bc : Nat) (B : List Tm) (wr : World) : Prop where
  own : OwnT wr w.heap.size (.slice bo (2 * j) bc) B
  len : B.length = 2 * j
  sub : ∀ x ∈ B, x ∈ l
  all : ∀ i, i < j → nth l (l.length - 1 - i) ∈ B
  calm : Calm w wr

theorem Bk.none (w : World) (l : List Tm) : Bk w l 0 none 0 [] w := ⟨World.ownsRow_nil _ _ _ _, rfl, fun x h => (nomatch h), fun i h => by omega, Touch.refl _ _⟩

theorem nth_in {l : List Tm} {i : Nat} (h : i < l.length) : nth l i ∈ l := mem_nth.2 ⟨i, h, rfl⟩

theorem Bk.next {w wr w' : World} {l : List Tm} {j : Nat} {bo bo' : Option Addr} {bc bc' : Nat} {B : List Tm} (h : Bk w l j bo bc B wr) (hj : j < l.length)
    (ow : OwnT w' w.heap.size (.slice bo' (B ++ [nth l (l.length - 1 - j), nth l j]).length bc') (B ++ [nth l (l.length - 1 - j), nth l j])) (ht : Calm w w') : Bk w l (j + 1) bo' bc' (B ++ [nth l (l.length - 1 - j), nth l j]) w' := by
  have e : (B ++ [nth l (l.length - 1 - j), nth l j]).length = 2 * (j + 1) := by simp [h.len]; omega
  refine ⟨by rw [e] at ow; exact ow, e, fun x hx => ?_, fun i hi => ?_, ht⟩
  · rcases List.mem_append.1 hx with hx | hx
    · exact h.sub x hx
    · simp at hx
      rcases hx with rfl | rfl
      · exact nth_in (by omega)
      · exact nth_in hj
  · rcases (show i < j ∨ i = j by omega) with hi | rfl
    · exact List.mem_append_left _ (h.all i hi)
    · exact List.mem_append_right _ (by simp)

/-- The whole list stands in `back`. -/
theorem Bk.whole {w wr : World} {l : List Tm} {bo : Option Addr} {bc : Nat} {B : List Tm} (h : Bk w l l.length bo bc B wr) : ∀ x, x ∈ B ↔ x ∈ l := fun x => ⟨h.sub x, fun hx => by
  obtain ⟨i, hi, rfl⟩ := mem_nth.1 hx
  have := h.all (l.length - 1 - i) (by omega)
  rwa [show l.length - 1 - (l.length - 1 - i) = i by omega] at this⟩

end Go.Proofs.Ytlnblhajcbmmkaa
