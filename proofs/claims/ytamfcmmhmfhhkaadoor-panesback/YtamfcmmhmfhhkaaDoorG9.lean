/- An append, as an operation. Quote: a key quoted (the document's; the walk). Line: a pane's line (the document's). -/
import Derived.Test.YtamfcmmhmfhhkaaDoorG0
import Derived.Test.YtamfcmmhmfhhkaaDoorG8
import Derived.Great.BuildSlice
import Derived.Test.YtamfcmmhmfhhkaaDoorG5
namespace Go.Proofs.YtamfcmmhmfhhkaaDoor
open Go.RowKit

/-- An append, as an operation. -/
theorem exec_apk {P : Program} {w w' : World} {o : Oper} {a : Act} (s x : Operand) (t tx : TypeId) (ho : o.op = .call { callee := .builtin .append, args := #[s, x], argTypes := #[t, tx] }) (v y r : Value) (hv : a.eval s = v) (hy : a.eval x = y)
    (hr : (Builtin.append_ #[t, tx] o.type #[v, y]).run P w = .ok r w') : (execOp a.eval o).run P w = .ok (.value r) w' := by
  unfold execOp
  simp only [ho, resolve, invoke, builtin, Sem.run_bind, Sem.run_pure, Result.andThen_ok, List.map_toArray, List.map_cons, List.map_nil, hv, hy, hr]

end Go.Proofs.YtamfcmmhmfhhkaaDoor

namespace Go.Proofs.YtamfcmmhmfhhkaaDoor
open Go.RowKit

theorem Own.byte {w : World} {base g : Nat} {x : Int} (hg : base ≤ g) (h : w.heap[g]? = some (.cells #[.int .u8 x] 5 (0, 0))) : encB.Own 5 w base (.slice (some ⟨g, 0, none⟩) 1 1) [x] :=
  ⟨rfl, .inr ⟨g, 1, #[.int .u8 x], rfl, hg, h, Nat.le_refl _, by decide, rfl, rfl⟩⟩
theorem conv_own {W : World} {base : Nat} {a : Option Addr} {c : Nat} {xs : List Int} (h : encB.Own 5 W base (.slice a xs.length c) xs) (hne : xs ≠ []) : (convert 55 9 (.slice a xs.length c)).run Tryd.prog W = .ok (.string (strOfNums xs)) W := by
  obtain ⟨-, hm, -, -, -, -⟩ := Rc.Own.mem h
  have hl := List.length_pos_iff.2 hne
  obtain ⟨b, off, rfl, -⟩ := by_at hm 0 hl
  refine run_convert_bytes_arg W _ _ Tryd.underlying55 Tryd.underlying5 b off _ c xs rfl (fun i hi => ?_) _ Tryd.underlying9
  obtain ⟨b2, off2, e, k⟩ := by_at hm i hi
  injection e with e
  injection e with e1 e2
  subst e1 e2
  exact k

end Go.Proofs.YtamfcmmhmfhhkaaDoor

namespace Go.Proofs.YtamfcmmhmfhhkaaDoor
open Go.RowKit

/-- A blank. -/
def blB : ByteArray := ⟨#[32]⟩
/-- A pane's line, its first i numbers. -/
def txL (p : Pn) : Nat → ByteArray
  | 0 => (strOfNums (quoA p.k) ++ blB) ++ nameB p.d
  | i + 1 => (txL p i ++ blB) ++ intB ((numsP p).getD i 0)
def lineB (p : Pn) : ByteArray := txL p 7
/-- A pane's numbers are numbers. -/
def NumOk (p : Pn) : Prop := ∀ i, i < 7 → -9223372036854775808 ≤ (numsP p).getD i 0 ∧ (numsP p).getD i 0 ≤ 9223372036854775807
theorem quoA_len {s : ByteArray} (h : s.size ≤ 256) : (quoA s).length ≤ 1026 := by
  unfold quoA
  rw [List.length_append]
  have := quoL_len (s := s) s.size (Nat.le_refl _)
  simp only [List.length_cons, List.length_nil]
  omega
theorem nameB_size (d : Int) : (nameB d).size ≤ 6 := by
  unfold nameB
  split
  · decide
  · split <;> decide
theorem txL_size {p : Pn} (hk : p.k.size ≤ 256) (h : NumOk p) : ∀ i, i ≤ 7 → (txL p i).size ≤ 1040 + 22 * i
  | 0, _ => by
    rw [txL]
    simp only [ByteArray.size_append, strOfNums_size]
    have := quoA_len hk
    have := nameB_size p.d
    have e : blB.size = 1 := rfl
    omega
  | i + 1, hi => by
    rw [txL]
    simp only [ByteArray.size_append]
    have := txL_size hk h i (by omega)
    have := intB_size (h i (by omega)).1 (h i (by omega)).2
    have e : blB.size = 1 := rfl
    omega

end Go.Proofs.YtamfcmmhmfhhkaaDoor
