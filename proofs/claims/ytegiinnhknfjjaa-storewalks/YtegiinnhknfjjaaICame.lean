/- A script that came in. -/
import Derived.Test.YtegiinnhknfjjaaIPlW
import Derived.Test.YtegiinnhknfjjaaRows
import Derived.Deep.Slices
import Derived.Laws.OwnMore
import Derived.OpenShut
import Derived.SizedLaws
import Derived.ProofKit
import Derived.ChangeMaps5
namespace Go.Proofs.Ytegiinnhknfjjaa.IM
open Go.ChangeShapes Go.WideShapes Go.ChangeAt Go.RowKit Go.Deep

theorem bytesOp : Try.prog.bytesOf 32 = 48 := by kernel_rfl
theorem cellsOp : Try.prog.cellsOf 32 = 6 := by kernel_rfl

theorem cell_spot' {w : World} {a : Addr} {v : Value} (h : w.cell? (a.add 0) = some v) : a.spot = none := by
  obtain ⟨b, o, sp⟩ := a
  have hs : ((⟨b, o, sp⟩ : Addr).add 0) = ⟨b, o, sp⟩ := by unfold Addr.add; split <;> simp_all
  rw [hs] at h
  cases sp with
  | none => rfl
  | some x =>
    unfold World.cell? at h
    split at h <;> simp at h

set_option maxRecDepth 100000 in
theorem ops_in {H : Type} {enc : TypeId × Value → H} {W : World} {fuel base : Nat} {spare : Nat → Bool} {held : Bool} {v : Value} {x : DataW H × List MemPlace}
    (hf : DataW.trod enc Try.prog W base spare held fuel 22 [v] = some x) (hw : ∀ n ∈ x.1.weights Try.prog 22, n ≤ reachBytes) :
    ∃ (ao : Option Addr) (cap : Nat) (l : List Op6), v = .slice ao l.length cap ∧ SegO W ao l ∧ l.length < 8796093022200 := by
  rcases Go.Deep.open_slice Try.underlying22 hf with ⟨hcs, _⟩ | ⟨a, len, cap, m, n, D, Pl, hcs, _, hl, _, hmm, hx, hel⟩
  · injection hcs with hcs
    exact ⟨none, 0, [], hcs, ⟨fun h => absurd h (by simp), fun b off h => (nomatch h), fun x hx => (nomatch hx)⟩, by simp⟩
  · injection hcs with hcs
    have hlm : len ≤ m := by rw [hmm]; split <;> omega
    subst hx
    simp only [DataW.weights, Try.underlying22] at hw
    have hlen : len < 8796093022200 := by
      have := hw _ List.mem_cons_self
      rw [bytesOp] at this
      simp only [List.length_map, List.length_range, reachBytes] at this
      omega
    have each : ∀ i, i < len → ∃ o : Op6, (W.cell? (a.add (i * 6)) = some (.int .i64 o.kind) ∧ W.cell? (a.add (i * 6 + 1)) = some (.int .i64 o.on) ∧ W.cell? (a.add (i * 6 + 2)) = some (.int .i64 o.to_) ∧ W.cell? (a.add (i * 6 + 3)) = some (.int .i64 o.key) ∧ W.cell? (a.add (i * 6 + 4)) = some (.int .i64 o.value) ∧ W.cell? (a.add (i * 6 + 5)) = some (.int .i64 o.n)) ∧ o.n < 9223372036854775808 := fun i hi => by
      obtain ⟨cs', h1, h2⟩ := hel i (by omega)
      rw [cellsOp] at h1
      obtain ⟨_, hlc, hcell⟩ := World.cells?_some h1
      obtain ⟨xs, k, hk2, hxy, _, hxl, hf⟩ := DataW.trod_struct Try.underlying32 h2
      match xs, hxl, cs', hlc with
      | [y0, y1, y2, y3, y4, y5], _, [v0, v1, v2, v3, v4, v5], _ =>
        have g0 := hf 0 _ rfl
        have g1 := hf 1 _ rfl
        have g2 := hf 2 _ rfl
        have g3 := hf 3 _ rfl
        have g4 := hf 4 _ rfl
        have g5 := hf 5 _ rfl
        have c0 : Try.prog.cellsOf 3 = 1 := by kernel_rfl
        simp [c0] at g0 g1 g2 g3 g4 g5
        have e0 := hcell 0 (by omega)
        have e1 := hcell 1 (by omega)
        have e2 := hcell 2 (by omega)
        have e3 := hcell 3 (by omega)
        have e4 := hcell 4 (by omega)
        have e5 := hcell 5 (by omega)
        rw [Go.Deep.add_add] at e0 e1 e2 e3 e4 e5
        simp at e0 e1 e2 e3 e4 e5
        obtain ⟨z0, q0, _, w0⟩ := DataW.trod_int Try.underlying3 g0
        injection q0 with q0
        obtain ⟨z1, q1, _, w1⟩ := DataW.trod_int Try.underlying3 g1
        injection q1 with q1
        obtain ⟨z2, q2, _, w2⟩ := DataW.trod_int Try.underlying3 g2
        injection q2 with q2
        obtain ⟨z3, q3, _, w3⟩ := DataW.trod_int Try.underlying3 g3
        injection q3 with q3
        obtain ⟨z4, q4, _, w4⟩ := DataW.trod_int Try.underlying3 g4
        injection q4 with q4
        obtain ⟨z5, q5, _, w5⟩ := DataW.trod_int Try.underlying3 g5
        injection q5 with q5
        exact ⟨⟨z0, z1, z2, z3, z4, z5⟩, ⟨by rw [e0, q0], by rw [e1, q1], by rw [e2, q2], by rw [e3, q3], by rw [e4, q4], by rw [e5, q5]⟩, by have := bounds_i64 w5; show z5 < _; omega⟩
    have each' : ∀ i, ∃ o : Op6, i < len → (W.cell? (a.add (i * 6)) = some (.int .i64 o.kind) ∧ W.cell? (a.add (i * 6 + 1)) = some (.int .i64 o.on) ∧ W.cell? (a.add (i * 6 + 2)) = some (.int .i64 o.to_) ∧ W.cell? (a.add (i * 6 + 3)) = some (.int .i64 o.key) ∧ W.cell? (a.add (i * 6 + 4)) = some (.int .i64 o.value) ∧ W.cell? (a.add (i * 6 + 5)) = some (.int .i64 o.n)) ∧ o.n < 9223372036854775808 := fun i => by
      by_cases hi : i < len
      · obtain ⟨o, ho⟩ := each i hi; exact ⟨o, fun _ => ho⟩
      · exact ⟨⟨0, 0, 0, 0, 0, 0⟩, fun h => absurd h hi⟩
    obtain ⟨f, hf'⟩ := Classical.axiomOfChoice each'
    have haddr : 0 < len → a.spot = none := fun h0 => by
      have := (hf' 0 h0).1.1
      simp only [Nat.zero_mul] at this
      exact cell_spot' this
    refine ⟨some a, cap, (List.range len).map f, by simpa using hcs, ⟨fun h0 => ?_, fun b off e i hi => ?_, fun x hx => ?_⟩, by simpa using hlen⟩
    · have := haddr (by simpa using h0)
      obtain ⟨b, o, sp⟩ := a
      simp at this; subst this
      exact ⟨b, o, rfl⟩
    · injection e with e; subst e
      have hi' : i < len := by simpa using hi
      obtain ⟨⟨h0, h1, h2, h3, h4, h5⟩, _⟩ := hf' i hi'
      rw [Addr.add_lit] at h0 h1 h2 h3 h4 h5
      simp only [List.getElem_map, List.getElem_range]
      exact ⟨h0, by rw [Nat.add_assoc]; exact h1, by rw [Nat.add_assoc]; exact h2, by rw [Nat.add_assoc]; exact h3, by rw [Nat.add_assoc]; exact h4, by rw [Nat.add_assoc]; exact h5⟩
    · obtain ⟨i, hi, rfl⟩ := List.mem_map.1 hx
      exact (hf' i (List.mem_range.1 hi)).2

end Go.Proofs.Ytegiinnhknfjjaa.IM
