/- Steps that came in, of bounded bulk. -/
import Derived.Test.YtlnblhajcbmmkaaTUp
import Derived.Test.YtlnblhajcbmmkaaTStep
namespace Go.Proofs.Ytlnblhajcbmmkaa
open Go.ChangeShapes Go.WideShapes Go.ChangeAt Go.RowKit Go.Deep

/-- Steps in memory. -/
def Stps (w : World) (ao : Option Addr) (l : List Sp) : Prop := ∀ j (hj : j < l.length), ∃ b off, ao = some ⟨b, off, none⟩ ∧ ∀ i (hi : i < 12), w.cell? ⟨b, off + j * 12 + i, none⟩ = some (sc l[j])[i]

theorem Stps.touch {S : Nat → Prop} {w w' : World} {ao : Option Addr} {l : List Sp} (h : Stps w ao l) (ht : Touch S w w') (hS : ∀ a, ao = some a → ¬ S a.block) : Stps w' ao l := fun j hj => by
  obtain ⟨b, off, e, h1⟩ := h j hj
  exact ⟨b, off, e, fun i hi => (ht.cell (p := ⟨b, off + j * 12 + i, none⟩) (lt_of_cell (h1 i hi)) (show ¬ S b from hS _ e)).trans (h1 i hi)⟩

theorem Stps.calm {w w' : World} {ao : Option Addr} {l : List Sp} (h : Stps w ao l) (ht : Calm w w') : Stps w' ao l := h.touch ht fun _ _ h => h

theorem cellsStep : Try.prog.cellsOf 41 = 12 := by kernel_rfl

set_option maxRecDepth 100000 in
theorem step_in {H : Type} {enc : TypeId × Value → H} {W : World} {fuel base : Nat} {spare : Nat → Bool} {held : Bool} {cs : List Value} {x : DataW H × List MemPlace}
    (hf : DataW.trod enc Try.prog W base spare held fuel 41 cs = some x) (hb : Rows.uptoBulk x.1 ≤ 1048576) :
    ∃ s : Sp, cs = (sc s).toList ∧ Good s.t ∧ Good s.u := by
  have c1 : Try.prog.cellsOf 3 = 1 := by kernel_rfl
  have c2 : Try.prog.cellsOf 2 = 1 := by kernel_rfl
  have c4 := cellsTimer
  obtain ⟨xs, k, -, hx, hcl, hxl, hfs⟩ := DataW.trod_struct Try.underlying41 hf
  rw [cellsStep] at hcl
  match xs, hxl, cs, hcl with
  | [y0, y1, y2, y3, y4, y5], _, [v0, v1, v2, v3, v4, v5, v6, v7, v8, v9, v10, v11], _ =>
    have g0 := hfs 0 _ rfl
    have g1 := hfs 1 _ rfl
    have g2 := hfs 2 _ rfl
    have g3 := hfs 3 _ rfl
    have g4 := hfs 4 _ rfl
    have g5 := hfs 5 _ rfl
    simp [c1, c2, c4] at g0 g1 g2 g3 g4 g5
    obtain ⟨z0, q0, _, _⟩ := DataW.trod_int Try.underlying3 g0
    injection q0 with q0
    obtain ⟨z1, q1, _, _⟩ := DataW.trod_int Try.underlying3 g1
    injection q1 with q1
    obtain ⟨z2, q2, _, _⟩ := DataW.trod_int Try.underlying3 g2
    injection q2 with q2
    obtain ⟨t, et, k1, k2, k3, -, k5⟩ := timer_in g3
    obtain ⟨u, eu, l1, l2, l3, -, l5⟩ := timer_in g4
    obtain ⟨z5, q5, _, _⟩ := DataW.trod_int Try.underlying2 g5
    injection q5 with q5
    simp at et eu
    obtain ⟨t0, t1, t2, t3⟩ := et
    obtain ⟨u0, u1, u2, u3⟩ := eu
    rw [hx] at hb
    simp [Rows.uptoBulk, Rows.uptoBulkAll] at hb
    exact ⟨⟨z0, z1, z2, t, u, z5⟩, by simp [q0, q1, q2, t0, t1, t2, t3, u0, u1, u2, u3, q5], good_up k1 k2 k3 k5 (by omega), good_up l1 l2 l3 l5 (by omega)⟩

set_option maxRecDepth 100000 in
theorem steps_up {H : Type} {enc : TypeId × Value → H} {W : World} {fuel base : Nat} {spare : Nat → Bool} {held : Bool} {v : Value} {x : DataW H × List MemPlace}
    (hf : DataW.trod enc Try.prog W base spare held fuel 23 [v] = some x) (hb : Rows.uptoBulk x.1 ≤ 1048576) :
    ∃ ao cap l, v = .slice ao l.length cap ∧ Stps W ao l ∧ (∀ s ∈ l, Good s.t ∧ Good s.u) ∧ l.length ≤ 1048576 := by
  rcases Go.Deep.open_slice Try.underlying23 hf with ⟨hcs, _⟩ | ⟨a, len, cap, m, n, D, Pl, hcs, _, hl, _, hmm, hx, hel⟩
  · injection hcs with hcs
    exact ⟨none, 0, [], hcs, fun j hj => by simp at hj, fun t ht => (nomatch ht), by simp⟩
  · injection hcs with hcs
    have hlm : len ≤ m := by rw [hmm]; split <;> omega
    subst hx
    simp only [Rows.uptoBulk] at hb
    have hlen : len ≤ 1048576 := by
      have := bulk_len ((List.range len).map D)
      simp only [List.length_map, List.length_range] at this
      omega
    have each : ∀ i, ∃ s : Sp, i < len → (∀ c (hc : c < 12), W.cell? (a.add (i * 12 + c)) = some (sc s)[c]) ∧ Good s.t ∧ Good s.u := fun i => by
      by_cases hi : i < len
      · obtain ⟨cs', h1, h2⟩ := hel i (by omega)
        rw [cellsStep] at h1
        obtain ⟨_, hlc, hcell⟩ := World.cells?_some h1
        have h9 := bulk_mem ((List.range len).map D) (D i) (List.mem_map.2 ⟨i, List.mem_range.2 hi, rfl⟩)
        obtain ⟨s, es, k1, k2⟩ := step_in h2 (by show Rows.uptoBulk (D i) ≤ _; omega)
        subst es
        refine ⟨s, fun _ => ⟨fun c hc => ?_, k1, k2⟩⟩
        have e0 := hcell c (by omega)
        rw [Go.Deep.add_add] at e0
        rw [e0]
        simp
      · exact ⟨⟨0, 0, 0, ⟨0, { data := #[] }, 0, 0⟩, ⟨0, { data := #[] }, 0, 0⟩, 0⟩, fun h => absurd h hi⟩
    obtain ⟨f, hf'⟩ := Classical.axiomOfChoice each
    refine ⟨some a, cap, (List.range len).map f, by simpa using hcs, fun j hj => ?_, fun s hs => ?_, by simpa using hlen⟩
    · have hj' : j < len := by simpa using hj
      have h0 := (hf' 0 (by omega)).1 0 (by omega)
      simp only [Nat.zero_mul] at h0
      have hsp := spot_none h0
      have hc := (hf' j hj').1
      obtain ⟨b, o, sp⟩ := a
      simp only at hsp
      subst hsp
      refine ⟨b, o, rfl, fun i hi => ?_⟩
      have h1 := hc i hi
      rw [Addr.add_lit] at h1
      simp only [List.getElem_map, List.getElem_range]
      rw [Nat.add_assoc]
      exact h1
    · obtain ⟨i, hi, rfl⟩ := List.mem_map.1 hs
      exact (hf' i (List.mem_range.1 hi)).2

end Go.Proofs.Ytlnblhajcbmmkaa
