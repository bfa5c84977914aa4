/- A list of numbers that came in. -/
import Derived.Test.YtfmlbcddomggaaaPG0
import Derived.Test.YtfmlbcddomggaaaYZ
namespace Go.Proofs.Ytfmlbcddomggaaa
open Go.ChangeShapes Go.WideShapes Go.ChangeAt Go.RowKit Go.Deep

theorem bytesI64 : Try.prog.bytesOf 2 = 8 := by kernel_rfl
theorem cellsI64 : Try.prog.cellsOf 2 = 1 := by kernel_rfl

/-- A slice of integers that came in, as a segment. -/
theorem seg_ints {W : World} {k : IntKind} {x : Addr} {len : Nat} {zs : List Int} (hcell : ∀ i, i < zs.length → W.cell? (x.add i) = some (.int k (zs.getD i 0))) :
    Seg W k (some x) (zs.take len) := by
  refine ⟨fun e => (nomatch e), fun y hy hne => ?_, fun y hy j hj => ?_⟩
  · injection hy with hy
    subst hy
    have hz : 0 < zs.length := by
      rcases Nat.eq_zero_or_pos zs.length with h | h
      · exact absurd (by rw [List.eq_nil_of_length_eq_zero h]; simp) hne
      · exact h
    obtain ⟨b, off, rfl, _⟩ := ints_at hcell hz
    rfl
  · injection hy with hy
    subst hy
    have hj' : j < len ∧ j < zs.length := by simpa [List.length_take, Nat.lt_min] using hj
    rw [hcell j hj'.2, List.getD_eq_getElem?_getD, List.getElem?_eq_getElem hj'.2]
    simp [List.getElem_take]

/-- A slice of numbers that came in. -/
theorem ints_any {H : Type} {enc : TypeId × Value → H} {W : World} {fuel base : Nat} {spare : Nat → Bool} {held : Bool} {v : Value} {x : DataW H × List MemPlace}
    (hf : DataW.trod enc Try.prog W base spare held fuel 57 [v] = some x) :
    ∃ (ao : Option Addr) (cap : Nat) (xs : List Int), v = .slice ao xs.length cap ∧ Seg W .i64 ao xs ∧ (∀ x ∈ xs, I64 x) ∧ xs.length ≤ cap ∧ (x.1 = .nil ∧ xs = [] ∨ ∃ es sp, x.1 = .slice es sp ∧ es.length = xs.length) := by
  rcases open_ints Try.underlying57 Try.underlying2 cellsI64 hf with ⟨hcs, hx⟩ | ⟨x, l, c, zs, hcs, _, hl, hm, hz, hx, hcell, hwz⟩
  · injection hcs with hcs
    exact ⟨none, 0, [], hcs, ⟨fun _ => rfl, fun _ h => (nomatch h), fun _ h => (nomatch h)⟩, fun _ h => (nomatch h), Nat.le_refl _, .inl ⟨congrArg Prod.fst hx, rfl⟩⟩
  · injection hcs with hcs
    have hzl : l ≤ zs.length := by rw [hz]; split <;> omega
    have hlen : (zs.take l).length = l := by simp; omega
    refine ⟨some x, c, zs.take l, by rw [hlen]; exact hcs, seg_ints hcell, fun y hy => i64_wf (hwz y (List.mem_of_mem_take hy)), by simp; omega, .inr ⟨_, _, congrArg Prod.fst hx, ?_⟩⟩
    simp [lits]

theorem ints_in {H : Type} {enc : TypeId × Value → H} {W : World} {fuel base : Nat} {spare : Nat → Bool} {held : Bool} {v : Value} {x : DataW H × List MemPlace}
    (hf : DataW.trod enc Try.prog W base spare held fuel 57 [v] = some x) (hw : ∀ n ∈ x.1.weights Try.prog 57, n ≤ reachBytes) :
    ∃ (ao : Option Addr) (cap : Nat) (xs : List Int), v = .slice ao xs.length cap ∧ Seg W .i64 ao xs ∧ (∀ x ∈ xs, I64 x) ∧ xs.length ≤ 17592186043904 ∧ xs.length ≤ cap := by
  obtain ⟨ao, cap, xs, h1, h2, h3, h4, h5⟩ := ints_any hf
  refine ⟨ao, cap, xs, h1, h2, h3, ?_, h4⟩
  rcases h5 with ⟨_, rfl⟩ | ⟨es, sp, he, hl⟩
  · simp
  · rw [he] at hw
    simp only [DataW.weights, Try.underlying57] at hw
    have := hw _ List.mem_cons_self
    rw [bytesI64] at this
    simp only [reachBytes] at this
    omega

end Go.Proofs.Ytfmlbcddomggaaa
