/- Lists that came in: numbers, tallies. -/
import Derived.Test.YtakpeopghhblmaaDoorYCm
namespace Go.Proofs.YtakpeopghhblmaaDoor
open Go.ChangeShapes Go.WideShapes Go.ChangeAt Go.RowKit Go.Deep

theorem bytesI64 : Tryd.prog.bytesOf 2 = 8 := by kernel_rfl
theorem cellsI64 : Tryd.prog.cellsOf 2 = 1 := by kernel_rfl
theorem bytesTally : Tryd.prog.bytesOf 24 = 32 := by kernel_rfl
theorem cellsTally : Tryd.prog.cellsOf 24 = 4 := by kernel_rfl

/-- A slice of integers that came in, as a segment. -/
theorem seg_ints {W : World} {k : IntKind} {x : Addr} {len : Nat} {zs : List Int} (hcell : ∀ i, i < zs.length → W.cell? (x.add i) = some (.int k (zs.getD i 0))) :
    Seg W k (some x) (zs.take len) := by
  refine ⟨fun e => (nomatch e), fun y hy hne => ?_, fun y hy j hj => ?_⟩
  · injection hy with hy
    subst hy
    have hz : 0 < zs.length := by
      rcases Nat.eq_zero_or_pos zs.length with h | h
      · exact absurd (by rw [List.eq_nil_of_length_eq_zero h]; simp) hne
      · exact h
    obtain ⟨b, off, rfl, _⟩ := ints_at hcell hz
    rfl
  · injection hy with hy
    subst hy
    have hj' : j < len ∧ j < zs.length := by simpa [List.length_take, Nat.lt_min] using hj
    rw [hcell j hj'.2, List.getD_eq_getElem?_getD, List.getElem?_eq_getElem hj'.2]
    simp [List.getElem_take]

/-- A slice of numbers that came in. -/
theorem ints_any {H : Type} {enc : TypeId × Value → H} {W : World} {fuel base : Nat} {spare : Nat → Bool} {held : Bool} {v : Value} {x : DataW H × List MemPlace}
    (hf : DataW.trod enc Tryd.prog W base spare held fuel 22 [v] = some x) :
    ∃ (ao : Option Addr) (cap : Nat) (xs : List Int), v = .slice ao xs.length cap ∧ Seg W .i64 ao xs ∧ (∀ x ∈ xs, I64 x) ∧ xs.length ≤ cap ∧ (x.1 = .nil ∧ xs = [] ∨ ∃ es sp, x.1 = .slice es sp ∧ es.length = xs.length) := by
  rcases open_ints Tryd.underlying22 Tryd.underlying2 cellsI64 hf with ⟨hcs, hx⟩ | ⟨x, l, c, zs, hcs, _, hl, hm, hz, hx, hcell, hwz⟩
  · injection hcs with hcs
    exact ⟨none, 0, [], hcs, ⟨fun _ => rfl, fun _ h => (nomatch h), fun _ h => (nomatch h)⟩, fun _ h => (nomatch h), Nat.le_refl _, .inl ⟨congrArg Prod.fst hx, rfl⟩⟩
  · injection hcs with hcs
    have hzl : l ≤ zs.length := by rw [hz]; split <;> omega
    have hlen : (zs.take l).length = l := by simp; omega
    refine ⟨some x, c, zs.take l, by rw [hlen]; exact hcs, seg_ints hcell, fun y hy => i64_wf (hwz y (List.mem_of_mem_take hy)), by simp; omega, .inr ⟨_, _, congrArg Prod.fst hx, ?_⟩⟩
    simp [lits]

theorem ints_in {H : Type} {enc : TypeId × Value → H} {W : World} {fuel base : Nat} {spare : Nat → Bool} {held : Bool} {v : Value} {x : DataW H × List MemPlace}
    (hf : DataW.trod enc Tryd.prog W base spare held fuel 22 [v] = some x) (hw : ∀ n ∈ x.1.weights Tryd.prog 22, n ≤ reachBytes) :
    ∃ (ao : Option Addr) (cap : Nat) (xs : List Int), v = .slice ao xs.length cap ∧ Seg W .i64 ao xs ∧ (∀ x ∈ xs, I64 x) ∧ xs.length ≤ 17592186043904 ∧ xs.length ≤ cap := by
  obtain ⟨ao, cap, xs, h1, h2, h3, h4, h5⟩ := ints_any hf
  refine ⟨ao, cap, xs, h1, h2, h3, ?_, h4⟩
  rcases h5 with ⟨_, rfl⟩ | ⟨es, sp, he, hl⟩
  · simp
  · rw [he] at hw
    simp only [DataW.weights, Tryd.underlying22] at hw
    have := hw _ List.mem_cons_self
    rw [bytesI64] at this
    simp only [reachBytes] at this
    omega

theorem cell_spot' {w : World} {a : Addr} {v : Value} (h : w.cell? (a.add 0) = some v) : a.spot = none := by
  obtain ⟨b, o, sp⟩ := a
  have hs : ((⟨b, o, sp⟩ : Addr).add 0) = ⟨b, o, sp⟩ := by unfold Addr.add; split <;> simp_all
  rw [hs] at h
  cases sp with
  | none => rfl
  | some x =>
    unfold World.cell? at h
    split at h <;> simp at h

set_option maxRecDepth 100000 in
theorem tallies_in {H : Type} {enc : TypeId × Value → H} {W : World} {fuel base : Nat} {spare : Nat → Bool} {held : Bool} {v : Value} {x : DataW H × List MemPlace}
    (hf : DataW.trod enc Tryd.prog W base spare held fuel 32 [v] = some x) (hw : ∀ n ∈ x.1.weights Tryd.prog 32, n ≤ reachBytes) :
    ∃ (ao : Option Addr) (cap : Nat) (l : List Tl), v = .slice ao l.length cap ∧ Tls W ao l ∧ (∀ x ∈ l, x.Ok) ∧ l.length ≤ 4398046510976 ∧ (ao = none → cap = 0) := by
  rcases Go.Deep.open_slice Tryd.underlying32 hf with ⟨hcs, _⟩ | ⟨a, len, cap, m, n, D, Pl, hcs, _, hl, _, hmm, hx, hel⟩
  · injection hcs with hcs
    exact ⟨none, 0, [], hcs, Tls.nil _ _, fun x hx => (nomatch hx), by simp, fun _ => rfl⟩
  · injection hcs with hcs
    have hlm : len ≤ m := by rw [hmm]; split <;> omega
    subst hx
    simp only [DataW.weights, Tryd.underlying32] at hw
    have hlen : len ≤ 4398046510976 := by
      have := hw _ List.mem_cons_self
      rw [bytesTally] at this
      simp only [List.length_map, List.length_range, reachBytes] at this
      omega
    have each : ∀ i, ∃ t : Tl, i < len → (W.cell? (a.add (i * 4)) = some (.int .i64 t.c) ∧ W.cell? (a.add (i * 4 + 1)) = some (.int .i64 t.s) ∧ W.cell? (a.add (i * 4 + 2)) = some (.int .i64 t.m) ∧ W.cell? (a.add (i * 4 + 3)) = some (.int .i64 t.x)) ∧ t.Ok := fun i => by
      by_cases hi : i < len
      · obtain ⟨cs', h1, h2⟩ := hel i (by omega)
        rw [cellsTally] at h1
        obtain ⟨_, hlc, hcell⟩ := World.cells?_some h1
        obtain ⟨t, et, ok⟩ := tally_in h2
        subst et
        have e0 := hcell 0 (by omega)
        have e1 := hcell 1 (by omega)
        have e2 := hcell 2 (by omega)
        have e3 := hcell 3 (by omega)
        rw [Go.Deep.add_add] at e0 e1 e2 e3
        simp at e0 e1 e2 e3
        exact ⟨t, fun _ => ⟨⟨e0, e1, e2, e3⟩, ok⟩⟩
      · exact ⟨tl0, fun h => absurd h hi⟩
    obtain ⟨f, hf'⟩ := Classical.axiomOfChoice each
    refine ⟨some a, cap, (List.range len).map f, by simpa using hcs, fun j hj => ?_, fun t ht => ?_, by simpa using hlen, fun h => (nomatch h)⟩
    · have hj' : j < len := by simpa using hj
      have h0 := (hf' 0 (by omega)).1.1
      simp only [Nat.zero_mul] at h0
      have hsp := cell_spot' h0
      obtain ⟨⟨c0, c1, c2, c3⟩, _⟩ := hf' j hj'
      obtain ⟨b, o, sp⟩ := a
      simp only at hsp
      subst hsp
      rw [Addr.add_lit] at c0 c1 c2 c3
      have eg : ((List.range len).map f).getD j tl0 = f j := by rw [List.getD_eq_getElem?_getD, List.getElem?_eq_getElem hj]; simp
      rw [eg]
      exact ⟨b, o, rfl, c0, by rw [Nat.add_assoc]; exact c1, by rw [Nat.add_assoc]; exact c2, by rw [Nat.add_assoc]; exact c3⟩
    · obtain ⟨i, hi, rfl⟩ := List.mem_map.1 ht
      exact (hf' i (List.mem_range.1 hi)).2

end Go.Proofs.YtakpeopghhblmaaDoor
