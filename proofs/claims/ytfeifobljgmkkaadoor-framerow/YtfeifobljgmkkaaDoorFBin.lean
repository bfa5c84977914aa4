/- A slice of blocks that came in. -/
import Derived.Test.YtfeifobljgmkkaaDoorFBlk
import Derived.Test.YtfeifobljgmkkaaDoorFCame
import Derived.Lib.SmallJoins
import Derived.Deep.Slices
namespace Go.Proofs.YtfeifobljgmkkaaDoor
open Go.ChangeShapes Go.WideShapes Go.ChangeAt Go.RowKit Crcx

theorem weights_all {H : Type} {P : Program} {e : TypeId} : ∀ (l : List (DataW H)) (d : DataW H), d ∈ l → ∀ n ∈ d.weights P e, n ∈ DataW.weightsAll P e l
  | d' :: r, d, h, n, hn => by
    simp only [DataW.weightsAll, List.mem_append]
    rcases List.mem_cons.1 h with rfl | h
    · exact .inl hn
    · exact .inr (weights_all r d h n hn)

theorem cell_spot' {w : World} {a : Addr} {v : Value} (h : w.cell? (a.add 0) = some v) : a.spot = none := by
  obtain ⟨b, o, sp⟩ := a
  have hs : ((⟨b, o, sp⟩ : Addr).add 0) = ⟨b, o, sp⟩ := by unfold Addr.add; split <;> simp_all
  rw [hs] at h
  cases sp with
  | none => rfl
  | some x =>
    unfold World.cell? at h
    split at h <;> simp at h

theorem bytesBlk : Tryd.prog.bytesOf 36 = 32 := by kernel_rfl
theorem cellsBlk : Tryd.prog.cellsOf 36 = 2 := by kernel_rfl

set_option maxRecDepth 100000 in
theorem block_in {H : Type} {enc : TypeId × Value → H} {W : World} {fuel base : Nat} {spare : Nat → Bool} {held : Bool} {cs : List Value} {x : DataW H × List MemPlace}
    (hf : DataW.trod enc Tryd.prog W base spare held fuel 36 cs = some x) (hw : ∀ n ∈ x.1.weights Tryd.prog 36, n ≤ reachBytes) :
    ∃ b : Blk, cs = [.int .u8 b.tag, b.t.val] ∧ b.Ok W ∧ b.t.xs.length ≤ 140737488351232 ∧ b.t.xs.length ≤ b.t.cap := by
  obtain ⟨y0, y1, n, rfl, hl, h0, h1⟩ := trod_struct2 Tryd.underlying36 hf
  rw [cellsBlk] at hl
  match cs, hl with
  | [v0, v1], _ =>
    have k0 : Tryd.prog.cellsOf 5 = 1 := by kernel_rfl
    have k1 : Tryd.prog.cellsOf 22 = 1 := by kernel_rfl
    simp [k0, k1] at h0 h1
    obtain ⟨g, eg, _, wg⟩ := DataW.trod_int Tryd.underlying5 h0
    injection eg with eg
    have bg := bounds_u8 wg
    obtain ⟨t, e, o, l, c⟩ := bytes_in h1 (fun es sp e => by
      have := hw ((es.length + sp.length) * Tryd.prog.bytesOf 5) (by simp [DataW.weights, DataW.weightsEach, Tryd.underlying36, Tryd.underlying22, e])
      rw [bytesU8] at this
      exact this)
    exact ⟨⟨g, t⟩, by rw [eg, e], ⟨bg, o⟩, l, c⟩

set_option maxRecDepth 100000 in
theorem blocks_in {H : Type} {enc : TypeId × Value → H} {W : World} {fuel base : Nat} {spare : Nat → Bool} {held : Bool} {v : Value} {x : DataW H × List MemPlace}
    (hf : DataW.trod enc Tryd.prog W base spare held fuel 34 [v] = some x) (hw : ∀ n ∈ x.1.weights Tryd.prog 34, n ≤ reachBytes) :
    ∃ (ao : Option Addr) (cap : Nat) (bl : List Blk), v = .slice ao bl.length cap ∧ SegB W ao bl ∧ bl.length ≤ 4398046511104 ∧ bl.length ≤ cap ∧ ∀ b ∈ bl, b.t.xs.length ≤ 140737488351232 ∧ b.t.xs.length ≤ b.t.cap := by
  rcases Go.Deep.open_slice Tryd.underlying34 hf with ⟨hcs, _⟩ | ⟨a, len, cap, m, n, D, Pl, hcs, _, hl, _, hmm, hx, hel⟩
  · injection hcs with hcs
    exact ⟨none, 0, [], hcs, ⟨fun h => absurd h (by simp), fun b off h => (nomatch h), fun x hx => (nomatch hx)⟩, by simp, by simp, fun b hb => (nomatch hb)⟩
  · injection hcs with hcs
    have hlm : len ≤ m := by rw [hmm]; split <;> omega
    subst hx
    simp only [DataW.weights, Tryd.underlying34] at hw
    have hlen : len ≤ 4398046511104 := by
      have := hw _ List.mem_cons_self
      rw [bytesBlk] at this
      simp only [List.length_map, List.length_range, reachBytes] at this
      omega
    have each : ∀ i, i < len → ∃ b : Blk, W.cell? (a.add (i * 2)) = some (.int .u8 b.tag) ∧ W.cell? (a.add (i * 2 + 1)) = some b.t.val ∧ b.Ok W ∧ b.t.xs.length ≤ 140737488351232 ∧ b.t.xs.length ≤ b.t.cap := fun i hi => by
      obtain ⟨cs', h1, h2⟩ := hel i (by omega)
      rw [cellsBlk] at h1
      obtain ⟨_, hlc, hcell⟩ := World.cells?_some h1
      obtain ⟨b, rfl, h3, h4, h5⟩ := block_in h2 (fun k hk => hw k (List.mem_cons_of_mem _ (List.mem_append_left _ (weights_all _ (D i) (List.mem_map.2 ⟨i, List.mem_range.2 hi, rfl⟩) k hk))))
      have e0 := hcell 0 (by omega)
      have e1 := hcell 1 (by omega)
      rw [Go.Deep.add_add] at e0 e1
      simp at e0 e1
      exact ⟨b, e0, e1, h3, h4, h5⟩
    have each' : ∀ i, ∃ b : Blk, i < len → W.cell? (a.add (i * 2)) = some (.int .u8 b.tag) ∧ W.cell? (a.add (i * 2 + 1)) = some b.t.val ∧ b.Ok W ∧ b.t.xs.length ≤ 140737488351232 ∧ b.t.xs.length ≤ b.t.cap := fun i => by
      by_cases hi : i < len
      · obtain ⟨b, hb⟩ := each i hi; exact ⟨b, fun _ => hb⟩
      · exact ⟨⟨0, ⟨none, 0, []⟩⟩, fun h => absurd h hi⟩
    obtain ⟨f, hf'⟩ := Classical.axiomOfChoice each'
    have haddr : 0 < len → a.spot = none := fun h0 => by
      have := (hf' 0 h0).1
      simp only [Nat.zero_mul] at this
      exact cell_spot' this
    refine ⟨some a, cap, (List.range len).map f, by simpa using hcs, ⟨fun h0 => ?_, fun b off e i hi => ?_, fun x hx => ?_⟩, by simpa using hlen, by simpa using hl, fun x hx => ?_⟩
    · have := haddr (by simpa using h0)
      obtain ⟨b, o, sp⟩ := a
      simp at this; subst this
      exact ⟨b, o, rfl⟩
    · injection e with e; subst e
      have hi' : i < len := by simpa using hi
      obtain ⟨h1, h2, _⟩ := hf' i hi'
      rw [Addr.add_lit] at h1 h2
      simp only [List.getElem_map, List.getElem_range]
      exact ⟨h1, by rw [Nat.add_assoc]; exact h2⟩
    · obtain ⟨i, hi, rfl⟩ := List.mem_map.1 hx
      exact (hf' i (List.mem_range.1 hi)).2.2.1
    · obtain ⟨i, hi, rfl⟩ := List.mem_map.1 hx
      exact (hf' i (List.mem_range.1 hi)).2.2.2

end Go.Proofs.YtfeifobljgmkkaaDoor
