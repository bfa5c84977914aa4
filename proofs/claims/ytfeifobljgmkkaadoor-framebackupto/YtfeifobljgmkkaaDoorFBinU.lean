/- A slice of blocks that came in, with the bound on what came in. -/
import Derived.Test.YtfeifobljgmkkaaDoorFBin
namespace Go.Proofs.YtfeifobljgmkkaaDoor
open Go.ChangeShapes Go.WideShapes Go.ChangeAt Go.RowKit Crcx

theorem bulk_pos {H : Type} (d : DataW H) : 1 ≤ Rows.uptoBulk d := by
  cases d with
  | lit l => cases l <;> simp [Rows.uptoBulk]
  | nil => simp [Rows.uptoBulk]
  | ptr d => simp [Rows.uptoBulk]
  | slice e s => simp [Rows.uptoBulk]
  | agg p => simp [Rows.uptoBulk]
  | iface t d => simp [Rows.uptoBulk]
  | map e => simp [Rows.uptoBulk]
  | held h => simp [Rows.uptoBulk]

theorem bulk_len {H : Type} : ∀ (l : List (DataW H)), l.length ≤ Rows.uptoBulkAll l
  | [] => Nat.zero_le _
  | d :: r => by
    have a := bulk_pos d
    have b := bulk_len r
    simp only [Rows.uptoBulkAll, List.length_cons]; omega

theorem bulk_mem {H : Type} : ∀ (l : List (DataW H)) (d : DataW H), d ∈ l → Rows.uptoBulk d ≤ Rows.uptoBulkAll l
  | d' :: r, d, h => by
    simp only [Rows.uptoBulkAll]
    rcases List.mem_cons.1 h with rfl | h
    · omega
    · have := bulk_mem r d h; omega

/-- A slice of bytes that came in, bounded. -/
theorem bytes_up {H : Type} {enc : TypeId × Value → H} {W : World} {fuel base : Nat} {spare : Nat → Bool} {held : Bool} {v : Value} {x : DataW H × List MemPlace}
    (hf : DataW.trod enc Tryd.prog W base spare held fuel 22 [v] = some x) (hb : Rows.uptoBulk x.1 ≤ 1048576) :
    ∃ t : Txt, v = t.val ∧ t.Ok W ∧ t.xs.length ≤ 1048576 ∧ t.xs.length ≤ t.cap := by
  rcases open_ints Tryd.underlying22 Tryd.underlying5 cellsU8 hf with ⟨hcs, _⟩ | ⟨x, l, c, zs, hcs, _, hl, hm, hz, hx, hcell, hwz⟩
  · injection hcs with hcs
    exact ⟨⟨none, 0, []⟩, hcs, ⟨⟨fun _ => rfl, fun _ h => (nomatch h), fun _ h => (nomatch h)⟩, fun _ h => (nomatch h), by simp⟩, by simp, by simp⟩
  · injection hcs with hcs
    have hx1 := congrArg Prod.fst hx
    simp only at hx1
    rw [hx1] at hb
    simp only [Rows.uptoBulk] at hb
    have hbl := bulk_len (lits (H := H) .u8 (zs.take l))
    simp only [lits, List.length_map, List.length_take] at hbl
    simp only [lits] at hb
    have hzl : l ≤ zs.length := by rw [hz]; split <;> omega
    have hlen : (zs.take l).length = l := by simp; omega
    have hl1 : l ≤ 1048576 := by omega
    refine ⟨⟨some x, c, zs.take l⟩, ?_, ⟨seg_ints hcell, fun y hy => bounds_u8 (hwz y (List.mem_of_mem_take hy)), by simp; omega⟩, by simp; omega, by simp; omega⟩
    show v = .slice (some x) (zs.take l).length c
    rw [hlen]; exact hcs

set_option maxRecDepth 100000 in
theorem block_up {H : Type} {enc : TypeId × Value → H} {W : World} {fuel base : Nat} {spare : Nat → Bool} {held : Bool} {cs : List Value} {x : DataW H × List MemPlace}
    (hf : DataW.trod enc Tryd.prog W base spare held fuel 36 cs = some x) (hb : Rows.uptoBulk x.1 ≤ 1048576) :
    ∃ b : Blk, cs = [.int .u8 b.tag, b.t.val] ∧ b.Ok W ∧ b.t.xs.length ≤ 1048576 := by
  obtain ⟨y0, y1, n, rfl, hl, h0, h1⟩ := trod_struct2 Tryd.underlying36 hf
  rw [cellsBlk] at hl
  match cs, hl with
  | [v0, v1], _ =>
    have k0 : Tryd.prog.cellsOf 5 = 1 := by kernel_rfl
    have k1 : Tryd.prog.cellsOf 22 = 1 := by kernel_rfl
    simp [k0, k1] at h0 h1
    obtain ⟨g, eg, _, wg⟩ := DataW.trod_int Tryd.underlying5 h0
    injection eg with eg
    have bg := bounds_u8 wg
    obtain ⟨t, e, o, l, c⟩ := bytes_up h1 (by
      simp only [Rows.uptoBulk, Rows.uptoBulkAll] at hb; omega)
    exact ⟨⟨g, t⟩, by rw [eg, e], ⟨bg, o⟩, l⟩

set_option maxRecDepth 100000 in
theorem blocks_up {H : Type} {enc : TypeId × Value → H} {W : World} {fuel base : Nat} {spare : Nat → Bool} {held : Bool} {v : Value} {x : DataW H × List MemPlace}
    (hf : DataW.trod enc Tryd.prog W base spare held fuel 34 [v] = some x) (hb : Rows.uptoBulk x.1 ≤ 1048576) :
    ∃ (ao : Option Addr) (cap : Nat) (bl : List Blk), v = .slice ao bl.length cap ∧ SegB W ao bl ∧ (ao = none → cap = 0) ∧ bl.length ≤ 1048576 ∧ ∀ b ∈ bl, b.t.xs.length ≤ 1048576 := by
  rcases Go.Deep.open_slice Tryd.underlying34 hf with ⟨hcs, _⟩ | ⟨a, len, cap, m, n, D, Pl, hcs, _, hl, _, hmm, hx, hel⟩
  · injection hcs with hcs
    exact ⟨none, 0, [], hcs, ⟨fun h => absurd h (by simp), fun b off h => (nomatch h), fun x hx => (nomatch hx)⟩, fun _ => rfl, by simp, fun b hb => (nomatch hb)⟩
  · injection hcs with hcs
    have hlm : len ≤ m := by rw [hmm]; split <;> omega
    subst hx
    simp only [Rows.uptoBulk] at hb
    have hlen : len ≤ 1048576 := by
      have := bulk_len ((List.range len).map D)
      simp only [List.length_map, List.length_range] at this
      omega
    have each : ∀ i, i < len → ∃ b : Blk, W.cell? (a.add (i * 2)) = some (.int .u8 b.tag) ∧ W.cell? (a.add (i * 2 + 1)) = some b.t.val ∧ b.Ok W ∧ b.t.xs.length ≤ 1048576 := fun i hi => by
      obtain ⟨cs', h1, h2⟩ := hel i (by omega)
      rw [cellsBlk] at h1
      obtain ⟨_, hlc, hcell⟩ := World.cells?_some h1
      obtain ⟨b, rfl, h3, h4⟩ := block_up h2 (by
        have := bulk_mem _ (D i) (List.mem_map.2 ⟨i, List.mem_range.2 hi, rfl⟩)
        show Rows.uptoBulk (D i) ≤ _
        omega)
      have e0 := hcell 0 (by omega)
      have e1 := hcell 1 (by omega)
      rw [Go.Deep.add_add] at e0 e1
      simp at e0 e1
      exact ⟨b, e0, e1, h3, h4⟩
    have each' : ∀ i, ∃ b : Blk, i < len → W.cell? (a.add (i * 2)) = some (.int .u8 b.tag) ∧ W.cell? (a.add (i * 2 + 1)) = some b.t.val ∧ b.Ok W ∧ b.t.xs.length ≤ 1048576 := fun i => by
      by_cases hi : i < len
      · obtain ⟨b, hb⟩ := each i hi; exact ⟨b, fun _ => hb⟩
      · exact ⟨⟨0, ⟨none, 0, []⟩⟩, fun h => absurd h hi⟩
    obtain ⟨f, hf'⟩ := Classical.axiomOfChoice each'
    have haddr : 0 < len → a.spot = none := fun h0 => by
      have := (hf' 0 h0).1
      simp only [Nat.zero_mul] at this
      exact cell_spot' this
    refine ⟨some a, cap, (List.range len).map f, by simpa using hcs, ⟨fun h0 => ?_, fun b off e i hi => ?_, fun x hx => ?_⟩, fun h => (nomatch h), by simpa using hlen, fun x hx => ?_⟩
    · have := haddr (by simpa using h0)
      obtain ⟨b, o, sp⟩ := a
      simp at this; subst this
      exact ⟨b, o, rfl⟩
    · injection e with e; subst e
      have hi' : i < len := by simpa using hi
      obtain ⟨h1, h2, _⟩ := hf' i hi'
      rw [Addr.add_lit] at h1 h2
      simp only [List.getElem_map, List.getElem_range]
      exact ⟨h1, by rw [Nat.add_assoc]; exact h2⟩
    · obtain ⟨i, hi, rfl⟩ := List.mem_map.1 hx
      exact (hf' i (List.mem_range.1 hi)).2.2.1
    · obtain ⟨i, hi, rfl⟩ := List.mem_map.1 hx
      exact (hf' i (List.mem_range.1 hi)).2.2.2

end Go.Proofs.YtfeifobljgmkkaaDoor
