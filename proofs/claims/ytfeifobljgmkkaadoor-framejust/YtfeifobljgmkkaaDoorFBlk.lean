/- Blocks that were read, as a list in memory. -/
import Derived.Test.YtfeifobljgmkkaaDoorFKnown
namespace Go.Proofs.YtfeifobljgmkkaaDoor
open Go.RowKit Crcx

theorem Blks.shape {w wr : World} {v : Value} {bl : List Blk} (h : Blks w wr v bl) : ∃ ao c, v = .slice ao bl.length c := by
  rcases h.own.2 with ⟨rfl, h0⟩ | ⟨g, cap, cur, rfl, _⟩
  · exact ⟨none, 0, by rw [h0]⟩
  · exact ⟨_, _, rfl⟩

theorem flat_at : ∀ (bl : List Blk) (i : Nat) (hi : i < bl.length), (bl.flatMap Blk.cells)[i * 2]? = some (.int .u8 bl[i].tag) ∧ (bl.flatMap Blk.cells)[i * 2 + 1]? = some bl[i].t.val
  | x :: bl, 0, _ => by simp [Blk.cells]
  | x :: bl, i + 1, hi => by
    have h := flat_at bl i (by simpa using hi)
    have e : (x :: bl).flatMap Blk.cells = .int .u8 x.tag :: x.t.val :: bl.flatMap Blk.cells := rfl
    rw [e, show (i + 1) * 2 = i * 2 + 1 + 1 by omega, List.getElem?_cons_succ, List.getElem?_cons_succ, List.getElem?_cons_succ, List.getElem?_cons_succ]
    simpa using h

theorem segB_of {wr : World} {base : Nat} {ao : Option Addr} {n c : Nat} {bl : List Blk} (hown : wr.ownsRow base 36 2 (.slice ao n c) bl.length (bl.flatMap Blk.cells)) (hrow : ∀ x ∈ bl, Row wr 5 .u8 x.t.val x.t.xs) (hok : ∀ x ∈ bl.map Blk.key, FrOk x) : SegB wr ao bl := by
  refine ⟨fun hl => ?_, fun b off e i hi => ?_, fun x hx => ?_⟩
  · rcases hown.2 with ⟨_, h0⟩ | ⟨g, cap, cur, e, _⟩
    · omega
    · injection e with e1 _ _; exact ⟨g, 0, e1⟩
  · obtain ⟨f1, f2⟩ := flat_at bl i hi
    subst e
    rcases hown.2 with ⟨e, h0⟩ | ⟨g, cap, cur, e, _⟩
    · omega
    · injection e with e1 _ _; injection e1 with e1; injection e1 with e1 e2 _
      subst e1 e2
      have hcells := hown.cells (g := b) rfl
      have a1 := hcells _ _ f1
      have a2 := hcells _ _ f2
      rw [Addr.add_lit] at a1 a2
      refine ⟨by simpa using a1, ?_⟩
      rw [Nat.zero_add] at a2
      rw [Nat.zero_add]; exact a2
  · have hk := hok x.key (List.mem_map.2 ⟨x, hx, rfl⟩)
    exact ⟨hk.tag, ⟨Seg.of_row (hrow x hx), hk.in8, by have := hk.len; simp only [Blk.key] at this; omega⟩⟩

theorem Blks.seg {w wr : World} {ao : Option Addr} {n c : Nat} {bl : List Blk} (h : Blks w wr (.slice ao n c) bl) (hok : ∀ x ∈ bl.map Blk.key, FrOk x) : SegB wr ao bl := segB_of h.own (fun x hx => (h.body x hx).row) hok

theorem rowB_key (bl : List Blk) : rowB bl = rowF (bl.map Blk.key) := by
  unfold rowB rowF; rw [List.flatMap_map]; rfl

theorem blks_len {bl : List Blk} : bl.length ≤ (rowB bl).length := by
  induction bl with
  | nil => simp
  | cons x bl ih =>
    have : rowB (x :: bl) = frm x.tag x.t.xs ++ rowB bl := rfl
    rw [this, List.length_append]
    have := frm_pos x.tag x.t.xs
    simp; omega

end Go.Proofs.YtfeifobljgmkkaaDoor
