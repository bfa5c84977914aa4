/- The program's Put, rowSize, Row. -/
import Derived.Test.YtfeifobljgmkkaaDoorLay
namespace Go.Proofs.YtfeifobljgmkkaaDoor
open Go.RowKit Crcx

/-- Bytes in a new row of their own. -/
structure New (w w' : World) (v : Value) (xs : List Int) : Prop where
  row : Row w' 5 .u8 v xs
  lo : ∀ g, v.ownBlock = some g → w.heap.size ≤ g
  touch : Touch (fun _ => False) w w'

theorem New.of_grew {w w1 w2 : World} {v v' : Value} {xs ys : List Int} (h : New w w1 v xs) (hr : Row w2 5 .u8 v' ys) (hg : Grew w1 v w2 v') : New w w2 v' ys := by
  refine ⟨hr, fun g hgv => ?_, h.touch.trans hg.touch (fun k hk hv => by have := h.lo k hv; omega)⟩
  rcases hg.fresh with e | ⟨g', e, hg'⟩
  · exact h.lo g (by rw [← e]; exact hgv)
  · rw [hgv] at e; injection e with e; subst e; exact Nat.le_trans h.touch.size hg'

theorem New.after {w w1 w2 : World} {v : Value} {xs : List Int} (h : New w1 w2 v xs) (ht : Touch (fun _ => False) w w1) : New w w2 v xs :=
  ⟨h.row, fun g hg => Nat.le_trans ht.size (h.lo g hg), ht.trans h.touch (fun _ _ h => h)⟩

theorem New.keep {w w1 w2 : World} {v : Value} {xs : List Int} (h : New w w1 v xs) (ht : Touch (fun _ => False) w1 w2) : New w w2 v xs :=
  ⟨h.row.touch ht (fun _ _ h => h), h.lo, h.touch.trans ht (fun _ _ h => h)⟩

set_option maxRecDepth 100000 in
set_option maxHeartbeats 1000000 in
theorem put_any (tag : Int) (t : Txt) (w : World) (hT : Tab w) (ho : t.Ok w) (h8 : 0 ≤ tag ∧ tag ≤ 255) (hn : t.xs.length ≤ 268435456) :
    Calls Tryd.prog 13 #[.int .u8 tag, t.val] w fun e w' => ∃ ao n c, e = .returned (.tuple #[.slice ao n c, .int .i64 0]) ∧ New w w' (.slice ao n c) (frm tag t.xs) := by
  obtain ⟨ao, cap, xs⟩ := t
  simp only [Txt.val] at *
  obtain ⟨i0, hi, hz0, hz1, hz2⟩ := info_parts Tryd.info5
  have h2 : ¬ (268435456 : Int) < (xs.length : Int) := by omega
  have hf := fsize_le hn
  go_enter Tryd.func13, Tryd.ntmps13
  go_wp2_with fail
  refine (fsize_any xs.length hn w).mono ?_
  rintro e w' ⟨rfl, rfl⟩
  go_wp2_with (at_make; refine wpList_make_own w rfl (.const (.int .i64 0)) (.tmp 12) 22 rfl 0 5 i0 (.int .u8 0) 1 Tryd.underlying22 hi hz0 hz1 .i64 .i64 _ (fsize xs.length) rfl rfl rfl ?b1 ?b2 (Nat.zero_le _) ?nx)
  case b1 => rw [hz2]; omega
  case b2 => unfold maxLen; omega
  case nx =>
    intro w1 hown hgr
    have R1 : Row w1 5 .u8 (.slice (some ⟨w.heap.size, 0, none⟩) 0 (fsize xs.length)) [] := hown
    have T1 : Touch (fun _ => False) w w1 := (Touch.of_grownBy hgr).mono (fun k _ h => by simp at h)
    have N1 : New w w1 (.slice (some ⟨w.heap.size, 0, none⟩) 0 (fsize xs.length)) [] := ⟨R1, fun g hg => by simp [Value.ownBlock] at hg; omega, T1⟩
    have LY := hide (lay_any _ [] tag ⟨ao, cap, xs⟩ w1 (hT.touch T1 (fun h => h)) R1 (ho.touch T1) h8 hn (by simp only [List.length_nil]; omega) (fun a ha hx => by
      have := ho.seg.lt a ha hx
      simp [Value.ownBlock]; omega))
    simp only [Txt.val] at LY
    generalize w.heap.size = g0 at *
    generalize fsize xs.length = fs at *
    clear hown hgr R1 T1 hT ho
    go_wp2_with fail
    refine LY.out.mono ?_
    rintro e w2 ⟨ao2, n2, c2, rfl, R2, G2⟩
    have N2 := N1.of_grew R2 G2
    go_wp2_with fail
    go_ret2
    exact ⟨_, _, _, rfl, N2⟩

/-- A block: its tag and its body. -/
structure Blk where
  tag : Int
  t : Txt

structure Blk.Ok (w : World) (x : Blk) : Prop where
  tag : 0 ≤ x.tag ∧ x.tag ≤ 255
  t : x.t.Ok w

/-- Blocks in memory. -/
structure SegB (w : World) (ao : Option Addr) (bl : List Blk) : Prop where
  addr : 0 < bl.length → ∃ b off, ao = some ⟨b, off, none⟩
  cell : ∀ b off, ao = some ⟨b, off, none⟩ → ∀ i (hi : i < bl.length), w.cell? ⟨b, off + i * 2, none⟩ = some (.int .u8 bl[i].tag) ∧ w.cell? ⟨b, off + i * 2 + 1, none⟩ = some bl[i].t.val
  ok : ∀ x ∈ bl, x.Ok w

theorem SegB.touch {w w' : World} {ao : Option Addr} {bl : List Blk} (h : SegB w ao bl) (ht : Touch (fun _ => False) w w') : SegB w' ao bl := by
  refine ⟨h.addr, fun b off e i hi => ?_, fun x hx => ⟨(h.ok x hx).tag, (h.ok x hx).t.touch ht⟩⟩
  obtain ⟨c0, c1⟩ := h.cell b off e i hi
  exact ⟨(ht.cell (p := ⟨b, off + i * 2, none⟩) (lt_of_cell c0) (fun h => h)).trans c0, (ht.cell (p := ⟨b, off + i * 2 + 1, none⟩) (lt_of_cell c1) (fun h => h)).trans c1⟩

/-- A row of frames. -/
def rowB (bl : List Blk) : List Int := bl.flatMap fun x => frm x.tag x.t.xs

theorem rowB_nil : rowB [] = [] := rfl
theorem rowB_append (a b : List Blk) : rowB (a ++ b) = rowB a ++ rowB b := by unfold rowB; rw [List.flatMap_append]
theorem rowB_take (bl : List Blk) (k : Nat) (hk : k < bl.length) : rowB (bl.take (k + 1)) = rowB (bl.take k) ++ frm bl[k].tag bl[k].t.xs := by
  rw [List.take_succ_eq_append_getElem hk, rowB_append]; unfold rowB; simp
theorem rowB_le (bl : List Blk) (k : Nat) : (rowB (bl.take k)).length ≤ (rowB bl).length := by
  have h : rowB bl = rowB (bl.take k) ++ rowB (bl.drop k) := by rw [← rowB_append, List.take_append_drop]
  rw [h, List.length_append]; omega
theorem rowB_body (bl : List Blk) (k : Nat) (hk : k < bl.length) : (rowB (bl.take k)).length + fsize bl[k].t.xs.length ≤ (rowB bl).length := by
  have := rowB_le bl (k + 1)
  rw [rowB_take bl k hk, List.length_append, frm_len] at this; exact this
theorem fsize_lt (n : Nat) : n + 6 ≤ fsize n := by unfold fsize; have := numb_pos n; omega

set_option maxRecDepth 100000 in
set_option maxHeartbeats 1000000 in
theorem rowSize_any (ao : Option Addr) (bl : List Blk) (cap : Nat) (w : World) (hs : SegB w ao bl) (hl : (rowB bl).length ≤ 268435456) (hbl : bl.length ≤ 70368744177664) :
    Calls Tryd.prog 34 #[.slice ao bl.length cap] w fun e w' => e = .returned (.tuple #[.int .i64 (((rowB bl).length : Nat) : Int), .int .i64 0]) ∧ Touch (fun _ => False) w w' := by
  go_enter Tryd.func34, Tryd.ntmps34
  go_wp2_with fail
  go_loopw [4, 10] (fun all i wr => ∃ k : Nat, i = .int .i64 k ∧ k ≤ bl.length ∧ all = .int .i64 (((rowB (bl.take k)).length : Nat) : Int) ∧ Touch (fun _ => False) w wr) (fun _ i _ => bl.length - (intOf i).toNat)
  case atStart => exact ⟨0, rfl, Nat.zero_le _, rfl, Touch.refl _ _⟩
  case round =>
    obtain ⟨k, rfl, hk, rfl, ht⟩ := hrel
    by_cases hlt : k < bl.length
    · have hsr := hs.touch ht
      obtain ⟨b, off, rfl⟩ := hs.addr (by omega)
      obtain ⟨c0, c1⟩ := hsr.cell b off rfl k hlt
      have hbody := rowB_body bl k hlt
      have hfl := fsize_lt bl[k].t.xs.length
      have HN := hide (rowB_take bl k hlt)
      have HF := hide (frm_len bl[k].tag bl[k].t.xs)
      have FS := hide (fun W => fsize_any bl[k].t.xs.length (by omega) W)
      simp only [Txt.val] at c1
      have hz : (((fsize bl[k].t.xs.length : Int)) == 0) = false := by rw [beq_eq_false_iff_ne]; omega
      have hg : decide ((268435456 : Int) - ((rowB (bl.take k)).length : Int) < (fsize bl[k].t.xs.length : Int)) = false := decide_eq_false (by omega)
      have HE := hide (show (((rowB (bl.take (k + 1))).length : Nat) : Int) = ((rowB (bl.take k)).length : Int) + (fsize bl[k].t.xs.length : Int) by rw [HN.out, List.length_append, HF.out]; omega)
      have h1 : (fsize bl[k].t.xs.length : Int) ≤ 268435456 := by omega
      have h2 : ((rowB (bl.take k)).length : Int) ≤ 268435456 := by omega
      have h3 : ((rowB (bl.take k)).length : Int) + (fsize bl[k].t.xs.length : Int) ≤ 268435456 := by omega
      generalize bl[k].t.xs.length = xl at *
      generalize bl[k].t.ao = xa at *
      generalize bl[k].t.cap = xc at *
      generalize bl[k].tag = xt at *
      generalize (rowB (bl.take k)).length = m at *
      generalize fsize xl = fs at *
      have hta := hide (ht.alloc (.cells #[.int .u8 xt, .slice xa xl xc] 36))
      clear hs hsr hbody hfl HN HF hl ht
      go_wp2_with fail
      refine (FS.out _).mono ?_
      rintro e w' ⟨rfl, rfl⟩
      go_wp2_with fail
      go_roundw
      case rel => exact ⟨k + 1, by go_num, by omega, by rw [HE.out], hta.out⟩
      case measure => simp [intOf]; omega
    · have e : k = bl.length := by omega
      subst e
      rw [List.take_length]
      clear hs
      go_wp2_with fail
      go_ret2
      exact ⟨rfl, ht⟩

end Go.Proofs.YtfeifobljgmkkaaDoor
