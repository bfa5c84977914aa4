/- The program's All. -/
import Derived.Test.YtfeifobljgmkkaaDoorFRead
import Derived.Test.YtfeifobljgmkkaaDoorFHead
import Derived.Deep.LoopGhost
import Derived.WalkMore
import Derived.Laws.AppendOwn
namespace Go.Proofs.YtfeifobljgmkkaaDoor
open Go.RowKit Crcx

def Blk.cells (x : Blk) : List Value := [.int .u8 x.tag, x.t.val]
def Blk.key (x : Blk) : Int × List Int := (x.tag, x.t.xs)

/-- Blocks that were read behind w: in a row of their own, each body in a row of its own. -/
structure Blks (w wr : World) (v : Value) (bl : List Blk) : Prop where
  own : wr.ownsRow w.heap.size 36 2 v bl.length (bl.flatMap Blk.cells)
  body : ∀ x ∈ bl, New w wr x.t.val x.t.xs
  touch : Touch (fun _ => False) w wr
  dist : bl.Pairwise fun x y => ∀ g, x.t.val.ownBlock = some g → y.t.val.ownBlock ≠ some g

theorem infoBlk : (Tryd.prog.info? 36).map (fun i => (i.zero, i.size, i.bytes)) = some (some (.agg #[.int .u8 0, .slice none 0 0]), 2, 32) := by kernel_rfl

theorem info_parts2 {P : Program} {e : TypeId} {z : Value} {s b : Nat} (h : (P.info? e).map (fun i => (i.zero, i.size, i.bytes)) = some (some z, s, b)) : ∃ i, P.info? e = some i ∧ i.zero = some z ∧ i.size = s ∧ i.bytes = b := by
  cases hi : P.info? e with
  | none => rw [hi] at h; cases h
  | some i => rw [hi] at h; simp at h; exact ⟨i, rfl, h.1, h.2.1, h.2.2⟩

theorem Blks.nil {w wr : World} (h : Touch (fun _ => False) w wr) : Blks w wr (.slice none 0 0) [] := ⟨World.ownsRow_nil wr _ _ _, fun x hx => by simp at hx, h, List.Pairwise.nil⟩

theorem own_block {w : World} {base size n : Nat} {e : TypeId} {v : Value} {xs : List Value} (h : w.ownsRow base e size v n xs) {g : Nat} (hg : v.ownBlock = some g) : base ≤ g ∧ ∃ cur, w.heap[g]? = some (.cells cur e (0, 0)) := by
  rcases h.2 with ⟨rfl, _⟩ | ⟨g', cap, cur, rfl, hb, hc, _⟩
  · simp [Value.ownBlock] at hg
  · simp [Value.ownBlock] at hg; subst hg; exact ⟨hb, cur, hc⟩

theorem own_touch {S : Nat → Prop} {w w' : World} {base size n : Nat} {e : TypeId} {v : Value} {xs : List Value} (h : w.ownsRow base e size v n xs) (ht : Touch S w w') (hn : ∀ g, v.ownBlock = some g → ¬ S g) : w'.ownsRow base e size v n xs := by
  rcases h.2 with ⟨rfl, rfl⟩ | ⟨g, cap, cur, rfl, hb, hc, h1, h2, h3, h4⟩
  · exact ⟨h.1, .inl ⟨rfl, rfl⟩⟩
  · exact ⟨h.1, .inr ⟨g, cap, cur, rfl, hb, ht.heap hc (hn g rfl), h1, h2, h3, h4⟩⟩

theorem Blks.keep {w wr w2 : World} {v : Value} {bl : List Blk} (h : Blks w wr v bl) (ht : Touch (fun _ => False) wr w2) : Blks w w2 v bl :=
  ⟨own_touch h.own ht (fun _ _ h => h), fun x hx => (h.body x hx).keep ht, h.touch.trans ht (fun _ _ h => h), h.dist⟩

/-- One block more. -/
theorem Blks.more {w wr w2 : World} {v v' : Value} {bl : List Blk} {x : Blk} (h : Blks w wr v bl) (hx : New w wr x.t.val x.t.xs) (hd : ∀ y ∈ bl, ∀ g, y.t.val.ownBlock = some g → x.t.val.ownBlock ≠ some g) (hown : w2.ownsRow w.heap.size 36 2 v' (bl.length + 1) (bl.flatMap Blk.cells ++ x.cells)) (hg : wr.grownBy w2 v.ownBlock) : Blks w w2 v' (bl ++ [x]) := by
  have ht := Touch.of_grownBy hg
  have far : ∀ (u : Value) (ys : List Int), New w wr u ys → New w w2 u ys := fun u ys hu => by
    refine ⟨hu.row.touch ht (fun g hgu e => ?_), hu.lo, h.touch.trans ht (fun k hk e => ?_)⟩
    · obtain ⟨cur, hc⟩ := hu.row.block hgu
      obtain ⟨_, cur', hc'⟩ := own_block h.own e
      exact tags hc hc' (by decide) rfl
    · have := (own_block h.own e).1; omega
  refine ⟨by simpa using hown, fun y hy => ?_, (far _ _ hx).touch, List.pairwise_append.2 ⟨h.dist, List.pairwise_singleton _ _, fun y hy z hz => by obtain rfl := List.mem_singleton.1 hz; exact hd y hy⟩⟩
  rcases List.mem_append.1 hy with hy | hy
  · exact far _ _ (h.body y hy)
  · obtain rfl := List.mem_singleton.1 hy; exact far _ _ hx

/-- Where All stands. -/
def AllAt (w : World) (b : List Int) (v : Value) (p : Nat) (wr : World) : Prop :=
  ∃ bl : List Blk, Blks w wr v bl ∧ rowF (bl.map Blk.key) = b.take p ∧ (∀ x ∈ bl.map Blk.key, FrOk x) ∧ p ≤ b.length ∧ bl.length ≤ p

/-- What All answers. -/
def AllEnd (w : World) (b : List Int) (r : Ending) (w' : World) : Prop :=
  ∃ (v : Value) (bl : List Blk) (l : List (Int × List Int)) (p e : Nat), r = .returned (.tuple #[v, .int .i64 (p : Int), .int .i64 (e : Int)]) ∧ Blks w w' v bl ∧ Heads b l p e ∧ bl.map Blk.key = if e = 0 then l else []

set_option maxRecDepth 100000 in
set_option maxHeartbeats 1000000 in
theorem all_any (t : Txt) (w : World) (hT : Tab w) (ho : t.Ok w) (hc : t.xs.length ≤ t.cap) (hb : t.xs.length ≤ 2147483648) : Calls Tryd.prog 20 #[.slice t.ao t.xs.length t.cap] w (AllEnd w t.xs) := by
  obtain ⟨i0, hi, hz0, hz1, hz2⟩ := info_parts2 infoBlk
  obtain ⟨xl, hxl⟩ : ∃ xl, xl = t.xs.length := ⟨_, rfl⟩
  rw [← hxl]
  have HXL := hide hxl
  clear hxl
  go_enter Tryd.func20, Tryd.ntmps20
  go_wp2_with fail
  go_step3
  go_wp2_with fail
  go_step3
  go_wp2_with fail
  go_loopw [5, 6, 7] (fun v i k wr => ∃ p : Nat, i = .int .i64 p ∧ k = .int .i64 0 ∧ AllAt w t.xs v p wr) (fun _ i _ _ => xl - (intOf i).toNat)
  case atStart => exact ⟨0, rfl, rfl, [], Blks.nil (Touch.refl _ _), rfl, fun x hx => by simp at hx, Nat.zero_le _, Nat.le_refl _⟩
  case round =>
    obtain ⟨p, rfl, rfl, bl, hB, hrow, hok, hp, hbl⟩ := hrel
    by_cases hlt : p < xl
    · have or_ := ho.touch hB.touch
      have hTr := hT.touch hB.touch (fun h => h)
      obtain ⟨u, u1, u2, u3, u4, u5⟩ := cut_l or_ hc p hp
      have RD := hide (read_any u wr hTr u3 u4 (by omega))
      rw [u1] at RD
      rw [← HXL.out] at u5
      obtain ⟨G, hG⟩ : ∃ G, G = readF (t.xs.drop p) := ⟨_, rfl⟩
      rw [← hG, ← u1] at RD
      have hp63 : (p : Int) ≤ 2147483648 := by have := HXL.out; omega
      by_cases hge : G.err = 0
      · have hnx := heads_next ho.in8 hrow hok hp (by rw [← hG]; exact hge)
        rw [← hG] at hnx
        have HNX := hide hnx
        have hgs : (G.size : Int) ≤ 268435466 := by omega
        have hgs6 : 6 ≤ G.size := hnx.2.2.2.1
        have hplen : p + G.size ≤ xl := by rw [HXL.out]; exact hnx.2.2.1
        have hblen : bl.length ≤ 2147483648 := by have := HXL.out; omega
        have HB := hide hB
        have HGE := hide hge
        obtain ⟨ge, gt, gb, gs⟩ := G
        simp only at *
        subst hge
        generalize u.ao = uo at *
        generalize u.xs.length = ul at *
        generalize u.cap = uc at *
        clear hnx hG u1 u2 u3 u4 or_ hTr hB hrow hok hc ho
        go_wp2_with fail
        refine RD.out.mono ?_
        rintro e w1 ⟨bo, bn, bc, rfl, N1⟩
        simp only at N1
        have hbn := N1.row.len
        subst hbn
        have NW := N1.after HB.out.touch
        have HDI := hide (fun (y : Blk) (hy : y ∈ bl) (g : Nat) (hg : y.t.val.ownBlock = some g) (hx : (Value.slice bo gb.length bc).ownBlock = some g) => (show False by have h1 := (HB.out.body y hy).row.lt hg; have h2 := N1.lo g hx; omega))
        have HB1 := HB.out.keep N1.touch
        have tA : Touch (fun _ => False) w1 ((w1.alloc (.cells #[.int .u8 gt, .slice bo gb.length bc] 36)).alloc (.cells #[.int .u8 gt, .slice bo gb.length bc] 36)) := ((Touch.refl _ _).alloc _).alloc _
        have HB2 := HB1.keep tA
        have NW2 := NW.keep tA
        have CN : ∀ (j : Nat) (u : Value), ([.int .u8 gt, .slice bo gb.length bc] : List Value)[j]? = some u → ((w1.alloc (.cells #[.int .u8 gt, .slice bo gb.length bc] 36)).alloc (.cells #[.int .u8 gt, .slice bo gb.length bc] 36)).cell? ((⟨w1.heap.size + 1, 0, none⟩ : Addr).add j) = some u := by
          have hb := heap_alloc_last (w1.alloc (.cells #[.int .u8 gt, .slice bo gb.length bc] 36)) (.cells #[.int .u8 gt, .slice bo gb.length bc] 36)
          have hz : (w1.alloc (.cells #[.int .u8 gt, .slice bo gb.length bc] 36)).heap.size = w1.heap.size + 1 := by simp
          rw [hz] at hb
          intro j u hu
          rw [Addr.add_lit, Nat.zero_add, cell_of_row _ _ j _ _ _ hb]
          simpa using hu
        have ON : ∀ u ∈ ([.int .u8 gt, .slice bo gb.length bc] : List Value), u.oneCell' = true := by
          intro u hu
          simp only [List.mem_cons, List.not_mem_nil, or_false] at hu
          rcases hu with rfl | rfl <;> rfl
        have OW := hide HB2.own
        have B2S := HB2.touch.size
        have HB3 := hide HB2
        have NW3 := hide NW2
        clear N1 RD HB HB1 NW tA HB2 NW2
        go_wp2_with (at_builtin; refine wpList_append_own _ rfl (.tmp 27) (.tmp 29) 34 rfl w.heap.size 36 i0 _ 2 32 Tryd.underlying34 hi hz0 hz1 hz2 rfl (by omega) _ bl.length (bl.flatMap Blk.cells) rfl OW.out ⟨w1.heap.size + 1, 0, none⟩ 1 1 [.int .u8 gt, .slice bo gb.length bc] rfl rfl CN ON ?b1 ?b2 ?b3 ?nx)
        case b1 => unfold maxLen; omega
        case b2 => omega
        case b3 => exact B2S
        case nx =>
          intro v' w4 hown hgr _
          have HB4 := HB3.out.more (x := ⟨gt, ⟨bo, bc, gb⟩⟩) NW3.out HDI.out hown hgr
          have hal : AllAt w t.xs v' (p + gs) w4 := ⟨_, HB4, by rw [List.map_append]; exact HNX.out.1, by rw [List.map_append]; exact HNX.out.2.1, HNX.out.2.2.1, by rw [List.length_append]; simp; omega⟩
          have HAL := hide hal
          clear hal HB4 hown hgr HB3 NW3 OW CN ON
          go_wp2_with fail
          go_roundw
          case rel => exact ⟨p + gs, by go_num, rfl, HAL.out⟩
          case measure => simp [intOf]; omega
      · have hge' : ¬ (G.err : Int) = 0 := by omega
        have hrow' := hrow
        have hend : ∀ W, Touch (fun _ => False) wr W → AllEnd w t.xs (.returned (.tuple #[.slice none 0 0, .int .i64 (p : Int), .int .i64 (G.err : Int)])) W := fun W hW =>
          ⟨_, [], _, p, G.err, rfl, Blks.nil (hB.touch.trans hW (fun _ _ h => h)), ⟨hrow, hok, hp, .inr ⟨hge, by rw [hG], by rw [← HXL.out]; exact hlt⟩⟩, by rw [if_neg hge]; rfl⟩
        have HE := hide hend
        obtain ⟨ge, gt, gb, gs⟩ := G
        simp only at *
        generalize u.ao = uo at *
        generalize u.xs.length = ul at *
        generalize u.cap = uc at *
        clear hG u1 u2 u3 u4 or_ hTr hB hrow hok hc ho hend hrow'
        go_wp2_with fail
        refine RD.out.mono ?_
        rintro e w1 ⟨bo, bn, bc, rfl, N1⟩
        simp only at N1
        have T1 := N1.touch.alloc (.cells #[.int .u8 gt, .slice bo bn bc] 36)
        have HE1 := hide (HE.out _ T1)
        clear N1 RD HE T1
        go_wp2_with fail
        go_ret3
        exact HE1.out
    · have e : p = xl := by have := HXL.out; omega
      subst e
      have hend : ∀ v, Blks w wr v bl → AllEnd w t.xs (.returned (.tuple #[v, .int .i64 (p : Int), .int .i64 ((0 : Nat) : Int)])) wr := fun v hB =>
        ⟨v, bl, _, p, 0, rfl, hB, ⟨hrow, hok, hp, .inl ⟨rfl, HXL.out⟩⟩, by rw [if_pos rfl]⟩
      have HE := hide (hend _ hB)
      clear hB hrow hok hend ho hc
      go_wp2_with fail
      go_ret3
      exact HE.out

end Go.Proofs.YtfeifobljgmkkaaDoor
