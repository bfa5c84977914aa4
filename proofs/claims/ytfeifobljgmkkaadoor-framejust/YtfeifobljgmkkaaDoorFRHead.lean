/- The document's Heads. -/
import Derived.Test.YtfeifobljgmkkaaDoorFRRead
import Derived.Test.YtfeifobljgmkkaaDoorFBlk
namespace Go.Proofs.YtfeifobljgmkkaaDoor
open Go.RowKit Crcx

/-- The places of frames, and the one behind them. -/
def plc (l : List (Int × List Int)) : List Int := (List.range (l.length + 1)).map fun i => ((rowF (l.take i)).length : Int)

theorem plc_nil : plc [] = [0] := rfl

theorem plc_next (l : List (Int × List Int)) (x : Int × List Int) : plc (l ++ [x]) = plc l ++ [((rowF (l ++ [x])).length : Int)] := by
  unfold plc
  rw [List.length_append, List.length_singleton, List.range_succ, List.map_append, List.map_singleton]
  congr 1
  · apply List.map_congr_left
    intro i hi
    have := List.mem_range.1 hi
    rw [List.take_append_of_le_length (by omega)]
  · rw [List.take_of_length_le (by simp)]

theorem plc_len (l : List (Int × List Int)) : (plc l).length = l.length + 1 := by unfold plc; simp

theorem plc_at (l : List (Int × List Int)) (i : Nat) (hi : i ≤ l.length) : (plc l).getD i 0 = ((rowF (l.take i)).length : Int) := by
  unfold plc
  rw [List.getD_eq_getElem?_getD, List.getElem?_map, List.getElem?_range (by omega)]
  rfl

theorem Tryd.infoInt : (Tryd.prog.info? 3).map (fun i => (i.zero, i.size, i.bytes)) = some (some (.int .i64 0), 1, 8) := by kernel_rfl

/-- A row of numbers that was made behind w. -/
structure Nums (w wr : World) (v : Value) (ps : List Int) : Prop where
  row : Row wr 3 .i64 v ps
  lo : ∀ g, v.ownBlock = some g → w.heap.size ≤ g

theorem Blks.far {w wr w2 : World} {v : Value} {bl : List Blk} {S : Nat → Prop} (h : Blks w wr v bl) (ht : Touch S wr w2) (hS : ∀ k, S k → w.heap.size ≤ k ∧ ∃ cur, wr.heap[k]? = some (.cells cur 3 (0, 0))) : Blks w w2 v bl := by
  have T : Touch (fun _ => False) w w2 := h.touch.trans ht (fun k hk hs => by have := (hS k hs).1; omega)
  refine ⟨own_touch h.own ht (fun g hg hs => ?_), fun x hx => ⟨(h.body x hx).row.touch ht (fun g hg hs => ?_), (h.body x hx).lo, T⟩, T, h.dist⟩
  · obtain ⟨cur, hc⟩ := (hS g hs).2
    obtain ⟨_, cur', hc'⟩ := own_block h.own hg
    exact tags hc hc' (by decide) rfl
  · obtain ⟨cur, hc⟩ := (hS g hs).2
    obtain ⟨cur', hc'⟩ := (h.body x hx).row.block hg
    exact tags hc hc' (by decide) rfl

theorem Nums.keep {w wr w2 : World} {v : Value} {ps : List Int} (h : Nums w wr v ps) (ht : Touch (fun _ => False) wr w2) : Nums w w2 v ps := ⟨h.row.touch ht (fun _ _ h => h), h.lo⟩

/-- Where Heads stands. -/
def HeadsAt (w : World) (b : List Int) (v pv : Value) (p : Nat) (wr : World) : Prop :=
  ∃ bl : List Blk, Blks w wr v bl ∧ Nums w wr pv (plc (bl.map Blk.key)) ∧ rowF (bl.map Blk.key) = b.take p ∧ (∀ x ∈ bl.map Blk.key, FrOk x) ∧ p ≤ b.length ∧ bl.length ≤ p

/-- What Heads answers. -/
def HeadsEnd (w : World) (b : List Int) (r : Ending) (w' : World) : Prop :=
  ∃ (v pv : Value) (bl : List Blk) (p e : Nat), r = .returned (.tuple #[v, pv, .int .i64 (e : Int)]) ∧ Blks w w' v bl ∧ Nums w w' pv (plc (bl.map Blk.key)) ∧ Heads b (bl.map Blk.key) p e

set_option maxRecDepth 100000 in
set_option maxHeartbeats 1000000 in
theorem rheads_any (t : Txt) (w : World) (ho : t.Ok w) (hc : t.xs.length ≤ t.cap) (hb : t.xs.length ≤ 2147483648) : Calls Tryd.prog 24 #[.slice t.ao t.xs.length t.cap] w (HeadsEnd w t.xs) := by
  obtain ⟨i0, hi, hz0, hz1, hz2⟩ := info_parts2 infoBlk
  obtain ⟨j0, hj, hy0, hy1, hy2⟩ := info_parts2 Tryd.infoInt
  obtain ⟨xl, hxl⟩ : ∃ xl, xl = t.xs.length := ⟨_, rfl⟩
  rw [← hxl]
  have HXL := hide hxl
  clear hxl
  go_enter Tryd.func24, Tryd.ntmps24
  go_wp2_with fail
  have T0 : Touch (fun _ => False) w (w.alloc (.cells #[.int .i64 0] 3)) := (Touch.refl _ _).alloc _
  have N0 : Nums w (w.alloc (.cells #[.int .i64 0] 3)) (.slice (some ⟨w.heap.size, 0, none⟩) 1 1) [0] :=
    ⟨Row.mk (xs := [0]) (heap_alloc_last w _) (by simp) (by unfold maxLen; omega) rfl rfl, fun g hg => by simp [Value.ownBlock] at hg; omega⟩
  generalize w.alloc (.cells #[.int .i64 0] 3) = w0 at *
  generalize w.heap.size = g0 at N0 ⊢
  go_loopw [5, 6, 7] (fun v pv i wr => ∃ (p : Nat) (po : Option Addr) (pn pc : Nat), i = .int .i64 p ∧ pv = .slice po pn pc ∧ HeadsAt w t.xs v (.slice po pn pc) p wr) (fun _ _ i _ => xl - (intOf i).toNat)
  case atStart => exact ⟨0, _, _, _, rfl, rfl, [], Blks.nil T0, N0, rfl, fun x hx => by simp at hx, Nat.zero_le _, Nat.le_refl _⟩
  case round =>
    obtain ⟨p, po, pn, pc, rfl, rfl, bl, hB, hNu, hrow, hok, hp, hbl⟩ := hrel
    clear N0 T0
    by_cases hlt : p < xl
    · have or_ := ho.touch hB.touch
      obtain ⟨u, u1, u2, u3, u4, u5⟩ := cut_l or_ hc p hp
      have RD := hide (rread_any u wr u3 u4 (by omega))
      rw [u1] at RD
      rw [← HXL.out] at u5
      obtain ⟨G, hG⟩ : ∃ G, G = readF (t.xs.drop p) := ⟨_, rfl⟩
      rw [← hG, ← u1] at RD
      have hp63 : (p : Int) ≤ 2147483648 := by have := HXL.out; omega
      by_cases hge : G.err = 0
      · have hnx := heads_next ho.in8 hrow hok hp (by rw [← hG]; exact hge)
        rw [← hG] at hnx
        have hplc := plc_next (bl.map Blk.key) (G.tag, G.body)
        rw [hnx.1, List.length_take, Nat.min_eq_left hnx.2.2.1] at hplc
        have hpl := plc_len (bl.map Blk.key)
        rw [List.length_map] at hpl
        have HPL := hide hplc
        have HPN := hide hpl
        have HNX := hide hnx
        have hgs : (G.size : Int) ≤ 268435466 := by omega
        have hgs6 : 6 ≤ G.size := hnx.2.2.2.1
        have hplen : p + G.size ≤ xl := by rw [HXL.out]; exact hnx.2.2.1
        have hblen : bl.length ≤ 2147483648 := by have := HXL.out; omega
        have HB := hide hB
        have HNu := hide hNu
        obtain ⟨ge, gt, gb, gs⟩ := G
        simp only at *
        subst hge
        generalize u.ao = uo at *
        generalize u.xs.length = ul at *
        generalize u.cap = uc at *
        clear hnx hG u1 u2 u3 u4 or_ hB hNu hrow hok hc ho hplc hpl
        go_wp2_with fail
        refine RD.out.mono ?_
        rintro e w1 ⟨bo, bn, bc, rfl, N1⟩
        simp only at N1
        have hbn := N1.row.len
        subst hbn
        have NW := N1.after HB.out.touch
        have HDI := hide (fun (y : Blk) (hy : y ∈ bl) (g : Nat) (hg : y.t.val.ownBlock = some g) (hx : (Value.slice bo gb.length bc).ownBlock = some g) => (show False by have h1 := (HB.out.body y hy).row.lt hg; have h2 := N1.lo g hx; omega))
        have HB1 := HB.out.keep N1.touch
        have HN1 := HNu.out.keep N1.touch
        have tA : Touch (fun _ => False) w1 ((w1.alloc (.cells #[.int .u8 gt, .slice bo gb.length bc] 36)).alloc (.cells #[.int .u8 gt, .slice bo gb.length bc] 36)) := ((Touch.refl _ _).alloc _).alloc _
        have HB2 := HB1.keep tA
        have NW2 := NW.keep tA
        have HN2 := HN1.keep tA
        have CN : ∀ (j : Nat) (u : Value), ([.int .u8 gt, .slice bo gb.length bc] : List Value)[j]? = some u → ((w1.alloc (.cells #[.int .u8 gt, .slice bo gb.length bc] 36)).alloc (.cells #[.int .u8 gt, .slice bo gb.length bc] 36)).cell? ((⟨w1.heap.size + 1, 0, none⟩ : Addr).add j) = some u := by
          have hb := heap_alloc_last (w1.alloc (.cells #[.int .u8 gt, .slice bo gb.length bc] 36)) (.cells #[.int .u8 gt, .slice bo gb.length bc] 36)
          have hz : (w1.alloc (.cells #[.int .u8 gt, .slice bo gb.length bc] 36)).heap.size = w1.heap.size + 1 := by simp
          rw [hz] at hb
          intro j u hu
          rw [Addr.add_lit, Nat.zero_add, cell_of_row _ _ j _ _ _ hb]
          simpa using hu
        have ON : ∀ u ∈ ([.int .u8 gt, .slice bo gb.length bc] : List Value), u.oneCell' = true := by
          intro u hu
          simp only [List.mem_cons, List.not_mem_nil, or_false] at hu
          rcases hu with rfl | rfl <;> rfl
        have OW := hide HB2.own
        have B2S := HB2.touch.size
        have HB3 := hide HB2
        have NW3 := hide NW2
        have HN3 := hide HN2
        clear N1 RD HB HB1 NW tA HB2 NW2 HN1 HN2 HNu
        go_wp2_with (at_builtin; refine wpList_append_own _ rfl (.tmp 29) (.tmp 31) 34 rfl w.heap.size 36 i0 _ 2 32 Tryd.underlying34 hi hz0 hz1 hz2 rfl (by omega) _ bl.length (bl.flatMap Blk.cells) rfl OW.out ⟨w1.heap.size + 1, 0, none⟩ 1 1 [.int .u8 gt, .slice bo gb.length bc] rfl rfl CN ON ?b1 ?b2 ?b3 ?nx)
        case b1 => unfold maxLen; omega
        case b2 => omega
        case b3 => exact B2S
        case nx =>
          intro v' w4 hown hgr _
          have HB4 := HB3.out.more (x := ⟨gt, ⟨bo, bc, gb⟩⟩) NW3.out HDI.out hown hgr
          have t4 := Touch.of_grownBy hgr
          have HN4 : Nums w w4 (.slice po pn pc) (plc (bl.map Blk.key)) := ⟨HN3.out.row.touch t4 (fun g hg e => by
            obtain ⟨cur, hc1⟩ := HN3.out.row.block hg
            obtain ⟨_, cur', hc2⟩ := own_block HB3.out.own e
            exact tags hc1 hc2 (by decide) rfl), HN3.out.lo⟩
          have HN5 := hide HN4
          have HB5 := hide HB4
          have hps : (p : Int) + (gs : Int) = ((p + gs : Nat) : Int) := by omega
          have hpsb : ((p + gs : Nat) : Int) ≤ 2147483648 := by have := HXL.out; omega
          clear HN4 HB4 hown hgr HB3 NW3 OW CN ON t4 HN3
          generalize hq : p + gs = q at *
          have HQ := hide hq
          clear hq
          go_wp2_with (at_builtin; refine wpList_append_row _ rfl (.tmp 36) (.tmp 38) 49 49 rfl 3 j0 (.int .i64 0) .i64 8 Tryd.underlying49 hj hy0 hy1 hy2 rfl _ (plc (bl.map Blk.key)) rfl (HN5.out.row.alloc _) _ [(q : Int)] rfl (src_one Tryd.underlying49 _ _ _ _) ?b4 ?b5 ?nx2)
          case b4 => unfold maxLen; rw [HPN.out]; simp only [List.length_singleton]; omega
          case b5 => rw [HPN.out]; simp only [List.length_singleton]; omega
          case nx2 =>
            intro qo qn qc w5 R5 G5
            have ta : Touch (fun _ => False) w4 (w4.alloc (.cells #[.int .i64 (q : Int)] 3)) := (Touch.refl _ _).alloc _
            have HB6 := (HB5.out.keep ta).far G5.touch (fun k hk => ⟨HN5.out.lo k hk, by
              obtain ⟨cur, hc1⟩ := (HN5.out.row.alloc (.cells #[.int .i64 (q : Int)] 3)).block hk
              exact ⟨cur, hc1⟩⟩)
            have HN6 : Nums w w5 (.slice qo qn qc) (plc (bl.map Blk.key) ++ [(q : Int)]) := ⟨R5, fun g hg => by
              rcases G5.fresh with e | ⟨g', e, hg'⟩
              · exact HN5.out.lo g (by rw [← e]; exact hg)
              · rw [hg] at e; injection e with e; subst e
                have h1 := HB5.out.touch.size
                have h2 : w4.heap.size + 1 ≤ g := by simpa using hg'
                omega⟩
            have hal : HeadsAt w t.xs v' (.slice qo qn qc) q w5 := by
              refine ⟨_, HB6, ?_, ?_, ?_, ?_, ?_⟩
              · rw [List.map_append]
                show Nums w w5 _ (plc (bl.map Blk.key ++ [(gt, gb)]))
                rw [HPL.out]; exact HN6
              · rw [List.map_append]; exact HNX.out.1
              · rw [List.map_append]; exact HNX.out.2.1
              · exact HNX.out.2.2.1
              · rw [List.length_append]; have := HQ.out; simp; omega
            have HAL := hide hal
            have hqx : p < q := by have := HQ.out; omega
            have hqy : q ≤ xl := by have := HQ.out; omega
            clear hal HB6 HN6 R5 G5 ta HB5 HN5
            go_wp2_with fail
            go_roundw
            case rel => exact ⟨q, _, _, _, by first | rfl | go_num, rfl, HAL.out⟩
            case measure => simp [intOf]; omega
      · have hge' : ¬ (G.err : Int) = 0 := by omega
        have hend : ∀ v W, Blks w wr v bl → Touch (fun _ => False) wr W → HeadsEnd w t.xs (.returned (.tuple #[v, .slice po pn pc, .int .i64 (G.err : Int)])) W := fun v W hB hW =>
          ⟨v, _, bl, p, G.err, rfl, hB.keep hW, hNu.keep hW, ⟨hrow, hok, hp, .inr ⟨hge, by rw [hG], by rw [← HXL.out]; exact hlt⟩⟩⟩
        have HE := hide (fun W => hend _ W hB)
        obtain ⟨ge, gt, gb, gs⟩ := G
        simp only at *
        generalize u.ao = uo at *
        generalize u.xs.length = ul at *
        generalize u.cap = uc at *
        clear hG u1 u2 u3 u4 or_ hB hNu hrow hok hc ho hend
        go_wp2_with fail
        refine RD.out.mono ?_
        rintro e w1 ⟨bo, bn, bc, rfl, N1⟩
        simp only at N1
        have T1 := N1.touch.alloc (.cells #[.int .u8 gt, .slice bo bn bc] 36)
        have HE1 := hide (HE.out _ T1)
        clear N1 RD HE T1
        go_wp2_with fail
        go_ret3
        exact HE1.out
    · have e : p = xl := by have := HXL.out; omega
      subst e
      have hend : ∀ v, Blks w wr v bl → HeadsEnd w t.xs (.returned (.tuple #[v, .slice po pn pc, .int .i64 ((0 : Nat) : Int)])) wr := fun v hB =>
        ⟨v, _, bl, p, 0, rfl, hB, hNu, ⟨hrow, hok, hp, .inl ⟨rfl, HXL.out⟩⟩⟩
      have HE := hide (hend _ hB)
      clear hB hNu hrow hok hend ho hc
      go_wp2_with fail
      go_ret3
      exact HE.out

end Go.Proofs.YtfeifobljgmkkaaDoor
