/- The walk of FrameReads, whole. -/
import Derived.Test.YtfeifobljgmkkaaDoorReadsW
namespace Go.Proofs.YtfeifobljgmkkaaDoor
open Go.RowKit Crcx

theorem all_keys {b : List Int} {l : List (Int × List Int)} {p e : Nat} {bl : List Blk} (hH : Heads b l p e) (hk : bl.map Blk.key = if e = 0 then l else []) : ∀ x ∈ bl.map Blk.key, FrOk x := by
  rw [hk]
  split
  · exact hH.ok
  · intro x hx; cases hx

theorem blks_short {b : List Int} {l : List (Int × List Int)} {p e : Nat} {bl : List Blk} (hH : Heads b l p e) (hk : bl.map Blk.key = if e = 0 then l else []) : bl.length ≤ b.length := by
  by_cases he : e = 0
  · rw [if_pos he] at hk
    have h1 := blks_len (bl := bl)
    rw [rowB_key, hk, hH.row, List.length_take] at h1
    omega
  · rw [if_neg he] at hk
    rw [List.map_eq_nil_iff.1 hk]; simp

set_option maxRecDepth 100000 in
set_option maxHeartbeats 2000000 in
theorem reads_walk (t : Txt) (w : World) (hT : Tab w) (ho : t.Ok w) (hc : t.xs.length ≤ t.cap) :
    Calls Tryd.prog 5 #[.slice t.ao t.xs.length t.cap] w fun e w' => e = .returned (.bool true) ∧ Touch (fun _ => False) w w' := by
  have LG := hide (fun W => long_any t.ao t.xs.length t.cap W)
  have KN := hide (fun (W : World) (hW : Touch (fun _ => False) w W) => known_any W (hT.touch hW (fun h => h)))
  obtain ⟨ao, cap, xs⟩ := t
  have h8x : In8 xs := ho.in8
  simp only at *
  by_cases hlong : 200000 < xs.length
  · have hd : decide ((200000 : Int) < (xs.length : Int)) = true := decide_eq_true (by omega)
    rw [hd] at LG
    clear hd
    go_enter Tryd.func5, Tryd.ntmps5
    go_wp2_with fail
    refine (LG.out _).mono ?_
    rintro e w' ⟨rfl, rfl⟩
    go_wp2_with fail
    refine (KN.out _ (Touch.refl _ _)).mono ?_
    rintro e w1 ⟨rfl, t1⟩
    go_wp2_with fail
    go_ret
    exact ⟨rfl, t1⟩
  · have hd : decide ((200000 : Int) < (xs.length : Int)) = false := decide_eq_false (by omega)
    rw [hd] at LG
    clear hd
    have LE := hide (lent_any ⟨ao, cap, xs⟩ w ho (by simp only; omega))
    have RD := hide (fun (W : World) (g c : Nat) (hW : Touch (fun _ => False) w W) (hL : (Txt.mk (some ⟨g, 0, none⟩) c xs).Ok W) (hcc : xs.length ≤ c) => read_any ⟨some ⟨g, 0, none⟩, c, xs⟩ W (hT.touch hW (fun h => h)) hL hcc (by simp only; omega))
    have AL := hide (fun (W : World) (g c : Nat) (hW : Touch (fun _ => False) w W) (hL : (Txt.mk (some ⟨g, 0, none⟩) c xs).Ok W) (hcc : xs.length ≤ c) => all_any ⟨some ⟨g, 0, none⟩, c, xs⟩ W (hT.touch hW (fun h => h)) hL hcc (by simp only; omega))
    have RR := hide (fun (W : World) (hW : Touch (fun _ => False) w W) => rread_any ⟨ao, cap, xs⟩ W (ho.touch hW) hc (by simp only; omega))
    have RA := hide (fun (W : World) (hW : Touch (fun _ => False) w W) => rall_any ⟨ao, cap, xs⟩ W (ho.touch hW) hc (by simp only; omega))
    simp only at LE RD AL RR RA
    obtain ⟨n, hn⟩ : ∃ n, n = xs.length := ⟨_, rfl⟩
    rw [← hn] at LG LE RD AL RR RA ⊢
    have HN := hide hn
    have hn2 : n ≤ 200000 := by omega
    clear hn hlong
    obtain ⟨G, hG⟩ : ∃ G, G = readF xs := ⟨_, rfl⟩
    rw [← hG] at RD RR
    have hG8 : In8 G.body := by
      by_cases h : G.err = 0
      · rw [hG] at h ⊢; exact (readF_ok h8x h).2.2.2.2.2.2
      · have : G.body = [] := by
          rw [hG] at h ⊢
          unfold readF at h ⊢
          split
          · rfl
          · split
            · rfl
            · split
              · rfl
              · split
                · rfl
                · rename_i h1 h2 h3 h4
                  rw [if_neg h1, if_neg h2, if_neg h3, if_neg h4] at h
                  exact absurd rfl h
        rw [this]; intro x hx; cases hx
    have hGl : G.body.length ≤ 268435456 := by
      by_cases h : G.err = 0
      · rw [hG] at h ⊢; exact (readF_ok h8x h).2.2.2.1
      · have : G.body = [] := by
          rw [hG] at h ⊢
          unfold readF at h ⊢
          split
          · rfl
          · split
            · rfl
            · split
              · rfl
              · split
                · rfl
                · rename_i h1 h2 h3 h4
                  rw [if_neg h1, if_neg h2, if_neg h3, if_neg h4] at h
                  exact absurd rfl h
        rw [this]; simp
    clear hG
    obtain ⟨ge, gt, gb, gs⟩ := G
    simp only at hG8 hGl
    go_enter Tryd.func5, Tryd.ntmps5
    go_wp2_with fail
    refine (LG.out _).mono ?_
    rintro e w' ⟨rfl, rfl⟩
    clear LG
    go_wp2_with fail
    refine LE.out.mono ?_
    rintro e w1 ⟨g, c, rfl, L1⟩
    clear LE
    have o1 := L1.txt h8x (by rw [← HN.out]; omega)
    have T1 := L1.new.touch
    have gL := L1.lt
    have q1 : n ≤ c := by rw [HN.out]; exact o1.2
    go_wp2_with fail
    refine (RD.out _ g c T1 o1.1 q1).mono ?_
    rintro e w2 ⟨xo, xn, xc, rfl, N2⟩
    simp only at N2 ⊢
    have hxn := N2.row.len
    subst hxn
    have T2 := T1.trans N2.touch (fun _ _ h => h)
    have t23 : Touch (fun _ => False) w2 (w2.alloc (.cells #[.int .u8 gt, .slice xo gb.length xc] 36)) := (Touch.refl _ _).alloc _
    have X3 := heap_alloc_last w2 (.cells #[.int .u8 gt, .slice xo gb.length xc] 36)
    clear RD
    go_wp2_with fail
    generalize w2.alloc (.cells #[.int .u8 gt, .slice xo gb.length xc] 36) = w3 at *
    generalize w2.heap.size = gx at X3 ⊢
    have T3 := T2.trans t23 (fun _ _ h => h)
    refine (RR.out _ T3).mono ?_
    rintro e w4 ⟨yo, yn, yc, rfl, N4⟩
    simp only at N4 ⊢
    have hyn := N4.row.len
    subst hyn
    have T4 := T3.trans N4.touch (fun _ _ h => h)
    have t45 : Touch (fun _ => False) w4 (w4.alloc (.cells #[.int .u8 gt, .slice yo gb.length yc] 36)) := (Touch.refl _ _).alloc _
    have t35 := N4.touch.trans t45 (fun _ _ h => h)
    have X5 := t35.heap X3 (fun h => h)
    have N25 := N2.keep (t23.trans t35 (fun _ _ h => h))
    have N45 := N4.keep t45
    have CV1 := conv_seg (Seg.of_row N25.row) xc
    have CV2 := conv_seg (Seg.of_row N45.row) yc
    obtain ⟨x0, x1⟩ := cells2 X5
    have T5 := T4.trans t45 (fun _ _ h => h)
    have L5 := L1.keep (N2.touch.trans (t23.trans t35 (fun _ _ h => h)) (fun _ _ h => h))
    have Y5 := heap_alloc_last w4 (.cells #[.int .u8 gt, .slice yo gb.length yc] 36)
    obtain ⟨y0, y1⟩ := cells2 Y5
    have s12 := N2.touch.size
    have s23 := t23.size
    have s35 := t35.size
    clear RR X3 N4 N45 t45 t35 t23 N2 T4 T3 T2 L1 o1 T1
    go_wp2_with fail
    generalize w4.alloc (.cells #[.int .u8 gt, .slice yo gb.length yc] 36) = w5 at *
    clear CV1 CV2 Y5 y0 y1
    have L5o := (L5.txt h8x (by rw [← HN.out]; omega)).1
    refine (AL.out _ g c T5 L5o q1).mono ?_
    rintro e w6 ⟨v, bl, l, p, er, rfl, hB, hH, hk⟩
    obtain ⟨vo, vc, rfl⟩ := hB.shape
    have T6 := T5.trans hB.touch (fun _ _ h => h)
    go_wp2_with fail
    refine (AL.out _ g c T6 (L5o.touch hB.touch) q1).mono ?_
    rintro e w7 ⟨v', tl, l', p', er', rfl, hB', hH', hk'⟩
    obtain ⟨to, tc, rfl⟩ := hB'.shape
    obtain ⟨rfl, rfl, rfl⟩ := heads_one _ _ _ _ _ _ _ hH' hH
    have T7 := T6.trans hB'.touch (fun _ _ h => h)
    clear AL
    go_wp2_with fail
    refine (RA.out _ T7).mono ?_
    rintro e w8 ⟨v'', wl, l'', p'', er'', rfl, hB'', hH'', hk''⟩
    obtain ⟨wo, wc, rfl⟩ := hB''.shape
    obtain ⟨rfl, rfl, rfl⟩ := heads_one _ _ _ _ _ _ _ hH'' hH
    have T8 := T7.trans hB''.touch (fun _ _ h => h)
    have t78 := hB''.touch
    have t68 := hB'.touch.trans t78 (fun _ _ h => h)
    have t58 := hB.touch.trans t68 (fun _ _ h => h)
    have hbls := blks_short hH hk
    have okl := all_keys hH hk
    have okt := all_keys hH' hk'
    have okw := all_keys hH'' hk''
    have s56 := hB.touch.size
    have hvl : ∀ k, (Value.slice vo bl.length vc).ownBlock = some k → w5.heap.size ≤ k ∧ k < w6.heap.size := fun k hk => ⟨(own_block hB.own hk).1, by obtain ⟨_, cur, hc'⟩ := own_block hB.own hk; exact lt_of_heap hc'⟩
    have hbl2 : ∀ x ∈ bl, ∀ k, x.t.val.ownBlock = some k → w5.heap.size ≤ k ∧ k < w6.heap.size := fun x hx k hk => ⟨(hB.body x hx).lo k hk, (hB.body x hx).row.lt hk⟩
    have s67 := hB'.touch.size
    have s78 := t78.size
    clear RA
    rw [← HN.out] at hbls
    have SB1 := hide (fun W (hW : Touch (fun _ => False) w8 W) => sameBlocks_any vo wo bl wl vc wc W ((hB.keep (t68.trans hW (fun _ _ h => h))).seg okl) ((hB''.keep hW).seg okw) (by rw [hk, hk'']) (by omega))
    go_wp2_with fail
    refine (SB1.out _ (Touch.refl _ _)).mono ?_
    rintro e w9 ⟨rfl, t9⟩
    have t59 := t58.trans t9 (fun _ _ h => h)
    have X9 := t59.heap X5 (fun h => h)
    obtain ⟨x0', x1'⟩ := cells2 X9
    have hB9 := hB.keep (t68.trans t9 (fun _ _ h => h))
    have hB9' := hB'.keep (t78.trans t9 (fun _ _ h => h))
    have hB9'' := hB''.keep t9
    have L9 := L5.keep t59
    have N29 := N25.keep t59
    have T9 := T8.trans t9 (fun _ _ h => h)
    have SP := hide (spoilt_any xo gb.length gb.length xc gb w9 N29.row hG8 (Nat.le_refl _) (by omega))
    have hlo2 := N25.lo
    have hlt2 := fun g hg => N25.row.lt (g := g) hg
    have g1 := L5.lo
    clear SB1 hB hB' hB'' X5 X9 N25 t9 t59 t58 t68 t78 x0 x1 L5 L5o T5 T6 T7 T8 hH' hH''
    go_wp2_with fail
    refine SP.out.mono ?_
    rintro e w10 ⟨⟨v10, rfl⟩, t10⟩
    have tS : Touch (fun j => w1.heap.size ≤ j ∧ j < w6.heap.size) w9 w10 := t10.mono (fun k _ h => ⟨hlo2 k h, by have := hlt2 k h; omega⟩)
    have hstart : 0 < bl.length → ∃ gl, vo = some ⟨gl, 0, none⟩ ∧ w5.heap.size ≤ gl ∧ gl < w6.heap.size ∧ Rest w10 gl bl 0 := fun hl0 => by
      rcases hB9.own.2 with ⟨_, h0⟩ | ⟨gl, cap, cur, e, _⟩
      · omega
      · injection e with e1 _ _
        subst e1
        have hg := hvl gl rfl
        exact ⟨gl, rfl, hg.1, hg.2, (Rest.start hB9).touch t10 (fun e => by have := hlt2 gl e; omega) (fun x hx k hk e => by have := hlt2 k e; have := hbl2 x hx k hk; omega)⟩
    have HST := hide hstart
    have HTS := hide tS
    have hdist := hide hB9.dist
    have hH8 : ∀ x ∈ bl, In8 x.t.xs := fun x hx => (okl x.key (List.mem_map.2 ⟨x, hx, rfl⟩)).in8
    have hHl : ∀ x ∈ bl, x.t.xs.length ≤ 268435456 := fun x hx => (okl x.key (List.mem_map.2 ⟨x, hx, rfl⟩)).len
    have HH8 := hide hH8
    have HHl := hide hHl
    have hHt := hide (show ∀ W, Touch (fun j => w1.heap.size ≤ j ∧ j < w6.heap.size) w9 W → SegB W to tl from fun W hW => segB_of (own_touch hB9'.own hW (fun k hk h => by have := (own_block hB9'.own hk).1; omega)) (fun x hx => (hB9'.body x hx).row.touch hW (fun k hk h => by have := (hB9'.body x hx).lo k hk; omega)) okt)
    have hHw := hide (show ∀ W, Touch (fun j => w1.heap.size ≤ j ∧ j < w6.heap.size) w9 W → SegB W wo wl from fun W hW => segB_of (own_touch hB9''.own hW (fun k hk h => by have := (own_block hB9''.own hk).1; omega)) (fun x hx => (hB9''.body x hx).row.touch hW (fun k hk h => by have := (hB9''.body x hx).lo k hk; omega)) okw)
    have s01 := T9.size
    have HLf := hide (show ∀ W, Touch (fun j => w1.heap.size ≤ j ∧ j < w6.heap.size) w9 W → Lent w W g c xs ∧ Touch (fun _ => False) w W from fun W hW => by
      have TW := T9.trans hW (fun k hk h => by omega)
      exact ⟨⟨⟨L9.new.row.touch hW (fun k hk h => by simp [Value.ownBlock] at hk; omega), L9.new.lo, TW⟩⟩, TW⟩)
    have hkk := hide (show tl.map Blk.key = wl.map Blk.key by rw [hk', hk''])
    have htl : tl.length ≤ n := by
      have := congrArg List.length (hk'.trans hk.symm)
      simp only [List.length_map] at this
      omega
    have HVL := hide hvl
    have HBL := hide hbl2
    clear SP t10 tS hstart hB9 hB9' hB9'' L9 N29 x0' x1' hk hk' hk'' okl okt okw hH hlo2 hlt2 hvl hbl2 hH8 hHl T9 hc
    go_wp2_with fail
    go_loopw [19] (fun i wr => ∃ k : Nat, i = .int .i64 k ∧ k ≤ bl.length ∧ (k < bl.length → ∃ gl, vo = some ⟨gl, 0, none⟩ ∧ w5.heap.size ≤ gl ∧ gl < w6.heap.size ∧ Rest wr gl bl k) ∧ Touch (fun j => w1.heap.size ≤ j ∧ j < w6.heap.size) w9 wr) (fun i _ => bl.length - (intOf i).toNat)
    case atStart => exact ⟨0, rfl, Nat.zero_le _, HST.out, HTS.out⟩
    case round =>
      obtain ⟨k, rfl, hkl, hrest, htr⟩ := hrel
      by_cases hlt : k < bl.length
      · obtain ⟨gl, rfl, hg5, hg6, hR⟩ := hrest hlt
        obtain ⟨c1, ⟨u, cu⟩, f0, f1⟩ := hR.cells hlt
        have hrowk := hR.body k hlt (Nat.le_refl _)
        have hglt := hR.gl_lt
        have hne : bl[k].t.val.ownBlock ≠ some gl := fun e => by
          obtain ⟨cur, hc', _⟩ := hR.row
          obtain ⟨cur', hc''⟩ := hrowk.block e
          exact tags hc'' hc' (by decide) rfl
        have SPK := hide (spoilt_any bl[k].t.ao bl[k].t.xs.length bl[k].t.xs.length bl[k].t.cap bl[k].t.xs wr hrowk (HH8.out _ (List.getElem_mem hlt)) (Nat.le_refl _) (by have := HHl.out _ (List.getElem_mem hlt); omega))
        have NXT := hide (fun (W : World) (tW : Touch (fun j => bl[k].t.val.ownBlock = some j) wr W) => hR.next hlt hdist.out tW (.int .u8 0) (.slice none 0 0))
        have NXT2 := hide (fun (W : World) (tW : Touch (fun j => bl[k].t.val.ownBlock = some j) wr W) => ((htr.trans (S' := fun j => w1.heap.size ≤ j ∧ j < w6.heap.size) (tW.mono (fun j _ h => by have := HBL.out _ (List.getElem_mem hlt) j h; exact ⟨by omega, by omega⟩)) (fun _ _ h => h)).setCell (p := ⟨gl, k * 2, none⟩) (fun _ => by show w1.heap.size ≤ gl ∧ gl < w6.heap.size; exact ⟨by omega, by omega⟩) (.int .u8 0)).setCell (p := ⟨gl, k * 2 + 1, none⟩) (fun _ => by show w1.heap.size ≤ gl ∧ gl < w6.heap.size; exact ⟨by omega, by omega⟩) (.slice none 0 0))
        have CW := hide (fun (W : World) (tW : Touch (fun j => bl[k].t.val.ownBlock = some j) wr W) => (show W.cell? ⟨gl, k * 2, none⟩ = some u ∧ W.cell? ⟨gl, k * 2 + 1, none⟩ = some bl[k].t.val ∧ W.frozen? ⟨gl, k * 2, none⟩ = false ∧ W.frozen? ⟨gl, k * 2 + 1, none⟩ = false from
          ⟨(tW.cell (p := ⟨gl, k * 2, none⟩) hglt hne).trans cu, (tW.cell (p := ⟨gl, k * 2 + 1, none⟩) hglt hne).trans c1, (tW.frozen (p := ⟨gl, k * 2, none⟩) hglt hne).trans f0, (tW.frozen (p := ⟨gl, k * 2 + 1, none⟩) hglt hne).trans f1⟩))
        simp only [Txt.val] at c1 CW SPK NXT NXT2
        have hlt' : (k : Int) < (bl.length : Int) := by omega
        generalize bl[k].t.xs.length = bkl at *
        generalize bl[k].t.ao = bka at *
        generalize bl[k].t.cap = bkc at *
        clear hR hrest hrowk htr hne HST
        go_wp2_with fail
        refine SPK.out.mono ?_
        rintro e w11 ⟨⟨v11, rfl⟩, t11⟩
        obtain ⟨d0, d1, d2, d3⟩ := CW.out _ t11
        have HR1 := hide (NXT.out _ t11)
        have HR2 := hide (NXT2.out _ t11)
        clear CW NXT NXT2 SPK t11 c1 cu f0 f1
        go_wp2_with fail
        go_roundw
        case rel => exact ⟨k + 1, by go_num, by omega, fun _ => ⟨gl, rfl, hg5, hg6, HR1.out⟩, HR2.out⟩
        case measure => simp [intOf]; omega
      · have e : k = bl.length := by omega
        subst e
        obtain ⟨LW, TW⟩ := HLf.out _ htr
        have SB := hide (sameBlocks_any to wo tl wl tc wc wr (hHt.out _ htr) (hHw.out _ htr) hkk.out (by omega))
        have KE := hide (fun (W : World) (hW : Touch (fun _ => False) wr W) => kept_any w g c ao xs cap W (LW.keep hW) (ho.touch (TW.trans hW (fun _ _ h => h))).seg (by rw [← HN.out]; omega))
        simp only [← HN.out] at KE
        have HTW := hide TW
        clear hrest htr HLf hHt hHw hkk LW TW HST HTS hdist
        go_wp2_with fail
        refine SB.out.mono ?_
        rintro e w12 ⟨rfl, t12⟩
        have HT12 := hide (HTW.out.trans t12 (fun _ _ h => h))
        have KE12 := hide (KE.out _ t12)
        clear KE SB t12
        go_wp2_with fail
        refine KE12.out.mono ?_
        rintro e w' ⟨rfl, rfl⟩
        go_wp2_with fail
        refine (KN.out _ HT12.out).mono ?_
        rintro e w13 ⟨rfl, t13⟩
        go_wp2_with fail
        go_ret
        exact ⟨rfl, HT12.out.trans t13 (fun _ _ h => h)⟩

end Go.Proofs.YtfeifobljgmkkaaDoor
