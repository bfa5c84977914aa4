/- The document's Just. -/
import Derived.Test.YtfeifobljgmkkaaDoorFJustR
namespace Go.Proofs.YtfeifobljgmkkaaDoor
open Go.RowKit Crcx

/-- What Just answers. -/
def JEnd (w : World) (b tags : List Int) (r : Ending) (w' : World) : Prop :=
  ∃ (v : Value) (ts : List Txt) (lst : List (Int × List Int)) (p e q er : Nat), r = .returned (.tuple #[v, .int .i64 (q : Int), .int .i64 (er : Int)]) ∧ Bods w w' v ts ∧ Heads b lst p e ∧ JSays lst p e b.length tags (ts.map Txt.xs) q er

theorem new_cells1 (w : World) (u : Value) (t : TypeId) : ∀ (j : Nat) (x : Value), ([u] : List Value)[j]? = some x → (w.alloc (.cells #[u] t)).cell? ((⟨w.heap.size, 0, none⟩ : Addr).add j) = some x := fun j x hx => by
  have hb := heap_alloc_last w (.cells #[u] t)
  rw [Addr.add_lit, Nat.zero_add, cell_of_row _ _ j _ _ _ hb]
  simpa using hx

theorem one_cells1 {u : Value} (hu : u.oneCell' = true) : ∀ x ∈ ([u] : List Value), x.oneCell' = true := fun x hx => by
  obtain rfl := List.mem_singleton.1 hx; exact hu

theorem own_weak {w : World} {b b' size n : Nat} {e : TypeId} {v : Value} {xs : List Value} (h : w.ownsRow b' e size v n xs) (hb : b ≤ b') : w.ownsRow b e size v n xs := by
  rcases h with ⟨hl, h | ⟨g, cap, cur, rfl, a, c⟩⟩
  · exact ⟨hl, .inl h⟩
  · exact ⟨hl, .inr ⟨g, cap, cur, rfl, Nat.le_trans hb a, c⟩⟩

set_option maxRecDepth 100000 in
set_option maxHeartbeats 4000000 in
theorem rjust_any (t tg : Txt) (w : World) (ho : t.Ok w) (hc : t.xs.length ≤ t.cap) (hb : t.xs.length ≤ 2147483648) (hog : tg.Ok w) (hlg : tg.xs.length ≤ 2147483648) :
    Calls Tryd.prog 28 #[.slice t.ao t.xs.length t.cap, .slice tg.ao tg.xs.length tg.cap] w (JEnd w t.xs tg.xs) := by
  obtain ⟨i0, hi, hz0, hz1, hz2⟩ := info_parts2 infoSl
  have HE := hide (rheads_any t w ho hc hb)
  obtain ⟨xl, hxl⟩ : ∃ xl, xl = t.xs.length := ⟨_, rfl⟩
  obtain ⟨gl, hgl⟩ : ∃ gl, gl = tg.xs.length := ⟨_, rfl⟩
  rw [← hxl] at HE ⊢
  rw [← hgl] at hlg ⊢
  have HXL := hide hxl
  have HGL := hide hgl
  have HOG := hide hog
  have hbx : xl ≤ 2147483648 := by omega
  have hgli : (gl : Int) ≤ 2147483648 := by omega
  clear hxl hgl hog ho hc hb
  go_enter Tryd.func28, Tryd.ntmps28
  go_wp2_with fail
  refine HE.out.mono ?_
  rintro e w1 ⟨v, pv, bl, p, er, rfl, hB, hN, hH⟩
  obtain ⟨vo, vc, rfl⟩ := hB.shape
  obtain ⟨po, pn, pc, rfl⟩ := hN.row.shape
  have hpn := hN.row.len
  rw [plc_len, List.length_map] at hpn
  obtain ⟨pg, rfl⟩ : ∃ g, po = some ⟨g, 0, none⟩ := by
    rcases hN.row.form with ⟨hv, hx⟩ | ⟨g, cap, cur, hv, _⟩
    · have := plc_len (bl.map Blk.key); rw [hx] at this; simp at this
    · injection hv with h1 _ _; exact ⟨g, h1⟩
  subst hpn
  have hbl : bl.length ≤ xl := by
    have h1 := blks_len (bl := bl)
    rw [rowB_key] at h1
    have h2 : (rowF (bl.map Blk.key)).length ≤ t.xs.length := by rw [hH.row, List.length_take]; omega
    rw [HXL.out]; omega
  have HPL := hide (fun (W : World) (tW : Touch (fun _ => False) w1 W) (k : Nat) (hk : k ≤ bl.length) => (show W.cell? ⟨pg, k, none⟩ = some (.int .i64 ((pl (bl.map Blk.key) k : Nat) : Int)) from by
    have := (Seg.of_row (hN.row.touch tW (fun _ _ h => h))).at k (by rw [plc_len, List.length_map]; omega)
    rw [Nat.zero_add, plc_at _ k (by rw [List.length_map]; exact hk)] at this
    exact this))
  have HSB := hide (fun (W : World) (tW : Touch (fun _ => False) w1 W) => (hB.keep tW).seg hH.ok)
  have HBB := hide hB
  have HHD := hide hH
  have HT1 := hide hB.touch
  obtain ⟨bn, ebn⟩ : ∃ bn, bn = bl.length := ⟨_, rfl⟩
  have HBN := hide ebn
  rw [← ebn] at hbl ⊢
  have hbni : (bn : Int) ≤ 2147483648 := by omega
  clear hB hN hH HE ebn
  go_wp2_with fail
  go_loopw [10, 11] (fun o i wr => ∃ (k : Nat) (oo : Option Addr) (on oc : Nat), i = .int .i64 k ∧ k ≤ bn ∧ o = .slice oo on oc ∧ on = k ∧ Fits (bl.map Blk.key) tg.xs k ∧ Touch (fun _ => False) w1 wr ∧ wr.ownsRow w1.heap.size 22 1 (.slice oo on oc) k (((bl.take k).map Blk.t).map Txt.val)) (fun _ i _ => bn - (intOf i).toNat)
  case atStart => exact ⟨0, none, 0, 0, rfl, Nat.zero_le _, rfl, rfl, ⟨Nat.zero_le _, fun _ _ h => absurd h (by omega)⟩, Touch.refl _ _, World.ownsRow_nil w1 _ _ _⟩
  case round =>
    obtain ⟨k, oo, on, oc, rfl, hk, rfl, rfl, hf, ht, hO⟩ := hrel
    have HF := hide hf
    have HT := hide ht
    by_cases hlt : on < bn
    · have hkb : on < bl.length := by rw [← HBN.out]; exact hlt
      have hkl : on < (bl.map Blk.key).length := by rw [List.length_map]; exact hkb
      have ekey : (bl.map Blk.key)[on] = bl[on].key := by rw [List.getElem_map]
      have sb := HSB.out wr ht
      obtain ⟨b, off, rfl⟩ := sb.addr (by omega)
      obtain ⟨c0, c1⟩ := sb.cell b off rfl on hkb
      have pc0 := HPL.out wr ht on (by omega)
      have hlti : (on : Int) < (bn : Int) := by omega
      have hlt2 : (on : Int) < ((bn + 1 : Nat) : Int) := by omega
      have hEND := hide (fun (hm : on = tg.xs.length ∨ tg.xs.getD on 0 ≠ bl[on].tag) (W : World) (tW : Touch (fun _ => False) wr W) => (show JEnd w t.xs tg.xs (.returned (.tuple #[.slice none 0 0, .int .i64 ((pl (bl.map Blk.key) on : Nat) : Int), .int .i64 ((133 : Nat) : Int)])) W from
        ⟨_, [], _, p, er, _, 133, rfl, Bods.nil ((HT1.out.trans ht (fun _ _ h => h)).trans tW (fun _ _ h => h)), HHD.out, .tag on hkl hf (by rw [ekey]; exact hm)⟩))
      by_cases htl : gl ≤ on
      · have hd : decide (gl ≤ on) = true := decide_eq_true htl
        have EN := hide (hEND.out (.inl (by have := hf.1; have := HGL.out; omega)))
        generalize pl (bl.map Blk.key) on = q at *
        clear hEND sb c0 c1 hf ht hO ekey
        go_wp2_with fail
        go_quiet (fail)
        go_wp2_with fail
        go_quiet (fail)
        go_wp2_with fail
        go_ret3
        exact EN.out _ (Touch.drewN (Touch.drewN (Touch.refl _ _) _) _)
      · have hd : decide (gl ≤ on) = false := decide_eq_false htl
        have hgi : (on : Int) < (gl : Int) := by omega
        have og := HOG.out.touch (HT1.out.trans ht (fun _ _ h => h))
        have hgn : on < tg.xs.length := by rw [← HGL.out]; omega
        obtain ⟨tb, tf, etb⟩ := og.seg.addr (by omega)
        have tc : wr.cell? ⟨tb, tf + on, none⟩ = some (.int .u8 (tg.xs.getD on 0)) := (etb ▸ og.seg).at on hgn
        rw [etb]
        by_cases heq : tg.xs.getD on 0 = bl[on].tag
        · have hxN := (HBB.out.keep ht).body _ (List.getElem_mem hkb)
          have hFN : Hid (Fits (bl.map Blk.key) tg.xs (on + 1)) := hide ⟨by omega, fun j h1 h2 => by
            by_cases e : j = on
            · subst e; rw [ekey]; exact heq
            · exact hf.2 j h1 (by omega)⟩
          have HTK : Hid (((bl.take (on + 1)).map Blk.t).map Txt.val = ((bl.take on).map Blk.t).map Txt.val ++ [bl[on].t.val]) := hide (by rw [List.take_succ_eq_append_getElem hkb, List.map_append, List.map_append]; rfl)
          have OWN := hide (own_touch hO ((Touch.refl (fun _ => False) wr).alloc (.cells #[bl[on].t.val] 22)) (fun _ _ h => h))
          have hsz : w1.heap.size ≤ (wr.alloc (.cells #[bl[on].t.val] 22)).heap.size := (ht.alloc (.cells #[bl[on].t.val] 22)).size
          have HTU := hide (fun (w2 : World) (hg : (wr.alloc (.cells #[bl[on].t.val] 22)).grownBy w2 (Value.slice oo on oc).ownBlock) => (show Touch (fun _ => False) w1 w2 from (HT.out.alloc _).trans (Touch.of_grownBy hg) (fun k hk e => by
            have h1 := (own_block OWN.out e).1
            omega)))
          obtain ⟨cur, ecur⟩ : ∃ cur, cur = ((bl.take on).map Blk.t).map Txt.val := ⟨_, rfl⟩
          obtain ⟨nxt, enxt⟩ : ∃ nxt, nxt = ((bl.take (on + 1)).map Blk.t).map Txt.val := ⟨_, rfl⟩
          rw [← ecur] at HTK OWN
          rw [← enxt] at HTK
          have ENX := hide enxt
          clear ecur enxt
          rw [heq] at tc
          simp only [Txt.val] at c1 HTK OWN HTU hsz
          have hoi : (on : Int) + 1 ≤ 2147483648 := by omega
          generalize bl[on].t.ao = xa at *
          generalize bl[on].t.cap = xc at *
          generalize bl[on].t.xs.length = xn at *
          generalize bl[on].tag = xt at *
          have hon := hide (show on ≤ 2147483648 by omega)
          clear hEND sb hf ht hO ekey og hxN heq
          go_wp2_with fail
          go_quiet (fail)
          have hsz' : w1.heap.size ≤ ((wr.drewN nq).alloc (.cells #[.slice xa xn xc] 22)).heap.size := hsz
          have OWN' : Hid (((wr.drewN nq).alloc (.cells #[.slice xa xn xc] 22)).ownsRow w1.heap.size 22 1 (.slice oo on oc) on cur) := OWN
          have c1' : (wr.drewN nq).cell? ⟨b, off + on * 2 + 1, none⟩ = some (.slice xa xn xc) := c1
          go_wp2_with (at_builtin; refine wpList_append_own _ rfl (.tmp 44) (.tmp 50) 57 rfl w1.heap.size 22 i0 _ 1 24 Tryd.underlying57 hi hz0 hz1 hz2 rfl (by omega) _ on _ rfl OWN'.out ⟨(wr.drewN nq).heap.size, 0, none⟩ 1 1 [.slice xa xn xc] rfl rfl (new_cells1 _ _ _) (one_cells1 rfl) ?b1 ?b2 hsz' ?nx)
          case b1 => have := hon.out; unfold maxLen; omega
          case b2 => have := hon.out; omega
          case nx =>
            intro v' w2 own2 gr2 _
            have T2 := HTU.out w2 ⟨gr2.os, gr2.tape, gr2.output, gr2.size, gr2.block⟩
            rw [← HTK.out] at own2
            obtain ⟨g2, c2, rfl⟩ := ownsRow_succ own2
            have HO2 := hide own2
            have HT2 := hide T2
            clear own2 gr2 T2 OWN OWN' c1 c1' c0 tc pc0
            go_wp2_with fail
            go_roundw
            case rel => exact ⟨on + 1, _, _, _, by go_num, by omega, rfl, rfl, hFN.out, HT2.out, by rw [← ENX.out]; exact HO2.out⟩
            case measure => simp [intOf]; omega
        · have hne : ¬ bl[on].tag = tg.xs.getD on 0 := fun e => heq e.symm
          have hne2 : (bl[on].tag == tg.xs.getD on 0) = false := by rw [beq_eq_false_iff_ne]; exact hne
          have EN := hide (hEND.out (.inr heq))
          generalize pl (bl.map Blk.key) on = q at *
          generalize tg.xs.getD on 0 = tt at *
          generalize bl[on].tag = xt at *
          clear hEND sb c1 hf ht hO ekey og
          go_wp2_with fail
          go_quiet (fail)
          go_wp2_with fail
          go_quiet (fail)
          go_wp2_with fail
          go_ret3
          exact EN.out _ (Touch.drewN (Touch.drewN (Touch.refl _ _) _) _)
    · have e : on = bn := by omega
      subst e
      have hlB : bl.take on = bl := List.take_of_length_le (by rw [← HBN.out]; omega)
      rw [hlB] at hO
      have hlk : (bl.map Blk.key).length = on := by rw [List.length_map, HBN.out]
      have hB2 := HBB.out.keep ht
      have hsz1 := HT1.out.size
      have HBO : Hid (Bods w wr (.slice oo on oc) (bl.map Blk.t)) := hide ⟨by rw [List.length_map, ← HBN.out]; exact own_weak hO hsz1, fun x hx => by
          obtain ⟨y, hy, rfl⟩ := List.mem_map.1 hx
          exact hB2.body y hy, hB2.touch, List.pairwise_map.2 hB2.dist⟩
      have Hxs : Hid ((bl.map Blk.t).map Txt.xs = (bl.map Blk.key).map Prod.snd) := hide (by rw [List.map_map, List.map_map]; rfl)
      have hf' : Fits (bl.map Blk.key) tg.xs (bl.map Blk.key).length := by rw [hlk]; exact hf
      have pc0 := HPL.out wr ht on (by have := HBN.out; omega)
      have Hp : Hid (pl (bl.map Blk.key) on = p) := hide (by rw [← hlk]; exact HHD.out.place)
      rw [Hp.out] at pc0
      have hlt2 : (on : Int) < ((on + 1 : Nat) : Int) := by omega
      by_cases he : er = 0
      · subst he
        by_cases hfew : on < gl
        · have EN := hide (show JEnd w t.xs tg.xs (.returned (.tuple #[.slice none 0 0, .int .i64 (xl : Int), .int .i64 ((133 : Nat) : Int)])) wr from
            ⟨_, [], _, p, 0, xl, 133, rfl, Bods.nil hB2.touch, HHD.out, by rw [HXL.out]; exact .few hf' rfl (by rw [hlk, ← HGL.out]; exact hfew)⟩)
          have hfi : (on : Int) < (gl : Int) := by omega
          clear hB2 hf' hf ht hO hlB hlk
          go_wp2_with fail
          go_ret3
          exact EN.out
        · have EN := hide (show JEnd w t.xs tg.xs (.returned (.tuple #[.slice oo on oc, .int .i64 (xl : Int), .int .i64 ((0 : Nat) : Int)])) wr from
            ⟨_, _, _, p, 0, xl, 0, rfl, HBO.out, HHD.out, by rw [HXL.out, Hxs.out]; exact .all hf' rfl (by rw [hlk, ← HGL.out]; exact hfew)⟩)
          have hfi : ¬ (on : Int) < (gl : Int) := by omega
          clear hB2 hf' hf ht hO hlB hlk
          go_wp2_with fail
          go_ret3
          exact EN.out
      · have EN := hide (fun (W : World) (tW : Touch (fun _ => False) wr W) => (show JEnd w t.xs tg.xs (.returned (.tuple #[.slice none 0 0, .int .i64 (p : Int), .int .i64 (er : Int)])) W from
            ⟨_, [], _, p, er, p, er, rfl, Bods.nil (hB2.touch.trans tW (fun _ _ h => h)), HHD.out, .err hf' he⟩))
        have hei : ¬ (er : Int) = 0 := by omega
        clear hB2 hf' hf ht hO hlB hlk
        go_wp2_with fail
        go_quiet (fail)
        go_wp2_with fail
        go_ret3
        exact EN.out _ (Touch.drewN (Touch.refl _ _) _)

end Go.Proofs.YtfeifobljgmkkaaDoor
