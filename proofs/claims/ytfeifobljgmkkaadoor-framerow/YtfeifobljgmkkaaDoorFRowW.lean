/- The walk of FrameRow. -/
import Derived.Test.YtfeifobljgmkkaaDoorFLents
import Derived.Test.YtfeifobljgmkkaaDoorFRRow
import Derived.Test.YtfeifobljgmkkaaDoorFRAll
namespace Go.Proofs.YtfeifobljgmkkaaDoor
open Go.RowKit Crcx

theorem new_cells2 (w : World) (u v : Value) (t : TypeId) : ∀ (j : Nat) (x : Value), ([u, v] : List Value)[j]? = some x → (w.alloc (.cells #[u, v] t)).cell? ((⟨w.heap.size, 0, none⟩ : Addr).add j) = some x := fun j x hx => by
  have hb := heap_alloc_last w (.cells #[u, v] t)
  rw [Addr.add_lit, Nat.zero_add, cell_of_row _ _ j _ _ _ hb]
  simpa using hx

theorem one_cells2 {u v : Value} (hu : u.oneCell' = true) (hv : v.oneCell' = true) : ∀ x ∈ ([u, v] : List Value), x.oneCell' = true := fun x hx => by
  simp only [List.mem_cons, List.not_mem_nil, or_false] at hx
  rcases hx with rfl | rfl
  · exact hu
  · exact hv

theorem wgt_len (bl : List Blk) : 10 * bl.length ≤ wgt bl := by
  induction bl with
  | nil => simp [wgt]
  | cons x bl ih =>
    have e2 : wgt (x :: bl) = x.t.xs.length + 10 + wgt bl := by unfold wgt; simp
    rw [e2, List.length_cons]; omega

theorem wgt_row2 (bl : List Blk) (h : wgt bl ≤ 268435456) : (rowB bl).length ≤ wgt bl := by
  induction bl with
  | nil => simp [rowB]
  | cons x bl ih =>
    have e1 : rowB (x :: bl) = frm x.tag x.t.xs ++ rowB bl := rfl
    have e2 : wgt (x :: bl) = x.t.xs.length + 10 + wgt bl := by unfold wgt; simp
    rw [e2] at h
    have := ih (by omega)
    have h5 := fsize_le (n := x.t.xs.length) (by omega)
    rw [e1, e2, List.length_append, frm_len]; omega

theorem wgt_mem : ∀ (bl : List Blk) (y : Blk), y ∈ bl → y.t.xs.length + 10 ≤ wgt bl
  | x :: bl, y, hy => by
    have e2 : wgt (x :: bl) = x.t.xs.length + 10 + wgt bl := by unfold wgt; simp
    rw [e2]
    rcases List.mem_cons.1 hy with rfl | h
    · omega
    · have := wgt_mem bl y h; omega

set_option maxRecDepth 100000 in
set_option maxHeartbeats 4000000 in
theorem row_walk (ao : Option Addr) (cap : Nat) (bl : List Blk) (w : World) (hT : Tab w) (hB : SegB w ao bl) (hn : bl.length ≤ 4398046511104) (hx : ∀ b ∈ bl, b.t.xs.length ≤ 140737488351232) :
    Calls Tryd.prog 4 #[.slice ao bl.length cap] w fun e w' => e = .returned (.bool true) ∧ Touch (fun _ => False) w w' := by
  obtain ⟨i0, hi, hz0, hz1, hz2⟩ := info_parts2 infoBlk
  have KN := hide (fun (W : World) (hW : Touch (fun _ => False) w W) => known_any W (hT.touch hW (fun h => h)))
  have SB := hide (fun (W : World) (hW : Touch (fun _ => False) w W) => hB.touch hW)
  have HTT := hide (fun (W : World) (hW : Touch (fun _ => False) w W) => hT.touch hW (fun h => h))
  have HX := hide hx
  have HOK := hide hB.ok
  obtain ⟨N, eN⟩ : ∃ N, N = bl.length := ⟨_, rfl⟩
  rw [← eN] at hn ⊢
  have HN := hide eN
  clear hT hB hx eN
  have hNi : (N : Int) ≤ 4398046511104 := by omega
  go_enter Tryd.func4, Tryd.ntmps4
  go_wp2_with fail
  go_loopw [3, 4, 5] (fun n l i wr => ∃ (k : Nat) (lo : Option Addr) (ln lc : Nat) (ll : List Blk), i = .int .i64 k ∧ k ≤ N ∧ n = .int .i64 ((wgt (bl.take k) : Nat) : Int) ∧ wgt (bl.take k) ≤ 200000 ∧ l = .slice lo ln lc ∧ Lents w wr (.slice lo ln lc) ll (bl.take k)) (fun _ _ i _ => N - (intOf i).toNat)
  case atStart => exact ⟨0, none, 0, 0, [], rfl, Nat.zero_le _, rfl, by simp [wgt], rfl, Lents.nil w⟩
  case round =>
    obtain ⟨k, lo, ln, lc, ll, rfl, hk, rfl, hw, rfl, hL⟩ := hrel
    by_cases hlt : k < N
    · have hltL : k < bl.length := by rw [← HN.out]; exact hlt
      have sb := SB.out wr hL.touch
      obtain ⟨b, off, rfl⟩ := sb.addr (by omega)
      have HCC := hide (fun (W : World) (hW : Touch (fun _ => False) w W) => (SB.out W hW).cell b off rfl k hltL)
      obtain ⟨c0, c1⟩ := HCC.out wr hL.touch
      have HWT := hide (wgt_take bl k hltL)
      have hxl := HX.out _ (List.getElem_mem hltL)
      have okx := sb.ok _ (List.getElem_mem hltL)
      have hlti : (k : Int) < (N : Int) := by omega
      have hlen : ll.length = k := by have := congrArg List.length hL.key; rw [List.length_map, List.length_map, List.length_take] at this; omega
      have hk20 : 10 * k ≤ wgt (bl.take k) := by have := wgt_len (bl.take k); rw [List.length_take] at this; omega
      have HTK : Hid (bl.take (k + 1) = bl.take k ++ [bl[k]]) := hide (List.take_succ_eq_append_getElem hltL)
      have LE := hide (fun (W : World) (hW : Touch (fun _ => False) wr W) (hl : bl[k].t.xs.length ≤ 200000) => lent_any bl[k].t W (okx.t.touch hW) (by omega))
      have HLL := hide hL
      have HMO := hide (fun (w1 w2 : World) (v' : Value) (g c : Nat) (ht : Touch (fun _ => False) wr w1) (L : Lent wr w1 g c bl[k].t.xs) (hown : w2.ownsRow w.heap.size 36 2 v' (ll.length + 1) (ll.flatMap Blk.cells ++ [.int .u8 bl[k].tag, .slice (some ⟨g, 0, none⟩) bl[k].t.xs.length c])) (hg : w1.grownBy w2 (Value.slice lo ln lc).ownBlock) => (show ∃ ll', Lents w w2 v' ll' (bl.take (k + 1)) from by have h := HLL.out.more (y := bl[k]) ht L hown hg; rw [← HTK.out] at h; exact ⟨_, h⟩))
      generalize hwk : wgt (bl.take k) = m at *
      generalize hwk2 : wgt (bl.take (k + 1)) = m2 at *
      have HWK2 := hide hwk2
      generalize bl[k].tag = xt at *
      simp only [Txt.val] at c1 HCC LE
      generalize bl[k].t.xs = xs at *
      generalize bl[k].t.ao = xa at *
      generalize bl[k].t.cap = xc at *
      obtain ⟨xl, exl⟩ : ∃ xl, xl = xs.length := ⟨_, rfl⟩
      rw [← exl] at c1 HCC LE HWT hxl HMO
      have hxli : (xl : Int) ≤ 140737488351232 := by omega
      have hmi : (m : Int) ≤ 200000 := by omega
      have HKL := hide hlen
      have HXL := hide exl
      have HT := hide hL.touch
      clear HTK
      clear hwk hwk2 sb okx hltL exl hL hlen
      by_cases hbig : 200000 < m + (xl + 10)
      · have hbi : (200000 : Int) < (m : Int) + (xl : Int) + 10 := by omega
        go_wp2_with fail
        refine (KN.out _ HT.out).mono ?_
        rintro e w3 ⟨rfl, t3⟩
        go_wp2_with fail
        go_ret
        exact ⟨rfl, HT.out.trans t3 (fun _ _ h => h)⟩
      · have hbi : ¬ (200000 : Int) < (m : Int) + (xl : Int) + 10 := by omega
        have hk2 : k ≤ 20000 := by omega
        have LE1 := hide (LE.out wr.drew (Touch.drew (Touch.refl _ _)) (by omega))
        have bb1 : ll.length + 1 ≤ maxLen := by unfold maxLen; rw [HKL.out]; omega
        have bb2 : (ll.length + 1) * 32 ≤ 140737488355328 := by rw [HKL.out]; omega
        have HB1 := hide bb1
        have HB2 := hide bb2
        clear LE bb1 bb2 hk20 hxl
        go_wp2_with fail
        go_region_held3 (fun W => W.cell? ⟨b, off + k * 2, none⟩ = some (.int .u8 xt) ∧ W.cell? ⟨b, off + k * 2 + 1, none⟩ = some (.slice xa xl xc)) (go_keep) (first | (go_at_call 12; refine LE1.out.mono ?_; rintro r w4 ⟨g, c, rfl, L4⟩; have TD4 : Touch (fun _ => False) wr w4 := (Touch.drew (Touch.refl _ _)).trans L4.new.touch (fun _ _ h => h); obtain ⟨d0, d1⟩ := HCC.out _ (HT.out.trans TD4 (fun _ _ h => h)); have hb4 := World.new_ne w4 ⟨b, off + k * 2, none⟩ d0; have TA4 : Touch (fun _ => False) wr (w4.alloc (.cells #[.int .u8 xt, .slice (some ⟨g, 0, none⟩) xl c] 36)) := TD4.alloc _) | (refine step_append_own rfl (.tmp 33) (.tmp 46) 34 rfl w.heap.size 36 i0 (.agg #[.int .u8 0, .slice none 0 0]) 2 32 Tryd.underlying34 hi hz0 hz1 hz2 rfl (by omega) _ ll.length (ll.flatMap Blk.cells) rfl ((HLL.out.keep TA4).own) ⟨w4.heap.size, 0, none⟩ 1 1 [.int .u8 xt, .slice (some ⟨g, 0, none⟩) xl c] rfl rfl (new_cells2 _ _ _ _) (one_cells2 rfl rfl) HB1.out HB2.out (HT.out.trans TA4 (fun _ _ h => h)).size ?_; intro v' w6 own6 gr6; obtain ⟨e0, e1⟩ := HCC.out _ ((HLL.out.keep TA4).touched gr6)))
        have own6' : w6.ownsRow w.heap.size 36 2 v' (ll.length + 1) (ll.flatMap Blk.cells ++ [.int .u8 xt, .slice (some ⟨g, 0, none⟩) xl c]) := own6
        obtain ⟨ll', L6⟩ := HMO.out _ _ _ g c TA4 ((L4.after (Touch.drew (Touch.refl _ _))).keep ((Touch.refl _ _).alloc _)) own6' gr6
        obtain ⟨lo', lc', rfl⟩ := own_shape L6.own
        have HL6 := hide L6
        clear L6 own6 own6' gr6 e0 e1 TA4 TD4 d0 d1 hb4 L4 HMO LE1 c0 c1
        generalize ll'.length = ln' at *
        go_wp2_with fail
        go_roundw
        case rel => exact ⟨k + 1, _, _, _, ll', by go_num, by omega, by rw [HWK2.out, HWT.out]; congr 1, by rw [HWK2.out, HWT.out]; omega, rfl, HL6.out⟩
        case measure => simp [intOf]; omega
    · have e : k = N := by omega
      subst e
      rw [List.take_of_length_le (by rw [← HN.out]; omega)] at hw hL
      have hlen : ll.length = k := by have := congrArg List.length hL.key; rw [List.length_map, List.length_map, ← HN.out] at this; exact this
      have hk20 : 10 * k ≤ 200000 := by have := wgt_len bl; rw [← HN.out] at this; omega
      have hrl := wgt_row2 bl (by omega)
      have HLL := hide hL
      have HT := hide hL.touch
      have HKL := hide hlen
      have hk2 : k ≤ 20000 := by omega
      have hki : (k : Int) ≤ 20000 := by omega
      have TA : Touch (fun _ => False) wr (wr.alloc (.cells #[.int .u8 99, .slice none 0 0] 36)) := (Touch.refl _ _).alloc _
      have HTA := hide TA
      have hsz := (HT.out.trans TA (fun _ _ h => h)).size
      have RR := hide (fun (W : World) (hW : Touch (fun _ => False) w W) => rrow_any ao bl cap W (SB.out W hW) (by omega) (by rw [← HN.out]; omega))
      rw [← HN.out] at RR
      have RW := hide (fun (W : World) (g c : Nat) (hM : Marked w W g c ll bl) => row_any (some ⟨g, 0, none⟩) ll c W (HTT.out W hM.touch) (hM.seg HOK.out) (by rw [hM.row]; omega) (by rw [hlen]; omega))
      have HFR : Hid (∀ x ∈ bl.map Blk.key, FrOk x) := hide (fun x hx => by
        obtain ⟨y, hy, rfl⟩ := List.mem_map.1 hx
        have hok := HOK.out y hy
        have h1 : y.t.xs.length + 10 ≤ wgt bl := wgt_mem bl y hy
        exact ⟨hok.tag, hok.t.in8, by show y.t.xs.length ≤ _; omega⟩)
      have HHD : Hid (Heads (rowB bl) (bl.map Blk.key) (rowB bl).length 0) := hide (by
        have := heads_row HFR.out
        rw [← rowB_key] at this
        exact this)
      have H8 : Hid (In8 (rowB bl)) := hide (by
        intro z hz
        unfold rowB at hz
        obtain ⟨y, hy, hz⟩ := List.mem_flatMap.1 hz
        have := HFR.out y.key (List.mem_map.2 ⟨y, hy, rfl⟩)
        exact in8_frm this.tag this.in8 z hz)
      have HRM : Hid (∀ (W : World) (g c : Nat), Marked w W g c ll bl → rowB ll = rowB bl) := hide (fun _ _ _ hM => hM.row)
      rw [hlen] at RW
      clear TA hL hlen hlt
      go_wp2_with (at_builtin; refine wpList_append_own _ rfl (.tmp 48) (.tmp 50) 34 rfl w.heap.size 36 i0 _ 2 32 Tryd.underlying34 hi hz0 hz1 hz2 rfl (by omega) _ ll.length (ll.flatMap Blk.cells) rfl (HLL.out.keep HTA.out).own ⟨wr.heap.size, 0, none⟩ 1 1 [.int .u8 99, .slice none 0 0] rfl rfl (new_cells2 _ _ _ _) (one_cells2 rfl rfl) ?b1 ?b2 hsz ?nx)
      case b1 => unfold maxLen; rw [HKL.out]; omega
      case b2 => rw [HKL.out]; omega
      case nx =>
        intro v2 w2 own2 gr2 _
        obtain ⟨g, c, rfl, M2⟩ := HLL.out.mark HTA.out own2 gr2
        have hcap := M2.cap
        rw [HKL.out] at hcap ⊢
        have he : Tryd.prog.elem 34 = 36 := by kernel_rfl
        have hsl1 : ∀ W, (Instr.slice 34 (.slice (some ⟨g, 0, none⟩) (k + 1) c) none (some (.int .i64 k)) none).run Tryd.prog W = .ok (.slice (some ⟨g, 0, none⟩) k c) W := by
          intro W
          rw [run_slice_h W 34 (some ⟨g, 0, none⟩) _ c (by rw [he]; exact Tryd.underlying34) .i64 k (by omega) (by omega), he]
          simp only [sizeOf, typeInfo]
          simp [hi, hz1, sliced, Addr.add_lit]
        have hsl2 : ∀ W, (Instr.slice 34 (.slice (some ⟨g, 0, none⟩) k c) none (some (.int .i64 ((k : Int) + 1))) none).run Tryd.prog W = .ok (.slice (some ⟨g, 0, none⟩) (k + 1) c) W := by
          intro W
          rw [run_slice_h W 34 (some ⟨g, 0, none⟩) _ c (by rw [he]; exact Tryd.underlying34) .i64 ((k : Int) + 1) (by omega) (by omega), he]
          simp only [sizeOf, typeInfo]
          have : ((k : Int) + 1).toNat = k + 1 := by omega
          simp [hi, hz1, sliced, Addr.add_lit, this]
        rw [HRM.out _ _ _ M2] at RW
        have HM2 := hide M2
        generalize rowB bl = R at *
        obtain ⟨rl, erl⟩ : ∃ rl, rl = R.length := ⟨_, rfl⟩
        have hrl2 : rl ≤ 200000 := by omega
        have hrli : (rl : Int) ≤ 200000 := by omega
        have HRL := hide erl
        clear M2 own2 gr2 HRM erl hrl
        go_wp2_with fail
        refine (RR.out _ HM2.out.touch).mono ?_
        rintro e w3 ⟨wo, wn, wc, rfl, N3⟩
        have hwn := N3.row.len
        rw [← HRL.out] at hwn
        subst hwn
        have M3 := HM2.out.keep N3.touch
        have RW3 := hide (RW.out w3 g c M3)
        have HN3 := hide N3
        have HM3 := hide M3
        clear RR M3 N3 hsl1
        go_wp2_with fail
        refine RW3.out.mono ?_
        rintro e w4 ⟨xo, xn, xc, rfl, N4⟩
        have hxn := N4.row.len
        rw [← HRL.out] at hxn
        subst hxn
        have M4 := HM3.out.keep N4.touch
        have RW4 := hide (RW.out w4 g c M4)
        have HN4 := hide N4
        have HM4 := hide M4
        clear RW RW3 M4 N4
        go_wp2_with fail
        refine RW4.out.mono ?_
        rintro e w5 ⟨yo, yn, yc, rfl, N5⟩
        have hyn := N5.row.len
        rw [← HRL.out] at hyn
        subst hyn
        have M5 := HM4.out.keep N5.touch
        have t35 := HN4.out.touch.trans N5.touch (fun _ _ h => h)
        have CV1 := conv_seg (Seg.of_row (HN4.out.keep N5.touch).row) xc
        have CV2 := conv_seg (Seg.of_row (HN3.out.keep t35).row) wc
        rw [← HRL.out] at CV1 CV2
        have SM := hide (sameBlocks_any (some ⟨g, 0, none⟩) ao ll bl c cap w5 (M5.seg HOK.out) (SB.out w5 M5.touch) M5.key (by rw [HKL.out]; omega))
        rw [HKL.out, ← HN.out] at SM
        have HN5 := hide N5
        have HM5 := hide M5
        have HSTR := hide (rfl : strOfNums R = strOfNums R)
        clear RW4 M5 N5 t35
        go_wp2_with fail
        refine SM.out.mono ?_
        rintro e w6 ⟨rfl, t6⟩
        have M6 := HM5.out.keep t6
        have mk := M6.mark
        rw [HKL.out] at mk
        have hk1 : (k : Int) < ((k + 1 : Nat) : Int) := by omega
        have HM6 := hide M6
        have HT6 := hide t6
        clear M6 t6 SM CV1 CV2
        go_wp2_with fail
        go_loopw [11] (fun i wr => ∃ j : Nat, i = .int .i64 j ∧ j ≤ k ∧ Touch (Sp ll j) w6 wr) (fun i _ => k - (intOf i).toNat)
        case atStart => exact ⟨0, rfl, Nat.zero_le _, Touch.refl _ _⟩
        case round =>
          obtain ⟨j, rfl, hj, htj⟩ := hrel
          clear mk hsl2
          by_cases hlt : j < k
          · have hjl : j < ll.length := by rw [HKL.out]; exact hlt
            have hjb : j < bl.length := by rw [← HN.out]; exact hlt
            obtain ⟨c1, gk, egk, Lk, hnext⟩ := HM6.out.left hjl htj
            obtain ⟨etag, exs⟩ := HM6.out.at j hjl hjb
            have Tj : Touch (fun _ => False) w wr := HM6.out.touch.trans htj (fun b hb s => by have := (HM6.out.sp s).1; omega)
            have sb := SB.out wr Tj
            obtain ⟨b, off, rfl⟩ := sb.addr (by omega)
            obtain ⟨_, d1⟩ := sb.cell b off rfl j hjb
            have ok := sb.ok _ (List.getElem_mem hjb)
            have hxm := wgt_mem bl _ (List.getElem_mem hjb)
            simp only [Txt.val] at c1 d1
            rw [egk, exs] at c1
            rw [exs] at Lk
            have KE := hide (fun n => (kept_any w gk ll[j].t.cap bl[j].t.ao bl[j].t.xs bl[j].t.cap (wr.drewN n) (Lk.keep (Touch.drewN (Touch.refl _ _) n)) (ok.t.touch (Touch.drewN (Touch.refl _ _) n)).seg (by omega)).mono (show ∀ (e : Ending) (w' : World), e = .returned (.bool true) ∧ wr.drewN n = w' → e = .returned (.bool true) ∧ w' = wr.drewN n from fun _ _ h => ⟨h.1, h.2.symm⟩))
            have SP := hide (fun n => spoilt_any (some ⟨gk, 0, none⟩) bl[j].t.xs.length (bl[j].t.xs.length + 2) ll[j].t.cap _ (wr.drewN n) (Lk.keep (Touch.drewN (Touch.refl _ _) n)).new.row (in8_append ok.t.in8 (fun x hx => by simp at hx; omega)) (by omega) (by omega))
            have HNX := hide hnext
            have hlti : (j : Int) < (k : Int) := by omega
            generalize bl[j].t.xs.length = xl at *
            generalize bl[j].t.ao = xa at *
            generalize bl[j].t.cap = xp at *
            generalize ll[j].t.cap = lp at *
            clear hnext Lk exs etag egk sb ok Tj htj
            go_wp2_with fail
            go_quiet ((go_at_call 15; exact Calls.quiet_of_same (KE.out _)))
            go_wp2_with fail
            refine (SP.out _).mono ?_
            rintro e w8 ⟨⟨v8, rfl⟩, t8⟩
            have T8 := HNX.out w8 ((Touch.drewN (Touch.refl _ _) _).trans (t8.mono (S' := fun b => b = gk) (fun b _ h => by simp [Value.ownBlock] at h; exact h.symm)) (fun _ _ h => h))
            have HT8 := hide T8
            clear T8 t8 KE SP HNX
            go_wp2_with fail
            go_roundw
            case rel => exact ⟨j + 1, by go_num, by omega, HT8.out⟩
            case measure => simp [intOf]; omega
          · have e : j = k := by omega
            subst e
            have hsp : ∀ b, Sp ll j b → b < w2.heap.size := fun b s => (HM2.out.sp s).2.1
            have s23 := HN3.out.touch.size
            have s34 := HN4.out.touch.size
            have t56 := HN5.out.touch.trans HT6.out (fun _ _ h => h)
            have t46 := HN4.out.touch.trans t56 (fun _ _ h => h)
            have R3 := (HN3.out.keep t46).row.touch htj (fun b hb s => by have := hsp b s; have := HN3.out.lo b hb; omega)
            have R4 := (HN4.out.keep t56).row.touch htj (fun b hb s => by have := hsp b s; have := HN4.out.lo b hb; omega)
            have R5 := (HN5.out.keep HT6.out).row.touch htj (fun b hb s => by have := hsp b s; have := HN5.out.lo b hb; omega)
            have Tj : Touch (fun _ => False) w wr := HM6.out.touch.trans htj (fun b hb s => by have := (HM6.out.sp s).1; omega)
            have SP := hide (spoilt_any xo yn yn xc R wr R4 H8.out (Nat.le_refl _) (by omega))
            have HR3 := hide R3
            have HR5 := hide R5
            have HTJ := hide Tj
            have HS := hide hsp
            clear R3 R4 R5 Tj t46 t56 htj hsp
            go_wp2_with fail
            refine SP.out.mono ?_
            rintro e w8 ⟨⟨v8, rfl⟩, t8⟩
            have ha : ∀ b, (Value.slice xo yn xc).ownBlock = some b → w3.heap.size ≤ b ∧ b < w4.heap.size := fun b hb => ⟨HN4.out.lo b hb, HN4.out.row.lt hb⟩
            have R3 := HR3.out.touch t8 (fun b hb s => by have := ha b s; have := HN3.out.row.lt hb; omega)
            have R5 := HR5.out.touch t8 (fun b hb s => by have := ha b s; have := HN5.out.lo b hb; omega)
            have sw2 := HM2.out.touch.size
            have T8 : Touch (fun _ => False) w w8 := HTJ.out.trans t8 (fun b hb s => by have := ha b s; omega)
            have AL := hide (all_any ⟨yo, yc, R⟩ w8 (HTT.out w8 T8) ⟨Seg.of_row R5, H8.out, by show R.length ≤ _; rw [← HRL.out]; omega⟩ (by have := R5.cap; exact this) (by show R.length ≤ _; rw [← HRL.out]; omega))
            simp only at AL
            rw [← HRL.out] at AL
            have HR3 := hide R3
            have HR5 := hide R5
            have HT8 := hide T8
            clear R3 R5 T8 t8 ha SP HTJ HN3 HN4 HN5 HM2 HM3 HM4 HM5 HM6 HLL HT
            go_wp2_with fail
            refine AL.out.mono ?_
            rintro e w9 ⟨v, cl, l, p, er, rfl, hB, hH, hkk⟩
            obtain ⟨e1, e2, e3⟩ := heads_one _ _ _ _ _ _ _ hH HHD.out
            subst e3
            rw [if_pos rfl, e1] at hkk
            rw [← HRL.out] at e2
            subst e2
            obtain ⟨vo, vc, rfl⟩ := hB.shape
            have T9 := HT8.out.trans hB.touch (fun _ _ h => h)
            have hclN : cl.length = j := by have := congrArg List.length hkk; rw [List.length_map, List.length_map, ← HN.out] at this; exact this
            have CV1 := conv_seg (Seg.of_row (HR5.out.touch hB.touch (fun _ _ h => h))) yc
            have CV2 := conv_seg (Seg.of_row (HR3.out.touch hB.touch (fun _ _ h => h))) wc
            rw [← HRL.out] at CV1 CV2
            have SM := hide (sameBlocks_any vo ao cl bl vc cap w9 (hB.seg (by rw [hkk]; exact HFR.out)) (SB.out w9 T9) hkk (by rw [hclN]; omega))
            rw [hclN, ← HN.out] at SM
            rw [hclN]
            have HT9 := hide T9
            clear T9 hH e1 hB hkk hclN AL HHD HT8
            go_wp2_with fail
            refine SM.out.mono ?_
            rintro e w10 ⟨rfl, t10⟩
            have T10 := HT9.out.trans t10 (fun _ _ h => h)
            go_wp2_with fail
            refine (KN.out _ T10).mono ?_
            rintro e w11 ⟨rfl, t11⟩
            go_wp2_with fail
            go_ret
            exact ⟨rfl, T10.trans t11 (fun _ _ h => h)⟩

end Go.Proofs.YtfeifobljgmkkaaDoor
