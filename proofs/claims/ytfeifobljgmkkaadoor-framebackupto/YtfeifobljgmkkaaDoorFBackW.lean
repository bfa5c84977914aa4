/- The walk of FrameBack. -/
import Derived.Test.YtfeifobljgmkkaaDoorFBackP
import Derived.Test.YtfeifobljgmkkaaDoorFRAll
namespace Go.Proofs.YtfeifobljgmkkaaDoor
open Go.RowKit Crcx

/-- Two texts put into a row of their own. -/
theorem two_of {w w1 w2 : World} {a1 a2 : Option Addr} {n1 n2 c1 c2 : Nat} {f g : List Int} (R1 : Row w1 5 .u8 (.slice a1 n1 c1) f) (G1 : Grew w (.slice none 0 0) w1 (.slice a1 n1 c1)) (R2 : Row w2 5 .u8 (.slice a2 n2 c2) (f ++ g)) (G2 : Grew w1 (.slice a1 n1 c1) w2 (.slice a2 n2 c2)) : New w w2 (.slice a2 n2 c2) (f ++ g) :=
  ((New.nil (Touch.refl _ _)).of_grew R1 G1).of_grew R2 G2

set_option maxRecDepth 100000 in
set_option maxHeartbeats 4000000 in
theorem back_walk (ao bo : Option Addr) (ca cb : Nat) (A B : List Blk) (t : Txt) (w : World) (hT : Tab w) (hA : SegB w ao A) (hB : SegB w bo B) (hca : ao = none → ca = 0) (hcb : bo = none → cb = 0) (hla : A.length ≤ 1048576) (hlb : B.length ≤ 1048576) (hxs : ∀ x ∈ A ++ B, x.t.xs.length ≤ 1048576) (ho : t.Ok w) (hl : t.xs.length ≤ 1048576) :
    Calls Tryd.prog 8 #[.slice ao A.length ca, .slice bo B.length cb, .slice t.ao t.xs.length t.cap] w fun e w' => e = .returned (.bool true) ∧ Touch (fun _ => False) w w' := by
  obtain ⟨i0, hi, hz0, hz1, hz2⟩ := info_parts Tryd.info5
  have KN := hide (fun (W : World) (hW : Touch (fun _ => False) w W) => known_any W (hT.touch hW (fun h => h)))
  have LG := hide (fun W => long_any t.ao t.xs.length t.cap W)
  have SA := hide (fun (W : World) (hW : Touch (fun _ => False) w W) => hA.touch hW)
  have SB := hide (fun (W : World) (hW : Touch (fun _ => False) w W) => hB.touch hW)
  have OT := hide (fun (W : World) (hW : Touch (fun _ => False) w W) => ho.touch hW)
  have HTT := hide (fun (W : World) (hW : Touch (fun _ => False) w W) => hT.touch hW (fun h => h))
  have HCA := hide hca
  have HCB := hide hcb
  have HXS := hide hxs
  obtain ⟨la, ela⟩ : ∃ la, la = A.length := ⟨_, rfl⟩
  obtain ⟨lb, elb⟩ : ∃ lb, lb = B.length := ⟨_, rfl⟩
  obtain ⟨lt, elt⟩ : ∃ lt, lt = t.xs.length := ⟨_, rfl⟩
  rw [← ela] at hla ⊢
  rw [← elb] at hlb ⊢
  rw [← elt] at hl LG ⊢
  have HLA := hide ela
  have HLB := hide elb
  have HLT := hide elt
  have HLL : Hid ((A ++ B).length = la + lb) := hide (by rw [List.length_append, ela, elb])
  clear hca hcb hxs hA hB ho hT ela elb elt
  have hlai : (la : Int) ≤ 1048576 := by omega
  have hlbi : (lb : Int) ≤ 1048576 := by omega
  have hlti : (lt : Int) ≤ 1048576 := by omega
  obtain ⟨N, hN⟩ : ∃ N, N = la + lb := ⟨_, rfl⟩
  have hNi : (la : Int) + (lb : Int) = (N : Int) := by omega
  have hNN : N ≤ 2097152 := by omega
  have HN := hide hN
  clear hN
  go_enter Tryd.func8, Tryd.ntmps8
  go_wp2_with fail
  go_loopw [7, 8] (fun n i wr => ∃ k : Nat, i = .int .i64 k ∧ k ≤ N ∧ n = .int .i64 ((wgt ((A ++ B).take k) : Nat) : Int) ∧ wgt ((A ++ B).take k) ≤ 100000 ∧ Touch (fun _ => False) w wr) (fun _ i _ => N - (intOf i).toNat)
  case atStart => exact ⟨0, rfl, Nat.zero_le _, rfl, by simp [wgt], Touch.refl _ _⟩
  case round =>
    obtain ⟨k, rfl, hk, rfl, hw, ht⟩ := hrel
    by_cases hlt : k < N
    · have hltL : k < (A ++ B).length := by rw [HLL.out, ← HN.out]; exact hlt
      have sa := SA.out wr ht
      have sb := SB.out wr ht
      have HWT := hide (wgt_take (A ++ B) k hltL)
      have hxl := HXS.out _ (List.getElem_mem hltL)
      have hlti2 : (k : Int) < (N : Int) := by omega
      have HT := hide ht
      have HOKA := hide sa.ok
      have HOKB := hide sb.ok
      have HSA := hide sa
      have HSB := hide sb
      generalize hwk : wgt ((A ++ B).take k) = m at *
      have HWK := hide hwk
      clear sa sb ht hwk
      go_wp2_with (at_builtin; refine wpList_append_blks _ rfl (.const (.slice none 0 0)) (.tmp 35) rfl wr.heap.size _ [] rfl (World.ownsRow_nil wr _ _ _) ao la ca A rfl HLA.out HSA.out HCA.out ?b1 (Nat.le_refl _) ?nx)
      case b1 => rw [← HLA.out]; simp only [List.length_nil]; omega
      case nx =>
        intro ao1 N1 c1 w1 hN1 own1 t1
        have sb1 := HSB.out.touch (t1.mono (fun k _ h => by simp [Value.ownBlock] at h))
        have hs1 := t1.size
        have HOWN1 := hide own1
        have HT1 := hide t1
        have HN1 : Hid (N1 = la) := hide (by rw [hN1, HLA.out])
        have HSB1 := hide sb1
        clear own1 t1 sb1 hN1
        go_wp2_with (at_builtin; refine wpList_append_blks _ rfl (.tmp 36) (.tmp 37) rfl wr.heap.size _ A rfl HOWN1.out bo lb cb B rfl HLB.out HSB1.out HCB.out ?b2 hs1 ?nx2)
        case b2 => rw [← HLB.out, ← HLA.out]; omega
        case nx2 =>
          intro ao2 N2 c2 w2 hN2 own2 t2
          have hboth := both_of HOKA.out HOKB.out HOWN1.out HT1.out hN2 own2 t2
          have HN2 : Hid (N2 = N) := hide (by rw [hN2, HN.out, HLA.out, HLB.out])
          have hN2' : N2 = N := HN2.out
          subst hN2'
          have T2 := HT.out.trans hboth.touch (fun _ _ h => h)
          obtain ⟨b, off, rfl⟩ := hboth.seg.addr (by omega)
          obtain ⟨c0, c1⟩ := hboth.seg.cell b off rfl k hltL
          have okx := hboth.seg.ok _ (List.getElem_mem hltL)
          generalize hx : (A ++ B)[k] = x at *
          obtain ⟨tag, xa, xc, xs⟩ := x
          simp only [Txt.val] at c0 c1
          have h8x : In8 xs := okx.t.in8
          have h8 : 0 ≤ tag ∧ tag ≤ 255 := okx.tag
          have HOX := hide okx.t
          have HT2 := hide T2
          have hfl := frm_len tag xs
          have hxl' : xs.length ≤ 268435456 := by simp only at hxl; omega
          have T0 : Touch (fun _ => False) w2 (w2.alloc (.cells #[.int .u8 tag, .slice xa xs.length xc] 36)) := (Touch.refl _ _).alloc _
          have B0 := heap_alloc_last w2 (.cells #[.int .u8 tag, .slice xa xs.length xc] 36)
          have PT := hide (fun (W : World) (hW : Touch (fun _ => False) w2 W) => put_any tag ⟨xa, xc, xs⟩ W (HTT.out W (HT2.out.trans hW (fun _ _ h => h))) (HOX.out.touch hW) h8 hxl')
          have FS := hide (fun W => fsize_any xs.length hxl' W)
          have RF := hide (readF_frm h8 h8x hxl' t.xs)
          have RC := hide (readF_cut (tag := tag) (body := xs) hxl')
          have HF8 := hide (in8_frm h8 h8x)
          have hf10 := fsize_le hxl'
          have hf6 := fsize_lt xs.length
          have hm10 : (m : Int) ≤ 100000 := by omega
          simp only [Txt.val] at PT HWT hxl
          have HFL := hide hfl
          obtain ⟨f, hf⟩ : ∃ f, f = frm tag xs := ⟨_, rfl⟩
          rw [← hf] at PT RF RC HF8 HFL
          clear hf hfl
          have HCV := hide (fun (W : World) (hW : Touch (fun _ => False) w2 W) => conv_seg (HOX.out.touch hW).seg xc)
          simp only at HCV
          obtain ⟨xl, hxl2⟩ : ∃ xl, xl = xs.length := ⟨_, rfl⟩
          rw [← hxl2] at PT FS RF HFL c1 T0 B0 hf10 hf6 HWT hxl HCV
          have HXL := hide hxl2
          generalize hfs : fsize xl = fl at *
          have hxli : (xl : Int) ≤ 1048576 := by omega
          have T0' := HT2.out.trans T0 (fun _ _ h => h)
          clear hboth own2 t2 hN2 T2 okx hxl2 hx HSA HSB HSB1 HOKA HOKB HOWN1 HT1 HN1 h8 h8x hxl' hs1 hfs hltL
          by_cases hbig : 100000 < m + (xl + 10)
          · have hbi : (100000 : Int) < (m : Int) + (xl : Int) + 10 := by omega
            go_wp2_with fail
            refine (KN.out _ T0').mono ?_
            rintro e w3 ⟨rfl, t3⟩
            go_wp2_with fail
            go_ret
            exact ⟨rfl, T0'.trans t3 (fun _ _ h => h)⟩
          · have hbi : ¬ (100000 : Int) < (m : Int) + (xl : Int) + 10 := by omega
            by_cases hcnt : 200 < N2
            · have hci : (200 : Int) < (N2 : Int) := by omega
              go_wp2_with fail
              refine (KN.out _ T0').mono ?_
              rintro e w3 ⟨rfl, t3⟩
              go_wp2_with fail
              go_ret
              exact ⟨rfl, T0'.trans t3 (fun _ _ h => h)⟩
            · have hci : ¬ (200 : Int) < (N2 : Int) := by omega
              by_cases hlong : 200000 < lt
              · have hd : decide ((200000 : Int) < (lt : Int)) = true := decide_eq_true (by omega)
                rw [hd] at LG
                clear hd
                go_wp2_with fail
                refine (LG.out _).mono ?_
                rintro e w' ⟨rfl, rfl⟩
                go_wp2_with fail
                refine (KN.out _ T0').mono ?_
                rintro e w3 ⟨rfl, t3⟩
                go_wp2_with fail
                go_ret
                exact ⟨rfl, T0'.trans t3 (fun _ _ h => h)⟩
              · have hd : decide ((200000 : Int) < (lt : Int)) = false := decide_eq_false (by omega)
                rw [hd] at LG
                clear hd
                go_wp2_with fail
                refine (LG.out _).mono ?_
                rintro e w' ⟨rfl, rfl⟩
                clear LG KN
                go_wp2_with fail
                generalize w2.alloc (.cells #[.int .u8 tag, .slice xa xl xc] 36) = w3 at *
                generalize hgg : w2.heap.size = g0 at B0 ⊢
                clear hgg
                refine (PT.out _ T0).mono ?_
                rintro e w4 ⟨fo, fn, fc, rfl, N4⟩
                have hfn := N4.row.len
                rw [HFL.out] at hfn
                subst hfn
                have B4 := N4.touch.heap B0 (fun h => h)
                have T4 := T0.trans N4.touch (fun _ _ h => h)
                have HN4 := hide N4
                have HT4 := hide T4
                have HB4 := hide B4
                have HSR : Hid (Src Tryd.prog 1 22 (.slice fo fn fc) f.length (f.map (Value.int .u8)) w4) := hide (by have := (Seg.of_row N4.row).src (P := Tryd.prog) Tryd.underlying22 fc; rw [HFL.out] at this ⊢; exact this)
                clear N4 T4 B4 B0 T0 T0' PT
                go_wp2_with (at_builtin; refine wpList_append_row _ rfl (.const (.slice none 0 0)) (.tmp 72) 22 22 rfl 5 i0 (.int .u8 0) .u8 1 Tryd.underlying22 hi hz0 hz1 hz2 rfl _ [] rfl (Row.nil _ _ _) _ f rfl HSR.out ?b3 ?b4 ?nx3)
                case b3 => unfold maxLen; simp only [List.length_nil, HFL.out]; omega
                case b4 => simp only [List.length_nil, HFL.out]; omega
                case nx3 =>
                  intro a5 n5 c5 w5 R5 G5
                  have T5 : Touch (fun _ => False) w4 w5 := ((New.nil (Touch.refl _ _)).of_grew R5 G5).touch
                  have HSR2 : Hid (Src Tryd.prog 1 22 (.slice t.ao lt t.cap) t.xs.length (t.xs.map (Value.int .u8)) w5) := hide (by have := (OT.out w5 ((HT2.out.trans HT4.out (fun _ _ h => h)).trans T5 (fun _ _ h => h))).seg.src (P := Tryd.prog) Tryd.underlying22 t.cap; rw [← HLT.out] at this ⊢; exact this)
                  have HR5 := hide R5
                  have HG5 := hide G5
                  clear R5 G5 T5 HSR
                  go_wp2_with (at_builtin; refine wpList_append_row _ rfl (.tmp 73) (.tmp 74) 22 22 rfl 5 i0 (.int .u8 0) .u8 1 Tryd.underlying22 hi hz0 hz1 hz2 rfl _ _ rfl HR5.out _ t.xs rfl HSR2.out ?b5 ?b6 ?nx4)
                  case b5 => unfold maxLen; simp only [HFL.out, ← HLT.out]; omega
                  case b6 => simp only [HFL.out, ← HLT.out]; omega
                  case nx4 =>
                    intro a6 n6 c6 w6 R6 G6
                    have N6 := two_of HR5.out HG5.out R6 G6
                    have h68 : In8 (f ++ t.xs) := in8_append HF8.out (OT.out w (Touch.refl _ _)).in8
                    have hl6 : (f ++ t.xs).length ≤ 2097172 := by rw [List.length_append, HFL.out, ← HLT.out]; omega
                    obtain ⟨ok6, cp6⟩ := N6.txt h68 (by omega)
                    have T6 := HT4.out.trans N6.touch (fun _ _ h => h)
                    have RD := hide (read_any _ w6 (HTT.out w6 (HT2.out.trans T6 (fun _ _ h => h))) ok6 cp6 (by simp only; omega))
                    simp only at RD
                    rw [RF.out, ← N6.row.len] at RD
                    have B6 := N6.touch.heap HB4.out (fun h => h)
                    have HN6 := hide N6
                    have HB6 := hide B6
                    have HT6 := hide T6
                    clear N6 h68 hl6 ok6 cp6 T6 B6 R6 G6 HR5 HG5 HSR2 RF HB4
                    go_wp2_with fail
                    refine RD.out.mono ?_
                    rintro e w7 ⟨yo, yn, yc, rfl, N7⟩
                    simp only at N7
                    have hyn := N7.row.len
                    rw [← HXL.out] at hyn
                    subst hyn
                    have T7 := HT6.out.trans N7.touch (fun _ _ h => h)
                    have TA : Touch (fun _ => False) w7 (w7.alloc (.cells #[.int .u8 tag, .slice yo yn yc] 36)) := (Touch.refl _ _).alloc _
                    have T8 := T7.trans TA (fun _ _ h => h)
                    have B8 := TA.heap (N7.touch.heap HB6.out (fun h => h)) (fun h => h)
                    have D8 := heap_alloc_last w7 (.cells #[.int .u8 tag, .slice yo yn yc] 36)
                    have CVx := HCV.out _ T8
                    have CVy := conv_seg (Seg.of_row (N7.keep TA).row) yc
                    rw [← HXL.out] at CVy
                    have HF9 := hide ((HN4.out.keep (HN6.out.touch.trans (N7.touch.trans TA (fun _ _ h => h)) (fun _ _ h => h))))
                    obtain ⟨x0, x1⟩ := cells2 B8
                    have HT8 := hide T8
                    clear RD HN6 HB6 HT6 HN4 HT4 N7 T7 TA T8 B8
                    go_wp2_with fail
                    generalize w7.alloc (.cells #[.int .u8 tag, .slice yo yn yc] 36) = w8 at *
                    generalize hgg : w7.heap.size = g8 at D8 ⊢
                    clear hgg
                    obtain ⟨y0, y1⟩ := cells2 D8
                    refine (FS.out _).mono ?_
                    rintro e w' ⟨rfl, rfl⟩
                    clear FS
                    generalize strOfNums xs = st at *
                    obtain ⟨ok9, cp9⟩ := HF9.out.txt HF8.out (by rw [HFL.out]; omega)
                    obtain ⟨fm, hfm⟩ : ∃ fm, fm = fn - 1 := ⟨_, rfl⟩
                    obtain ⟨u, u1, u2, u3, u4, u5⟩ := cut_h ok9 cp9 fm (by simp only; rw [HFL.out]; omega)
                    simp only [HFL.out] at u5
                    have e1 : (fn : Int) - 1 = (fm : Int) := by omega
                    have RD2 := hide (fun (W : World) (hW : Touch (fun _ => False) w8 W) => read_any u W (HTT.out W ((HT2.out.trans HT8.out (fun _ _ h => h)).trans hW (fun _ _ h => h))) (u3.touch hW) u4 (by rw [u2]; omega))
                    rw [u1] at RD2
                    simp only at RD2
                    rw [hfm, ← HFL.out, RC.out, HFL.out, ← hfm] at RD2
                    have u2' := u2
                    rw [u1] at u2'
                    simp only at u2'
                    rw [u2'] at RD2
                    rw [u2] at u5
                    have hfmi : (fm : Int) ≤ 2097172 := by omega
                    generalize u.ao = uo at *
                    generalize u.cap = uc at *
                    clear ok9 cp9 u1 u2 u2' u3 u4 hfm RC HF9 HOX HCV HXL D8
                    go_wp2_with fail
                    refine (RD2.out _ (Touch.refl _ _)).mono ?_
                    rintro e w9 ⟨zo, zn, zc, rfl, N9⟩
                    simp only at N9
                    have TE : Touch (fun _ => False) w (w9.alloc (.cells #[.int .u8 0, .slice zo zn zc] 36)) := (((HT2.out.trans HT8.out (fun _ _ h => h)).trans N9.touch (fun _ _ h => h)).alloc _)
                    have HTE := hide TE
                    clear TE N9 RD2 u5 x0 x1 y0 y1 CVx CVy c0 c1 HT8
                    go_wp2_with fail
                    go_roundw
                    case rel => exact ⟨k + 1, by go_num, by omega, by rw [HWT.out]; congr 1, by rw [HWT.out]; omega, HTE.out⟩
                    case measure => simp [intOf]; omega
    · have e : k = N := by omega
      subst e
      have hL : (A ++ B).take k = A ++ B := List.take_of_length_le (by rw [HLL.out, ← HN.out]; omega)
      rw [hL] at hw
      have hrow := wgt_row (A ++ B) hw
      rw [rowB_append, List.length_append] at hrow
      have sa := SA.out wr ht
      have RA := hide (row_any ao A ca wr (HTT.out wr ht) sa (by omega) (by rw [← HLA.out]; omega))
      have RB := hide (fun (W : World) (hW : Touch (fun _ => False) w W) => row_any bo B cb W (HTT.out W hW) (SB.out W hW) (by omega) (by rw [← HLB.out]; omega))
      have HFR : Hid (∀ x ∈ (A ++ B).map Blk.key, FrOk x) := hide (fun x hx => by
        obtain ⟨y, hy, rfl⟩ := List.mem_map.1 hx
        have hl := HXS.out y hy
        have hok : y.Ok wr := by
          rcases List.mem_append.1 hy with h | h
          · exact sa.ok y h
          · exact (SB.out wr ht).ok y h
        exact ⟨hok.tag, hok.t.in8, by show y.t.xs.length ≤ _; omega⟩)
      have HHD : Hid (Heads (rowB A ++ rowB B) ((A ++ B).map Blk.key) (rowB A ++ rowB B).length 0) := hide (by
        have := heads_row HFR.out
        rw [← rowB_key, rowB_append] at this
        exact this)
      rw [← HLA.out] at RA
      rw [← HLB.out] at RB
      have h8AB : Hid (In8 (rowB A ++ rowB B)) := hide (by
        rw [← rowB_append]
        intro z hz
        unfold rowB at hz
        obtain ⟨y, hy, hz⟩ := List.mem_flatMap.1 hz
        have := HFR.out y.key (List.mem_map.2 ⟨y, hy, rfl⟩)
        exact in8_frm this.tag this.in8 z hz)
      generalize rowB A = ra at *
      generalize rowB B = rb at *
      have HRO := hide hrow
      have HW := hide hw
      have HT := hide ht
      clear hrow hL sa ht hw hlt
      go_wp2_with fail
      refine RA.out.mono ?_
      rintro e w1 ⟨ro, rn, rc, rfl, N1⟩
      have T1 := HT.out.trans N1.touch (fun _ _ h => h)
      have RB1 := hide (RB.out w1 T1)
      have HN1 := hide N1
      have HT1 := hide T1
      clear RA RB N1 T1
      go_wp2_with fail
      refine RB1.out.mono ?_
      rintro e w2 ⟨so, sn, sc, rfl, N2⟩
      have hrn := HN1.out.row.len
      have hsn := N2.row.len
      have T2 := HT1.out.trans N2.touch (fun _ _ h => h)
      have NR2 := HN1.out.keep N2.touch
      have hro := HRO.out
      have HSR : Hid (Src Tryd.prog 1 22 (.slice ro rn rc) ra.length (ra.map (Value.int .u8)) w2) := hide (by have := (Seg.of_row NR2.row).src (P := Tryd.prog) Tryd.underlying22 rc; rw [← hrn] at this ⊢; exact this)
      have HNS := hide N2
      have HT2 := hide T2
      have HRN := hide hrn
      have HSN := hide hsn
      have hni : (rn : Int) + (sn : Int) ≤ 100000 := by have := HW.out; omega
      have hnn : rn + sn ≤ 100000 := by omega
      clear T2 N2 NR2 RB1 hro hrn hsn HN1 HT1
      go_wp2_with (at_builtin; refine wpList_append_row _ rfl (.const (.slice none 0 0)) (.tmp 139) 22 22 rfl 5 i0 (.int .u8 0) .u8 1 Tryd.underlying22 hi hz0 hz1 hz2 rfl _ [] rfl (Row.nil _ _ _) _ ra rfl HSR.out ?b7 ?b8 ?nx5)
      case b7 => unfold maxLen; simp only [List.length_nil, ← HRN.out]; omega
      case b8 => simp only [List.length_nil, ← HRN.out]; omega
      case nx5 =>
        intro a5 n5 c5 w5 R5 G5
        have T5 : Touch (fun _ => False) w2 w5 := ((New.nil (Touch.refl _ _)).of_grew R5 G5).touch
        have HSR2 : Hid (Src Tryd.prog 1 22 (.slice so sn sc) rb.length (rb.map (Value.int .u8)) w5) := hide (by have := (Seg.of_row (HNS.out.keep T5).row).src (P := Tryd.prog) Tryd.underlying22 sc; rw [← HSN.out] at this ⊢; exact this)
        have HR5 := hide R5
        have HG5 := hide G5
        clear R5 G5 T5 HSR HNS
        go_wp2_with (at_builtin; refine wpList_append_row _ rfl (.tmp 140) (.tmp 141) 22 22 rfl 5 i0 (.int .u8 0) .u8 1 Tryd.underlying22 hi hz0 hz1 hz2 rfl _ _ rfl HR5.out _ rb rfl HSR2.out ?b9 ?b10 ?nx6)
        case b9 => unfold maxLen; rw [← HRN.out, ← HSN.out]; omega
        case b10 => rw [← HRN.out, ← HSN.out]; omega
        case nx6 =>
          intro a6 n6 c6 w6 R6 G6
          have N6 := two_of HR5.out HG5.out R6 G6
          have hl6 : (ra ++ rb).length = rn + sn := by rw [List.length_append, ← HRN.out, ← HSN.out]
          obtain ⟨ok6, cp6⟩ := N6.txt h8AB.out (by omega)
          have T6 := HT2.out.trans N6.touch (fun _ _ h => h)
          have AL := hide (all_any _ w6 (HTT.out w6 T6) ok6 cp6 (by simp only; omega))
          simp only at AL
          rw [← N6.row.len] at AL
          have HL6 := hide hl6
          have HT6 := hide T6
          clear N6 hl6 ok6 cp6 T6 R6 G6 HR5 HG5 HSR2 HT2
          go_wp2_with fail
          refine AL.out.mono ?_
          rintro e w7 ⟨v, bl, l, p, er, rfl, hB, hH, hk⟩
          obtain ⟨e1, e2, e3⟩ := heads_one _ _ _ _ _ _ _ hH HHD.out
          subst e3
          rw [if_pos rfl, e1] at hk
          rw [HL6.out] at e2
          subst e2
          obtain ⟨vo, vc, rfl⟩ := hB.shape
          have T7 := HT6.out.trans hB.touch (fun _ _ h => h)
          have hblN : bl.length = k := by have := congrArg List.length hk; rw [List.length_map, List.length_map, HLL.out, ← HN.out] at this; exact this
          have HB7 := hide hB
          have HK := hide hk
          have HSA := hide (SA.out w7 T7)
          have HSB := hide (SB.out w7 T7)
          have HT7 := hide T7
          have HBN := hide hblN
          rw [hblN]
          have hpi : ((rn + sn : Nat) : Int) = (rn : Int) + (sn : Int) := by omega
          clear hH e1 hB hk hblN T7 AL HHD HT6
          go_wp2_with (at_builtin; refine wpList_append_blks _ rfl (.const (.slice none 0 0)) (.tmp 147) rfl w7.heap.size _ [] rfl (World.ownsRow_nil w7 _ _ _) ao la ca A rfl HLA.out HSA.out HCA.out ?b11 (Nat.le_refl _) ?nx7)
          case b11 => rw [← HLA.out]; simp only [List.length_nil]; omega
          case nx7 =>
            intro ao1 N1 c1 w8 hN1 own1 t1
            have sb1 := HSB.out.touch (t1.mono (fun k _ h => by simp [Value.ownBlock] at h))
            have hs1 := t1.size
            have HOWN1 := hide own1
            have HTO := hide t1
            have HSB1 := hide sb1
            clear own1 t1 sb1 hN1
            go_wp2_with (at_builtin; refine wpList_append_blks _ rfl (.tmp 148) (.tmp 149) rfl w7.heap.size _ A rfl HOWN1.out bo lb cb B rfl HLB.out HSB1.out HCB.out ?b12 hs1 ?nx8)
            case b12 => rw [← HLB.out, ← HLA.out]; omega
            case nx8 =>
              intro ao2 N2 c2 w9 hN2 own2 t2
              have hboth := both_of HSA.out.ok HSB.out.ok HOWN1.out HTO.out hN2 own2 t2
              have hN2' : N2 = k := by rw [hN2, HN.out, HLA.out, HLB.out]
              subst hN2'
              have T9 := HT7.out.trans hboth.touch (fun _ _ h => h)
              have SM := hide (sameBlocks_any vo ao2 bl (A ++ B) vc c2 w9 ((HB7.out.keep hboth.touch).seg (by rw [HK.out]; exact HFR.out)) hboth.seg HK.out (by rw [HBN.out]; omega))
              rw [HBN.out, HLL.out, ← HN.out] at SM
              have HT9 := hide T9
              clear hboth own2 t2 hN2 T9 HSA HSB HSB1 HOWN1 HTO HB7 HFR HT7
              go_wp2_with fail
              refine SM.out.mono ?_
              rintro e w10 ⟨rfl, t10⟩
              have T10 := HT9.out.trans t10 (fun _ _ h => h)
              go_wp2_with fail
              refine (KN.out _ T10).mono ?_
              rintro e w11 ⟨rfl, t11⟩
              go_wp2_with fail
              go_ret
              exact ⟨rfl, T10.trans t11 (fun _ _ h => h)⟩

end Go.Proofs.YtfeifobljgmkkaaDoor
