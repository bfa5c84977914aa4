/- The walk of FrameSpoilt. -/
import Derived.Test.YtfeifobljgmkkabDoorFSpoil
namespace Go.Proofs.YtfeifobljgmkkabDoor
open Go.RowKit Crcx

theorem tmod_place (bit : Int) (M : Nat) (hM : 0 < M) : ∃ (r : Int) (R : Nat), bit.tmod (M : Int) = r ∧ -(M : Int) < r ∧ r < (M : Int) ∧ (r + (M : Int)) % (M : Int) = (R : Int) ∧ (r + (M : Int)).tmod (M : Int) = (R : Int) ∧ R < M := by
  have hp : (0 : Int) < (M : Int) := by omega
  have h1 : -(M : Int) < bit.tmod (M : Int) ∧ bit.tmod (M : Int) < (M : Int) := by
    by_cases h : 0 ≤ bit
    · have a := Int.tmod_nonneg (M : Int) h
      have b := Int.tmod_lt_of_pos bit hp
      omega
    · have a := Int.tmod_nonneg (M : Int) (show 0 ≤ -bit by omega)
      have b := Int.tmod_lt_of_pos (-bit) hp
      rw [Int.neg_tmod] at a b
      omega
  have h2 := Int.emod_nonneg (bit.tmod (M : Int) + (M : Int)) (show (M : Int) ≠ 0 by omega)
  have h3 := Int.emod_lt_of_pos (bit.tmod (M : Int) + (M : Int)) hp
  refine ⟨_, ((bit.tmod (M : Int) + (M : Int)) % (M : Int)).toNat, rfl, h1.1, h1.2, by omega, ?_, by omega⟩
  rw [Int.tmod_eq_emod_of_nonneg (by omega)]
  omega

theorem str_beq {xs ys : List Int} (h8 : In8 xs) (h8' : In8 ys) (h : xs ≠ ys) : ((strOfNums xs).toList == (strOfNums ys).toList) = false := by
  rw [beq_eq_false_iff_ne]
  exact fun e => h (strOfNums_inj h8 h8' (by rw [← ByteArray.toList_eq, ← ByteArray.toList_eq]; exact e))

set_option maxRecDepth 100000 in
set_option maxHeartbeats 2000000 in
theorem fspoilt_walk (tag : Int) (t : Txt) (bit : Int) (mask : Nat) (w : World) (hT : Tab w) (ho : t.Ok w) (h8 : 0 ≤ tag ∧ tag ≤ 255) (hm : mask < 4294967296) :
    Calls Tryd.prog 4 #[.agg #[.int .u8 tag, .slice t.ao t.xs.length t.cap], .int .i64 bit, .int .u32 mask] w fun e w' => e = .returned (.bool true) ∧ Touch (fun _ => False) w w' := by
  obtain ⟨i0, hi, hz0, hz1, hz2⟩ := info_parts Tryd.info5
  have KN := hide (fun (W : World) (hW : Touch (fun _ => False) w W) => known_any W (hT.touch hW (fun h => h)))
  obtain ⟨ao, cap, xs⟩ := t
  simp only at *
  go_enter Tryd.func4, Tryd.ntmps4
  by_cases hlong : 20000 < xs.length
  · have hl' : (20000 : Int) < (xs.length : Int) := by omega
    have T0 : Touch (fun _ => False) w (w.alloc (.cells #[.int .u8 tag, .slice ao xs.length cap] 32)) := (Touch.refl _ _).alloc _
    go_wp2_with fail
    refine (KN.out _ T0).mono ?_
    rintro e w1 ⟨rfl, t1⟩
    go_wp2_with fail
    go_ret
    exact ⟨rfl, T0.trans t1 (fun _ _ h => h)⟩
  · have hl' : ¬ (20000 : Int) < (xs.length : Int) := by omega
    have T0 : Touch (fun _ => False) w (w.alloc (.cells #[.int .u8 tag, .slice ao xs.length cap] 32)) := (Touch.refl _ _).alloc _
    have B0 := heap_alloc_last w (.cells #[.int .u8 tag, .slice ao xs.length cap] 32)
    have h8x : In8 xs := ho.in8
    have hf8 : In8 (frm tag xs) := in8_frm h8 h8x
    have hfl := frm_len tag xs
    have h6 := fsize_lt xs.length
    have h10 := fsize_le (n := xs.length) (by omega)
    have hnp := numb_pos xs.length
    obtain ⟨F, hF⟩ : ∃ F, F = 1 + (numb xs.length).length := ⟨_, rfl⟩
    have hF2 : 2 ≤ F := by omega
    have hFf : fsize xs.length = F + xs.length + 4 := by rw [hF]; unfold fsize; omega
    obtain ⟨r, R, er, hr1, hr2, eR, eR', hR⟩ := tmod_place bit (8 * (xs.length + 4)) (by omega)
    have HTAG := hide (fun (hm0 : mask % 256 ≠ 0) => readF_tag (mask % 256) (by omega) hm0 h8 h8x (by omega : xs.length ≤ 268435456))
    have HBODY := hide (fun (s : List Int) (hs : Spoilt (frm tag xs) s (8 * F + R) 32) (hne : frm tag xs ≠ s) => readF_body h8 h8x (by omega) hs (by rw [← hF]; omega) hne)
    have PT := hide (fun (W : World) (hW : Touch (fun _ => False) w W) => put_any tag ⟨ao, cap, xs⟩ W (hT.touch hW (fun h => h)) (ho.touch hW) h8 (show xs.length ≤ 268435456 by omega))
    simp only [Txt.val] at PT
    have hf0 : (frm tag xs).getD 0 0 = tag := by unfold frm summed; simp
    have HF0 := hide hf0
    have HF8 := hide hf8
    have HFL := hide (hfl.trans hFf)
    obtain ⟨f, hf⟩ : ∃ f, f = frm tag xs := ⟨_, rfl⟩
    rw [← hf] at HTAG HBODY PT HF0 HF8 HFL
    clear hf hf0 hf8 hfl h6 h10 hFf hnp ho h8x
    go_wp2_with fail
    generalize w.alloc (.cells #[.int .u8 tag, .slice ao xs.length cap] 32) = w0 at *
    generalize hgg : w.heap.size = g0 at B0 ⊢
    clear hgg
    refine (PT.out _ T0).mono ?_
    rintro e w1 ⟨bo, bn, bc, rfl, N1⟩
    have hbn := N1.row.len
    subst hbn
    have B1 := N1.touch.heap B0 (fun h => h)
    obtain ⟨c0, c1⟩ := cells2 B1
    have T1 := T0.trans N1.touch (fun _ _ h => h)
    obtain ⟨n, hn⟩ : ∃ n, n = xs.length := ⟨_, rfl⟩
    rw [← hn] at c1 HFL er hr1 hr2 eR eR' hR ⊢
    have hn2 : n ≤ 20000 := by omega
    have hF9 : F ≤ 9 := by rw [hF, ← hn]; have := numb5 (n := n) (by omega); omega
    obtain ⟨fl, hfl⟩ : ∃ fl, fl = f.length := ⟨_, rfl⟩
    rw [← hfl] at N1 HFL ⊢
    have HFLL := hide hfl
    have e1 : (fl : Int) - 4 = ((F + n : Nat) : Int) := by rw [HFL.out]; omega
    have e2 : ((F + n : Nat) : Int) - (n : Int) = (F : Int) := by omega
    have e3 : (fl : Int) - (F : Int) = ((n + 4 : Nat) : Int) := by rw [HFL.out]; omega
    have e4 : 8 * ((n + 4 : Nat) : Int) = ((8 * (n + 4) : Nat) : Int) := by omega
    have e5 : 8 * (F : Int) = ((8 * F : Nat) : Int) := by omega
    have e8 : ((8 * F : Nat) : Int) + (R : Int) = ((8 * F + R : Nat) : Int) := by omega
    have hfl6 : ¬ (fl : Int) < 6 := by rw [HFL.out]; omega
    have hfl3 : (fl : Int) ≤ 20013 := by rw [HFL.out]; omega
    have hB : 8 * F + R ≤ 4294967296 := by omega
    have hM : (0 : Int) < ((8 * (n + 4) : Nat) : Int) := by omega
    have hM2 : ((8 * (n + 4) : Nat) : Int) ≤ 160032 := by omega
    have hM0 : ¬ ((8 * (n + 4) : Nat) : Int) = 0 := by omega
    have hF9' : (F : Int) ≤ 9 := by omega
    have hFn : ((F + n : Nat) : Int) ≤ 20009 := by omega
    have hn4 : ((n + 4 : Nat) : Int) ≤ 20004 := by omega
    have h8F : ((8 * F : Nat) : Int) ≤ 72 := by omega
    have hR' : (R : Int) ≤ 160032 := by omega
    have hBB : ((8 * F + R : Nat) : Int) ≤ 160104 := by omega
    have hr1' : -160032 ≤ r := by omega
    have hr2' : r ≤ 160032 := by omega
    have hrM0 : 0 ≤ r + ((8 * (n + 4) : Nat) : Int) := by omega
    have HN1 := hide N1
    have HT1 := hide T1
    have hnl : ¬ (20000 : Int) < (n : Int) := by omega
    clear hn hfl N1 T1 T0 B0 B1 hF hl' hlong PT hr1 hr2 hR hn2 hF9
    generalize 8 * F + R = B at *
    generalize 8 * (n + 4) = M at *
    generalize n + 4 = D at *
    generalize F + n = m1 at *
    generalize 8 * F = F8 at *
    have SP := hide (fun (W : World) (_ : Touch (fun _ => False) w W) (hW : New w0 W (.slice bo fl bc) f) => spoil_any ⟨bo, bc, f⟩ B mask W ⟨Seg.of_row hW.row, HF8.out, by simp only; rw [← HFLL.out]; omega⟩ (by simp only; rw [← HFLL.out]; omega) hB hm)
    simp only [← HFLL.out] at SP
    by_cases hm0 : mask % 256 ≠ 0
    · have hm1 : ¬ (mask : Int) % 256 = 0 := by omega
      have SR := (Seg.of_row HN1.out.row).src (P := Tryd.prog) Tryd.underlying22 bc
      have hx : bits .xor .u8 tag ((mask : Int) % 256) = ((tag.toNat ^^^ mask % 256 : Nat) : Int) := by
        obtain ⟨tn, rfl⟩ := Int.eq_ofNat_of_zero_le h8.1
        have := u8_xor_nat tn (mask % 256) (by omega) (by omega)
        rw [show ((mask : Int) % 256) = ((mask % 256 : Nat) : Int) by omega]
        exact this
      have hmw : IntKind.u8.wrap (mask : Int) = (mask : Int) % 256 := by rw [IntKind.wrap_u8]
      have HXX := hide hx
      rw [← HFLL.out] at SR
      have HSR : Hid (Src Tryd.prog 1 22 (.slice bo fl bc) f.length (f.map (Value.int .u8)) w1) := hide (by rw [← HFLL.out]; exact SR)
      clear SR hx
      go_wp2_with (at_builtin; refine wpList_append_row _ rfl (.const (.slice none 0 0)) (.tmp 50) 22 22 rfl 5 i0 (.int .u8 0) .u8 1 Tryd.underlying22 hi hz0 hz1 hz2 rfl _ [] rfl (Row.nil _ _ _) _ f rfl HSR.out ?b1 ?b2 ?nx)
      case b1 => unfold maxLen; simp only [List.length_nil, ← HFLL.out]; omega
      case b2 => simp only [List.length_nil, ← HFLL.out]; omega
      case nx =>
        intro ao2 n2 c2 w2 R2 G2
        have N2 : New w1 w2 (.slice ao2 n2 c2) f := (New.nil (Touch.refl _ _)).of_grew R2 G2
        have hn2 := N2.row.len
        rw [← HFLL.out] at hn2
        have hn2 := hn2.symm
        subst hn2
        obtain ⟨g, rfl⟩ : ∃ g, ao2 = some ⟨g, 0, none⟩ := by
          rcases N2.row.form with ⟨hv, hx⟩ | ⟨g, cap, cur, hv, _⟩
          · have := HFLL.out; rw [hx] at this; simp at this; omega
          · injection hv with h1 _ _; exact ⟨g, h1⟩
        have hfp : 0 < f.length := by rw [← HFLL.out]; omega
        have cc : w2.cell? ⟨g, 0, none⟩ = some (.int .u8 tag) := by
          have := (Seg.of_row N2.row).at 0 hfp
          rw [HF0.out] at this; exact this
        have hfz := N2.row.frozen 0
        have hfl0 : (0 : Int) < (fl : Int) := by omega
        have HN3 := hide (N2.set 0 ((tag.toNat ^^^ mask % 256 : Nat) : Int))
        have hlo := N2.lo g rfl
        have HNX2 := hide (HN1.out.keep N2.touch)
        clear R2 G2 N2 HSR
        go_wp2_with fail
        have hsz01 : w0.heap.size ≤ w1.heap.size := HN1.out.touch.size
        have t23 : Touch (fun k => k = g) w2 (w2.setCell ⟨g, 0, none⟩ (.int .u8 ((tag.toNat ^^^ mask % 256 : Nat) : Int))) := (Touch.refl (fun k => k = g) w2).setCell (p := ⟨g, 0, none⟩) (fun _ => rfl) _
        have HN4 : Hid (New w0 (w2.setCell ⟨g, 0, none⟩ (.int .u8 ((tag.toNat ^^^ mask % 256 : Nat) : Int))) (.slice bo fl bc) f) := hide ⟨HNX2.out.row.touch t23 (fun k hk e => by have := HN1.out.row.lt hk; omega), HN1.out.lo, HNX2.out.touch.trans t23 (fun k hk e => by omega)⟩
        rw [HXX.out]
        generalize w2.setCell ⟨g, 0, none⟩ (.int .u8 ((tag.toNat ^^^ mask % 256 : Nat) : Int)) = w3 at *
        have h8s : In8 (f.set 0 ((tag.toNat ^^^ mask % 256 : Nat) : Int)) := in8_set HF8.out _ _ (Nat.xor_lt_two_pow (n := 8) (by omega) (by omega))
        have hls : (f.set 0 ((tag.toNat ^^^ mask % 256 : Nat) : Int)).length = fl := by rw [List.length_set]; exact HFLL.out.symm
        obtain ⟨o3, q3⟩ := HN3.out.txt h8s (by rw [hls]; omega)
        have HT3 := hide (HT1.out.trans HN3.out.touch (fun _ _ h => h))
        have RD0 := read_any ⟨some ⟨g, 0, none⟩, c2, f.set 0 ((tag.toNat ^^^ mask % 256 : Nat) : Int)⟩ w3 (hT.touch HT3.out (fun h => h)) o3 q3 (by simp only; rw [hls]; omega)
        simp only [HTAG.out hm0, hls] at RD0
        have RD1 := hide RD0
        clear RD0 o3 q3 hls h8s t23 HN3 HNX2 cc hfz hfp HXX
        refine RD1.out.mono ?_
        rintro e w4 ⟨ro, rn, rc, rfl, N4⟩
        have tx : Touch (fun _ => False) w3 (w4.alloc (.cells #[.int .u8 0, .slice ro rn rc] 32)) := N4.touch.alloc _
        have HNX := hide (HN4.out.keep tx)
        have HTX := hide (HT3.out.trans tx (fun _ _ h => h))
        clear RD1 N4 HN4 HT3 tx HN1 HT1
        go_wp2_with fail
        refine (SP.out _ HTX.out HNX.out).mono ?_
        rintro e w5 ⟨so, sn, sc, ys, rfl, N5, S5⟩
        have hsn := N5.row.len
        have hsl : fl = sn := by rw [hsn, S5.len, HFLL.out]
        subst hsl
        have CV1 := conv_seg (Seg.of_row N5.row) sc
        rw [S5.len, ← HFLL.out] at CV1
        have CV2 := conv_seg (Seg.of_row (HNX.out.keep N5.touch).row) bc
        rw [← HFLL.out] at CV2
        have T5 := HTX.out.trans N5.touch (fun _ _ h => h)
        have HT5 := hide T5
        by_cases hys : f = ys
        · subst hys
          clear N5 S5 SP T5 hsn
          go_wp2_with fail
          refine (KN.out _ HT5.out).mono ?_
          rintro e w6 ⟨rfl, t6⟩
          go_wp2_with fail
          go_ret
          exact ⟨rfl, HT5.out.trans t6 (fun _ _ h => h)⟩
        · have hst : ((strOfNums ys).toList == (strOfNums f).toList) = false := str_beq S5.in8 HF8.out (fun e => hys e.symm)
          obtain ⟨o5, q5⟩ := N5.txt S5.in8 (by rw [S5.len, ← HFLL.out]; omega)
          have RD := hide (read_any ⟨so, sc, ys⟩ w5 (hT.touch T5 (fun h => h)) o5 q5 (by simp only; rw [S5.len, ← HFLL.out]; omega))
          simp only [HBODY.out ys S5 hys] at RD
          rw [S5.len, ← HFLL.out] at RD
          clear N5 S5 SP T5 hsn o5 q5
          go_wp2_with fail
          refine RD.out.mono ?_
          rintro e w6 ⟨ro, rn, rc, rfl, N6⟩
          have HT6 := hide ((HT5.out.trans N6.touch (fun _ _ h => h)).alloc (.cells #[.int .u8 0, .slice ro rn rc] 32))
          clear RD N6
          go_wp2_with fail
          refine (KN.out _ HT6.out).mono ?_
          rintro e w7 ⟨rfl, t7⟩
          go_wp2_with fail
          go_ret
          exact ⟨rfl, HT6.out.trans t7 (fun _ _ h => h)⟩
    · have hm1 : (mask : Int) % 256 = 0 := by omega
      have HNX := hide HN1.out
      have HTX := hide HT1.out
      go_wp2_with fail
      refine (SP.out w1 HTX.out HNX.out).mono ?_
      rintro e w5 ⟨so, sn, sc, ys, rfl, N5, S5⟩
      have hsn := N5.row.len
      have hsl : fl = sn := by rw [hsn, S5.len, HFLL.out]
      subst hsl
      have CV1 := conv_seg (Seg.of_row N5.row) sc
      rw [S5.len, ← HFLL.out] at CV1
      have CV2 := conv_seg (Seg.of_row (HNX.out.keep N5.touch).row) bc
      rw [← HFLL.out] at CV2
      have T5 := HTX.out.trans N5.touch (fun _ _ h => h)
      have HT5 := hide T5
      by_cases hys : f = ys
      · subst hys
        clear N5 S5 SP T5 hsn
        go_wp2_with fail
        refine (KN.out _ HT5.out).mono ?_
        rintro e w6 ⟨rfl, t6⟩
        go_wp2_with fail
        go_ret
        exact ⟨rfl, HT5.out.trans t6 (fun _ _ h => h)⟩
      · have hst : ((strOfNums ys).toList == (strOfNums f).toList) = false := str_beq S5.in8 HF8.out (fun e => hys e.symm)
        obtain ⟨o5, q5⟩ := N5.txt S5.in8 (by rw [S5.len, ← HFLL.out]; omega)
        have RD := hide (read_any ⟨so, sc, ys⟩ w5 (hT.touch T5 (fun h => h)) o5 q5 (by simp only; rw [S5.len, ← HFLL.out]; omega))
        simp only [HBODY.out ys S5 hys] at RD
        rw [S5.len, ← HFLL.out] at RD
        clear N5 S5 SP T5 hsn o5 q5
        go_wp2_with fail
        refine RD.out.mono ?_
        rintro e w6 ⟨ro, rn, rc, rfl, N6⟩
        have HT6 := hide ((HT5.out.trans N6.touch (fun _ _ h => h)).alloc (.cells #[.int .u8 0, .slice ro rn rc] 32))
        clear RD N6
        go_wp2_with fail
        refine (KN.out _ HT6.out).mono ?_
        rintro e w7 ⟨rfl, t7⟩
        go_wp2_with fail
        go_ret
        exact ⟨rfl, HT6.out.trans t7 (fun _ _ h => h)⟩

end Go.Proofs.YtfeifobljgmkkabDoor
