/- Line: a pane's line (the document's). Text: panes' lines (the document's). digit: what a byte says to the base 16 (the document's). -/
import Derived.Test.YtamfcmmhmfhhkaaDoorG8
import Derived.Test.YtamfcmmhmfhhkaaDoorG17
import Derived.Lib.AppendStr
import Derived.Test.YtamfcmmhmfhhkaaDoorG9
import Derived.Test.YtamfcmmhmfhhkaaDoorG16
namespace Go.Proofs.YtamfcmmhmfhhkaaDoor
open Go.RowKit

set_option maxRecDepth 100000 in
set_option maxHeartbeats 4000000 in
theorem rline_any (p : Pn) (hp : NumOk p) (w : World) : Calls Tryd.prog 9 #[pnv p] w fun e w' => e = .returned (.tuple #[.string (if mayP p then lineB p else ⟨#[]⟩), .int .i64 (if mayP p then 0 else 2)]) ∧ Calm w w' := by
  have T0 := hide ((Touch.refl (fun _ => False) w).alloc (.cells (pnc p) 29))
  have A0 := hide (al_new w (.cells (pnc p) 29))
  have CM : Hid (∀ W, _) := hide fun W => may_any p W
  have CN : Hid (∀ W, _) := hide fun W => numbers_any p W
  have CD := hide (fun i (hi : i < 7) W => digitsI_any ((numsP p).getD i 0) (hp i hi).1 (hp i hi).2 W)
  have CE : Hid (∀ W, _) := hide fun W => name_any p.d W
  have CQ : Hid (p.k.size ≤ 256 → ∀ W, _) := hide fun h W => quote_any p.k (by omega) W
  have hsz : Hid (p.k.size ≤ 256 → ∀ i, i ≤ 7 → (txL p i).size ≤ 1040 + 22 * i) := hide fun hk => txL_size hk hp
  cases hm : mayP p with
  | false =>
    rw [hm] at CM
    go_enter Tryd.func9, Tryd.ntmps9
    obtain ⟨⟨c0, c1, c2, c3, c4⟩, c5, c6, c7, c8⟩ := pn_cells A0.out
    go_wp2_with fail
    refine (CM.out _).mono ?_
    rintro r w1 ⟨rfl, T1⟩
    have HT := hide (T0.out.tr T1)
    clear T1 c0 c1 c2 c3 c4 c5 c6 c7 c8
    go_wp2_with fail
    go_ret2
    exact ⟨rfl, HT.out⟩
  | true =>
    rw [hm] at CM
    have hk : p.k.size ≤ 256 := by
      unfold mayP at hm
      exact (of_decide_eq_true hm).1
    have SZ := hide (hsz.out hk)
    have C0 := hide (CQ.out hk)
    have HL : Hid (lineB p = txL p 7) := hide rfl
    generalize lineB p = R at *
    obtain ⟨SA, hSA⟩ : ∃ SA, SA = strOfNums (quoA p.k) ++ (⟨#[32]⟩ : ByteArray) := ⟨_, rfl⟩
    obtain ⟨SB, hSB⟩ : ∃ SB, SB = SA ++ nameB p.d := ⟨_, rfl⟩
    have l1 : (strOfNums (quoA p.k)).size ≤ 1026 := by rw [strOfNums_size]; exact quoA_len hk
    have l2 := nameB_size p.d
    have l3 : SA.size = (strOfNums (quoA p.k)).size + 1 := by rw [hSA, ByteArray.size_append]; rfl
    have GA : Hid (strOfNums (quoA p.k) ++ (⟨#[32]⟩ : ByteArray) = SA ∧ ((strOfNums (quoA p.k)).size : Int) + 1 ≤ 9223372036854775807 ∧ ((strOfNums (quoA p.k)).size : Int) + ((⟨#[32]⟩ : ByteArray).size : Int) ≤ 9223372036854775807) := hide ⟨hSA.symm, by omega, by have e : (⟨#[32]⟩ : ByteArray).size = 1 := rfl; omega⟩
    have GB : Hid (SA ++ nameB p.d = SB ∧ (SA.size : Int) + ((nameB p.d).size : Int) ≤ 9223372036854775807) := hide ⟨hSB.symm, by omega⟩
    obtain ⟨f, hf⟩ : ∃ f : Nat → ByteArray, ∀ i, f i = txL p i := ⟨fun i => txL p i, fun _ => rfl⟩
    have F0 : Hid (f 0 = SB) := hide (by rw [hf, hSB, hSA]; rfl)
    have FS : Hid (∀ i, i < 7 → f (i + 1) = (f i ++ (⟨#[32]⟩ : ByteArray)) ++ intB ((numsP p).getD i 0) ∧ (f i).size ≤ 2000 ∧ (intB ((numsP p).getD i 0)).size ≤ 21) := hide fun i hi => ⟨by rw [hf, hf]; rfl, by rw [hf]; have := SZ.out i (by omega); omega, intB_size (hp i hi).1 (hp i hi).2⟩
    rw [← hf 7] at HL
    clear CQ hsz hm hSA hSB hf l1 l2 l3 SZ
    generalize strOfNums (quoA p.k) = QQ at *
    generalize nameB p.d = NN at *
    go_enter Tryd.func9, Tryd.ntmps9
    obtain ⟨⟨c0, c1, c2, c3, c4⟩, c5, c6, c7, c8⟩ := pn_cells A0.out
    go_wp2_with fail
    refine (CM.out _).mono ?_
    rintro r w1 ⟨rfl, T1⟩
    have A1 := hide (T1.at A0.out)
    have HT1 := hide (T0.out.tr T1)
    clear T1 c0 c1 c2 c3 c4 c5 c6 c7 c8 CM
    go_wp2_with fail
    refine wp_region_held (S := Calm w1) (by kernel_rfl) ?_
    have hT0 : Calm w1 { w1 with drawn := w1.drawn + 1 } := (Touch.refl _ w1).drew
    refine wpAnyH_yield 0 12 (.pointer (some ⟨w.heap.size, 0, none⟩)) rfl rfl (by kernel_rfl) (by kernel_rfl) (by kernel_rfl) (fun _ _ _ h => h) (by kernel_rfl) (fun W hW => by go_simp) (by assumption) rfl rfl ?_
    simp only [Act.put, List.setIfInBounds_toArray, List.set_cons_zero, List.set_cons_succ]
    refine wpAnyH_yield 1 13 (.string p.k) rfl rfl (by kernel_rfl) (by kernel_rfl) (by kernel_rfl) (fun _ _ _ h => h) (by kernel_rfl) (fun W hW => by obtain ⟨⟨q, -⟩, -⟩ := pn_cells (hW.at A1.out); go_simp) (by assumption) rfl rfl ?_
    simp only [Act.put, List.setIfInBounds_toArray, List.set_cons_zero, List.set_cons_succ]
    refine wpAnyH_yield 4 16 (.pointer (some ⟨w.heap.size, 3, none⟩)) rfl rfl (by kernel_rfl) (by kernel_rfl) (by kernel_rfl) (fun _ _ _ h => h) (by kernel_rfl) (fun W hW => by go_simp) (by assumption) rfl rfl ?_
    simp only [Act.put, List.setIfInBounds_toArray, List.set_cons_zero, List.set_cons_succ]
    refine wpAnyH_yield 5 17 (.int .i64 p.d) rfl rfl (by kernel_rfl) (by kernel_rfl) (by kernel_rfl) (fun _ _ _ h => h) (by kernel_rfl) (fun W hW => by obtain ⟨⟨-, -, -, q, -⟩, -⟩ := pn_cells (hW.at A1.out); go_simp) (by assumption) rfl rfl ?_
    simp only [Act.put, List.setIfInBounds_toArray, List.set_cons_zero, List.set_cons_succ]
    refine wpAnyH_enter 2 14 26 #[.string p.k] rfl rfl (by kernel_rfl) (by kernel_rfl) (by kernel_rfl) ?_
    refine (C0.out _).mono ?_
    rintro r w2 ⟨rfl, T2⟩
    have h2 : Calm w1 w2 := hT0.tr T2
    refine ⟨_, rfl, h2, ?_⟩
    simp only [Act.put, List.setIfInBounds_toArray, List.set_cons_zero, List.set_cons_succ]
    refine wpAnyH_yield 3 15 (.string SA) rfl rfl (by kernel_rfl) (by kernel_rfl) (by kernel_rfl) (fun _ _ _ h => h) (by kernel_rfl) (fun W hW => by obtain ⟨q1, q2, q3⟩ := GA.out; go_simp; omega) (by assumption) rfl rfl ?_
    simp only [Act.put, List.setIfInBounds_toArray, List.set_cons_zero, List.set_cons_succ]
    refine wpAnyH_enter 6 18 27 #[.int .i64 p.d] rfl rfl (by kernel_rfl) (by kernel_rfl) (by kernel_rfl) ?_
    refine (CE.out _).mono ?_
    rintro r w3 ⟨rfl, hq3⟩
    subst hq3
    refine ⟨_, rfl, h2, ?_⟩
    simp only [Act.put, List.setIfInBounds_toArray, List.set_cons_zero, List.set_cons_succ]
    refine wpAnyH_yield 7 19 (.string SB) rfl rfl (by kernel_rfl) (by kernel_rfl) (by kernel_rfl) (fun _ _ _ h => h) (by kernel_rfl) (fun W hW => by obtain ⟨q1, q2⟩ := GB.out; go_simp; omega) (by assumption) rfl rfl ?_
    simp only [Act.put, List.setIfInBounds_toArray, List.set_cons_zero, List.set_cons_succ]
    refine wpAnyH_yield 8 5 (.string SB) rfl rfl (by kernel_rfl) (by kernel_rfl) (by kernel_rfl) (fun _ _ _ h => h) (by kernel_rfl) (fun W hW => by kernel_rfl) (by assumption) rfl rfl ?_
    simp only [Act.put, List.setIfInBounds_toArray, List.set_cons_zero, List.set_cons_succ]
    refine wpAnyH_done (by kernel_rfl) ?_ _
    have A2 := hide (h2.at A1.out)
    have HT2 := hide (HT1.out.tr h2)
    clear T2 h2 hT0 A1 A0 T0 HT1
    obtain ⟨⟨c0, c1, c2, c3, c4⟩, c5, c6, c7, c8⟩ := pn_cells A2.out
    go_wp2_with fail
    refine (CN.out _).mono ?_
    rintro r w4 ⟨g, rfl, hM, -, T4⟩
    have SX : Hid (∀ j, j < 7 → ∃ g2 off, some (⟨g, 0, none⟩ : Addr) = some ⟨g2, off, none⟩ ∧ _) := hide fun j (hj : j < 7) => in_W hM j hj
    have HT4 := hide (HT2.out.tr T4)
    clear c0 c1 c2 c3 c4 c5 c6 c7 c8 hM T4 CN A2 HT2
    go_wp2_with fail
    go_loopw [5, 7] (fun s5 s7 wr => ∃ i : Nat, s7 = .int .i64 (i : Int) ∧ i ≤ 7 ∧ s5 = .string (f i) ∧ Calm w4 wr) (fun _ s7 _ => 7 - (intOf s7).toNat)
    case atStart => exact ⟨0, rfl, by omega, by rw [F0.out], Touch.refl _ _⟩
    case round =>
      obtain ⟨i, rfl, hi, rfl, hC⟩ := hrel
      by_cases hlt : i < 7
      · have hltz : (i : Int) < 7 := by omega
        obtain ⟨g2, off, e1, ck⟩ := SX.out i hlt
        injection e1 with e1
        injection e1 with e3 e4
        subst e3 e4
        simp only [Nat.zero_add] at ck
        have cx := ck wr hC
        have CI := hide (CD.out i hlt)
        obtain ⟨fs, s1, s2⟩ := FS.out i hlt
        have HC := hide hC
        obtain ⟨Y1, hY1⟩ : ∃ Y1, Y1 = f i ++ (⟨#[32]⟩ : ByteArray) := ⟨_, rfl⟩
        have y1 : Y1.size = (f i).size + 1 := by rw [hY1, ByteArray.size_append]; rfl
        have G1 : Hid (binOp .add 9 (.string (f i)) (.string ⟨#[32]⟩) = pure (.string Y1)) := hide (by rw [hY1]; exact st_join _ _ _ (by have e : (⟨#[32]⟩ : ByteArray).size = 1 := rfl; omega))
        have G2 : Hid (binOp .add 9 (.string Y1) (.string (intB ((numsP p).getD i 0))) = pure (.string (f (i + 1)))) := hide (by rw [fs, ← hY1]; exact st_join _ _ _ (by omega))
        generalize intB ((numsP p).getD i 0) = NI at *
        generalize (numsP p).getD i 0 = x at *
        generalize hfi : f i = fi at *
        generalize hfi1 : f (i + 1) = fi1 at *
        have H1 := hide hfi1
        clear fs s1 s2 y1 hY1 hfi hfi1 hC ck CD SX FS F0 HL
        have g1 := G1.out
        go_wp2_with fail
        refine (CI.out _).mono ?_
        rintro r w5 ⟨rfl, T5⟩
        have HC5 := hide (HC.out.tr T5)
        clear T5 g1
        have g2 := G2.out
        go_wp2_with fail
        go_roundw
        case rel => exact ⟨i + 1, by go_num, by omega, by rw [H1.out], HC5.out⟩
        case measure => simp [intOf]; omega
      · have hltz : ¬ (i : Int) < 7 := by omega
        obtain rfl : i = 7 := by omega
        have HC := hide (HT4.out.tr hC)
        have hR := HL.out
        clear SX hC FS
        go_wp2_with fail
        go_ret2
        exact ⟨rfl, HC.out⟩

end Go.Proofs.YtamfcmmhmfhhkaaDoor

namespace Go.Proofs.YtamfcmmhmfhhkaaDoor
open Go.RowKit

set_option maxRecDepth 100000 in
set_option maxHeartbeats 4000000 in
theorem rtextP_any (L : List Pn) (hl : L.length ≤ 100000) (hp : ∀ j, j < L.length → NumOk (L.getD j pn0)) (ao : Option Addr) (ac : Nat) (w : World) (hm : encP.Mem w ao L) : Calls Tryd.prog 11 #[.slice ao L.length ac] w fun e w' => e = .returned (.tuple #[.string (if mayT L then strOfNums (txT L L.length) else ⟨#[]⟩), .int .i64 (if mayT L then 0 else 2)]) ∧ Calm w w' := by
  have SA : Hid (∀ j, j < L.length → ∃ g off, ao = some ⟨g, off, none⟩ ∧ ∀ W, Calm w W → pcell W g (off + j * 9) (L.getD j pn0)) := hide fun j hj => pn_W hm j hj
  have CL : Hid (∀ j, j < L.length → ∀ W, _) := hide fun j hj W => rline_any (L.getD j pn0) (hp j hj) W
  have TN : Hid (∀ i, txT L (i + 1) = (txT L i ++ bsL (lineB (L.getD i pn0))) ++ [10]) := hide fun _ => rfl
  have TL : Hid (∀ i, i ≤ L.length → (∀ j, j < i → mayP (L.getD j pn0) = true) → (txT L i).length ≤ 1200 * i) := hide (txT_len hp)
  have T0 : Hid (txT L 0 = []) := hide rfl
  have MN : Hid (∀ j, j < L.length → mayP (L.getD j pn0) = false → mayT L = false) := hide fun j => mayT_no
  have MY : Hid ((∀ j, j < L.length → mayP (L.getD j pn0) = true) → mayT L = true) := hide mayT_yes
  have LZ : Hid (∀ j, j < L.length → mayP (L.getD j pn0) = true → (lineB (L.getD j pn0)).size ≤ 1194) := hide fun j hj h => by
    unfold mayP at h
    exact txL_size (of_decide_eq_true h).1 (hp j hj) 7 (by omega)
  generalize mayT L = b at *
  generalize ht : txT L = t at *
  obtain ⟨x, hx⟩ : ∃ x : Nat → Pn, ∀ j, L.getD j pn0 = x j := ⟨fun j => L.getD j pn0, fun _ => rfl⟩
  simp only [hx] at SA CL TN TL MN MY LZ
  clear hm hp ht hx
  generalize hn : L.length = n at *
  clear hn
  go_enter Tryd.func11, Tryd.ntmps11
  go_wp2_with fail
  go_loopw [4, 5] (fun s4 s5 wr => ∃ (i : Nat) (a : Option Addr) (c : Nat), s5 = .int .i64 (i : Int) ∧ i ≤ n ∧ s4 = .slice a (t i).length c ∧ (∀ j, j < i → mayP (x j) = true) ∧ encB.Own 5 wr w.heap.size (.slice a (t i).length c) (t i) ∧ Calm w wr) (fun _ s5 _ => n - (intOf s5).toNat)
  case atStart => exact ⟨0, none, 0, rfl, by omega, by rw [T0.out]; rfl, fun j hj => by omega, by rw [T0.out]; exact Rc.Own.nil _ _ _, Touch.refl _ _⟩
  case round =>
    obtain ⟨i, a, c, rfl, hi, rfl, hok, OW, TE⟩ := hrel
    by_cases hlt : i < n
    · have hltz : (i : Int) < (n : Int) := by omega
      obtain ⟨g, off, rfl, ck⟩ := SA.out i hlt
      obtain ⟨⟨c0, c1, c2, c3, c4⟩, c5, c6, c7, c8⟩ := ck wr TE
      have CI := hide (CL.out i hlt)
      have HOW := hide OW
      have HTE := hide TE
      have LE := TL.out i hi hok
      have TS := TN.out i
      have MNi := hide (MN.out i hlt)
      have HS : Hid (mayP (x i) = true → ∀ j, j < i + 1 → mayP (x j) = true) := hide fun h j hj => by
        by_cases e : j = i
        · subst e; exact h
        · exact hok j (by omega)
      have HZ := hide (LZ.out i hlt)
      clear SA CL OW TE TL TN MN hok ck T0 MY LZ
      cases hm : mayP (x i) with
      | false =>
        have CI' : Hid (∀ W, Calls Tryd.prog 9 #[pnv (x i)] W fun e w' => e = .returned (.tuple #[.string ⟨#[]⟩, .int .i64 2]) ∧ Calm W w') := hide fun W => by
          have h := CI.out W
          rw [hm] at h
          exact h
        have hb := MNi.out hm
        subst hb
        clear CI MNi HS HZ hm LE TS HOW
        go_wp2_with fail
        refine (CI'.out _).mono ?_
        rintro r w1 ⟨rfl, T1⟩
        have HT := hide (HTE.out.tr T1)
        clear c0 c1 c2 c3 c4 c5 c6 c7 c8 T1
        go_wp2_with fail
        go_ret2
        exact ⟨rfl, HT.out⟩
      | true =>
        have CI' : Hid (∀ W, Calls Tryd.prog 9 #[pnv (x i)] W fun e w' => e = .returned (.tuple #[.string (lineB (x i)), .int .i64 0]) ∧ Calm W w') := hide fun W => by
          have h := CI.out W
          rw [hm] at h
          exact h
        have HS2 := hide (HS.out hm)
        have hz := HZ.out hm
        have HTS := hide TS
        clear CI MNi HS HZ hm TS
        generalize lineB (x i) = s at *
        go_wp2_with fail
        refine (CI'.out _).mono ?_
        rintro r w1 ⟨rfl, T1⟩
        have HT := hide (HTE.out.tr T1)
        have OW1 := Rc.Own.calm HOW.out T1
        obtain ⟨a2, p2, w2, hr2, ow2, t2⟩ := by_appS s OW1 HT.out.size (by omega)
        have HT2 := hide (Rc.Own.fresh (w0 := w) OW1 t2 (fun _ h => h) HT.out (Nat.le_refl _))
        have e2 : (t i ++ bsL s).length ≤ 1200 * i + 1194 := by rw [List.length_append, bsL_len]; omega
        obtain ⟨a3, p3, w3, hr3, ow3, t3⟩ := by_app 10 ow2 HT2.out.size (by omega)
        have HT3 := hide (Rc.Own.fresh (w0 := w) ow2 t3 (fun _ h => h) HT2.out (Nat.le_refl _))
        rw [← HTS.out] at ow3
        have e3 : (t i ++ bsL s).length + 1 = (t (i + 1)).length := by rw [HTS.out]; exact (len_snoc _ _).symm
        rw [e3] at hr3
        have HR2 := hide hr2
        have HR3 := hide hr3
        have HO := hide ow3
        clear c0 c1 c2 c3 c4 c5 c6 c7 c8 T1 OW1 hr2 ow2 t2 hr3 ow3 t3 e2 e3 LE hz HOW CI'
        generalize (t i ++ bsL s).length = l2 at *
        go_wp2_with (at_builtin; first | refine Rc.wpList_appR rfl (.tmp 25) (.tmp 26) 55 9 rfl _ _ _ rfl rfl HR2.out ?_ | refine Rc.wpList_appR rfl (.tmp 28) (.tmp 29) 55 55 rfl _ _ _ rfl rfl HR3.out ?_)
        go_roundw
        case rel => exact ⟨i + 1, a3, p3, by go_num, by omega, rfl, HS2.out, HO.out, HT3.out⟩
        case measure => simp [intOf]; omega
    · have hltz : ¬ (i : Int) < (n : Int) := by omega
      obtain rfl : i = n := by omega
      have hb := MY.out hok
      subst hb
      have HTE := hide TE
      have CV : Hid ((convert 55 9 (.slice a (t i).length c)).run Tryd.prog wr = .ok (.string (strOfNums (t i))) wr) := hide (by
        by_cases h0 : t i = []
        · rw [h0] at OW ⊢
          exact conv_none OW
        · exact conv_own OW h0)
      have cv := CV.out
      clear CV OW TE SA CL TN TL T0 MN MY LZ hok
      go_wp2_with fail
      go_ret2
      exact ⟨rfl, HTE.out⟩

end Go.Proofs.YtamfcmmhmfhhkaaDoor

namespace Go.Proofs.YtamfcmmhmfhhkaaDoor
open Go.RowKit

set_option maxRecDepth 100000 in
set_option maxHeartbeats 1000000 in
theorem digit_any (c : Int) (w : World) : Calls Tryd.prog 54 #[.int .u8 c] w fun e w' => e = .returned (.int .i64 (digX c)) ∧ w' = w := by
  have CH := hide (fun (i : Nat) (hi : i < 16) W => hex_any (i : Int) (by omega) (by omega) W)
  have DN : Hid ((∀ j : Nat, j < 16 → hexB (j : Int) ≠ c) → digX c = -1) := hide fun h => digX_no fun n h0 h1 => by
    have := h n.toNat (by omega)
    rwa [Int.toNat_of_nonneg h0] at this
  have DY : Hid (∀ j : Nat, j < 16 → hexB (j : Int) = c → digX c = (j : Int)) := hide fun j hj e => by rw [← e]; exact digX_hex (by omega) (by omega)
  generalize digX c = X at *
  go_enter Tryd.func54, Tryd.ntmps54
  go_wp2_with fail
  go_loopw [3] (fun s3 wr => ∃ i : Nat, s3 = .int .i64 (i : Int) ∧ i ≤ 16 ∧ (∀ j : Nat, j < i → hexB (j : Int) ≠ c) ∧ wr = w) (fun s3 _ => 16 - (intOf s3).toNat)
  case atStart => exact ⟨0, rfl, by omega, fun j hj => by omega, rfl⟩
  case round =>
    obtain ⟨i, rfl, hi, hno, rfl⟩ := hrel
    by_cases hlt : i < 16
    · have hltz : (i : Int) < 16 := by omega
      have C1 := hide (CH.out i hlt)
      have HN := hide hno
      have q1 : IntKind.u8.wrap (i : Int) = (i : Int) := by rw [IntKind.wrap_u8]; omega
      clear hno CH
      by_cases he : hexB (i : Int) = c
      · have hX := DY.out i hlt he
        have HX := hide hX
        generalize hexB (i : Int) = y at *
        clear hX DN DY HN
        go_wp2_with fail
        refine (C1.out _).mono ?_
        rintro r w5 ⟨rfl, hq5⟩
        subst hq5
        have he' : (y == c) = true := by rw [he]; simp
        go_wp2_with fail
        go_ret
        exact ⟨by rw [HX.out]; rfl, rfl⟩
      · have HS : Hid (∀ j : Nat, j < i + 1 → hexB (j : Int) ≠ c) := hide fun j hj => by
          by_cases e : j = i
          · subst e; exact he
          · exact HN.out j (by omega)
        generalize hexB (i : Int) = y at *
        clear DN DY HN
        go_wp2_with fail
        refine (C1.out _).mono ?_
        rintro r w5 ⟨rfl, hq5⟩
        subst hq5
        have he' : (y == c) = false := by rw [beq_eq_false_iff_ne]; exact he
        go_wp2_with fail
        go_roundw
        case rel => exact ⟨i + 1, by go_num, by omega, HS.out, trivial⟩
        case measure => simp [intOf]; omega
    · have hltz : ¬ (i : Int) < 16 := by omega
      obtain rfl : i = 16 := by omega
      have hX := DN.out hno
      have HX := hide hX
      clear hX DN DY hno CH
      go_wp2_with fail
      go_ret
      exact ⟨by rw [HX.out]; rfl, rfl⟩

end Go.Proofs.YtamfcmmhmfhhkaaDoor
