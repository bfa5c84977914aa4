/- The program's Begins, Alike. The program's Alike. A copy of a text (strings.Clone). The program's apart: keys that share no memory. -/
import Derived.Test.YtamfcmmhmfhhkaaGreatDoorG24
import Derived.Test.YtamfcmmhmfhhkaaGreatDoorG25
import Derived.Test.YtamfcmmhmfhhkaaGreatDoorG23
import Derived.Deep.CutRange
import Derived.Test.YtamfcmmhmfhhkaaGreatDoorG2
import Derived.Lib.Strings
import Derived.Lib.BufferWrite
import Derived.Lib.UnsafeStr
import Derived.Laws.MakeOwn
import Derived.BigQuiet
import Derived.Test.YtamfcmmhmfhhkaaGreatDoorG8
import Derived.Test.YtamfcmmhmfhhkaaGreatDoorG14
namespace Go.Proofs.YtamfcmmhmfhhkaaGreatDoor
open Go.RowKit LM
attribute [local go_sem] Oper.semAt_some

set_option maxRecDepth 100000 in
set_option maxHeartbeats 4000000 in
theorem begins_any (A B : List Pn) (ao bo : Option Addr) (ac bc : Nat) (w : World) (ha : encP.Sl w ao ac A) (hb : encP.Sl w bo bc B) (hl : A.length ≤ 1000) (hm : B.length ≤ 1000) : Calls Tryz.prog 16 #[.slice ao A.length ac, .slice bo B.length bc] w fun e w' => e = .returned (.bool (beginsP A B)) ∧ Calm w w' := by
  have CB : Hid (∀ W, Calm w W → Calls Tryz.prog 22 #[.slice bo B.length bc] W fun e w' => ∃ m X, e = .returned (.pointer (some ⟨m, 0, none⟩)) ∧ Bk W.heap.size m B X w' ∧ W.heap.size ≤ m ∧ Calm W w') := hide fun W hW => byKeys_any B bo bc W (Rc.Mem.calm hb.mem hW) (by omega)
  have CA : Hid (∀ W, Calm w W → Calls Tryz.prog 22 #[.slice ao A.length ac] W fun e w' => ∃ m X, e = .returned (.pointer (some ⟨m, 0, none⟩)) ∧ Bk W.heap.size m A X w' ∧ W.heap.size ≤ m ∧ Calm W w') := hide fun W hW => byKeys_any A ao ac W (Rc.Mem.calm ha.mem hW) (by omega)
  obtain ⟨z, hz⟩ : ∃ z, z = beginsP A B := ⟨_, rfl⟩
  rw [← hz]
  have HZ := hide hz
  clear hz
  have HLA := hide hl
  have HLB := hide hm
  clear ha hb hl hm
  refine (callsIn_wide (n := 3)).1 (callsIn_of_wp_marks Tryz.func16 rfl trivial ?_ rfl)
  simp only [Tryz.ntmps16, List.size_toArray, List.length_cons, List.length_nil, Nat.reduceAdd, Nat.reduceSub, Array.replicate_succ, Array.replicate_zero, List.push_toArray, List.append_toArray, List.nil_append, List.cons_append]
  gi_wp2
  have A4 := hide (al_new w (.cells #[.bool false] 4))
  have T0 := hide ((Touch.refl (fun _ => False) w).alloc (.cells #[.bool false] 4))
  refine ⟨trivial, (callsIn_wide.2 (CB.out _ T0.out)).mono ?_⟩
  rintro e w1 ⟨m1, X1, rfl, K1, M1, T1⟩
  have A41 := hide (T1.at A4.out)
  have TT1 := hide (T0.out.tr T1)
  have HK1 := hide K1
  clear CB A4 T0 T1 K1 M1
  obtain ⟨B4, hB4⟩ : ∃ B4, B4 = w.heap.size := ⟨_, rfl⟩
  rw [← hB4] at A41 ⊢
  have HB4 := hide hB4
  clear hB4
  gi_wp2
  have A5 := hide (al_new w1 (.cells #[.pointer (some ⟨m1, 0, none⟩)] 49))
  have T1a := hide ((Touch.refl (fun _ => False) w1).alloc (.cells #[.pointer (some ⟨m1, 0, none⟩)] 49))
  refine ⟨trivial, (callsIn_wide.2 (CA.out _ (TT1.out.tr T1a.out))).mono ?_⟩
  rintro e w2 ⟨m2, X2, rfl, K2, M2, T2⟩
  have A42 := hide (T2.at (T1a.out.at A41.out))
  have A52 := hide (T2.at A5.out)
  have TT2 := hide ((TT1.out.tr T1a.out).tr T2)
  have HK12 := hide (HK1.out.calm (T1a.out.tr T2))
  have HK2 := hide K2
  clear CA A5 T1a T2 K2 M2 A41 TT1 HK1
  obtain ⟨B5, hB5⟩ : ∃ B5, B5 = w1.heap.size := ⟨_, rfl⟩
  rw [← hB5] at A52 ⊢
  clear hB5
  gi_wp2
  refine ⟨trivial, (callsIn_wide.2 (LM.all_any (some ⟨m2, 0, none⟩) w2)).mono ?_⟩
  rintro e w3 ⟨fv, rfl, hW, T3⟩
  obtain ⟨lbv, rfl⟩ := hW.shape
  have A43 := hide (T3.at A42.out)
  have A53 := hide (T3.at A52.out)
  have TT3 := hide (TT2.out.tr T3)
  have HK13 := hide (HK12.out.calm T3)
  have HK23 := hide (HK2.out.calm T3)
  have HW := hide hW
  clear hW T3 A42 A52 TT2 HK12 HK2
  gi_wp2
  have HNO : Hid (∀ k, k ∈ keysP A → okB A B k = false → z = false) := hide fun k hk h => by
    rw [HZ.out]; unfold beginsP; rw [List.all_eq_false]; exact ⟨k, hk, by rw [h]; simp⟩
  have HYES : Hid ((∀ j (x : Rw), X2[j]? = some x → okB A B x.1 = true) → z = true) := hide fun h => by
    rw [HZ.out]; unfold beginsP; rw [List.all_eq_true]
    intro k hk
    obtain ⟨x, hx, rfl⟩ := (HK23.out.key k).2 ((keys_mem A k).1 hk)
    obtain ⟨j, hj, e⟩ := List.mem_iff_getElem.1 hx
    exact h j x (by rw [List.getElem?_eq_getElem hj, e])
  clear HZ
  have eL : Kd.list cmpS .all X2 = X2 := by
    show List.filter _ X2 = X2
    rw [List.filter_eq_self]
    intro a _
    rfl
  have SQ := Wl.seq cmpOf m2 .all lbv X2 (fun key => HK23.out.up.dec cmpS_ord key) ⟨by have := HK23.out.num; have := HLA.out; omega⟩
  rw [eL] at SQ
  have HSQ := hide SQ
  have HLB4 : Hid (w.heap.size ≤ B4 ∧ B4 < w3.heap.size ∧ B5 < w3.heap.size) := hide ⟨by rw [HB4.out]; exact Nat.le_refl _, lt_of_heap A43.out, lt_of_heap A53.out⟩
  have HKY : Hid (∀ x ∈ X2, x.1 ∈ keysP A) := hide fun x hx => (keys_mem A x.1).2 ((HK23.out.key x.1).1 ⟨x, hx, rfl⟩)
  clear SQ eL HB4
  generalize hAn : A.length = an at *
  generalize hBn : B.length = bn at *
  refine wpIn_range (gf := 58) (lb := lbv) rfl (enters_of Tryz.func58 (by kernel_rfl) rfl) HSQ.out (fun _ => rfl)
    (fun g => g = B4) ?hs (fun W h => ⟨HW.out.calm h, HK23.out.mt.calm h, trivial⟩)
    (fun k W => Calm w3 W ∧ ∀ (j : Nat) (x : Rw), j < k → X2[j]? = some x → okB A B x.1 = true)
    (fun c _ W => c = .ret ∧ z = false ∧ W.heap[B4]? = some (.cells #[.bool false] 4 (0, 0)) ∧ Calm w W)
    (fun _ x a' _ => a' = { tmps := #[.slice ao an ac, .slice bo bn bc, undef, undef, .pointer (some ⟨B4, 0, none⟩), .pointer (some ⟨B5, 0, none⟩), .string x.1, .slice x.2.1 x.2.2.1 x.2.2.2, undef, undef, .slice bo bn bc, .pointer (some ⟨m1, 0, none⟩), .slice ao an ac, .pointer (some ⟨m2, 0, none⟩), .func (.func 58) #[] lbv, .string x.1, .slice x.2.1 x.2.2.1 x.2.2.2, undef, undef, undef, undef, undef, undef, undef, undef, undef, undef, undef, undef, undef, undef, undef, undef, undef, undef, undef, undef], defers := [] })
    (fun k W W' h ht => ⟨h.1.trans ht (fun g hg s => by have := s.1; omega), h.2⟩) (fun k W l o o' h hl _ _ => ⟨h.1.trans (touch_put W l o') (fun g hg e => by omega), h.2⟩) (fun c k => ?xp) (fun k x a' => fun _ _ _ _ h _ _ _ => h) ⟨Touch.refl _ _, fun j x hj => by omega⟩ ?assign ?body ?done ?stop
  case hs =>
    rintro g rfl
    exact ⟨HLB4.out.2.1, fun cs fr he => by rw [A43.out] at he; injection he with he; injection he with _ he; exact absurd he (by decide)⟩
  case xp =>
    rintro W l o o' ⟨rfl, h0, h1, h2⟩ hl ho hoc
    have := HLB4.out
    have hs := TT3.out.size
    have tp := touch_put W l o'
    exact ⟨rfl, h0, tp.heap h1 (fun e => by omega), h2.trans tp (fun g hg e => by omega)⟩
  case assign =>
    rintro l k x W K hi hkm hx hK
    have HK := hide hK
    have HI := hide hi
    clear hK hi
    simp only [encs]
    gi_wp2
    exact HK.out _ _ (KeepsOthers.refl _) (Touch.refl _ _) HI.out rfl
  case body =>
    rintro l k x a' W ⟨hW, hOK⟩ hkm hx rfl
    have hxm : x ∈ X2 := List.mem_of_getElem? hx
    have hky := hide (HKY.out x hxm)
    have KW1 := HK13.out.calm hW
    have KW2 := HK23.out.calm hW
    obtain ⟨ow, -⟩ := KW1.at x.1
    have ox := KW2.row x hxm
    have CG := hide (LM.get_any cmpOf m1 x.1 W X1 KW1.mt trivial (KW1.up.dec cmpS_ord x.1))
    obtain ⟨c5, -⟩ := one_cell (hW.at A53.out)
    have b4 := hW.at A43.out
    have HSTEP : Hid (okB A B x.1 = true → ∀ (j : Nat) (y : Rw), j < k + 1 → X2[j]? = some y → okB A B y.1 = true) := hide fun h j y hj hy => by
      by_cases e : j = k
      · subst e; rw [hx] at hy; injection hy with hy; rw [← hy]; exact h
      · exact hOK j y (by omega) hy
    have HX := hide (HNO.out x.1 hky.out)
    have HOB : Hid (okB A B x.1 = (decide ((ofP A x.1).length ≤ (ofP B x.1).length) && decide (ofP A x.1 = (ofP B x.1).take (ofP A x.1).length))) := hide rfl
    obtain ⟨xk, xo, xn, xc⟩ := x
    have sx : encP.Sl W xo xc (ofP A xk) := Rc.Own.sl ox
    have ex : xn = (ofP A xk).length := (Rc.Own.mem ox).1
    have sq := Rc.Own.sl ow
    have eq : (was (cmpS xk) X1).2.1 = (ofP B xk).length := (Rc.Own.mem ow).1
    subst ex
    dsimp only at *
    have lQ : (ofP B xk).length ≤ 1000 := Nat.le_trans (ofP_le B xk) (by have := HLB.out; omega)
    have lP : (ofP A xk).length ≤ 1000 := Nat.le_trans (ofP_le A xk) (by have := HLA.out; omega)
    generalize was (cmpS xk) X1 = v at *
    obtain ⟨qo, qn, qc⟩ := v
    dsimp only at *
    subst eq
    have SX := hide sx
    have SQ2 := hide sq
    have HW3 := hide hW
    have HLQ := hide lQ
    have HLP := hide lP
    clear hOK hx hkm hxm KW1 KW2 ow ox sx sq HSQ HW HK13 HK23 HKY HYES HNO lQ lP
    have HB4 := hide b4
    clear b4
    generalize hP : ofP A xk = P at *
    generalize hQ : ofP B xk = Q at *
    gi_wp2
    refine ⟨trivial, CallsIn.inRound _ ((callsIn_wide.2 CG.out).mono ?_)⟩
    rintro e W1 ⟨rfl, T1⟩
    have HT1 := hide T1
    have b41 := T1.at HB4.out
    obtain ⟨c4, f4⟩ := one_cell b41
    clear CG
    have hC1 : Calm w W1 := (TT3.out.tr HW3.out).tr T1
    have hls := hide (show encP.Sl W1 qo qc Q from Rc.Sl.calm SQ2.out T1)
    have hxs := hide (show encP.Sl W1 xo xc P from Rc.Sl.calm SX.out T1)
    by_cases hlt : Q.length < P.length
    · have hltz : (Q.length : Int) < (P.length : Int) := by omega
      have ho : okB A B xk = false := by rw [HOB.out, decide_eq_false (show ¬ P.length ≤ Q.length by omega), Bool.false_and]
      have hz := HX.out ho
      have HC1 := hide hC1
      have B41 := hide b41
      clear T1 hC1 b41 HX HOB HSTEP ho SX SQ2 hls hxs c5 hAn hBn hP hQ
      generalize P.length = pl at *
      generalize Q.length = ql at *
      subst hz
      gi_wp2
      refine ⟨trivial, ?_⟩
      gi_wp2
      have tS : Touch (fun g => g = B4) W1 (W1.setCell ⟨B4, 0, none⟩ (.bool false)) := (Touch.refl (fun g => g = B4) W1).setCell (p := ⟨B4, 0, none⟩) (fun _ => rfl) _
      have lo := HLB4.out
      have tA : Touch (fun g => g = B4) W (W1.setCell ⟨B4, 0, none⟩ (.bool false)) := (HT1.out.mono (S' := fun g => g = B4) fun _ _ h => h.elim).trans tS fun _ _ h => h
      refine ⟨keeps_touch tA (fun g hg => ⟨#[.bool false], 4, (0, 0), by rw [hg]; exact HB4.out⟩), tA, rfl, set_one _ B41.out, HC1.out.trans tS fun g hg e => by omega⟩
    · have hltz : ¬ (Q.length : Int) < (P.length : Int) := by omega
      obtain ⟨i0, hi0, -, -, -⟩ := Rc.info_parts infoPane
      obtain ⟨so, sc, hs, hm, -⟩ := Rc.Sl.to (t := 22) (e := 40) Tryz.underlying22 elemPane hi0 hls.out (show P.length ≤ Q.length by omega)
      have hlen : (Q.take P.length).length = P.length := by rw [List.length_take]; omega
      have EQ := equalP_any P (Q.take P.length) xo so xc sc W1 hxs.out.mem hm (by have := HLP.out; omega) (by have := HLP.out; omega)
      rw [hlen] at EQ
      have HEQ := hide EQ
      have HOE : Hid (okB A B xk = decide (P = Q.take P.length)) := hide (by rw [HOB.out, decide_eq_true (show P.length ≤ Q.length by omega), Bool.true_and])
      have HS := hide hs
      have HC1 := hide hC1
      have B41 := hide b41
      clear EQ hs hm hlen T1 hC1 b41 HOB SX SQ2 hls hxs c5 hAn hBn hP hQ
      generalize decide (P = Q.take P.length) = y at *
      generalize P.length = pl at *
      generalize Q.length = ql at *
      have hs := HS.out W1
      gi_wp2
      refine ⟨trivial, CallsIn.inRound _ ((callsIn_wide.2 HEQ.out).mono ?_)⟩
      rintro e W2 ⟨rfl, T2⟩
      have HC2 := hide (HC1.out.tr T2)
      have B42 := hide (T2.at B41.out)
      have HT2 := hide (HT1.out.tr T2)
      obtain ⟨c42, f42⟩ := one_cell B42.out
      clear HEQ HS hs T2 HC1 B41 c4 f4 HT1
      cases y with
      | false =>
        have hz := HX.out HOE.out
        clear HX HOE HSTEP
        subst hz
        gi_wp2
        have tS : Touch (fun g => g = B4) W2 (W2.setCell ⟨B4, 0, none⟩ (.bool false)) := (Touch.refl (fun g => g = B4) W2).setCell (p := ⟨B4, 0, none⟩) (fun _ => rfl) _
        have lo := HLB4.out
        have tA : Touch (fun g => g = B4) W (W2.setCell ⟨B4, 0, none⟩ (.bool false)) := (HT2.out.mono (S' := fun g => g = B4) fun _ _ h => h.elim).trans tS fun _ _ h => h
        refine ⟨keeps_touch tA (fun g hg => ⟨#[.bool false], 4, (0, 0), by rw [hg]; exact HB4.out⟩), tA, rfl, set_one _ B42.out, HC2.out.trans tS fun g hg e => by omega⟩
      | true =>
        have hst := hide (HSTEP.out HOE.out)
        clear HX HOE HSTEP
        gi_wp2
        exact ⟨keeps_touch HT2.out (fun g hg => hg.elim), HT2.out.mono fun _ _ h => h.elim, HW3.out.tr HT2.out, hst.out⟩
  case done =>
    rintro D W hD ⟨hW, hok⟩ hd
    have hz := HYES.out fun j x hx => hok j x (List.getElem?_eq_some_iff.1 hx).1 hx
    have b4 := hW.at A43.out
    obtain ⟨c4, f4⟩ := one_cell b4
    have lo := HLB4.out
    have hC := TT3.out.tr hW
    have tS : Touch (fun g => g = B4) W (W.setCell ⟨B4, 0, none⟩ (.bool true)) := (Touch.refl (fun g => g = B4) W).setCell (p := ⟨B4, 0, none⟩) (fun _ => rfl) _
    have hd2 := (KeepsOthers.setCell W ⟨B4, 0, none⟩ (.bool true)).same D _ hd rfl
    have tP := touch_put (W.setCell ⟨B4, 0, none⟩ (.bool true)) D (.deferred none)
    have b4' := tP.heap (set_one (.bool true) b4) (fun e => by omega)
    obtain ⟨r4, _⟩ := one_cell b4'
    have HF := hide ((hC.trans tS fun g hg e => by omega).trans tP fun g hg e => by have := TT3.out.size; omega)
    have HD2 := hide hd2
    clear hd hd2 hW hok b4 b4' tS tP hC HSQ HW HK13 HK23 HKY HYES HNO
    subst hz
    gi_wp2
    refine ⟨by simp, .inl ⟨_, _, rfl, run_takeDeferred HD2.out, ?_⟩⟩
    exact ⟨.bool true, by simp [results, Tryz.results16, go_sem, r4], rfl, HF.out⟩
  case stop =>
    rintro D c k W hD hkm ⟨rfl, hz, b4, hC⟩ hd
    have tP := touch_put W D (.deferred none)
    have lo := HLB4.out
    have b4' := tP.heap b4 (fun e => by omega)
    obtain ⟨r4, _⟩ := one_cell b4'
    have HF := hide (hC.trans tP fun g hg e => by have := TT3.out.size; omega)
    have HD2 := hide hd
    clear hd b4 b4' tP hC HSQ HW HK13 HK23 HKY HYES HNO
    subst hz
    gi_wp2
    refine ⟨by simp, .inl ⟨_, _, rfl, run_takeDeferred HD2.out, ?_⟩⟩
    exact ⟨.bool false, by simp [results, Tryz.results16, go_sem, r4], rfl, HF.out⟩


end Go.Proofs.YtamfcmmhmfhhkaaGreatDoor

namespace Go.Proofs.YtamfcmmhmfhhkaaGreatDoor
open Go.RowKit LM

set_option maxRecDepth 100000 in
set_option maxHeartbeats 2000000 in
theorem alike_any (A B : List Pn) (ao bo : Option Addr) (ac bc : Nat) (w : World) (ha : encP.Sl w ao ac A) (hb : encP.Sl w bo bc B) (hl : A.length ≤ 1000) (hm : B.length ≤ 1000) : Calls Tryz.prog 17 #[.slice ao A.length ac, .slice bo B.length bc] w fun e w' => e = .returned (.bool (aliP A B)) ∧ Calm w w' := by
  have CB := hide (begins_any A B ao bo ac bc w ha hb hl hm)
  have HE : Hid (aliP A B = (decide (A.length = B.length) && beginsP A B)) := hide ali_of
  clear ha hb hl hm
  generalize beginsP A B = z at *
  generalize aliP A B = y at *
  obtain rfl := HE.out
  clear HE
  generalize A.length = an at *
  generalize B.length = bn at *
  by_cases e : an = bn
  · subst e
    rw [decide_eq_true rfl, Bool.true_and]
    go_enter Tryz.func17, Tryz.ntmps17
    go_wp2_with fail
    refine CB.out.mono ?_
    rintro e w1 ⟨rfl, T1⟩
    have HT := hide T1
    clear CB T1
    go_wp2_with fail
    go_ret
    exact ⟨rfl, HT.out⟩
  · have e2 : ¬ (an : Int) = (bn : Int) := by omega
    have e3 : ((an : Int) == (bn : Int)) = false := by rw [beq_eq_false_iff_ne]; exact e2
    rw [decide_eq_false e, Bool.false_and]
    clear CB
    go_enter Tryz.func17, Tryz.ntmps17
    go_wp2_with fail
    go_ret
    exact ⟨rfl, Touch.refl _ _⟩

end Go.Proofs.YtamfcmmhmfhhkaaGreatDoor

namespace Go.Proofs.YtamfcmmhmfhhkaaGreatDoor
open Go.RowKit


theorem empty_text {s : ByteArray} (h : s.size = 0) : s = { data := #[] } := ByteArray.ext (Array.eq_empty_of_size_eq_zero h)

set_option maxRecDepth 100000 in
set_option maxHeartbeats 4000000 in
theorem cloned_any (s : ByteArray) (w : World) (hs : s.size ≤ 140737488351232) : Calls Tryz.prog 39 #[.string s] w fun e w' => e = .returned (.string s) ∧ Touch (fun _ => False) w w' := by
  by_cases h0 : s.size = 0
  · obtain rfl := empty_text h0
    go_enter Tryz.func39, Tryz.ntmps39
    go_wp2_with fail
    go_ret
    exact ⟨rfl, Touch.refl _ _⟩
  · obtain ⟨i0, hi, hz0, hz1, hz2⟩ := Rc.info_parts infoByte
    have hsz1 : (Tryz.prog.info? 5).map (·.size) = some 1 := by rw [hi]; simp [hz1]
    have hone : Tryz.prog.cellsOf 5 = 1 := by kernel_rfl
    have hne : s.data.toList ≠ [] := fun e => h0 (by rw [Lib.size_eq, e]; rfl)
    obtain ⟨M, hM, hMs⟩ : ∃ M : Array Value, (∀ W : World, (Instr.makeSlice 64 (.int .i64 (s.size : Int)) (.int .i64 (s.size : Int))).run Tryz.prog W = .ok (.slice (some ⟨W.heap.size, 0, none⟩) s.size s.size) (W.alloc (.cells M 5))) ∧ M.size = s.size :=
      ⟨madeCells (Value.int .u8 0).cells (((s.size : Nat) : Int).toNat * i0.size), fun W => by
        have h := run_make (P := Tryz.prog) W 64 5 i0 (.int .u8 0) Tryz.underlying64 hi hz0 .i64 .i64 (s.size : Int) (s.size : Int) (by omega) (by omega) (by rw [hz2]; omega) (by omega)
        simpa using h, by rw [size_madeCells, hz1]; simp⟩
    have CP := Lib.run_copy_row_string (P := Tryz.prog) (w.alloc (.cells M 5)) 64 9 3 5 w.heap.size 0 s.size s.size s M 5 Tryz.underlying64 hsz1 (heap_alloc_last w _) (Nat.le_refl _) (by omega)
    generalize hY : (M.toList.take 0 ++ Lib.byteCells s.data.toList ++ M.toList.drop (0 + s.size)).toArray = Y at CP
    have hYl : Y.toList = Lib.byteCells s.data.toList := by
      rw [← hY, List.toList_toArray, List.take_zero, List.nil_append, List.drop_of_length_le (by rw [Array.length_toList]; omega), List.append_nil]
    have hYs : Y.size = s.size := by rw [← Array.length_toList, hYl, Lib.byteCells_length, ← Lib.size_eq]
    have hrow : ((w.alloc (.cells M 5)).setRow w.heap.size Y).heap[w.heap.size]? = some (.cells Y 5 (0, 0)) := setRow_heap _ _ M _ 5 (0, 0) (heap_alloc_last w _)
    have US := Lib.run_unsafeString_row (P := Tryz.prog) ((w.alloc (.cells M 5)).setRow w.heap.size Y) 109 3 9 5 Tryz.underlying109 hone w.heap.size Y.size (by unfold World.shape?; rw [hrow]) s.data.toList hne (by rw [← Lib.size_eq]; omega) (by rw [← Lib.size_eq]; omega)
      (fun j x hx => Lib.cells_of_row hrow Y.size j _ (by rw [List.take_of_length_le (by rw [Array.length_toList]; exact Nat.le_refl _), hYl]; simp [Lib.byteCells, hx]))
    rw [← Lib.size_eq] at US
    clear hY
    have b1 : Below w.heap.size w (w.alloc (.cells M 5)) := ((Touch.refl (fun _ => False) w).alloc _).below (fun _ _ h => h)
    have b2 : Below w.heap.size (w.alloc (.cells M 5)) ((w.alloc (.cells M 5)).setRow w.heap.size Y) := ⟨rfl, rfl, rfl, by simp, fun k hk => setRow_other _ _ _ _ (by omega)⟩
    have HB := hide (Lib.below_freeze (b1.trans b2) (p := ⟨w.heap.size, 0, none⟩) (Nat.le_refl _) s.size)
    clear b1 b2 hrow hYl hYs hMs hi hz0 hz1 hz2
    go_enter Tryz.func39, Tryz.ntmps39
    go_wp2_with fail
    go_ret
    exact ⟨rfl, (Touch.of_below HB.out).mono (fun k hk h => by omega)⟩

set_option maxRecDepth 100000 in
theorem clone_any (s : ByteArray) (w : World) (hs : s.size ≤ 140737488351232) : Calls Tryz.prog 24 #[.string s] w fun e w' => e = .returned (.string s) ∧ Touch (fun _ => False) w w' := by
  have K := hide (fun W => cloned_any s W hs)
  go_enter Tryz.func24, Tryz.ntmps24
  go_wp2_with fail
  refine (K.out _).mono ?_
  rintro e w1 ⟨rfl, t1⟩
  go_wp2_with fail
  go_ret
  exact ⟨rfl, t1⟩

end Go.Proofs.YtamfcmmhmfhhkaaGreatDoor

namespace Go.Proofs.YtamfcmmhmfhhkaaGreatDoor
open Go.RowKit

/-- A pane's key written over by itself. -/
theorem own_samek {w : World} {base g n cap : Nat} {L : List Pn} (h : encP.Own 40 w base (.slice (some ⟨g, 0, none⟩) n cap) L) (i : Nat) (hi : i < L.length) :
    encP.Own 40 (w.setCell ⟨g, i * 9, none⟩ (.string (L.getD i pn0).k)) base (.slice (some ⟨g, 0, none⟩) n cap) L := by
  have e9 : encP.n = 9 := rfl
  obtain ⟨h1, ⟨hv, h2⟩ | ⟨g', cap', cur, hv, h3, h4, h5, h6, h7, h8⟩⟩ := h
  · cases hv
  · injection hv with e1 e2 e3
    injection e1 with e1
    injection e1 with e1
    subst e1 e3
    have k0 := heap_setCell_row (i := i * 9) h4 (.string (L.getD i pn0).k)
    have hg := encP.flat_get L i hi 0 (by decide)
    have hd : L.getD i pn0 = L[i] := by rw [List.getD_eq_getElem?_getD, List.getElem?_eq_getElem hi]; rfl
    have hg2 : (encP.flat L)[i * 9]? = some (.string (L.getD i pn0).k) := by rw [hd]; exact hg
    have hcur : cur.toList[i * 9]? = some (.string (L.getD i pn0).k) := by
      rw [← h8, List.getElem?_take] at hg2
      split at hg2
      · exact hg2
      · cases hg2
    have hsame : cur.setIfInBounds (i * 9) (.string (L.getD i pn0).k) = cur := by
      apply Array.toList_inj.1
      rw [Array.toList_setIfInBounds]
      exact set_same hcur
    rw [hsame] at k0
    exact ⟨h1, .inr ⟨g, cap, cur, by rw [e2], h3, k0, h5, h6, h7, h8⟩⟩

set_option maxRecDepth 100000 in
set_option maxHeartbeats 2000000 in
theorem apart_any (L : List Pn) (ao : Option Addr) (cap base : Nat) (w : World) (h : encP.Own 40 w base (.slice ao L.length cap) L) (hk : KeyB L) (hn : L.length ≤ 1000000) :
    Calls Tryz.prog 25 #[.slice ao L.length cap] w fun e w' => e = .returned (.slice ao L.length cap) ∧ encP.Own 40 w' base (.slice ao L.length cap) L ∧ Touch (fun g => (Value.slice ao L.length cap).ownBlock = some g) w w' := by
  obtain ⟨n, hN⟩ : ∃ n, L.length = n := ⟨_, rfl⟩
  rw [hN] at h hn ⊢
  have H := hide h
  have HNL := hide hN
  have HK := hide hk
  clear h hN hk
  go_enter Tryz.func25, Tryz.ntmps25
  go_wp2_with fail
  go_loopw [6] (fun s wr => ∃ (i : Nat), s = .int .i64 (i : Int) ∧ i ≤ n ∧ encP.Own 40 wr base (.slice ao n cap) L ∧ Touch (fun g => (Value.slice ao n cap).ownBlock = some g) w wr) (fun s _ => n - (intOf s).toNat)
  case atStart => exact ⟨0, rfl, Nat.zero_le _, H.out, Touch.refl _ _⟩
  case round =>
    obtain ⟨i, rfl, hi, OW, TF⟩ := hrel
    clear H
    by_cases hlt : i < n
    · have hltz : (i : Int) < (n : Int) := by omega
      have hil : i < L.length := by rw [HNL.out]; exact hlt
      obtain ⟨gp, rfl⟩ : ∃ gp, ao = some ⟨gp, 0, none⟩ := by
        obtain ⟨_, hm, _, _, _, ha⟩ := Rc.Own.mem OW
        obtain ⟨b, off, e, -⟩ := pn_at hm i hil
        obtain ⟨_, h2, _⟩ := ha _ e
        have h2' : off = 0 := h2
        subst h2'
        exact ⟨b, e⟩
      obtain ⟨gb, gf, e0, cc⟩ := pn_at (Rc.Own.mem OW).2.1 i hil
      injection e0 with e0
      injection e0 with e1 e2
      subst e1 e2
      rw [Nat.zero_add] at cc
      obtain ⟨⟨c0, -⟩, -⟩ := cc
      have CC := hide (clone_any (L.getD i pn0).k wr (HK.out _ (by rw [List.getD_eq_getElem?_getD, List.getElem?_eq_getElem hil]; exact List.getElem_mem hil)))
      have NX : Hid (∀ W, Calm wr W → ((∃ v, W.cell? ⟨gp, i * 9, none⟩ = some v) ∧ W.frozen? ⟨gp, i * 9, none⟩ = false) ∧ encP.Own 40 (W.setCell ⟨gp, i * 9, none⟩ (.string (L.getD i pn0).k)) base (.slice (some ⟨gp, 0, none⟩) n cap) L ∧ Touch (fun g => (Value.slice (some ⟨gp, 0, none⟩) n cap).ownBlock = some g) w (W.setCell ⟨gp, i * 9, none⟩ (.string (L.getD i pn0).k))) := hide fun W hW => by
        have OW' := Rc.Own.calm OW hW
        obtain ⟨-, cur, hcur⟩ := Rc.own_block OW' (g := gp) rfl
        obtain ⟨gb, gf, e0, cc⟩ := pn_at (Rc.Own.mem OW').2.1 i hil
        injection e0 with e0
        injection e0 with e1 e2
        subst e1 e2
        rw [Nat.zero_add] at cc
        have TX : Touch (fun g => g = gp) W (W.setCell ⟨gp, i * 9, none⟩ (.string (L.getD i pn0).k)) := (Touch.refl (fun g => g = gp) W).setCell (p := ⟨gp, i * 9, none⟩) (fun _ => rfl) _
        exact ⟨⟨⟨_, cc.1.1⟩, pn_frz hcur _⟩, own_samek OW' i hil, (TF.trans hW fun _ _ h => h.elim).trans TX fun g _ e => by rw [e]; rfl⟩
      generalize (L.getD i pn0).k = key at *
      clear OW TF
      go_wp2_with fail
      refine CC.out.mono ?_
      rintro e w1 ⟨rfl, T1⟩
      obtain ⟨⟨⟨v1, q0⟩, qf⟩, h5, h6⟩ := NX.out w1 T1
      have H5 := hide h5
      have H6 := hide h6
      clear T1 NX CC h5 h6 c0
      go_wp2_with fail
      go_roundw
      case rel => exact ⟨i + 1, by go_num, by omega, H5.out, H6.out⟩
      case measure => simp [intOf]; omega
    · have hltz : ¬ (i : Int) < (n : Int) := by omega
      have HO := hide OW
      have HT := hide TF
      clear OW TF
      go_wp2_with fail
      go_ret
      exact ⟨rfl, HO.out, HT.out⟩

end Go.Proofs.YtamfcmmhmfhhkaaGreatDoor
