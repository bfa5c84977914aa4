/- The program's Begins, Alike. The program's Alike. The program's panes answer as the laws' walks ask: lines, texts, reading back. -/
import Derived.Test.YtamfcmmhmfhhkaaDoorG33
import Derived.Test.YtamfcmmhmfhhkaaDoorG24
import Derived.Test.YtamfcmmhmfhhkaaDoorG34
import Derived.Deep.CutRange
import Derived.Test.YtamfcmmhmfhhkaaDoorG16
import Derived.Test.YtamfcmmhmfhhkaaDoorG26
import Derived.Test.YtamfcmmhmfhhkaaDoorG27
import Derived.Test.YtamfcmmhmfhhkaaDoorG31
namespace Go.Proofs.YtamfcmmhmfhhkaaDoor
open Go.RowKit LM
attribute [local go_sem] Oper.semAt_some

set_option maxRecDepth 100000 in
set_option maxHeartbeats 4000000 in
theorem begins_any (A B : List Pn) (ao bo : Option Addr) (ac bc : Nat) (w : World) (ha : encP.Sl w ao ac A) (hb : encP.Sl w bo bc B) (hl : A.length ≤ 1000) (hm : B.length ≤ 1000) : Calls Tryd.prog 39 #[.slice ao A.length ac, .slice bo B.length bc] w fun e w' => e = .returned (.bool (beginsP A B)) ∧ Calm w w' := by
  have CB : Hid (∀ W, Calm w W → Calls Tryd.prog 56 #[.slice bo B.length bc] W fun e w' => ∃ m X, e = .returned (.pointer (some ⟨m, 0, none⟩)) ∧ Bk W.heap.size m B X w' ∧ W.heap.size ≤ m ∧ Calm W w') := hide fun W hW => byKeys_any B bo bc W (Rc.Mem.calm hb.mem hW) (by omega)
  have CA : Hid (∀ W, Calm w W → Calls Tryd.prog 56 #[.slice ao A.length ac] W fun e w' => ∃ m X, e = .returned (.pointer (some ⟨m, 0, none⟩)) ∧ Bk W.heap.size m A X w' ∧ W.heap.size ≤ m ∧ Calm W w') := hide fun W hW => byKeys_any A ao ac W (Rc.Mem.calm ha.mem hW) (by omega)
  obtain ⟨z, hz⟩ : ∃ z, z = beginsP A B := ⟨_, rfl⟩
  rw [← hz]
  have HZ := hide hz
  clear hz
  have HLA := hide hl
  have HLB := hide hm
  clear ha hb hl hm
  refine (callsIn_wide (n := 3)).1 (callsIn_of_wp_marks Tryd.func39 rfl trivial ?_ rfl)
  simp only [Tryd.ntmps39, List.size_toArray, List.length_cons, List.length_nil, Nat.reduceAdd, Nat.reduceSub, Array.replicate_succ, Array.replicate_zero, List.push_toArray, List.append_toArray, List.nil_append, List.cons_append]
  gi_wp2
  have A4 := hide (al_new w (.cells #[.bool false] 4))
  have T0 := hide ((Touch.refl (fun _ => False) w).alloc (.cells #[.bool false] 4))
  refine ⟨trivial, (callsIn_wide.2 (CB.out _ T0.out)).mono ?_⟩
  rintro e w1 ⟨m1, X1, rfl, K1, M1, T1⟩
  have A41 := hide (T1.at A4.out)
  have TT1 := hide (T0.out.tr T1)
  have HK1 := hide K1
  clear CB A4 T0 T1 K1 M1
  obtain ⟨B4, hB4⟩ : ∃ B4, B4 = w.heap.size := ⟨_, rfl⟩
  rw [← hB4] at A41 ⊢
  have HB4 := hide hB4
  clear hB4
  gi_wp2
  have A5 := hide (al_new w1 (.cells #[.pointer (some ⟨m1, 0, none⟩)] 94))
  have T1a := hide ((Touch.refl (fun _ => False) w1).alloc (.cells #[.pointer (some ⟨m1, 0, none⟩)] 94))
  refine ⟨trivial, (callsIn_wide.2 (CA.out _ (TT1.out.tr T1a.out))).mono ?_⟩
  rintro e w2 ⟨m2, X2, rfl, K2, M2, T2⟩
  have A42 := hide (T2.at (T1a.out.at A41.out))
  have A52 := hide (T2.at A5.out)
  have TT2 := hide ((TT1.out.tr T1a.out).tr T2)
  have HK12 := hide (HK1.out.calm (T1a.out.tr T2))
  have HK2 := hide K2
  clear CA A5 T1a T2 K2 M2 A41 TT1 HK1
  obtain ⟨B5, hB5⟩ : ∃ B5, B5 = w1.heap.size := ⟨_, rfl⟩
  rw [← hB5] at A52 ⊢
  clear hB5
  gi_wp2
  refine ⟨trivial, (callsIn_wide.2 (LM.all_any (some ⟨m2, 0, none⟩) w2)).mono ?_⟩
  rintro e w3 ⟨fv, rfl, hW, T3⟩
  obtain ⟨lbv, rfl⟩ := hW.shape
  have A43 := hide (T3.at A42.out)
  have A53 := hide (T3.at A52.out)
  have TT3 := hide (TT2.out.tr T3)
  have HK13 := hide (HK12.out.calm T3)
  have HK23 := hide (HK2.out.calm T3)
  have HW := hide hW
  clear hW T3 A42 A52 TT2 HK12 HK2
  gi_wp2
  have HNO : Hid (∀ k, k ∈ keysP A → okB A B k = false → z = false) := hide fun k hk h => by
    rw [HZ.out]; unfold beginsP; rw [List.all_eq_false]; exact ⟨k, hk, by rw [h]; simp⟩
  have HYES : Hid ((∀ j (x : Rw), X2[j]? = some x → okB A B x.1 = true) → z = true) := hide fun h => by
    rw [HZ.out]; unfold beginsP; rw [List.all_eq_true]
    intro k hk
    obtain ⟨x, hx, rfl⟩ := (HK23.out.key k).2 ((keys_mem A k).1 hk)
    obtain ⟨j, hj, e⟩ := List.mem_iff_getElem.1 hx
    exact h j x (by rw [List.getElem?_eq_getElem hj, e])
  clear HZ
  have eL : Kd.list cmpS .all X2 = X2 := by
    show List.filter _ X2 = X2
    rw [List.filter_eq_self]
    intro a _
    rfl
  have SQ := Wl.seq cmpOf m2 .all lbv X2 (fun key => HK23.out.up.dec cmpS_ord key) ⟨by have := HK23.out.num; have := HLA.out; omega⟩
  rw [eL] at SQ
  have HSQ := hide SQ
  have HLB4 : Hid (w.heap.size ≤ B4 ∧ B4 < w3.heap.size ∧ B5 < w3.heap.size) := hide ⟨by rw [HB4.out]; exact Nat.le_refl _, lt_of_heap A43.out, lt_of_heap A53.out⟩
  have HKY : Hid (∀ x ∈ X2, x.1 ∈ keysP A) := hide fun x hx => (keys_mem A x.1).2 ((HK23.out.key x.1).1 ⟨x, hx, rfl⟩)
  clear SQ eL HB4
  generalize hAn : A.length = an at *
  generalize hBn : B.length = bn at *
  refine wpIn_range (gf := 81) (lb := lbv) rfl (enters_of Tryd.func81 (by kernel_rfl) rfl) HSQ.out (fun _ => rfl)
    (fun g => g = B4) ?hs (fun W h => ⟨HW.out.calm h, HK23.out.mt.calm h, trivial⟩)
    (fun k W => Calm w3 W ∧ ∀ (j : Nat) (x : Rw), j < k → X2[j]? = some x → okB A B x.1 = true)
    (fun c _ W => c = .ret ∧ z = false ∧ W.heap[B4]? = some (.cells #[.bool false] 4 (0, 0)) ∧ Calm w W)
    (fun _ x a' _ => a' = { tmps := #[.slice ao an ac, .slice bo bn bc, undef, undef, .pointer (some ⟨B4, 0, none⟩), .pointer (some ⟨B5, 0, none⟩), .string x.1, .slice x.2.1 x.2.2.1 x.2.2.2, undef, undef, .slice bo bn bc, .pointer (some ⟨m1, 0, none⟩), .slice ao an ac, .pointer (some ⟨m2, 0, none⟩), .func (.func 81) #[] lbv, .string x.1, .slice x.2.1 x.2.2.1 x.2.2.2, undef, undef, undef, undef, undef, undef, undef, undef, undef, undef, undef, undef, undef, undef, undef, undef, undef, undef, undef, undef], defers := [] })
    (fun k W W' h ht => ⟨h.1.trans ht (fun g hg s => by have := s.1; omega), h.2⟩) (fun k W l o o' h hl _ _ => ⟨h.1.trans (touch_put W l o') (fun g hg e => by omega), h.2⟩) (fun c k => ?xp) (fun k x a' => fun _ _ _ _ h _ _ _ => h) ⟨Touch.refl _ _, fun j x hj => by omega⟩ ?assign ?body ?done ?stop
  case hs =>
    rintro g rfl
    exact ⟨HLB4.out.2.1, fun cs fr he => by rw [A43.out] at he; injection he with he; injection he with _ he; exact absurd he (by decide)⟩
  case xp =>
    rintro W l o o' ⟨rfl, h0, h1, h2⟩ hl ho hoc
    have := HLB4.out
    have hs := TT3.out.size
    have tp := touch_put W l o'
    exact ⟨rfl, h0, tp.heap h1 (fun e => by omega), h2.trans tp (fun g hg e => by omega)⟩
  case assign =>
    rintro l k x W K hi hkm hx hK
    have HK := hide hK
    have HI := hide hi
    clear hK hi
    simp only [encs]
    gi_wp2
    exact HK.out _ _ (KeepsOthers.refl _) (Touch.refl _ _) HI.out rfl
  case body =>
    rintro l k x a' W ⟨hW, hOK⟩ hkm hx rfl
    have hxm : x ∈ X2 := List.mem_of_getElem? hx
    have hky := hide (HKY.out x hxm)
    have KW1 := HK13.out.calm hW
    have KW2 := HK23.out.calm hW
    obtain ⟨ow, -⟩ := KW1.at x.1
    have ox := KW2.row x hxm
    have CG := hide (LM.get_any cmpOf m1 x.1 W X1 KW1.mt trivial (KW1.up.dec cmpS_ord x.1))
    obtain ⟨c5, -⟩ := one_cell (hW.at A53.out)
    have b4 := hW.at A43.out
    have HSTEP : Hid (okB A B x.1 = true → ∀ (j : Nat) (y : Rw), j < k + 1 → X2[j]? = some y → okB A B y.1 = true) := hide fun h j y hj hy => by
      by_cases e : j = k
      · subst e; rw [hx] at hy; injection hy with hy; rw [← hy]; exact h
      · exact hOK j y (by omega) hy
    have HX := hide (HNO.out x.1 hky.out)
    have HOB : Hid (okB A B x.1 = (decide ((ofP A x.1).length ≤ (ofP B x.1).length) && decide (ofP A x.1 = (ofP B x.1).take (ofP A x.1).length))) := hide rfl
    obtain ⟨xk, xo, xn, xc⟩ := x
    have sx : encP.Sl W xo xc (ofP A xk) := Rc.Own.sl ox
    have ex : xn = (ofP A xk).length := (Rc.Own.mem ox).1
    have sq := Rc.Own.sl ow
    have eq : (was (cmpS xk) X1).2.1 = (ofP B xk).length := (Rc.Own.mem ow).1
    subst ex
    dsimp only at *
    have lQ : (ofP B xk).length ≤ 1000 := Nat.le_trans (ofP_le B xk) (by have := HLB.out; omega)
    have lP : (ofP A xk).length ≤ 1000 := Nat.le_trans (ofP_le A xk) (by have := HLA.out; omega)
    generalize was (cmpS xk) X1 = v at *
    obtain ⟨qo, qn, qc⟩ := v
    dsimp only at *
    subst eq
    have SX := hide sx
    have SQ2 := hide sq
    have HW3 := hide hW
    have HLQ := hide lQ
    have HLP := hide lP
    clear hOK hx hkm hxm KW1 KW2 ow ox sx sq HSQ HW HK13 HK23 HKY HYES HNO lQ lP
    have HB4 := hide b4
    clear b4
    generalize hP : ofP A xk = P at *
    generalize hQ : ofP B xk = Q at *
    gi_wp2
    refine ⟨trivial, CallsIn.inRound _ ((callsIn_wide.2 CG.out).mono ?_)⟩
    rintro e W1 ⟨rfl, T1⟩
    have HT1 := hide T1
    have b41 := T1.at HB4.out
    obtain ⟨c4, f4⟩ := one_cell b41
    clear CG
    have hC1 : Calm w W1 := (TT3.out.tr HW3.out).tr T1
    have hls := hide (show encP.Sl W1 qo qc Q from Rc.Sl.calm SQ2.out T1)
    have hxs := hide (show encP.Sl W1 xo xc P from Rc.Sl.calm SX.out T1)
    by_cases hlt : Q.length < P.length
    · have hltz : (Q.length : Int) < (P.length : Int) := by omega
      have ho : okB A B xk = false := by rw [HOB.out, decide_eq_false (show ¬ P.length ≤ Q.length by omega), Bool.false_and]
      have hz := HX.out ho
      have HC1 := hide hC1
      have B41 := hide b41
      clear T1 hC1 b41 HX HOB HSTEP ho SX SQ2 hls hxs c5 hAn hBn hP hQ
      generalize P.length = pl at *
      generalize Q.length = ql at *
      subst hz
      gi_wp2
      refine ⟨trivial, ?_⟩
      gi_wp2
      have tS : Touch (fun g => g = B4) W1 (W1.setCell ⟨B4, 0, none⟩ (.bool false)) := (Touch.refl (fun g => g = B4) W1).setCell (p := ⟨B4, 0, none⟩) (fun _ => rfl) _
      have lo := HLB4.out
      have tA : Touch (fun g => g = B4) W (W1.setCell ⟨B4, 0, none⟩ (.bool false)) := (HT1.out.mono (S' := fun g => g = B4) fun _ _ h => h.elim).trans tS fun _ _ h => h
      refine ⟨keeps_touch tA (fun g hg => ⟨#[.bool false], 4, (0, 0), by rw [hg]; exact HB4.out⟩), tA, rfl, set_one _ B41.out, HC1.out.trans tS fun g hg e => by omega⟩
    · have hltz : ¬ (Q.length : Int) < (P.length : Int) := by omega
      obtain ⟨i0, hi0, -, -, -⟩ := Rc.info_parts infoPane
      obtain ⟨so, sc, hs, hm, -⟩ := Rc.Sl.to (t := 22) (e := 29) Tryd.underlying22 elemPane hi0 hls.out (show P.length ≤ Q.length by omega)
      have hlen : (Q.take P.length).length = P.length := by rw [List.length_take]; omega
      have EQ := equalP_any P (Q.take P.length) xo so xc sc W1 hxs.out.mem hm (by have := HLP.out; omega) (by have := HLP.out; omega)
      rw [hlen] at EQ
      have HEQ := hide EQ
      have HOE : Hid (okB A B xk = decide (P = Q.take P.length)) := hide (by rw [HOB.out, decide_eq_true (show P.length ≤ Q.length by omega), Bool.true_and])
      have HS := hide hs
      have HC1 := hide hC1
      have B41 := hide b41
      clear EQ hs hm hlen T1 hC1 b41 HOB SX SQ2 hls hxs c5 hAn hBn hP hQ
      generalize decide (P = Q.take P.length) = y at *
      generalize P.length = pl at *
      generalize Q.length = ql at *
      have hs := HS.out W1
      gi_wp2
      refine ⟨trivial, CallsIn.inRound _ ((callsIn_wide.2 HEQ.out).mono ?_)⟩
      rintro e W2 ⟨rfl, T2⟩
      have HC2 := hide (HC1.out.tr T2)
      have B42 := hide (T2.at B41.out)
      have HT2 := hide (HT1.out.tr T2)
      obtain ⟨c42, f42⟩ := one_cell B42.out
      clear HEQ HS hs T2 HC1 B41 c4 f4 HT1
      cases y with
      | false =>
        have hz := HX.out HOE.out
        clear HX HOE HSTEP
        subst hz
        gi_wp2
        have tS : Touch (fun g => g = B4) W2 (W2.setCell ⟨B4, 0, none⟩ (.bool false)) := (Touch.refl (fun g => g = B4) W2).setCell (p := ⟨B4, 0, none⟩) (fun _ => rfl) _
        have lo := HLB4.out
        have tA : Touch (fun g => g = B4) W (W2.setCell ⟨B4, 0, none⟩ (.bool false)) := (HT2.out.mono (S' := fun g => g = B4) fun _ _ h => h.elim).trans tS fun _ _ h => h
        refine ⟨keeps_touch tA (fun g hg => ⟨#[.bool false], 4, (0, 0), by rw [hg]; exact HB4.out⟩), tA, rfl, set_one _ B42.out, HC2.out.trans tS fun g hg e => by omega⟩
      | true =>
        have hst := hide (HSTEP.out HOE.out)
        clear HX HOE HSTEP
        gi_wp2
        exact ⟨keeps_touch HT2.out (fun g hg => hg.elim), HT2.out.mono fun _ _ h => h.elim, HW3.out.tr HT2.out, hst.out⟩
  case done =>
    rintro D W hD ⟨hW, hok⟩ hd
    have hz := HYES.out fun j x hx => hok j x (List.getElem?_eq_some_iff.1 hx).1 hx
    have b4 := hW.at A43.out
    obtain ⟨c4, f4⟩ := one_cell b4
    have lo := HLB4.out
    have hC := TT3.out.tr hW
    have tS : Touch (fun g => g = B4) W (W.setCell ⟨B4, 0, none⟩ (.bool true)) := (Touch.refl (fun g => g = B4) W).setCell (p := ⟨B4, 0, none⟩) (fun _ => rfl) _
    have hd2 := (KeepsOthers.setCell W ⟨B4, 0, none⟩ (.bool true)).same D _ hd rfl
    have tP := touch_put (W.setCell ⟨B4, 0, none⟩ (.bool true)) D (.deferred none)
    have b4' := tP.heap (set_one (.bool true) b4) (fun e => by omega)
    obtain ⟨r4, _⟩ := one_cell b4'
    have HF := hide ((hC.trans tS fun g hg e => by omega).trans tP fun g hg e => by have := TT3.out.size; omega)
    have HD2 := hide hd2
    clear hd hd2 hW hok b4 b4' tS tP hC HSQ HW HK13 HK23 HKY HYES HNO
    subst hz
    gi_wp2
    refine ⟨by simp, .inl ⟨_, _, rfl, run_takeDeferred HD2.out, ?_⟩⟩
    exact ⟨.bool true, by simp [results, Tryd.results39, go_sem, r4], rfl, HF.out⟩
  case stop =>
    rintro D c k W hD hkm ⟨rfl, hz, b4, hC⟩ hd
    have tP := touch_put W D (.deferred none)
    have lo := HLB4.out
    have b4' := tP.heap b4 (fun e => by omega)
    obtain ⟨r4, _⟩ := one_cell b4'
    have HF := hide (hC.trans tP fun g hg e => by have := TT3.out.size; omega)
    have HD2 := hide hd
    clear hd b4 b4' tP hC HSQ HW HK13 HK23 HKY HYES HNO
    subst hz
    gi_wp2
    refine ⟨by simp, .inl ⟨_, _, rfl, run_takeDeferred HD2.out, ?_⟩⟩
    exact ⟨.bool false, by simp [results, Tryd.results39, go_sem, r4], rfl, HF.out⟩


end Go.Proofs.YtamfcmmhmfhhkaaDoor

namespace Go.Proofs.YtamfcmmhmfhhkaaDoor
open Go.RowKit LM

set_option maxRecDepth 100000 in
set_option maxHeartbeats 2000000 in
theorem alike_any (A B : List Pn) (ao bo : Option Addr) (ac bc : Nat) (w : World) (ha : encP.Sl w ao ac A) (hb : encP.Sl w bo bc B) (hl : A.length ≤ 1000) (hm : B.length ≤ 1000) : Calls Tryd.prog 22 #[.slice ao A.length ac, .slice bo B.length bc] w fun e w' => e = .returned (.bool (aliP A B)) ∧ Calm w w' := by
  have CB := hide (begins_any A B ao bo ac bc w ha hb hl hm)
  have HE : Hid (aliP A B = (decide (A.length = B.length) && beginsP A B)) := hide ali_of
  clear ha hb hl hm
  generalize beginsP A B = z at *
  generalize aliP A B = y at *
  obtain rfl := HE.out
  clear HE
  generalize A.length = an at *
  generalize B.length = bn at *
  by_cases e : an = bn
  · subst e
    rw [decide_eq_true rfl, Bool.true_and]
    go_enter Tryd.func22, Tryd.ntmps22
    go_wp2_with fail
    refine CB.out.mono ?_
    rintro e w1 ⟨rfl, T1⟩
    have HT := hide T1
    clear CB T1
    go_wp2_with fail
    go_ret
    exact ⟨rfl, HT.out⟩
  · have e2 : ¬ (an : Int) = (bn : Int) := by omega
    have e3 : ((an : Int) == (bn : Int)) = false := by rw [beq_eq_false_iff_ne]; exact e2
    rw [decide_eq_false e, Bool.false_and]
    clear CB
    go_enter Tryd.func22, Tryd.ntmps22
    go_wp2_with fail
    go_ret
    exact ⟨rfl, Touch.refl _ _⟩

end Go.Proofs.YtamfcmmhmfhhkaaDoor

namespace Go.Proofs.YtamfcmmhmfhhkaaDoor
open Go.RowKit

theorem panes_k : Ppk where
  line p w hn hy := line_any p w hn hy
  parse s w hs hy := (parse_any s hs w hy).mono fun _ _ ⟨⟨o, ho, he⟩, hc⟩ => ⟨o, ho, he, hc⟩
  alike A B ao bo ac bc w ha hb hl hm := alike_any A B ao bo ac bc w ha hb hl hm
  begins A B ao bo ac bc w ha hb hl hm := begins_any A B ao bo ac bc w ha hb hl hm
theorem panes_t : Ppt where
  toPpk := panes_k
  comp p q w := compare_any p q w
  text L ao ac w hs hl hn hy := text_any L ao ac w hs.mem (by omega) hn hy
  read s w hs hy := readL_any s hs w hy

end Go.Proofs.YtamfcmmhmfhhkaaDoor
