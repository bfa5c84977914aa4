/- ClockPlays, walked. -/
import Derived.Test.YtcmigkemhoecfaaKY
import Derived.Deep.CutRange
namespace Go.Proofs.Ytcmigkemhoecfaa
open Go.RowKit

section
variable {Pk : World → Nat → (Nat → Prop) → List Int → List Hd → Prop}

set_option maxRecDepth 100000 in
set_option maxHeartbeats 4000000 in
theorem plays13_walk (I : Pki Pk) (J : Pkn (.pointer none)) (n : Int) (M : List Int) (mo : Option Addr) (mc : Nat) (S : List Stp) (so : Option Addr) (sc : Nat) (w : World) (hM : encJ.Sl w mo mc M) (hl : M.length ≤ 17592186043904) (hS : encS.Mem w so S) (hN : S.length ≤ capH) : Calls Try.prog 3 #[.int .i64 n, .slice mo M.length mc, .slice so S.length sc] w fun e w' => e = .returned (.bool true) ∧ Calm w w' := by
  have CN := fun x w => hide (num13_any x w)
  have C1 := hide (lend_any mo M mc w (seg_ints hM.mem) hl)
  have C2 := fun w => hide (newC I n w)
  have C3 := fun g c w1 (h : Lent w1 g c M) => hide (ofC I M _ _ w1 h.sl hl)
  have C4 := fun w => hide (newR n w)
  have C5 := fun w1 (h : Calm w w1) => hide (ofR M mo mc w1 (Rc.Sl.calm hM h) hl)
  have C6 := fun g c w1 (h : Lent w1 g c M) (h2 : Calm w w1) => hide (kept_any g c mo M mc w1 h (seg_ints (Rc.Sl.calm hM h2).mem) hl)
  have C7 := fun w => hide (known13_any I w)
  have HS := hide hS
  have HN := hide hN
  have HL := hide hl
  obtain ⟨m, hm⟩ : ∃ m, M.length = m := ⟨_, rfl⟩
  obtain ⟨N, hn⟩ : ∃ N, S.length = N := ⟨_, rfl⟩
  rw [hm] at C1 C3 C5 C6
  have LR : Hid (∀ g c w, Lent w g c M → Rows99 g m w) := hide fun g c w h => hm ▸ h.rows
  rw [hm, hn]
  have HM := hide hm
  have HNN := hide hn
  clear hM hl hS hN hm hn
  go_enter Try.func3, Try.ntmps3
  go_wp2_with fail
  refine C1.out.mono ?_
  rintro x w1 ⟨g, c, rfl, hg, l1, t1⟩
  have L1 := hide l1
  have T1 := hide t1
  clear C1 l1 t1
  go_wp2_with fail
  refine ((C2 _).out).mono ?_
  rintro x w2 ⟨v1, z1, rfl, d1, t2⟩
  have D1 := hide d1
  have U2 := hide t2
  clear C2 d1 t2
  go_wp2_with fail
  refine ((C3 _ _ _ (L1.out.calm U2.out)).out).mono ?_
  rintro x w3 ⟨v2, z2, rfl, d2, t3⟩
  have D2 := hide d2
  have U3 := hide t3
  clear C3 d2 t3
  go_wp2_with fail
  refine ((C4 _).out).mono ?_
  rintro x w4 ⟨u1, y1, rfl, d3, t4⟩
  have D3 := hide d3
  have U4 := hide t4
  clear C4 d3 t4
  go_wp2_with fail
  refine ((C5 _ (((T1.out.tr U2.out).tr U3.out).tr U4.out)).out).mono ?_
  rintro x w5 ⟨u2, y2, rfl, d4, t5⟩
  have D4 := hide d4
  have U5 := hide t5
  clear C5 d4 t5
  obtain ⟨o1, rfl, rfl, rfl, ok1, f1⟩ := made_two I D1.out D3.out ((U3.out.tr U4.out).tr U5.out) U5.out U3.out.size
  obtain ⟨o2, rfl, rfl, rfl, ok2, f2⟩ := made_two I D2.out D4.out (U4.out.tr U5.out) (Touch.refl _ _) U4.out.size
  have L5 := hide ((((L1.out.calm U2.out).calm U3.out).calm U4.out).calm U5.out)
  have T5 := hide ((((T1.out.tr U2.out).tr U3.out).tr U4.out).tr U5.out)
  have SZ : Hid (g < w1.heap.size) := hide (by obtain ⟨cs, h, -⟩ := LR.out _ _ _ L1.out; exact lt_of_heap h)
  have AP : Hid (∀ k, fpO o1 k → ¬ fpO o2 k) := hide fun k h1 h2 => by
    have := U2.out.size; have := U3.out.size; have := U4.out.size; have := U5.out.size
    have := f1 k h1; have := f2 k h2; omega
  have LA : Hid (∀ k, fpO o1 k → w1.heap.size ≤ k) := hide fun k h1 => by
    have := U2.out.size; have := U3.out.size; have := U4.out.size; have := U5.out.size
    have := f1 k h1; omega
  have LB : Hid (∀ k, fpO o2 k → w1.heap.size ≤ k) := hide fun k h1 => by
    have := U2.out.size; have := U3.out.size; have := U4.out.size; have := U5.out.size
    have := f2 k h1; omega
  have OK1 := hide ok1
  have OK2 := hide ok2
  clear ok1 ok2 f1 f2 D1 D2 D3 D4 U2 U3 U4 U5 L1
  go_wp2_with fail
  refine ((CN _ _).out).mono ?_
  rintro x w6 ⟨rfl, hw⟩
  subst hw
  go_wp2_with fail
  refine ((CN _ _).out).mono ?_
  rintro x w6 ⟨rfl, hw⟩
  subst hw
  obtain ⟨n1, n2⟩ := nil_c 57 o1 w6
  obtain ⟨n3, n4⟩ := nil_c 64 o2 w6
  obtain ⟨n5, n6⟩ := nil_r 59 o1 w6
  obtain ⟨n7, n8⟩ := nil_r 66 o2 w6
  go_wp2_with fail
  clear n1 n2 n3 n4 n5 n6 n7 n8
  refine ((C6 _ _ _ L5.out T5.out).out).mono ?_
  rintro x w7 ⟨rfl, t7⟩
  have R7 := hide (LR.out _ _ _ (L5.out.calm t7))
  have T7 := hide (T5.out.tr t7)
  have A7 := hide (okO_touch I OK1.out t7 fun _ _ h => h)
  have B7 := hide (okO_touch I OK2.out t7 fun _ _ h => h)
  have HG : Hid (w.heap.size ≤ g) := hide hg
  clear C6 L5 T5 OK1 OK2 t7 LR hg
  go_wp2_with fail
  go_loopw [16] (fun s16 wr => ∃ i : Nat, s16 = .int .i64 (i : Int) ∧ i ≤ m ∧ Rows99 g m wr ∧ Touch (fun k => k = g) w7 wr) (fun s16 _ => m - (intOf s16).toNat)
  case atStart => exact ⟨0, rfl, by omega, R7.out, Touch.refl _ _⟩
  case round =>
    obtain ⟨i, rfl, hi, R8, T8⟩ := hrel
    by_cases hlt : i < m
    · have hltz : (i : Int) < (m : Int) := by omega
      obtain ⟨cs, hcs, hsz⟩ := R8
      have fz := hd_frozen hcs i
      have ci : wr.cell? ⟨g, i, none⟩ = some cs[i] := by simp [World.cell?, hcs]
      have R9 : Hid (Rows99 g m (wr.setCell ⟨g, i, none⟩ (.int .i64 99))) := hide ⟨_, rk_put hcs _, by simpa using hsz⟩
      have T9 := hide (T8.setCell (p := ⟨g, i, none⟩) (fun _ => rfl) (.int .i64 99))
      have bnd : (m : Int) ≤ 17592186043904 := by have := HL.out; have := HM.out; omega
      clear hcs T8
      go_wp2_with fail
      go_roundw
      case rel => exact ⟨i + 1, by go_num, by omega, R9.out, T9.out⟩
      case measure => simp [intOf]; omega
    · have hltz : ¬ (i : Int) < (m : Int) := by omega
      obtain rfl : i = m := by omega
      have A8 := hide (okO_touch I A7.out T8 fun k hk e => by have := LA.out k hk; have := SZ.out; omega)
      have B8 := hide (okO_touch I B7.out T8 fun k hk e => by have := LB.out k hk; have := SZ.out; omega)
      have W8 := hide (T7.out.trans T8 fun k hk e => by have := HG.out; omega)
      have TH0 := hide (tri_begin I W8.out A8.out B8.out AP.out (fun k hk => Nat.le_trans T1.out.size (LA.out k hk)) (fun k hk => Nat.le_trans T1.out.size (LB.out k hk)))
      obtain ⟨a1, e1⟩ := ptr_c o1
      obtain ⟨a2, e2⟩ := ptr_c o2
      obtain ⟨a3, e3⟩ := ptr_r o1
      obtain ⟨a4, e4⟩ := ptr_r o2
      rw [e1, e2, e3, e4] at TH0
      rw [e1, e2, e3, e4]
      clear T8 R8 A7 B7 T7 R7 e1 e2 e3 e4 A8 B8 AP LA LB SZ HG T1
      generalize triS o1 o2 = s0 at *
      go_wp2_with fail
      clear W8
      generalize wr.heap.size = Bt at *
      generalize (wr.alloc (.cells #[.pointer a1, .pointer a2, .pointer none] 36)).alloc (.cells #[.pointer a3, .pointer a4, .pointer none] 37) = V at *
      go_loopw [19, 20, 21, 22] (fun s19 _ _ _ wr => ∃ (k : Nat) (s : Nat → Option Pr), s19 = .int .i64 (k : Int) ∧ k ≤ N ∧ Tri Pk w Bt (Bt + 1) k s wr) (fun s19 _ _ _ _ => N - (intOf s19).toNat)
      case atStart => exact ⟨0, s0, rfl, by omega, TH0.out⟩
      case round =>
        clear TH0
        obtain ⟨k, s, rfl, hk, TH⟩ := hrel
        have bndN : (N : Int) ≤ 4600000000000 := by have h1 : S.length ≤ 4600000000000 := HN.out; have := HNN.out; omega
        by_cases hlt2 : k < N
        · have hltz2 : (k : Int) < (N : Int) := by omega
          obtain ⟨b1, off, e1, p0, p1, p2, p3, p4, p5, p6⟩ := stp_at (Rc.Mem.calm HS.out TH.calm) k (by have := HNN.out; omega)
          subst e1
          generalize S.getD k stp0 = st at *
          have TA : Calm wr (wr.alloc (.cells #[.int .i64 st.k, .int .i64 st.who, .int .i64 st.to, .int .i64 st.src, .int .i64 st.lv, .string st.nm, .int .i64 st.t] 39)) := (Touch.refl _ _).alloc _
          have TH1 := hide (TH.still I TA)
          have BS := hide (al_new wr (.cells #[.int .i64 st.k, .int .i64 st.who, .int .i64 st.to, .int .i64 st.src, .int .i64 st.lv, .string st.nm, .int .i64 st.t] 39))
          have ZZ := hide (al_size wr (.cells #[.int .i64 st.k, .int .i64 st.who, .int .i64 st.to, .int .i64 st.src, .int .i64 st.lv, .string st.nm, .int .i64 st.t] 39))
          have LT : Hid (∀ i, i < 3 → ∀ g, fpO (s i) g → g < wr.heap.size) := hide fun i hi g hg => okO_lt I (TH.ok i hi) g hg
          have LBt : Hid (Bt < wr.heap.size ∧ Bt + 1 < wr.heap.size) := hide ⟨lt_of_heap TH.bt, lt_of_heap TH.br⟩
          have CP := fun x w => hide (place_any x w)
          have HK : Hid (k ≤ capH) := hide (show k ≤ 4600000000000 by omega)
          clear TH TA
          go_wp2_with fail
          clear p0 p1 p2 p3 p4 p5 p6
          generalize wr.alloc (.cells #[.int .i64 st.k, .int .i64 st.who, .int .i64 st.to, .int .i64 st.src, .int .i64 st.lv, .string st.nm, .int .i64 st.t] 39) = V1 at *
          generalize wr.heap.size = B at *
          have KC : Hid (∀ W, Calm V1 W → W.cell? ⟨B, 0, none⟩ = some (.int .i64 st.k) ∧ W.cell? ⟨B, 1, none⟩ = some (.int .i64 st.who) ∧ W.cell? ⟨B, 2, none⟩ = some (.int .i64 st.to)) := hide fun W hW => by
            have := hW.at BS.out
            simp [World.cell?, this]
          refine wp_region_held (S := Calm V1) (by kernel_rfl) ?_
          have hT0 : Calm V1 { V1 with drawn := V1.drawn + 1 } := (Touch.refl _ V1).drew
          refine wpAnyH_yield 0 101 (.pointer (some ⟨B, 1, none⟩)) rfl rfl (by kernel_rfl) (by kernel_rfl) (by kernel_rfl) (fun _ _ _ h => h) (by kernel_rfl) (fun W hW => by go_simp) (by assumption) rfl rfl ?_
          simp only [Act.put, List.setIfInBounds_toArray, List.set_cons_zero, List.set_cons_succ]
          refine wpAnyH_yield 1 102 (.int .i64 st.who) rfl rfl (by kernel_rfl) (by kernel_rfl) (by kernel_rfl) (fun _ _ _ h => h) (by kernel_rfl) (fun W hW => by obtain ⟨-, z1, -⟩ := KC.out W hW; go_simp) (by assumption) rfl rfl ?_
          simp only [Act.put, List.setIfInBounds_toArray, List.set_cons_zero, List.set_cons_succ]
          refine wpAnyH_yield 3 104 (.pointer (some ⟨B, 2, none⟩)) rfl rfl (by kernel_rfl) (by kernel_rfl) (by kernel_rfl) (fun _ _ _ h => h) (by kernel_rfl) (fun W hW => by go_simp) (by assumption) rfl rfl ?_
          simp only [Act.put, List.setIfInBounds_toArray, List.set_cons_zero, List.set_cons_succ]
          refine wpAnyH_yield 4 105 (.int .i64 st.to) rfl rfl (by kernel_rfl) (by kernel_rfl) (by kernel_rfl) (fun _ _ _ h => h) (by kernel_rfl) (fun W hW => by obtain ⟨-, -, z2⟩ := KC.out W hW; go_simp) (by assumption) rfl rfl ?_
          simp only [Act.put, List.setIfInBounds_toArray, List.set_cons_zero, List.set_cons_succ]
          refine wpAnyH_enter 2 103 14 #[.int .i64 st.who] rfl rfl (by kernel_rfl) (by kernel_rfl) (by kernel_rfl) ?_
          refine ((CP _ _).out).mono ?_
          rintro x w8 ⟨⟨ia, hia, rfl⟩, hw8⟩
          subst hw8
          refine ⟨_, rfl, hT0, ?_⟩
          simp only [Act.put, List.setIfInBounds_toArray, List.set_cons_zero, List.set_cons_succ]
          refine wpAnyH_enter 5 106 14 #[.int .i64 st.to] rfl rfl (by kernel_rfl) (by kernel_rfl) (by kernel_rfl) ?_
          refine ((CP _ _).out).mono ?_
          rintro x w8 ⟨⟨ib, hib, rfl⟩, hw8⟩
          subst hw8
          refine ⟨_, rfl, hT0, ?_⟩
          simp only [Act.put, List.setIfInBounds_toArray, List.set_cons_zero, List.set_cons_succ]
          refine wpAnyH_yield 6 21 (.int .i64 (ia : Int)) rfl rfl (by kernel_rfl) (by kernel_rfl) (by kernel_rfl) (fun _ _ _ h => h) (by kernel_rfl) (fun W hW => by kernel_rfl) (by assumption) rfl rfl ?_
          simp only [Act.put, List.setIfInBounds_toArray, List.set_cons_zero, List.set_cons_succ]
          refine wpAnyH_yield 7 22 (.int .i64 (ib : Int)) rfl rfl (by kernel_rfl) (by kernel_rfl) (by kernel_rfl) (fun _ _ _ h => h) (by kernel_rfl) (fun W hW => by kernel_rfl) (by assumption) rfl rfl ?_
          simp only [Act.put, List.setIfInBounds_toArray, List.set_cons_zero, List.set_cons_succ]
          refine wpAnyH_done (by kernel_rfl) ?_ _
          generalize { V1 with drawn := V1.drawn + 1 } = V2 at *
          have hia3 : (ia : Int) < 3 := by omega
          have hib3 : (ib : Int) < 3 := by omega
          have TH2 := hide (TH1.out.still I hT0)
          have BS2 := hide (hT0.at BS.out)
          have Z2 : Hid (B < V2.heap.size) := hide (lt_of_heap BS2.out)
          obtain ⟨y0, -, -⟩ := KC.out V2 hT0
          clear KC hT0 TH1 BS ZZ CP CN
          go_upto_if 109 with fail
          clear y0
          go_cut [] from 91 to 139 (fun wx => ∃ s', Tri Pk w Bt (Bt + 1) k s' wx ∧ (∀ i, i < 3 → ¬ fpO (s' i) B) ∧ wx.heap[B]? = some (.cells (stpc st) 39 (0, 0)))
          case first =>
            by_cases k6 : st.k = 6
            · obtain ⟨⟨c1, -⟩, -⟩ := TH2.out.spot ia hia
              have C1 := hide (copyO_c I J (s ia) V2 (TH2.out.ok ia hia) HK.out)
              go_wp2_with fail
              refine C1.out.mono ?_
              rintro x w9 ⟨v, rfl, t9, d9⟩
              obtain ⟨⟨av, rfl⟩, ⟨c2, z2⟩, c3, t10, ok10⟩ := TH2.out.copyA I hia hib t9 d9
              have C2 := hide (copyO_r I (s ia) V2 (.pointer av) w9 _ d9 t9.size t10 ok10 HK.out)
              have T9 := hide t9
              clear t9 d9 t10 ok10 c1 C1
              go_wp2_with fail
              refine C2.out.mono ?_
              rintro x w11 ⟨o, rfl, ev, t11, ok11, f11⟩
              rw [← ev] at t11
              obtain ⟨⟨c4, z4⟩, tri, tt⟩ := TH2.out.copyB I hib T9.out t11 ok11 f11
              have TR := hide tri
              have FB := hide f11
              have BSX := hide (tt.heap BS2.out (fun e => by have := LBt.out; omega))
              obtain ⟨ar, er⟩ := ptr_r o
              rw [er] at TR BSX ⊢
              clear t11 ok11 f11 tri tt c2 c3 z2 C2
              go_wp2_with fail
              clear c4 z4 ev er
              have NB : Hid (∀ i, i < 3 → ¬ fpO (putS s ib o i) B) := hide fun i hi h => by
                unfold putS at h
                split at h
                · have := FB.out B h; have := Z2.out; omega
                · have := LT.out i hi B h; omega
              have PS : putS s ib o ib = o := if_pos rfl
              generalize w11.setCell ⟨Bt + 1, ib, none⟩ (.pointer ar) = V5 at *
              refine wp_region_held (S := Calm V5) (by kernel_rfl) ?_
              have hT0 : Calm V5 { V5 with drawn := V5.drawn + 1 } := (Touch.refl _ V5).drew
              refine wpAnyH_yield 0 122 (.int .i64 (ib : Int)) rfl rfl (by kernel_rfl) (by kernel_rfl) (by kernel_rfl) (fun _ _ _ h => h) (by kernel_rfl) (fun W hW => by kernel_rfl) (by assumption) rfl rfl ?_
              simp only [Act.put, List.setIfInBounds_toArray, List.set_cons_zero, List.set_cons_succ]
              refine wpAnyH_yield 1 123 (.pointer (some ⟨Bt, ib, none⟩)) rfl rfl (by kernel_rfl) (by kernel_rfl) (by kernel_rfl) (fun _ _ _ h => h) (by kernel_rfl) (fun W hW => by go_simp) (by assumption) rfl rfl ?_
              simp only [Act.put, List.setIfInBounds_toArray, List.set_cons_zero, List.set_cons_succ]
              refine wpAnyH_yield 2 124 (cvO o) rfl rfl (by kernel_rfl) (by kernel_rfl) (by kernel_rfl) (fun _ _ _ h => h) (by kernel_rfl) (fun W hW => by obtain ⟨⟨c5, -⟩, -⟩ := (TR.out.still I hW).spot ib hib; rw [PS] at c5; go_simp) (by assumption) rfl rfl ?_
              simp only [Act.put, List.setIfInBounds_toArray, List.set_cons_zero, List.set_cons_succ]
              refine wpAnyH_yield 3 125 (.bool o.isNone) rfl rfl (by kernel_rfl) (by kernel_rfl) (by kernel_rfl) (fun _ _ _ h => h) (by kernel_rfl) (fun W hW => by obtain ⟨n1, n2⟩ := nil_c 124 o W; go_simp) (by assumption) rfl rfl ?_
              simp only [Act.put, List.setIfInBounds_toArray, List.set_cons_zero, List.set_cons_succ]
              refine wpAnyH_yield 4 126 (.int .i64 (ib : Int)) rfl rfl (by kernel_rfl) (by kernel_rfl) (by kernel_rfl) (fun _ _ _ h => h) (by kernel_rfl) (fun W hW => by kernel_rfl) (by assumption) rfl rfl ?_
              simp only [Act.put, List.setIfInBounds_toArray, List.set_cons_zero, List.set_cons_succ]
              refine wpAnyH_yield 5 127 (.pointer (some ⟨Bt + 1, ib, none⟩)) rfl rfl (by kernel_rfl) (by kernel_rfl) (by kernel_rfl) (fun _ _ _ h => h) (by kernel_rfl) (fun W hW => by go_simp) (by assumption) rfl rfl ?_
              simp only [Act.put, List.setIfInBounds_toArray, List.set_cons_zero, List.set_cons_succ]
              refine wpAnyH_yield 6 128 (rvO o) rfl rfl (by kernel_rfl) (by kernel_rfl) (by kernel_rfl) (fun _ _ _ h => h) (by kernel_rfl) (fun W hW => by obtain ⟨-, c5, -⟩ := (TR.out.still I hW).spot ib hib; rw [PS] at c5; go_simp) (by assumption) rfl rfl ?_
              simp only [Act.put, List.setIfInBounds_toArray, List.set_cons_zero, List.set_cons_succ]
              refine wpAnyH_yield 7 129 (.bool o.isNone) rfl rfl (by kernel_rfl) (by kernel_rfl) (by kernel_rfl) (fun _ _ _ h => h) (by kernel_rfl) (fun W hW => by obtain ⟨n1, n2⟩ := nil_r 128 o W; go_simp) (by assumption) rfl rfl ?_
              simp only [Act.put, List.setIfInBounds_toArray, List.set_cons_zero, List.set_cons_succ]
              refine wpAnyH_yield 8 130 (.bool false) rfl rfl (by kernel_rfl) (by kernel_rfl) (by kernel_rfl) (fun _ _ _ h => h) (by kernel_rfl) (fun W hW => by go_simp) (by assumption) rfl rfl ?_
              simp only [Act.put, List.setIfInBounds_toArray, List.set_cons_zero, List.set_cons_succ]
              refine wpAnyH_done (by kernel_rfl) ?_ _
              have TR2 := hide (TR.out.still I hT0)
              have BX2 := hide (hT0.at BSX.out)
              clear hT0
              go_wp2_with fail
              go_meet
              case rel => exact ⟨_, TR2.out, NB.out, BX2.out⟩
            · have kb : (st.k == 6) = false := by simp [k6]
              go_wp2_with fail
              go_meet
              case rel => exact ⟨s, TH2.out, fun i hi h => by have := LT.out i hi B h; omega, BS2.out⟩
          case rest =>
            obtain ⟨s', TH, NB, BH⟩ := hcut
            have TR := hide TH
            have BX := hide BH
            have HNB := hide (NB ia hia)
            clear TH BH NB TH2 BS2 LT LBt Z2
            go_wp2_with fail
            refine wp_region_held (S := Touch (fpO (s' ia)) wc) (by kernel_rfl) ?_
            have hT0 : Calm wc { wc with drawn := wc.drawn + 1 } := (Touch.refl _ wc).drew
            have hT1 : Touch (fpO (s' ia)) wc { wc with drawn := wc.drawn + 1 } := (Touch.refl _ wc).drew
            have SP : Hid (∀ W, Touch (fpO (s' ia)) wc W → W.cell? ⟨Bt, ia, none⟩ = some (cvO (s' ia)) ∧ W.cell? ⟨Bt + 1, ia, none⟩ = some (rvO (s' ia)) ∧ W.heap[B]? = some (.cells (stpc st) 39 (0, 0))) := hide fun W hW => by
              have h1 := hW.heap TR.out.bt (fun h => (TR.out.lo ia hia _ h).2.1 rfl)
              have h2 := hW.heap TR.out.br (fun h => (TR.out.lo ia hia _ h).2.2 rfl)
              refine ⟨?_, ?_, hW.heap BX.out HNB.out⟩
              · rcases (by omega : ia = 0 ∨ ia = 1 ∨ ia = 2) with rfl | rfl | rfl <;> simp [World.cell?, h1]
              · rcases (by omega : ia = 0 ∨ ia = 1 ∨ ia = 2) with rfl | rfl | rfl <;> simp [World.cell?, h2]
            refine wpAnyH_yield 0 131 (.int .i64 (ia : Int)) rfl rfl (by kernel_rfl) (by kernel_rfl) (by kernel_rfl) (fun _ _ _ h => h) (by kernel_rfl) (fun W hW => by kernel_rfl) (by assumption) rfl rfl ?_
            simp only [Act.put, List.setIfInBounds_toArray, List.set_cons_zero, List.set_cons_succ]
            refine wpAnyH_yield 1 132 (.pointer (some ⟨Bt, ia, none⟩)) rfl rfl (by kernel_rfl) (by kernel_rfl) (by kernel_rfl) (fun _ _ _ h => h) (by kernel_rfl) (fun W hW => by go_simp) (by assumption) rfl rfl ?_
            simp only [Act.put, List.setIfInBounds_toArray, List.set_cons_zero, List.set_cons_succ]
            refine wpAnyH_yield 2 133 (cvO (s' ia)) rfl rfl (by kernel_rfl) (by kernel_rfl) (by kernel_rfl) (fun _ _ _ h => h) (by kernel_rfl) (fun W hW => by obtain ⟨c5, -, -⟩ := SP.out W hW; go_simp) (by assumption) rfl rfl ?_
            simp only [Act.put, List.setIfInBounds_toArray, List.set_cons_zero, List.set_cons_succ]
            refine wpAnyH_yield 3 134 (.int .i64 (ia : Int)) rfl rfl (by kernel_rfl) (by kernel_rfl) (by kernel_rfl) (fun _ _ _ h => h) (by kernel_rfl) (fun W hW => by kernel_rfl) (by assumption) rfl rfl ?_
            simp only [Act.put, List.setIfInBounds_toArray, List.set_cons_zero, List.set_cons_succ]
            refine wpAnyH_yield 4 135 (.pointer (some ⟨Bt + 1, ia, none⟩)) rfl rfl (by kernel_rfl) (by kernel_rfl) (by kernel_rfl) (fun _ _ _ h => h) (by kernel_rfl) (fun W hW => by go_simp) (by assumption) rfl rfl ?_
            simp only [Act.put, List.setIfInBounds_toArray, List.set_cons_zero, List.set_cons_succ]
            refine wpAnyH_yield 5 136 (rvO (s' ia)) rfl rfl (by kernel_rfl) (by kernel_rfl) (by kernel_rfl) (fun _ _ _ h => h) (by kernel_rfl) (fun W hW => by obtain ⟨-, c5, -⟩ := SP.out W hW; go_simp) (by assumption) rfl rfl ?_
            simp only [Act.put, List.setIfInBounds_toArray, List.set_cons_zero, List.set_cons_succ]
            refine wpAnyH_yield 6 137 (.agg (stpc st)) rfl rfl (by kernel_rfl) (by kernel_rfl) (by kernel_rfl) (fun _ _ _ h => h) (by kernel_rfl) (fun W hW => by obtain ⟨-, -, c5⟩ := SP.out W hW; obtain ⟨d0, d1, d2, d3, d4, d5, d6⟩ := stp_all c5; go_simp) (by assumption) rfl rfl ?_
            simp only [Act.put, List.setIfInBounds_toArray, List.set_cons_zero, List.set_cons_succ]
            refine wpAnyH_enter 7 138 17 #[cvO (s' ia), rvO (s' ia), .agg (stpc st)] rfl rfl (by kernel_rfl) (by kernel_rfl) (by kernel_rfl) ?_
            have TR3 := hide (TR.out.still I hT0)
            generalize { wc with drawn := wc.drawn + 1 } = V6 at *
            refine (playsO I J (s' ia) st V6 (TR3.out.ok ia hia) HK.out).mono ?_
            rintro x w12 ⟨rfl, t12, o3, ok3, e3, e4, f3⟩
            have h1 := hT1.trans t12 fun _ _ h => h
            refine ⟨_, rfl, h1, ?_⟩
            simp only [Act.put, List.setIfInBounds_toArray, List.set_cons_zero, List.set_cons_succ]
            refine wpAnyH_yield 8 139 (.bool false) rfl rfl (by kernel_rfl) (by kernel_rfl) (by kernel_rfl) (fun _ _ _ h => h) (by kernel_rfl) (fun W hW => by go_simp) (by assumption) rfl rfl ?_
            simp only [Act.put, List.setIfInBounds_toArray, List.set_cons_zero, List.set_cons_succ]
            refine wpAnyH_done (by kernel_rfl) ?_ _
            have TR4 := hide (TR3.out.step I hia t12 ok3 e3 e4 f3)
            clear hT0 hT1 h1 t12 ok3 e3 e4 f3 SP TR TR3 HNB BX
            go_wp2_with fail
            go_roundw
            case rel => exact ⟨k + 1, _, by go_num, by omega, TR4.out⟩
            case measure => simp [intOf]; omega
        · have hltz2 : ¬ (k : Int) < (N : Int) := by omega
          obtain rfl : k = N := by omega
          have TR := hide TH
          have HK : Hid (k ≤ capH) := hide (show k ≤ 4600000000000 by omega)
          clear TH
          go_wp2_with fail
          go_loopw [23] (fun s23 wz => ∃ j : Nat, s23 = .int .i64 (j : Int) ∧ j ≤ 3 ∧ Tri Pk w Bt (Bt + 1) k s wz) (fun s23 _ => 3 - (intOf s23).toNat)
          case atStart => exact ⟨0, rfl, by omega, TR.out⟩
          case round =>
            clear TR
            obtain ⟨j, rfl, hj, TZ⟩ := hrel
            have HTZ := hide TZ
            clear TZ
            by_cases hlt3 : j < 3
            · have hltz3 : (j : Int) < 3 := by omega
              go_wp2_with fail
              generalize wr = W0 at *
              refine wp_region_held (S := Calm W0) (by kernel_rfl) ?_
              have hT0 : Calm W0 { W0 with drawn := W0.drawn + 1 } := (Touch.refl _ W0).drew
              refine wpAnyH_yield 0 144 (.int .i64 (j : Int)) rfl rfl (by kernel_rfl) (by kernel_rfl) (by kernel_rfl) (fun _ _ _ h => h) (by kernel_rfl) (fun W hW => by kernel_rfl) (by assumption) rfl rfl ?_
              simp only [Act.put, List.setIfInBounds_toArray, List.set_cons_zero, List.set_cons_succ]
              refine wpAnyH_yield 1 145 (.pointer (some ⟨Bt, j, none⟩)) rfl rfl (by kernel_rfl) (by kernel_rfl) (by kernel_rfl) (fun _ _ _ h => h) (by kernel_rfl) (fun W hW => by go_simp) (by assumption) rfl rfl ?_
              simp only [Act.put, List.setIfInBounds_toArray, List.set_cons_zero, List.set_cons_succ]
              refine wpAnyH_yield 2 146 (cvO (s j)) rfl rfl (by kernel_rfl) (by kernel_rfl) (by kernel_rfl) (fun _ _ _ h => h) (by kernel_rfl) (fun W hW => by obtain ⟨⟨c5, -⟩, -⟩ := (HTZ.out.still I hW).spot j hlt3; go_simp) (by assumption) rfl rfl ?_
              simp only [Act.put, List.setIfInBounds_toArray, List.set_cons_zero, List.set_cons_succ]
              refine wpAnyH_yield 3 147 (.int .i64 (j : Int)) rfl rfl (by kernel_rfl) (by kernel_rfl) (by kernel_rfl) (fun _ _ _ h => h) (by kernel_rfl) (fun W hW => by kernel_rfl) (by assumption) rfl rfl ?_
              simp only [Act.put, List.setIfInBounds_toArray, List.set_cons_zero, List.set_cons_succ]
              refine wpAnyH_yield 4 148 (.pointer (some ⟨Bt + 1, j, none⟩)) rfl rfl (by kernel_rfl) (by kernel_rfl) (by kernel_rfl) (fun _ _ _ h => h) (by kernel_rfl) (fun W hW => by go_simp) (by assumption) rfl rfl ?_
              simp only [Act.put, List.setIfInBounds_toArray, List.set_cons_zero, List.set_cons_succ]
              refine wpAnyH_yield 5 149 (rvO (s j)) rfl rfl (by kernel_rfl) (by kernel_rfl) (by kernel_rfl) (fun _ _ _ h => h) (by kernel_rfl) (fun W hW => by obtain ⟨-, c5, -⟩ := (HTZ.out.still I hW).spot j hlt3; go_simp) (by assumption) rfl rfl ?_
              simp only [Act.put, List.setIfInBounds_toArray, List.set_cons_zero, List.set_cons_succ]
              refine wpAnyH_enter 6 150 18 #[cvO (s j), rvO (s j)] rfl rfl (by kernel_rfl) (by kernel_rfl) (by kernel_rfl) ?_
              refine (tellsO I J (s j) _ ((HTZ.out.still I hT0).ok j hlt3) HK.out).mono ?_
              rintro x w13 ⟨rfl, t13⟩
              have h1 := hT0.tr t13
              refine ⟨_, rfl, h1, ?_⟩
              simp only [Act.put, List.setIfInBounds_toArray, List.set_cons_zero, List.set_cons_succ]
              refine wpAnyH_yield 7 151 (.bool false) rfl rfl (by kernel_rfl) (by kernel_rfl) (by kernel_rfl) (fun _ _ _ h => h) (by kernel_rfl) (fun W hW => by go_simp) (by assumption) rfl rfl ?_
              simp only [Act.put, List.setIfInBounds_toArray, List.set_cons_zero, List.set_cons_succ]
              refine wpAnyH_yield 8 152 (.bool false) rfl rfl (by kernel_rfl) (by kernel_rfl) (by kernel_rfl) (fun _ _ _ h => h) (by kernel_rfl) (fun W hW => by kernel_rfl) (by assumption) rfl rfl ?_
              simp only [Act.put, List.setIfInBounds_toArray, List.set_cons_zero, List.set_cons_succ]
              refine wpAnyH_yield 9 153 (.int .i64 (j : Int)) rfl rfl (by kernel_rfl) (by kernel_rfl) (by kernel_rfl) (fun _ _ _ h => h) (by kernel_rfl) (fun W hW => by kernel_rfl) (by assumption) rfl rfl ?_
              simp only [Act.put, List.setIfInBounds_toArray, List.set_cons_zero, List.set_cons_succ]
              refine wpAnyH_yield 10 154 (.pointer (some ⟨Bt, j, none⟩)) rfl rfl (by kernel_rfl) (by kernel_rfl) (by kernel_rfl) (fun _ _ _ h => h) (by kernel_rfl) (fun W hW => by go_simp) (by assumption) rfl rfl ?_
              simp only [Act.put, List.setIfInBounds_toArray, List.set_cons_zero, List.set_cons_succ]
              refine wpAnyH_yield 11 155 (cvO (s j)) rfl rfl (by kernel_rfl) (by kernel_rfl) (by kernel_rfl) (fun _ _ _ h => h) (by kernel_rfl) (fun W hW => by obtain ⟨⟨c5, -⟩, -⟩ := (HTZ.out.still I hW).spot j hlt3; go_simp) (by assumption) rfl rfl ?_
              simp only [Act.put, List.setIfInBounds_toArray, List.set_cons_zero, List.set_cons_succ]
              refine wpAnyH_yield 12 156 (.int .i64 (j : Int)) rfl rfl (by kernel_rfl) (by kernel_rfl) (by kernel_rfl) (fun _ _ _ h => h) (by kernel_rfl) (fun W hW => by kernel_rfl) (by assumption) rfl rfl ?_
              simp only [Act.put, List.setIfInBounds_toArray, List.set_cons_zero, List.set_cons_succ]
              refine wpAnyH_yield 13 157 (.pointer (some ⟨Bt + 1, j, none⟩)) rfl rfl (by kernel_rfl) (by kernel_rfl) (by kernel_rfl) (fun _ _ _ h => h) (by kernel_rfl) (fun W hW => by go_simp) (by assumption) rfl rfl ?_
              simp only [Act.put, List.setIfInBounds_toArray, List.set_cons_zero, List.set_cons_succ]
              refine wpAnyH_yield 14 158 (rvO (s j)) rfl rfl (by kernel_rfl) (by kernel_rfl) (by kernel_rfl) (fun _ _ _ h => h) (by kernel_rfl) (fun W hW => by obtain ⟨-, c5, -⟩ := (HTZ.out.still I hW).spot j hlt3; go_simp) (by assumption) rfl rfl ?_
              simp only [Act.put, List.setIfInBounds_toArray, List.set_cons_zero, List.set_cons_succ]
              refine wpAnyH_enter 15 159 19 #[cvO (s j), rvO (s j), .int .i64 0] rfl rfl (by kernel_rfl) (by kernel_rfl) (by kernel_rfl) ?_
              refine (goesO I J (s j) 0 _ ((HTZ.out.still I h1).ok j hlt3) HK.out).mono ?_
              rintro x w14 ⟨rfl, t14⟩
              have h2 := h1.tr t14
              refine ⟨_, rfl, h2, ?_⟩
              simp only [Act.put, List.setIfInBounds_toArray, List.set_cons_zero, List.set_cons_succ]
              refine wpAnyH_yield 16 160 (.bool false) rfl rfl (by kernel_rfl) (by kernel_rfl) (by kernel_rfl) (fun _ _ _ h => h) (by kernel_rfl) (fun W hW => by go_simp) (by assumption) rfl rfl ?_
              simp only [Act.put, List.setIfInBounds_toArray, List.set_cons_zero, List.set_cons_succ]
              refine wpAnyH_yield 17 161 (.bool false) rfl rfl (by kernel_rfl) (by kernel_rfl) (by kernel_rfl) (fun _ _ _ h => h) (by kernel_rfl) (fun W hW => by go_simp) (by assumption) rfl rfl ?_
              simp only [Act.put, List.setIfInBounds_toArray, List.set_cons_zero, List.set_cons_succ]
              refine wpAnyH_done (by kernel_rfl) ?_ _
              have TZ2 := hide (HTZ.out.still I h2)
              clear hT0 h1 h2 t13 t14 HTZ
              go_wp2_with fail
              go_roundw
              case rel => exact ⟨j + 1, by go_num, by omega, TZ2.out⟩
              case measure => simp [intOf]; omega
            · have hltz3 : ¬ (j : Int) < 3 := by omega
              obtain rfl : j = 3 := by omega
              go_wp2_with fail
              refine ((C7 _).out).mono ?_
              rintro x w15 ⟨rfl, t15⟩
              have TT := hide (HTZ.out.calm.tr t15)
              clear t15 HTZ
              go_wp2_with fail
              go_ret
              exact ⟨rfl, TT.out⟩
end
end Go.Proofs.Ytcmigkemhoecfaa
