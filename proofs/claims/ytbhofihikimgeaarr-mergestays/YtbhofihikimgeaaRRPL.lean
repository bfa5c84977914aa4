/- The walk of MergeStays. -/
import Derived.Test.YtbhofihikimgeaaRRPG
import Derived.Test.YtbhofihikimgeaaRRPK
import Derived.BigQuiet
import Derived.Deep.QuietTactic
namespace Go.Proofs.YtbhofihikimgeaaRR
open Go.RowKit

set_option maxRecDepth 100000 in
set_option maxHeartbeats 4000000 in
theorem stays_walk (ao : Option Addr) (cap : Nat) (L : List Wn) (x y : As) (w : World) (hs : encW.Sl w ao cap L) (hb : L.length ≤ 4398046510976) :
    Calls Try.prog 4 #[.slice ao L.length cap, asv x, asv y] w fun e w' => e = .returned (.bool true) ∧ Calm w w' := by
  have CK := fun w => hide (known9_any w)
  have T0 : Calm w ((w.alloc (.cells (asc x) 26)).alloc (.cells (asc y) 26)) := ((Touch.refl _ _).alloc _).alloc _
  obtain ⟨A0, A1⟩ := al1 w (.cells (asc x) 26) (.cells (asc y) 26)
  by_cases hg : 100 < L.length
  · have HT := hide T0
    generalize L.length = n at *
    clear hs T0 A0 A1
    go_enter Try.func4, Try.ntmps4
    go_wp2_with fail
    refine (CK _).out.mono ?_
    rintro e w1 ⟨rfl, T1⟩
    have HU := hide (HT.out.tr T1)
    clear T1
    go_wp2_with fail
    go_ret
    exact ⟨rfl, HU.out⟩
  · cases hbd : badT L x.s with
    | true =>
      have CJ : Hid (∀ W, Calm w W → Calls Try.prog 9 #[.slice ao L.length cap, spv x.s, .int .i64 x.m, .int .i64 x.h] W fun e w' => e = .returned (.tuple #[.slice none 0 0, .int .i64 0, .int .i64 190]) ∧ Calm W w') := hide fun W h => (join9_any ao cap L x.s x.m x.h W (Rc.Sl.calm hs h) (by omega)).mono fun e w' r => r.1 hbd
      obtain ⟨q0, q1, q2, q3⟩ := as_cells A0
      have HT := hide T0
      generalize L.length = n at *
      clear hs T0 A0 A1 hbd
      go_enter Try.func4, Try.ntmps4
      go_wp2_with fail
      refine (CJ.out _ HT.out).mono ?_
      rintro e w1 ⟨rfl, T1⟩
      have HU := hide (HT.out.tr T1)
      clear T1 CJ
      go_wp2_with fail
      refine (CK _).out.mono ?_
      rintro e w2 ⟨rfl, T2⟩
      have HV := hide (HU.out.tr T2)
      clear T2
      go_wp2_with fail
      go_ret
      exact ⟨rfl, HV.out⟩
    | false =>
      obtain ⟨hap, hs1⟩ := bad_out hbd
      have CJ : Hid (∀ W, Calm w W → Calls Try.prog 9 #[.slice ao L.length cap, spv x.s, .int .i64 x.m, .int .i64 x.h] W fun e w' => ∃ lo lc, e = .returned (.tuple #[.slice lo (joinL L x.s x.m x.h).length lc, .int .i64 (fromR L x.s : Nat), .int .i64 0]) ∧ encW.Own 43 w' W.heap.size (.slice lo (joinL L x.s x.m x.h).length lc) (joinL L x.s x.m x.h) ∧ Calm W w') := hide fun W h => (join9_any ao cap L x.s x.m x.h W (Rc.Sl.calm hs h) (by omega)).mono fun e w' r => r.2 hbd
      have CA : Hid (∀ lo lc W, encW.Mem W lo (joinL L x.s x.m x.h) → Calls Try.prog 11 #[.slice lo (joinL L x.s x.m x.h).length lc] W fun e w' => e = .returned (.bool true) ∧ Calm W w') := hide fun lo lc W h => by
        have := apart_any lo lc (joinL L x.s x.m x.h) W h (by have := join_len L x.s x.m x.h; omega)
        rw [join_apart hap hs1] at this
        exact this
      have CO := fun a b w => hide (roverlap_any a b w)
      have ON := hide (offN_next L x.s)
      have OZ : Hid (offN L x.s 0 = 0) := hide rfl
      have OL : Hid (∀ k, offN L x.s k ≤ k) := hide (offN_le L x.s)
      have SA := hide (stay_at hap hs1 x.m x.h)
      have SL := hide (stay_len hap hs1 x.m x.h)
      have HAt : Hid (∀ k, k < L.length → ∀ W, Calm w W → _) := hide fun k hk W hW => wn_at (Rc.Mem.calm hs.mem hW) k hk
      have jl : (joinL L x.s x.m x.h).length ≤ 101 := by have := join_len L x.s x.m x.h; omega
      obtain ⟨J, hJ⟩ : ∃ J, J = joinL L x.s x.m x.h := ⟨_, rfl⟩
      have HSl := hide hs
      have HJ := hide hJ
      have HAP := hide (And.intro hap hs1)
      rw [← hJ] at CJ CA SA SL jl
      generalize hf : fromR L x.s = f at *
      generalize hu : J.length = u at *
      have HF := hide hf
      have HUu := hide hu
      obtain ⟨n, hN⟩ : ∃ n, n = L.length := ⟨_, rfl⟩
      rw [← hN] at CJ SL hg ⊢
      have HN := hide hN
      obtain ⟨q0, q1, q2, q3⟩ := as_cells A0
      have HT0 := hide T0
      have HA0 := hide A0
      have HA1 := hide A1
      clear hs T0 A0 A1 hbd hap hs1 hJ hf hu hN hb
      go_enter Try.func4, Try.ntmps4
      go_wp2_with fail
      refine (CJ.out _ HT0.out).mono ?_
      rintro e w1 ⟨lo, lc, rfl, ow, T1⟩
      have C1 := hide (CA.out lo lc w1 (Rc.Own.mem ow).2.1)
      have HO1 := hide ow
      have HT1 := hide (HT0.out.tr T1)
      have HB0 := hide (T1.at HA0.out)
      have HB1 := hide (T1.at HA1.out)
      clear T1 ow CA HA0 HA1 HT0 q0 q1 q2 q3
      go_wp2_with fail
      refine C1.out.mono ?_
      rintro e w2 ⟨rfl, T2⟩
      have HO2 := hide (Rc.Own.calm HO1.out T2)
      have HT2 := hide (HT1.out.tr T2)
      have HC0 := hide (T2.at HB0.out)
      have HC1 := hide (T2.at HB1.out)
      clear T2 C1 HO1 HT1 HB0 HB1
      generalize hQ : w.heap.size = Q at *
      have HQ := hide hQ
      clear hQ
      go_wp2_with fail
      go_loopw [10, 11] (fun c i wr => ∃ k : Nat, i = .int .i64 k ∧ k ≤ n ∧ c = .int .i64 (offN L x.s k : Nat) ∧ Calm w2 wr) (fun _ i _ => n - (intOf i).toNat)
      case atStart => exact ⟨0, rfl, Nat.zero_le _, by rw [OZ.out]; rfl, Touch.refl _ _⟩
      case round =>
        obtain ⟨k, rfl, hk, rfl, TL⟩ := hrel
        obtain ⟨wo, hwo⟩ : ∃ x, x = wr := ⟨_, rfl⟩
        subst hwo
        by_cases hlt : k < n
        · have hkL : k < L.length := by have := HN.out; omega
          obtain ⟨b, off, rfl, -⟩ := HAt.out k hkL w2 HT2.out
          have KY : Hid (∀ W, Calm w2 W → wcell W b (off + k * 9) (L.getD k wn0)) := hide fun W hW => by
            obtain ⟨b', off', e, c⟩ := HAt.out k hkL W (HT2.out.tr hW)
            injection e with e
            injection e with e1 e2
            subst e1 e2
            exact c
          have ONk := hide (ON.out k hkL)
          have SAk := hide (SA.out k hkL)
          have ole := OL.out k
          generalize L.getD k wn0 = z at *
          generalize offN L x.s k = c at *
          have H2 := hide TL
          have C1 := fun w => CO z.sp x.s w
          clear TL
          generalize over z.sp x.s = ov at *
          have hki : (k : Int) < (n : Int) := by omega
          go_wp2_with fail
          refine wp_region_held (S := Calm w2) (by kernel_rfl) ?_
          have hT0 : Calm w2 { wo with drawn := wo.drawn + 1 } := H2.out.drew
          refine wpAnyH_yield 0 61 (.slice (some ⟨b, off, none⟩) n cap) rfl rfl (by kernel_rfl) (by kernel_rfl) (by kernel_rfl) (fun _ _ _ h => h) (by kernel_rfl) (fun W hW => by kernel_rfl) (by assumption) rfl rfl ?_
          simp only [Act.put, List.setIfInBounds_toArray, List.set_cons_zero, List.set_cons_succ]
          refine wpAnyH_yield 1 62 (.int .i64 (k : Int)) rfl rfl (by kernel_rfl) (by kernel_rfl) (by kernel_rfl) (fun _ _ _ h => h) (by kernel_rfl) (fun W hW => by kernel_rfl) (by assumption) rfl rfl ?_
          simp only [Act.put, List.setIfInBounds_toArray, List.set_cons_zero, List.set_cons_succ]
          refine wpAnyH_yield 2 63 (.pointer (some ⟨b, off + k * 9, none⟩)) rfl rfl (by kernel_rfl) (by kernel_rfl) (by kernel_rfl) (fun _ _ _ h => h) (by kernel_rfl) (fun W hW => by go_simp) (by assumption) rfl rfl ?_
          simp only [Act.put, List.setIfInBounds_toArray, List.set_cons_zero, List.set_cons_succ]
          refine wpAnyH_yield 3 64 (.pointer (some ⟨b, off + k * 9, none⟩)) rfl rfl (by kernel_rfl) (by kernel_rfl) (by kernel_rfl) (fun _ _ _ h => h) (by kernel_rfl) (fun W hW => by go_simp) (by assumption) rfl rfl ?_
          simp only [Act.put, List.setIfInBounds_toArray, List.set_cons_zero, List.set_cons_succ]
          refine wpAnyH_yield 4 65 (spv z.sp) rfl rfl (by kernel_rfl) (by kernel_rfl) (by kernel_rfl) (fun _ _ _ h => h) (by kernel_rfl) (fun W hW => by obtain ⟨⟨c0, c1, c2⟩, -⟩ := KY.out W hW; go_simp) (by assumption) rfl rfl ?_
          simp only [Act.put, List.setIfInBounds_toArray, List.set_cons_zero, List.set_cons_succ]
          refine wpAnyH_yield 5 66 (.pointer (some ⟨Q, 0, none⟩)) rfl rfl (by kernel_rfl) (by kernel_rfl) (by kernel_rfl) (fun _ _ _ h => h) (by kernel_rfl) (fun W hW => by go_simp) (by assumption) rfl rfl ?_
          simp only [Act.put, List.setIfInBounds_toArray, List.set_cons_zero, List.set_cons_succ]
          refine wpAnyH_yield 6 67 (spv x.s) rfl rfl (by kernel_rfl) (by kernel_rfl) (by kernel_rfl) (fun _ _ _ h => h) (by kernel_rfl) (fun W hW => by obtain ⟨q0, q1, q2, q3⟩ := as_cells (hW.at HC0.out); go_simp) (by assumption) rfl rfl ?_
          simp only [Act.put, List.setIfInBounds_toArray, List.set_cons_zero, List.set_cons_succ]
          refine wpAnyH_enter 7 68 15 #[spv z.sp, spv x.s] rfl rfl (by kernel_rfl) (by kernel_rfl) (by kernel_rfl) ?_
          refine ((C1 _).out).mono ?_
          rintro r w5 ⟨rfl, T5⟩
          have h5 := hT0.tr T5
          refine ⟨_, rfl, h5, ?_⟩
          simp only [Act.put, List.setIfInBounds_toArray, List.set_cons_zero, List.set_cons_succ]
          refine wpAnyH_done (by kernel_rfl) ?_ _
          have H3 := hide h5
          clear hT0 T5 h5 H2 C1
          cases ov with
          | true =>
            clear SAk
            go_wp2_with fail
            go_roundw
            case rel => exact ⟨k + 1, by go_num, by omega, by rw [ONk.out]; rfl, H3.out⟩
            case measure => simp [intOf]; omega
          | false =>
            obtain ⟨k0, hk0, hkf, ek0⟩ := SAk.out rfl
            have JY : Hid (∀ j, j < u → ∃ lb lf, lo = some ⟨lb, lf, none⟩ ∧ ∀ W, Calm w2 W → wcell W lb (lf + j * 9) (J.getD j wn0)) := hide fun j hj => by
              have hm := (Rc.Own.mem HO2.out).2.1
              have hj' : j < J.length := by have := HUu.out; omega
              obtain ⟨lb, lf, e, -⟩ := wn_at hm j hj'
              refine ⟨lb, lf, e, fun W hW => ?_⟩
              obtain ⟨b', off', e', c⟩ := wn_at (Rc.Mem.calm hm hW) j hj'
              rw [e] at e'
              injection e' with e'
              injection e' with e1 e2
              subst e1 e2
              exact c
            have HK := hide ek0
            clear SAk ek0
            go_wp2_with fail
            go_loopw [12, 13] (fun t j wz => ∃ (jn : Nat) (tb : Bool), j = .int .i64 jn ∧ jn ≤ u ∧ t = .bool tb ∧ (k0 < jn → tb = true) ∧ Calm w2 wz) (fun _ j _ => u - (intOf j).toNat)
            case atStart => exact ⟨0, false, rfl, Nat.zero_le _, rfl, fun h => absurd h (by omega), H3.out⟩
            case round =>
              obtain ⟨jn, tb, rfl, hjn, rfl, htb, TI⟩ := hrel
              by_cases hlj : jn < u
              · obtain ⟨lb, lf, rfl, hcell⟩ := JY.out jn hlj
                have hji : (jn : Int) < (u : Int) := by omega
                obtain ⟨⟨c0, c1, c2⟩, ⟨c3, c4, c5, c6⟩, c7, c8⟩ := hcell wr TI
                obtain ⟨⟨d0, d1, d2⟩, ⟨d3, d4, d5, d6⟩, d7, d8⟩ := KY.out wr TI
                have EQ : Hid (jn = k0 → J.getD jn wn0 = z) := hide fun e => by rw [e]; exact HK.out
                generalize J.getD jn wn0 = v at *
                have HI := hide TI
                clear TI hcell
                cases tb with
                | true =>
                  go_wp2_with fail
                  go_quiet (fail)
                  have H4 := hide (HI.out.drewN nq)
                  clear HI
                  go_wp2_with fail
                  go_roundw
                  case rel => exact ⟨jn + 1, true, by go_num, by omega, rfl, fun _ => rfl, H4.out⟩
                  case measure => simp [intOf]; omega
                | false =>
                  have hnk : ¬ k0 < jn := fun h => (by have := htb h; cases this)
                  by_cases hjf : jn = f
                  · subst hjf
                    go_wp2_with fail
                    go_quiet (fail)
                    have H4 := hide (HI.out.drewN nq)
                    clear HI
                    go_wp2_with fail
                    go_roundw
                    case rel => exact ⟨jn + 1, false, by go_num, by omega, rfl, fun h => absurd (show k0 = jn by omega) hkf, H4.out⟩
                    case measure => simp [intOf]; omega
                  · have hne : ((jn : Int) != (f : Int)) = true := by simpa using (show ¬ (jn : Int) = (f : Int) by omega)
                    by_cases hvz : v = z
                    · subst hvz
                      go_wp2_with fail
                      go_quiet (fail)
                      have H4 := hide (HI.out.drewN nq)
                      clear HI
                      go_wp2_with fail
                      go_roundw
                      case rel => exact ⟨jn + 1, true, by go_num, by omega, rfl, fun _ => rfl, H4.out⟩
                      case measure => simp [intOf]; omega
                    · have hjk : jn ≠ k0 := fun e => hvz (EQ.out e)
                      clear EQ
                      rcases wn_diff hvz with hd | ⟨g0, hd⟩ | ⟨g0, g1, hd⟩ | ⟨g0, g1, g2, hd⟩ | ⟨g0, g1, g2, g3, hd⟩ | ⟨g0, g1, g2, g3, g4, hd⟩ | ⟨g0, g1, g2, g3, g4, g5, hd⟩ | ⟨g0, g1, g2, g3, g4, g5, g6, hd⟩ | ⟨g0, g1, g2, g3, g4, g5, g6, g7, hd⟩
                      all_goals
                        go_wp2_with fail
                        go_quiet (fail)
                        have H4 := hide (HI.out.drewN nq)
                        clear HI
                        go_wp2_with fail
                        go_roundw
                        case rel => exact ⟨jn + 1, false, by go_num, by omega, rfl, fun h => absurd (show jn = k0 by omega) hjk, H4.out⟩
                        case measure => simp [intOf]; omega
              · have e : jn = u := by omega
                subst e
                obtain rfl : tb = true := htb hk0
                have H4 := hide TI
                clear TI JY KY HK htb
                go_wp2_with fail
                go_roundw
                case rel => exact ⟨k + 1, by go_num, by omega, by rw [ONk.out]; simp, H4.out⟩
                case measure => simp [intOf]; omega
        · have e : k = n := by omega
          subst e
          have hu1 := SL.out
          have ole := OL.out k
          generalize offN L x.s k = c at *
          have HO3 := hide (Rc.Own.calm HO2.out TL)
          have HT3 := hide (HT2.out.tr TL)
          have HD0 := hide (TL.at HC0.out)
          have HD1 := hide (TL.at HC1.out)
          clear TL HO2 HT2 HC0 HC1 ON OZ OL SA SL HAt CO CJ
          obtain ⟨q0, q1, q2, q3⟩ := as_cells HD1.out
          have huc : (u : Int) = (c : Int) + 1 := by omega
          have HU1 := hide hu1
          clear hu1
          by_cases hs2 : y.s.b ≤ y.s.a
          · clear HO3 HAP HJ HF HUu HSl HN
            go_wp2_with fail
            refine (CK _).out.mono ?_
            rintro e w4 ⟨rfl, T4⟩
            have H4 := hide (HT3.out.tr T4)
            clear T4
            go_wp2_with fail
            go_ret
            exact ⟨rfl, H4.out⟩
          · have hs2' : y.s.a < y.s.b := by omega
            obtain ⟨hap, hs1⟩ := HAP.out
            have hapJ : apartR J = true := by rw [HJ.out]; exact join_apart hap hs1 _ _
            have hapX : apartR (joinL L y.s y.m y.h) = true := join_apart hap hs2' _ _
            have hLn := HN.out
            have hJu := HUu.out
            have lX := join_len L y.s y.m y.h
            have lA := join_len J y.s y.m y.h
            have CA2 := hide ((join9_any lo lc J y.s y.m y.h wo (Rc.Own.sl (by have := HO3.out; exact this)) (by omega)).mono fun e w' r => r.2 (bad_no hapJ hs2'))
            have CX : Hid (∀ W, Calm w W → _) := hide fun W (h : Calm w W) => (join9_any ao cap L y.s y.m y.h W (Rc.Sl.calm HSl.out h) (by omega)).mono fun e w' r => r.2 (bad_no hap hs2')
            have CB : Hid (∀ xo xc W, encW.Sl W xo xc (joinL L y.s y.m y.h) → _) := hide fun xo xc W (h : encW.Sl W xo xc (joinL L y.s y.m y.h)) => (join9_any xo xc (joinL L y.s y.m y.h) x.s x.m x.h W h (by omega)).mono fun e w' r => r.2 (bad_no hapX hs1)
            obtain ⟨cl, ce⟩ := comm_len hap hs1 hs2' x.m x.h y.m y.h
            rw [← HJ.out] at cl ce
            rw [hJu] at CA2 lA
            rw [← hLn] at CX lX
            generalize joinL L y.s y.m y.h = X at *
            generalize joinL J y.s y.m y.h = A at *
            generalize joinL X x.s x.m x.h = Bq at *
            rw [← cl] at CB
            generalize hXl : X.length = xl at *
            generalize hAl : A.length = t at *
            generalize fromR J y.s = p1 at *
            generalize fromR L y.s = p2 at *
            generalize fromR X x.s = p3 at *
            have HCE := hide ce
            have HAl := hide hAl
            have HBl : Hid (Bq.length = t) := hide cl.symm
            clear hap hs1 hapJ hapX hLn hJu cl ce hXl hAl HO3 HAP HJ HF HUu HSl HN hs2'
            go_wp2_with fail
            refine CA2.out.mono ?_
            rintro e w4 ⟨o1, c1, rfl, ow1, T4⟩
            have HA4 := hide ow1
            have HT4 := hide (HT3.out.tr T4)
            have HE0 := hide (T4.at HD0.out)
            have HE1 := hide (T4.at HD1.out)
            have C4 := hide (CX.out w4 HT4.out)
            clear ow1 T4 HD0 HD1 HT3 CA2 CX q0 q1 q2 q3
            obtain ⟨q0, q1, q2, q3⟩ := as_cells HE1.out
            go_wp2_with fail
            refine C4.out.mono ?_
            rintro e w5 ⟨o2, c2, rfl, ow2, T5⟩
            have HA5 := hide (Rc.Own.calm HA4.out T5)
            have HT5 := hide (HT4.out.tr T5)
            have HF0 := hide (T5.at HE0.out)
            have C5 := hide (CB.out o2 c2 w5 (Rc.Own.sl ow2))
            clear ow2 T5 HE0 HE1 HT4 HA4 C4 CB q0 q1 q2 q3
            obtain ⟨q0, q1, q2, q3⟩ := as_cells HF0.out
            go_wp2_with fail
            refine C5.out.mono ?_
            rintro e w6 ⟨o3, c3, rfl, ow3, T6⟩
            have HA6 := hide (Rc.Own.calm HA5.out T6)
            have HB6 := hide ow3
            have HT6 := hide (HT5.out.tr T6)
            have PY : Hid (∀ j, j < t → ∃ ab af bb bf, (o1 = some ⟨ab, af, none⟩ ∧ o3 = some ⟨bb, bf, none⟩) ∧ ∃ v z : Wn, (∀ W, Calm w6 W → wcell W ab (af + j * 9) v ∧ wcell W bb (bf + j * 9) z) ∧ v.a = z.a ∧ v.b = z.b ∧ v.t = z.t ∧ v.n = z.n ∧ v.p = z.p) := hide fun j hj => by
              have m1 := (Rc.Own.mem HA6.out).2.1
              have m2 := (Rc.Own.mem HB6.out).2.1
              have j1 : j < A.length := by have := HAl.out; omega
              have j2 : j < Bq.length := by have := HBl.out; omega
              obtain ⟨ab, af, e1, -⟩ := wn_at m1 j j1
              obtain ⟨bb, bf, e2, -⟩ := wn_at m2 j j2
              obtain ⟨g1, g2, g3, g4⟩ := HCE.out j (by omega)
              injection g1 with g5 g6
              refine ⟨ab, af, bb, bf, ⟨e1, e2⟩, A.getD j wn0, Bq.getD j wn0, fun W hW => ⟨?_, ?_⟩, g5, g6, g2, g3, g4⟩
              · obtain ⟨b', off', e', c⟩ := wn_at (Rc.Mem.calm m1 hW) j j1
                rw [e1] at e'
                injection e' with e'
                injection e' with e3 e4
                subst e3 e4
                exact c
              · obtain ⟨b', off', e', c⟩ := wn_at (Rc.Mem.calm m2 hW) j j2
                rw [e2] at e'
                injection e' with e'
                injection e' with e3 e4
                subst e3 e4
                exact c
            clear ow3 T6 HF0 HT5 HA5 C5 q0 q1 q2 q3 HCE HAl HBl HA6 HB6
            go_wp2_with fail
            go_loopw [23] (fun i wr => ∃ k : Nat, i = .int .i64 k ∧ k ≤ t ∧ Calm w6 wr) (fun i _ => t - (intOf i).toNat)
            case atStart => exact ⟨0, rfl, Nat.zero_le _, Touch.refl _ _⟩
            case round =>
              obtain ⟨j, rfl, hj, TL⟩ := hrel
              by_cases hlj : j < t
              · obtain ⟨ab, af, bb, bf, ⟨rfl, rfl⟩, v, z, hc, ea, eb, et, en, ep⟩ := PY.out j hlj
                obtain ⟨⟨⟨a0, a1, a2⟩, ⟨a3, a4, a5, a6⟩, a7, a8⟩, ⟨b0, b1, b2⟩, ⟨b3, b4, b5, b6⟩, b7, b8⟩ := hc wr TL
                rw [ea] at a0
                rw [eb] at a1
                rw [et] at a3 a4 a5 a6
                rw [en] at a7
                rw [ep] at a8
                have hji : (j : Int) < (t : Int) := by omega
                have HI := hide TL
                clear TL hc ea eb et en ep a2 b2
                go_wp2_with fail
                go_quiet (fail)
                have H4 := hide (HI.out.drewN nq)
                clear HI
                go_wp2_with fail
                go_roundw
                case rel => exact ⟨j + 1, by go_num, by omega, H4.out⟩
                case measure => simp [intOf]; omega
              · have e : j = t := by omega
                subst e
                have HI := hide TL
                clear TL PY
                go_wp2_with fail
                refine (CK _).out.mono ?_
                rintro e w7 ⟨rfl, T7⟩
                have H7 := hide ((HT6.out.tr HI.out).tr T7)
                clear T7
                go_wp2_with fail
                go_ret
                exact ⟨rfl, H7.out⟩

end Go.Proofs.YtbhofihikimgeaaRR
