/- ClockTells, walked. (Printed by gen/ktw.py.) -/
import Derived.Test.YtcmigkemhoecfaaKTt
import Derived.Test.YtcmigkemhoecfaaKY
namespace Go.Proofs.Ytcmigkemhoecfaa
open Go.RowKit

section
variable {Pk : World → Nat → (Nat → Prop) → List Int → List Hd → Prop}

theorem srcs (x : Int) : ∃ n : Nat, 1 ≤ n ∧ n ≤ 64 ∧ wrap64 ((wrap64 (x.tmod 64 + 64)).tmod 64 + 1) = (n : Int) := by
  have h1 : x.tmod 64 < 64 := Int.tmod_lt_of_pos x (by decide)
  have h2 : -64 < x.tmod 64 := by
    have := Int.tmod_lt_of_pos (-x) (show (0 : Int) < 64 by decide)
    rw [Int.neg_tmod] at this
    omega
  have e1 : wrap64 (x.tmod 64 + 64) = x.tmod 64 + 64 := by unfold wrap64; omega
  rw [e1, Int.tmod_eq_emod_of_nonneg (by omega)]
  exact ⟨((x.tmod 64 + 64) % 64).toNat + 1, by omega, by omega, by unfold wrap64; omega⟩

theorem cap400 {n : Nat} (h : n ≤ 400) : n ≤ capH := by
  show n ≤ 4600000000000
  omega

theorem capk {a b n : Nat} (h1 : a ≤ b + 1) (h2 : b ≤ n) (h : n ≤ 400) : a ≤ capH := by
  show a ≤ 4600000000000
  omega

set_option maxRecDepth 100000 in
set_option maxHeartbeats 8000000 in
theorem tells13_walk (I : Pki Pk) (x : Int) (S : List Stp) (so : Option Addr) (sc : Nat) (w : World) (hS : encS.Mem w so S) (hN : S.length ≤ capH) : Calls Try.prog 5 #[.int .i64 x, .slice so S.length sc] w fun e w' => e = .returned (.bool true) ∧ Calm w w' := by
  have CN := fun x w => hide (num13_any x w)
  have C1 := hide (known13_any I w)
  obtain ⟨n, n1, n2, hn⟩ := srcs x
  have CW := fun w => hide (I.new_ok n w n1 n2)
  have HS := hide hS
  have HN := hide hN
  obtain ⟨N, eN⟩ : ∃ N, S.length = N := ⟨_, rfl⟩
  rw [eN]
  have HNN := hide eN
  clear hS hN eN
  go_enter Try.func5, Try.ntmps5
  go_wp2_with fail
  refine C1.out.mono ?_
  rintro e wk ⟨rfl, t0⟩
  have T0 := hide t0
  clear C1 t0
  go_wp2_with fail
  refine ((CW _).out).mono ?_
  rintro e v1 ⟨q1, rfl, p1, t1⟩
  have P1 := hide p1
  have T1 := hide t1
  clear p1 t1
  go_wp2_with fail
  refine ((CW _).out).mono ?_
  rintro e v2 ⟨q2, rfl, p2, t2⟩
  have P2 := hide p2
  have T2 := hide t2
  clear p2 t2
  go_wp2_with fail
  refine ((CW _).out).mono ?_
  rintro e v3 ⟨q3, rfl, p3, t3⟩
  have P3 := hide p3
  have T3 := hide t3
  clear p3 t3
  go_wp2_with fail
  refine ((CN _ _).out).mono ?_
  rintro e w9 ⟨rfl, hw⟩
  subst hw
  have TH0 := hide (Tre.start I P1.out T1.out P2.out T2.out P3.out T3.out)
  have NE : Hid (List.replicate n minT ≠ []) := hide (by intro e; have := congrArg List.length e; simp at this; omega)
  clear P1 P2 P3 T1 T2 T3 CN CW
  generalize List.replicate n minT = L0 at *
  go_wp2_with fail
  go_loopw [12, 13, 14, 15, 16, 17, 18, 19, 20, 21] (fun s12 _ _ _ _ _ _ _ _ _ wr => ∃ (k : Nat) (Hc Hh : List Hd), s12 = .int .i64 (k : Int) ∧ k ≤ N ∧ k ≤ 400 ∧ Tre Pk wk (fun _ => False) ⟨q1, setsL L0 (S.take k), Hc⟩ ⟨q2, L0, []⟩ ⟨q3, setsL L0 (S.take k), Hh⟩ wr ∧ Srt Hc ∧ Hc.length ≤ k ∧ Hh.length ≤ k) (fun s12 _ _ _ _ _ _ _ _ _ _ => N - (intOf s12).toNat)
  case atStart => exact ⟨0, [], [], rfl, by omega, by omega, TH0.out, List.Pairwise.nil, by simp, by simp⟩
  case round =>
    clear TH0
    obtain ⟨k, Hc, Hh, rfl, hk, hk4, th, hsr, hlc, hlh⟩ := hrel
    have bndN : (N : Int) ≤ 4600000000000 := by have h1 : S.length ≤ 4600000000000 := HN.out; have := HNN.out; omega
    by_cases hlt : k < N
    · have hltz : (k : Int) < (N : Int) := by omega
      by_cases hlt4 : k < 400
      · have hlt4z : (k : Int) < 400 := by omega
        have SN := hide (sets_next L0 S k (by have := HNN.out; omega))
        have NL : Hid (setsL L0 (S.take k) ≠ []) := hide (fun e => NE.out (List.length_eq_zero_iff.1 (by rw [← sets_len (S.take k) L0, e]; rfl)))
        obtain ⟨b1, off, e1, p0, p1, p2, p3, p4, p5, p6⟩ := stp_at (Rc.Mem.calm HS.out (T0.out.tr th.calm)) k (by have := HNN.out; omega)
        subst e1
        have est : S.getD k stp1 = S.getD k stp0 := rfl
        rw [est] at SN
        clear est
        generalize S.getD k stp0 = st at *
        generalize setsL L0 (S.take k) = L at *
        have TA : Calm wr (wr.alloc (.cells #[.int .i64 st.k, .int .i64 st.who, .int .i64 st.to, .int .i64 st.src, .int .i64 st.lv, .string st.nm, .int .i64 st.t] 39)) := (Touch.refl _ _).alloc _
        have TH := hide (th.frame I (F' := fun g => g = wr.heap.size) TA (fun g e => .inr (by rw [al_size]; omega)))
        have BX : Hid ((wr.alloc (.cells #[.int .i64 st.k, .int .i64 st.who, .int .i64 st.to, .int .i64 st.src, .int .i64 st.lv, .string st.nm, .int .i64 st.t] 39)).heap[wr.heap.size]? = some (.cells (stpc st) 39 (0, 0))) := hide (al_new wr (.cells #[.int .i64 st.k, .int .i64 st.who, .int .i64 st.to, .int .i64 st.src, .int .i64 st.lv, .string st.nm, .int .i64 st.t] 39))
        have HSR := hide hsr
        have LC : Hid (Hc.length ≤ 400) := hide (by omega)
        have LH : Hid (Hh.length ≤ 400) := hide (by omega)
        have HLC := hide hlc
        have HLH := hide hlh
        clear th TA hsr hlc hlh
        go_wp2_with fail
        clear p0 p1 p2 p3 p4 p5 p6
        generalize wr.alloc (.cells #[.int .i64 st.k, .int .i64 st.who, .int .i64 st.to, .int .i64 st.src, .int .i64 st.lv, .string st.nm, .int .i64 st.t] 39) = V1 at *
        generalize wr.heap.size = B at *
        refine (TH.out.mark I).mono ?_
        rintro e w21 ⟨rfl, t⟩
        replace TH := hide (TH.out.still I t)
        replace BX := hide (t.at BX.out)
        clear t
        go_wp2_with fail
        refine (TH.out.out I (cap400 LC.out)).mono ?_
        rintro e w22 ⟨rfl, t⟩
        replace TH := hide (TH.out.still I t)
        replace BX := hide (t.at BX.out)
        clear t
        go_wp2_with fail
        refine (TH.out.rot.rot.out I (cap400 LH.out)).mono ?_
        rintro e w23 ⟨rfl, t⟩
        replace TH := hide (TH.out.still I t)
        replace BX := hide (t.at BX.out)
        clear t
        by_cases k1 : st.k = 1
        · have eK : stepL L st = (setL L st.src st.t) := if_pos k1
          have EK := hide eK
          clear eK
          have fm : ¬ mkN (setL L st.src st.t) < mkN L := by have := mk_set NL.out st.src st.t; omega
          have fo : ¬ mkN (setL L st.src st.t) < outN (setL L st.src st.t) Hc := by have := out_mk (setL L st.src st.t) Hc; omega
          have fu : ¬ outN (setL L st.src st.t) Hh < outN L Hh := by have := out_marks (mk_set NL.out st.src st.t) Hh; omega
          have FM := hide fm
          have FO := hide fo
          have FU := hide fu
          clear fm fo fu
          obtain ⟨d0, d1, d2, d3, d4, d5, d6⟩ := stp_all BX.out
          go_wp2_with fail
          clear d0 d1 d2 d3 d4 d5 d6
          refine (TH.out.marks I).mono ?_
          rintro e w40 ⟨ma, mc, rfl, ow, t⟩
          have l64 := TH.out.len I
          have HL64 : Hid (L.length ≤ 64) := hide l64
          replace TH := hide (TH.out.frame I (F' := fun g => g = B ∨ (Value.slice ma L.length mc).ownBlock = some g) t (fun g hg => hg.elim .inl (fun e => .inr (own_lt ow e))))
          replace BX := hide (t.at BX.out)
          have OW := hide ow
          clear t ow l64
          obtain ⟨d0, d1, d2, d3, d4, d5, d6⟩ := stp_all BX.out
          go_wp2_with fail
          clear d0 d1 d2 d3 d4 d5 d6
          refine (TH.out.set I _ _).mono ?_
          rintro e w41 ⟨⟨v, rfl⟩, th, t⟩
          replace BX := hide (t.heap BX.out (fun h => h (.inl rfl)))
          replace OW := hide (Rc.Own.touch OW.out t (fun g hg h => h (.inr hg)))
          replace TH := hide th
          clear t th
          obtain ⟨d0, d1, d2, d3, d4, d5, d6⟩ := stp_all BX.out
          go_wp2_with fail
          clear d0 d1 d2 d3 d4 d5 d6
          refine (TH.out.rot.rot.set I _ _).mono ?_
          rintro e w42 ⟨⟨v', rfl⟩, th, t⟩
          replace BX := hide (t.heap BX.out (fun h => h (.inl rfl)))
          replace OW := hide (Rc.Own.touch OW.out t (fun g hg h => h (.inr hg)))
          replace TH := hide th.rot
          clear t th
          go_wp2_with fail
          have CM := TH.out.marks I
          simp only [set_len] at CM
          refine CM.mono ?_
          clear CM
          rintro e w43 ⟨mb, md, rfl, ow, t⟩
          replace TH := hide (TH.out.still I t)
          replace BX := hide (t.at BX.out)
          replace OW := hide (Rc.Own.calm OW.out t)
          have M1 : Hid (∀ j, j < L.length → ∃ g off, ma = some ⟨g, off, none⟩ ∧ ∀ W, Calm w43 W → W.cell? ⟨g, off + j, none⟩ = some (.int .i64 (L.getD j 0))) := hide fun j hj => ints_W (Rc.Own.mem OW.out).2.1 j hj
          have M2 : Hid (∀ j, j < L.length → ∃ g off, mb = some ⟨g, off, none⟩ ∧ ∀ W, Calm w43 W → W.cell? ⟨g, off + j, none⟩ = some (.int .i64 ((setL L st.src st.t).getD j 0))) := hide fun j hj => ints_W (Rc.Own.mem ow).2.1 j (by rw [set_len]; exact hj)
          replace TH := hide TH.out.drop
          clear t ow OW BX
          obtain ⟨ℓ, eℓ⟩ : ∃ ℓ, L.length = ℓ := ⟨_, rfl⟩
          rw [eℓ] at HL64 M1 M2 ⊢
          have ℓ64 : (ℓ : Int) ≤ 64 := by have := HL64.out; omega
          clear eℓ HL64
          go_wp2_with fail
          go_loopw [19] (fun s19 wz => ∃ j : Nat, s19 = .int .i64 (j : Int) ∧ j ≤ ℓ ∧ Calm w43 wz) (fun s19 _ => ℓ - (intOf s19).toNat)
          case atStart => exact ⟨0, rfl, by omega, Touch.refl _ _⟩
          case round =>
            obtain ⟨j, rfl, hj, tz⟩ := hrel
            have TZ := hide tz
            clear tz
            by_cases hlj : j < ℓ
            · have hljz : (j : Int) < (ℓ : Int) := by omega
              obtain ⟨ga, oa, ea, ca⟩ := M1.out j hlj
              obtain ⟨gb, ob, eb, cb⟩ := M2.out j hlj
              subst ea
              subst eb
              have CA := hide ca
              have CB := hide cb
              have fl : ¬ (setL L st.src st.t).getD j 0 < L.getD j 0 := by have := set_ge L st.src st.t j; omega
              clear ca cb M1 M2
              generalize (setL L st.src st.t).getD j 0 = va at *
              generalize L.getD j 0 = vb at *
              go_wp2_with fail
              refine wp_region_held (S := Calm w43) (by kernel_rfl) ?_
              have hT0 : Calm w43 { wr with drawn := wr.drawn + 1 } := TZ.out.drew
              refine wpAnyH_yield 0 112 (.slice (some ⟨gb, ob, none⟩) ℓ md) rfl rfl (by kernel_rfl) (by kernel_rfl) (by kernel_rfl) (fun _ _ _ h => h) (by kernel_rfl) (fun W hW => by kernel_rfl) (by assumption) rfl rfl ?_
              simp only [Act.put, List.setIfInBounds_toArray, List.set_cons_zero, List.set_cons_succ]
              refine wpAnyH_yield 1 113 (.int .i64 (j : Int)) rfl rfl (by kernel_rfl) (by kernel_rfl) (by kernel_rfl) (fun _ _ _ h => h) (by kernel_rfl) (fun W hW => by kernel_rfl) (by assumption) rfl rfl ?_
              simp only [Act.put, List.setIfInBounds_toArray, List.set_cons_zero, List.set_cons_succ]
              refine wpAnyH_yield 2 114 (.pointer (some ⟨gb, ob + j, none⟩)) rfl rfl (by kernel_rfl) (by kernel_rfl) (by kernel_rfl) (fun _ _ _ h => h) (by kernel_rfl) (fun W hW => by go_simp) (by assumption) rfl rfl ?_
              simp only [Act.put, List.setIfInBounds_toArray, List.set_cons_zero, List.set_cons_succ]
              refine wpAnyH_yield 3 115 (.int .i64 va) rfl rfl (by kernel_rfl) (by kernel_rfl) (by kernel_rfl) (fun _ _ _ h => h) (by kernel_rfl) (fun W hW => by have c5 := CB.out W hW; go_simp) (by assumption) rfl rfl ?_
              simp only [Act.put, List.setIfInBounds_toArray, List.set_cons_zero, List.set_cons_succ]
              refine wpAnyH_yield 4 116 (.slice (some ⟨ga, oa, none⟩) ℓ mc) rfl rfl (by kernel_rfl) (by kernel_rfl) (by kernel_rfl) (fun _ _ _ h => h) (by kernel_rfl) (fun W hW => by kernel_rfl) (by assumption) rfl rfl ?_
              simp only [Act.put, List.setIfInBounds_toArray, List.set_cons_zero, List.set_cons_succ]
              refine wpAnyH_yield 5 117 (.int .i64 (j : Int)) rfl rfl (by kernel_rfl) (by kernel_rfl) (by kernel_rfl) (fun _ _ _ h => h) (by kernel_rfl) (fun W hW => by kernel_rfl) (by assumption) rfl rfl ?_
              simp only [Act.put, List.setIfInBounds_toArray, List.set_cons_zero, List.set_cons_succ]
              refine wpAnyH_yield 6 118 (.pointer (some ⟨ga, oa + j, none⟩)) rfl rfl (by kernel_rfl) (by kernel_rfl) (by kernel_rfl) (fun _ _ _ h => h) (by kernel_rfl) (fun W hW => by go_simp) (by assumption) rfl rfl ?_
              simp only [Act.put, List.setIfInBounds_toArray, List.set_cons_zero, List.set_cons_succ]
              refine wpAnyH_yield 7 119 (.int .i64 vb) rfl rfl (by kernel_rfl) (by kernel_rfl) (by kernel_rfl) (fun _ _ _ h => h) (by kernel_rfl) (fun W hW => by have c5 := CA.out W hW; go_simp) (by assumption) rfl rfl ?_
              simp only [Act.put, List.setIfInBounds_toArray, List.set_cons_zero, List.set_cons_succ]
              refine wpAnyH_yield 8 120 (.bool false) rfl rfl (by kernel_rfl) (by kernel_rfl) (by kernel_rfl) (fun _ _ _ h => h) (by kernel_rfl) (fun W hW => by go_simp) (by assumption) rfl rfl ?_
              simp only [Act.put, List.setIfInBounds_toArray, List.set_cons_zero, List.set_cons_succ]
              refine wpAnyH_done (by kernel_rfl) ?_ _
              have TZ2 := hide hT0
              clear hT0 TZ
              go_wp2_with fail
              go_roundw
              case rel => exact ⟨j + 1, by go_num, by omega, TZ2.out⟩
              case measure => simp [intOf]; omega
            · have hljz : ¬ (j : Int) < (ℓ : Int) := by omega
              replace TH := hide (TH.out.still I TZ.out)
              have BX : Hid (wr.heap[B]? = wr.heap[B]?) := hide rfl
              clear M1 M2 TZ
              have fm := FM.out
              have fo := FO.out
              have fu := FU.out
              go_wp2_with fail
              refine (TH.out.mark I).mono ?_
              rintro e w24 ⟨rfl, t⟩
              replace TH := hide (TH.out.still I t)
              clear t
              go_wp2_with fail
              refine (TH.out.out I (cap400 LC.out)).mono ?_
              rintro e w25 ⟨rfl, t⟩
              replace TH := hide (TH.out.still I t)
              clear t
              go_wp2_with fail
              refine (TH.out.mark I).mono ?_
              rintro e w26 ⟨rfl, t⟩
              replace TH := hide (TH.out.still I t)
              clear t
              go_wp2_with fail
              refine (TH.out.rot.rot.out I (cap400 LH.out)).mono ?_
              rintro e w27 ⟨rfl, t⟩
              replace TH := hide (TH.out.still I t)
              clear t
              go_wp2_with fail
              go_roundw
              case rel => exact ⟨k + 1, Hc, Hh, by go_num, by omega, by omega, by rw [SN.out, EK.out]; exact TH.out.drop, HSR.out, by have := HLC.out; omega, by have := HLH.out; omega⟩
              case measure => simp [intOf]; omega
        · have kb1 : (st.k == 1) = false := by simp [k1]
          by_cases k2 : st.k = 2
          · have eK : stepL L st = L := if_neg k1
            have EK := hide eK
            clear eK
            have fm : ¬ mkN L < mkN L := by omega
            have f1 : ¬ outN L (freeH Hc st.nm) < outN L (holdL (freeH Hc st.nm) st.nm st.t) := by have := out_holdL (has_free HSR.out (x := st.nm)) L st.t; omega
            have f2 : ¬ outN L (freeH Hc st.nm) < outN L Hc := by have := out_free L Hc st.nm; omega
            have f3 : ¬ outN L (freeH Hh st.nm) < outN L Hh := by have := out_free L Hh st.nm; omega
            have FO : Hid (¬ mkN L < outN L (holdL (freeH Hc st.nm) st.nm st.t)) := hide (by have := out_mk L (holdL (freeH Hc st.nm) st.nm st.t); omega)
            have FU : Hid (¬ outN L (holdL (freeH Hh st.nm) st.nm (max st.t (mkN L))) < outN L (freeH Hh st.nm)) := hide (by have := out_highL L (freeH Hh st.nm) st.nm (t := max st.t (mkN L)) (by omega); omega)
            obtain ⟨d0, d1, d2, d3, d4, d5, d6⟩ := stp_all BX.out
            go_wp2_with fail
            clear d0 d1 d2 d3 d4 d5 d6
            refine (TH.out.free I _ (cap400 LC.out) st.ok).mono ?_
            rintro e w32 ⟨rfl, th, t⟩
            replace BX := hide (t.heap BX.out (fun h => h rfl))
            replace TH := hide (th)
            clear t th
            go_wp2_with fail
            refine (TH.out.out I (cap400 (Nat.le_trans (free_len _ _) LC.out))).mono ?_
            rintro e w33 ⟨rfl, t⟩
            replace TH := hide (TH.out.still I t)
            replace BX := hide (t.at BX.out)
            clear t
            obtain ⟨d0, d1, d2, d3, d4, d5, d6⟩ := stp_all BX.out
            go_wp2_with fail
            clear d0 d1 d2 d3 d4 d5 d6
            refine (TH.out.hold I _ _ (cap400 (Nat.le_trans (free_len _ _) LC.out)) st.ok).mono ?_
            rintro e w34 ⟨⟨v, rfl⟩, th, t⟩
            replace BX := hide (t.heap BX.out (fun h => h rfl))
            replace TH := hide (th)
            clear t th
            go_wp2_with fail
            refine (TH.out.out I (capk (hold_len' _ _ _) (free_len _ _) LC.out)).mono ?_
            rintro e w35 ⟨rfl, t⟩
            replace TH := hide (TH.out.still I t)
            replace BX := hide (t.at BX.out)
            clear t
            cases hfc : hasH Hc st.nm with
            | false =>
              obtain ⟨d0, d1, d2, d3, d4, d5, d6⟩ := stp_all BX.out
              go_wp2_with fail
              clear d0 d1 d2 d3 d4 d5 d6
              refine (TH.out.rot.rot.free I _ (cap400 LH.out) st.ok).mono ?_
              rintro e w36 ⟨rfl, th, t⟩
              replace BX := hide (t.heap BX.out (fun h => h rfl))
              replace TH := hide (th.rot)
              clear t th
              cases hfh : hasH Hh st.nm with
              | false =>
                go_wp2_with fail
                refine (TH.out.rot.rot.out I (cap400 (Nat.le_trans (free_len _ _) LH.out))).mono ?_
                rintro e w37 ⟨rfl, t⟩
                replace TH := hide (TH.out.still I t)
                replace BX := hide (t.at BX.out)
                clear t
                clear f1 f2 f3
                go_wp2_with fail
                have SP : Hid (∀ W, Touch (fun g => ¬ g = B) w37 W → W.cell? ⟨B, 5, none⟩ = some (.string st.nm) ∧ W.cell? ⟨B, 6, none⟩ = some (.int .i64 st.t)) := hide fun W hW => by
                  obtain ⟨d0, d1, d2, d3, d4, d5, d6⟩ := stp_all (hW.heap BX.out (fun h => h rfl))
                  exact ⟨d5, d6⟩
                refine wp_region_held (S := Touch (fun g => ¬ g = B) w37) (by kernel_rfl) ?_
                have hT0 : Touch (fun g => ¬ g = B) w37 { w37 with drawn := w37.drawn + 1 } := (Touch.refl _ w37).drew
                have hT1 : Calm w37 { w37 with drawn := w37.drawn + 1 } := (Touch.refl _ w37).drew
                refine wpAnyH_yield 0 159 (cp q3) rfl rfl (by kernel_rfl) (by kernel_rfl) (by kernel_rfl) (fun _ _ _ h => h) (by kernel_rfl) (fun W hW => by kernel_rfl) (by assumption) rfl rfl ?_
                simp only [Act.put, List.setIfInBounds_toArray, List.set_cons_zero, List.set_cons_succ]
                refine wpAnyH_yield 1 160 (.pointer (some ⟨B, 5, none⟩)) rfl rfl (by kernel_rfl) (by kernel_rfl) (by kernel_rfl) (fun _ _ _ h => h) (by kernel_rfl) (fun W hW => by go_simp) (by assumption) rfl rfl ?_
                simp only [Act.put, List.setIfInBounds_toArray, List.set_cons_zero, List.set_cons_succ]
                refine wpAnyH_yield 2 161 (.string st.nm) rfl rfl (by kernel_rfl) (by kernel_rfl) (by kernel_rfl) (fun _ _ _ h => h) (by kernel_rfl) (fun W hW => by obtain ⟨c5, -⟩ := SP.out W hW; go_simp) (by assumption) rfl rfl ?_
                simp only [Act.put, List.setIfInBounds_toArray, List.set_cons_zero, List.set_cons_succ]
                refine wpAnyH_yield 3 162 (.pointer (some ⟨B, 6, none⟩)) rfl rfl (by kernel_rfl) (by kernel_rfl) (by kernel_rfl) (fun _ _ _ h => h) (by kernel_rfl) (fun W hW => by go_simp) (by assumption) rfl rfl ?_
                simp only [Act.put, List.setIfInBounds_toArray, List.set_cons_zero, List.set_cons_succ]
                refine wpAnyH_yield 4 163 (.int .i64 st.t) rfl rfl (by kernel_rfl) (by kernel_rfl) (by kernel_rfl) (fun _ _ _ h => h) (by kernel_rfl) (fun W hW => by obtain ⟨-, c5⟩ := SP.out W hW; go_simp) (by assumption) rfl rfl ?_
                simp only [Act.put, List.setIfInBounds_toArray, List.set_cons_zero, List.set_cons_succ]
                refine wpAnyH_yield 5 164 (cp q3) rfl rfl (by kernel_rfl) (by kernel_rfl) (by kernel_rfl) (fun _ _ _ h => h) (by kernel_rfl) (fun W hW => by kernel_rfl) (by assumption) rfl rfl ?_
                simp only [Act.put, List.setIfInBounds_toArray, List.set_cons_zero, List.set_cons_succ]
                refine wpAnyH_enter 6 165 24 #[cp q3] rfl rfl (by kernel_rfl) (by kernel_rfl) (by kernel_rfl) ?_
                refine ((TH.out.still I hT1).rot.rot.mark I).mono ?_
                rintro e w61 ⟨rfl, t61⟩
                have hT2 := hT0.trans (t61.mono fun _ _ h => h.elim) (fun _ _ h => h)
                refine ⟨_, rfl, hT2, ?_⟩
                simp only [Act.put, List.setIfInBounds_toArray, List.set_cons_zero, List.set_cons_succ]
                refine wpAnyH_yield 7 166 (.int .i64 (max st.t (mkN L))) rfl rfl (by kernel_rfl) (by kernel_rfl) (by kernel_rfl) (fun _ _ _ h => h) (by kernel_rfl) (fun W hW => by go_simp) (by assumption) rfl rfl ?_
                simp only [Act.put, List.setIfInBounds_toArray, List.set_cons_zero, List.set_cons_succ]
                refine wpAnyH_enter 8 167 21 #[cp q3, .string st.nm, .int .i64 (max st.t (mkN L))] rfl rfl (by kernel_rfl) (by kernel_rfl) (by kernel_rfl) ?_
                refine ((TH.out.still I (hT1.tr t61)).rot.rot.hold I st.nm (max st.t (mkN L)) (cap400 (Nat.le_trans (free_len _ _) LH.out)) st.ok).mono ?_
                rintro e w62 ⟨⟨v62, rfl⟩, th62, t62⟩
                have hT3 := hT2.trans t62 (fun _ _ h => h)
                refine ⟨_, rfl, hT3, ?_⟩
                simp only [Act.put, List.setIfInBounds_toArray, List.set_cons_zero, List.set_cons_succ]
                refine wpAnyH_done (by kernel_rfl) ?_ _
                replace TH := hide th62.rot
                clear hT0 hT1 hT2 hT3 t61 t62 th62 SP BX
                have fo := FO.out
                have fu := FU.out
                go_wp2_with fail
                refine (TH.out.mark I).mono ?_
                rintro e w28 ⟨rfl, t⟩
                replace TH := hide (TH.out.still I t)
                clear t
                go_wp2_with fail
                refine (TH.out.out I (capk (hold_len' _ _ _) (free_len _ _) LC.out)).mono ?_
                rintro e w29 ⟨rfl, t⟩
                replace TH := hide (TH.out.still I t)
                clear t
                go_wp2_with fail
                refine (TH.out.mark I).mono ?_
                rintro e w30 ⟨rfl, t⟩
                replace TH := hide (TH.out.still I t)
                clear t
                go_wp2_with fail
                refine (TH.out.rot.rot.out I (capk (hold_len' _ _ _) (free_len _ _) LH.out)).mono ?_
                rintro e w31 ⟨rfl, t⟩
                replace TH := hide (TH.out.still I t)
                clear t
                go_wp2_with fail
                go_roundw
                case rel => exact ⟨k + 1, (holdL (freeH Hc st.nm) st.nm st.t), (holdL (freeH Hh st.nm) st.nm (max st.t (mkN L))), by go_num, by omega, by omega, by rw [SN.out, EK.out]; exact TH.out.drop, srt_holdL (srt_free HSR.out _) _ _, by have := hold_len' (freeH Hc st.nm) st.nm st.t; have := free_len Hc st.nm; have := HLC.out; omega, by have := hold_len' (freeH Hh st.nm) st.nm (max st.t (mkN L)); have := free_len Hh st.nm; have := HLH.out; omega⟩
                case measure => simp [intOf]; omega
              | true =>
                go_wp2_with fail
                refine (TH.out.rot.rot.out I (cap400 (Nat.le_trans (free_len _ _) LH.out))).mono ?_
                rintro e w38 ⟨rfl, t⟩
                replace TH := hide (TH.out.still I t)
                replace BX := hide (t.at BX.out)
                clear t
                go_wp2_with fail
                refine (TH.out.rot.rot.out I (cap400 (Nat.le_trans (free_len _ _) LH.out))).mono ?_
                rintro e w39 ⟨rfl, t⟩
                replace TH := hide (TH.out.still I t)
                replace BX := hide (t.at BX.out)
                clear t
                clear f1 f2 f3
                go_wp2_with fail
                have SP : Hid (∀ W, Touch (fun g => ¬ g = B) w39 W → W.cell? ⟨B, 5, none⟩ = some (.string st.nm) ∧ W.cell? ⟨B, 6, none⟩ = some (.int .i64 st.t)) := hide fun W hW => by
                  obtain ⟨d0, d1, d2, d3, d4, d5, d6⟩ := stp_all (hW.heap BX.out (fun h => h rfl))
                  exact ⟨d5, d6⟩
                refine wp_region_held (S := Touch (fun g => ¬ g = B) w39) (by kernel_rfl) ?_
                have hT0 : Touch (fun g => ¬ g = B) w39 { w39 with drawn := w39.drawn + 1 } := (Touch.refl _ w39).drew
                have hT1 : Calm w39 { w39 with drawn := w39.drawn + 1 } := (Touch.refl _ w39).drew
                refine wpAnyH_yield 0 159 (cp q3) rfl rfl (by kernel_rfl) (by kernel_rfl) (by kernel_rfl) (fun _ _ _ h => h) (by kernel_rfl) (fun W hW => by kernel_rfl) (by assumption) rfl rfl ?_
                simp only [Act.put, List.setIfInBounds_toArray, List.set_cons_zero, List.set_cons_succ]
                refine wpAnyH_yield 1 160 (.pointer (some ⟨B, 5, none⟩)) rfl rfl (by kernel_rfl) (by kernel_rfl) (by kernel_rfl) (fun _ _ _ h => h) (by kernel_rfl) (fun W hW => by go_simp) (by assumption) rfl rfl ?_
                simp only [Act.put, List.setIfInBounds_toArray, List.set_cons_zero, List.set_cons_succ]
                refine wpAnyH_yield 2 161 (.string st.nm) rfl rfl (by kernel_rfl) (by kernel_rfl) (by kernel_rfl) (fun _ _ _ h => h) (by kernel_rfl) (fun W hW => by obtain ⟨c5, -⟩ := SP.out W hW; go_simp) (by assumption) rfl rfl ?_
                simp only [Act.put, List.setIfInBounds_toArray, List.set_cons_zero, List.set_cons_succ]
                refine wpAnyH_yield 3 162 (.pointer (some ⟨B, 6, none⟩)) rfl rfl (by kernel_rfl) (by kernel_rfl) (by kernel_rfl) (fun _ _ _ h => h) (by kernel_rfl) (fun W hW => by go_simp) (by assumption) rfl rfl ?_
                simp only [Act.put, List.setIfInBounds_toArray, List.set_cons_zero, List.set_cons_succ]
                refine wpAnyH_yield 4 163 (.int .i64 st.t) rfl rfl (by kernel_rfl) (by kernel_rfl) (by kernel_rfl) (fun _ _ _ h => h) (by kernel_rfl) (fun W hW => by obtain ⟨-, c5⟩ := SP.out W hW; go_simp) (by assumption) rfl rfl ?_
                simp only [Act.put, List.setIfInBounds_toArray, List.set_cons_zero, List.set_cons_succ]
                refine wpAnyH_yield 5 164 (cp q3) rfl rfl (by kernel_rfl) (by kernel_rfl) (by kernel_rfl) (fun _ _ _ h => h) (by kernel_rfl) (fun W hW => by kernel_rfl) (by assumption) rfl rfl ?_
                simp only [Act.put, List.setIfInBounds_toArray, List.set_cons_zero, List.set_cons_succ]
                refine wpAnyH_enter 6 165 24 #[cp q3] rfl rfl (by kernel_rfl) (by kernel_rfl) (by kernel_rfl) ?_
                refine ((TH.out.still I hT1).rot.rot.mark I).mono ?_
                rintro e w61 ⟨rfl, t61⟩
                have hT2 := hT0.trans (t61.mono fun _ _ h => h.elim) (fun _ _ h => h)
                refine ⟨_, rfl, hT2, ?_⟩
                simp only [Act.put, List.setIfInBounds_toArray, List.set_cons_zero, List.set_cons_succ]
                refine wpAnyH_yield 7 166 (.int .i64 (max st.t (mkN L))) rfl rfl (by kernel_rfl) (by kernel_rfl) (by kernel_rfl) (fun _ _ _ h => h) (by kernel_rfl) (fun W hW => by go_simp) (by assumption) rfl rfl ?_
                simp only [Act.put, List.setIfInBounds_toArray, List.set_cons_zero, List.set_cons_succ]
                refine wpAnyH_enter 8 167 21 #[cp q3, .string st.nm, .int .i64 (max st.t (mkN L))] rfl rfl (by kernel_rfl) (by kernel_rfl) (by kernel_rfl) ?_
                refine ((TH.out.still I (hT1.tr t61)).rot.rot.hold I st.nm (max st.t (mkN L)) (cap400 (Nat.le_trans (free_len _ _) LH.out)) st.ok).mono ?_
                rintro e w62 ⟨⟨v62, rfl⟩, th62, t62⟩
                have hT3 := hT2.trans t62 (fun _ _ h => h)
                refine ⟨_, rfl, hT3, ?_⟩
                simp only [Act.put, List.setIfInBounds_toArray, List.set_cons_zero, List.set_cons_succ]
                refine wpAnyH_done (by kernel_rfl) ?_ _
                replace TH := hide th62.rot
                clear hT0 hT1 hT2 hT3 t61 t62 th62 SP BX
                have fo := FO.out
                have fu := FU.out
                go_wp2_with fail
                refine (TH.out.mark I).mono ?_
                rintro e w28 ⟨rfl, t⟩
                replace TH := hide (TH.out.still I t)
                clear t
                go_wp2_with fail
                refine (TH.out.out I (capk (hold_len' _ _ _) (free_len _ _) LC.out)).mono ?_
                rintro e w29 ⟨rfl, t⟩
                replace TH := hide (TH.out.still I t)
                clear t
                go_wp2_with fail
                refine (TH.out.mark I).mono ?_
                rintro e w30 ⟨rfl, t⟩
                replace TH := hide (TH.out.still I t)
                clear t
                go_wp2_with fail
                refine (TH.out.rot.rot.out I (capk (hold_len' _ _ _) (free_len _ _) LH.out)).mono ?_
                rintro e w31 ⟨rfl, t⟩
                replace TH := hide (TH.out.still I t)
                clear t
                go_wp2_with fail
                go_roundw
                case rel => exact ⟨k + 1, (holdL (freeH Hc st.nm) st.nm st.t), (holdL (freeH Hh st.nm) st.nm (max st.t (mkN L))), by go_num, by omega, by omega, by rw [SN.out, EK.out]; exact TH.out.drop, srt_holdL (srt_free HSR.out _) _ _, by have := hold_len' (freeH Hc st.nm) st.nm st.t; have := free_len Hc st.nm; have := HLC.out; omega, by have := hold_len' (freeH Hh st.nm) st.nm (max st.t (mkN L)); have := free_len Hh st.nm; have := HLH.out; omega⟩
                case measure => simp [intOf]; omega
            | true =>
              obtain ⟨d0, d1, d2, d3, d4, d5, d6⟩ := stp_all BX.out
              go_wp2_with fail
              clear d0 d1 d2 d3 d4 d5 d6
              refine (TH.out.rot.rot.free I _ (cap400 LH.out) st.ok).mono ?_
              rintro e w40 ⟨rfl, th, t⟩
              replace BX := hide (t.heap BX.out (fun h => h rfl))
              replace TH := hide (th.rot)
              clear t th
              cases hfh : hasH Hh st.nm with
              | false =>
                go_wp2_with fail
                refine (TH.out.rot.rot.out I (cap400 (Nat.le_trans (free_len _ _) LH.out))).mono ?_
                rintro e w41 ⟨rfl, t⟩
                replace TH := hide (TH.out.still I t)
                replace BX := hide (t.at BX.out)
                clear t
                clear f1 f2 f3
                go_wp2_with fail
                have SP : Hid (∀ W, Touch (fun g => ¬ g = B) w41 W → W.cell? ⟨B, 5, none⟩ = some (.string st.nm) ∧ W.cell? ⟨B, 6, none⟩ = some (.int .i64 st.t)) := hide fun W hW => by
                  obtain ⟨d0, d1, d2, d3, d4, d5, d6⟩ := stp_all (hW.heap BX.out (fun h => h rfl))
                  exact ⟨d5, d6⟩
                refine wp_region_held (S := Touch (fun g => ¬ g = B) w41) (by kernel_rfl) ?_
                have hT0 : Touch (fun g => ¬ g = B) w41 { w41 with drawn := w41.drawn + 1 } := (Touch.refl _ w41).drew
                have hT1 : Calm w41 { w41 with drawn := w41.drawn + 1 } := (Touch.refl _ w41).drew
                refine wpAnyH_yield 0 159 (cp q3) rfl rfl (by kernel_rfl) (by kernel_rfl) (by kernel_rfl) (fun _ _ _ h => h) (by kernel_rfl) (fun W hW => by kernel_rfl) (by assumption) rfl rfl ?_
                simp only [Act.put, List.setIfInBounds_toArray, List.set_cons_zero, List.set_cons_succ]
                refine wpAnyH_yield 1 160 (.pointer (some ⟨B, 5, none⟩)) rfl rfl (by kernel_rfl) (by kernel_rfl) (by kernel_rfl) (fun _ _ _ h => h) (by kernel_rfl) (fun W hW => by go_simp) (by assumption) rfl rfl ?_
                simp only [Act.put, List.setIfInBounds_toArray, List.set_cons_zero, List.set_cons_succ]
                refine wpAnyH_yield 2 161 (.string st.nm) rfl rfl (by kernel_rfl) (by kernel_rfl) (by kernel_rfl) (fun _ _ _ h => h) (by kernel_rfl) (fun W hW => by obtain ⟨c5, -⟩ := SP.out W hW; go_simp) (by assumption) rfl rfl ?_
                simp only [Act.put, List.setIfInBounds_toArray, List.set_cons_zero, List.set_cons_succ]
                refine wpAnyH_yield 3 162 (.pointer (some ⟨B, 6, none⟩)) rfl rfl (by kernel_rfl) (by kernel_rfl) (by kernel_rfl) (fun _ _ _ h => h) (by kernel_rfl) (fun W hW => by go_simp) (by assumption) rfl rfl ?_
                simp only [Act.put, List.setIfInBounds_toArray, List.set_cons_zero, List.set_cons_succ]
                refine wpAnyH_yield 4 163 (.int .i64 st.t) rfl rfl (by kernel_rfl) (by kernel_rfl) (by kernel_rfl) (fun _ _ _ h => h) (by kernel_rfl) (fun W hW => by obtain ⟨-, c5⟩ := SP.out W hW; go_simp) (by assumption) rfl rfl ?_
                simp only [Act.put, List.setIfInBounds_toArray, List.set_cons_zero, List.set_cons_succ]
                refine wpAnyH_yield 5 164 (cp q3) rfl rfl (by kernel_rfl) (by kernel_rfl) (by kernel_rfl) (fun _ _ _ h => h) (by kernel_rfl) (fun W hW => by kernel_rfl) (by assumption) rfl rfl ?_
                simp only [Act.put, List.setIfInBounds_toArray, List.set_cons_zero, List.set_cons_succ]
                refine wpAnyH_enter 6 165 24 #[cp q3] rfl rfl (by kernel_rfl) (by kernel_rfl) (by kernel_rfl) ?_
                refine ((TH.out.still I hT1).rot.rot.mark I).mono ?_
                rintro e w61 ⟨rfl, t61⟩
                have hT2 := hT0.trans (t61.mono fun _ _ h => h.elim) (fun _ _ h => h)
                refine ⟨_, rfl, hT2, ?_⟩
                simp only [Act.put, List.setIfInBounds_toArray, List.set_cons_zero, List.set_cons_succ]
                refine wpAnyH_yield 7 166 (.int .i64 (max st.t (mkN L))) rfl rfl (by kernel_rfl) (by kernel_rfl) (by kernel_rfl) (fun _ _ _ h => h) (by kernel_rfl) (fun W hW => by go_simp) (by assumption) rfl rfl ?_
                simp only [Act.put, List.setIfInBounds_toArray, List.set_cons_zero, List.set_cons_succ]
                refine wpAnyH_enter 8 167 21 #[cp q3, .string st.nm, .int .i64 (max st.t (mkN L))] rfl rfl (by kernel_rfl) (by kernel_rfl) (by kernel_rfl) ?_
                refine ((TH.out.still I (hT1.tr t61)).rot.rot.hold I st.nm (max st.t (mkN L)) (cap400 (Nat.le_trans (free_len _ _) LH.out)) st.ok).mono ?_
                rintro e w62 ⟨⟨v62, rfl⟩, th62, t62⟩
                have hT3 := hT2.trans t62 (fun _ _ h => h)
                refine ⟨_, rfl, hT3, ?_⟩
                simp only [Act.put, List.setIfInBounds_toArray, List.set_cons_zero, List.set_cons_succ]
                refine wpAnyH_done (by kernel_rfl) ?_ _
                replace TH := hide th62.rot
                clear hT0 hT1 hT2 hT3 t61 t62 th62 SP BX
                have fo := FO.out
                have fu := FU.out
                go_wp2_with fail
                refine (TH.out.mark I).mono ?_
                rintro e w28 ⟨rfl, t⟩
                replace TH := hide (TH.out.still I t)
                clear t
                go_wp2_with fail
                refine (TH.out.out I (capk (hold_len' _ _ _) (free_len _ _) LC.out)).mono ?_
                rintro e w29 ⟨rfl, t⟩
                replace TH := hide (TH.out.still I t)
                clear t
                go_wp2_with fail
                refine (TH.out.mark I).mono ?_
                rintro e w30 ⟨rfl, t⟩
                replace TH := hide (TH.out.still I t)
                clear t
                go_wp2_with fail
                refine (TH.out.rot.rot.out I (capk (hold_len' _ _ _) (free_len _ _) LH.out)).mono ?_
                rintro e w31 ⟨rfl, t⟩
                replace TH := hide (TH.out.still I t)
                clear t
                go_wp2_with fail
                go_roundw
                case rel => exact ⟨k + 1, (holdL (freeH Hc st.nm) st.nm st.t), (holdL (freeH Hh st.nm) st.nm (max st.t (mkN L))), by go_num, by omega, by omega, by rw [SN.out, EK.out]; exact TH.out.drop, srt_holdL (srt_free HSR.out _) _ _, by have := hold_len' (freeH Hc st.nm) st.nm st.t; have := free_len Hc st.nm; have := HLC.out; omega, by have := hold_len' (freeH Hh st.nm) st.nm (max st.t (mkN L)); have := free_len Hh st.nm; have := HLH.out; omega⟩
                case measure => simp [intOf]; omega
              | true =>
                go_wp2_with fail
                refine (TH.out.rot.rot.out I (cap400 (Nat.le_trans (free_len _ _) LH.out))).mono ?_
                rintro e w42 ⟨rfl, t⟩
                replace TH := hide (TH.out.still I t)
                replace BX := hide (t.at BX.out)
                clear t
                go_wp2_with fail
                refine (TH.out.rot.rot.out I (cap400 (Nat.le_trans (free_len _ _) LH.out))).mono ?_
                rintro e w43 ⟨rfl, t⟩
                replace TH := hide (TH.out.still I t)
                replace BX := hide (t.at BX.out)
                clear t
                clear f1 f2 f3
                go_wp2_with fail
                have SP : Hid (∀ W, Touch (fun g => ¬ g = B) w43 W → W.cell? ⟨B, 5, none⟩ = some (.string st.nm) ∧ W.cell? ⟨B, 6, none⟩ = some (.int .i64 st.t)) := hide fun W hW => by
                  obtain ⟨d0, d1, d2, d3, d4, d5, d6⟩ := stp_all (hW.heap BX.out (fun h => h rfl))
                  exact ⟨d5, d6⟩
                refine wp_region_held (S := Touch (fun g => ¬ g = B) w43) (by kernel_rfl) ?_
                have hT0 : Touch (fun g => ¬ g = B) w43 { w43 with drawn := w43.drawn + 1 } := (Touch.refl _ w43).drew
                have hT1 : Calm w43 { w43 with drawn := w43.drawn + 1 } := (Touch.refl _ w43).drew
                refine wpAnyH_yield 0 159 (cp q3) rfl rfl (by kernel_rfl) (by kernel_rfl) (by kernel_rfl) (fun _ _ _ h => h) (by kernel_rfl) (fun W hW => by kernel_rfl) (by assumption) rfl rfl ?_
                simp only [Act.put, List.setIfInBounds_toArray, List.set_cons_zero, List.set_cons_succ]
                refine wpAnyH_yield 1 160 (.pointer (some ⟨B, 5, none⟩)) rfl rfl (by kernel_rfl) (by kernel_rfl) (by kernel_rfl) (fun _ _ _ h => h) (by kernel_rfl) (fun W hW => by go_simp) (by assumption) rfl rfl ?_
                simp only [Act.put, List.setIfInBounds_toArray, List.set_cons_zero, List.set_cons_succ]
                refine wpAnyH_yield 2 161 (.string st.nm) rfl rfl (by kernel_rfl) (by kernel_rfl) (by kernel_rfl) (fun _ _ _ h => h) (by kernel_rfl) (fun W hW => by obtain ⟨c5, -⟩ := SP.out W hW; go_simp) (by assumption) rfl rfl ?_
                simp only [Act.put, List.setIfInBounds_toArray, List.set_cons_zero, List.set_cons_succ]
                refine wpAnyH_yield 3 162 (.pointer (some ⟨B, 6, none⟩)) rfl rfl (by kernel_rfl) (by kernel_rfl) (by kernel_rfl) (fun _ _ _ h => h) (by kernel_rfl) (fun W hW => by go_simp) (by assumption) rfl rfl ?_
                simp only [Act.put, List.setIfInBounds_toArray, List.set_cons_zero, List.set_cons_succ]
                refine wpAnyH_yield 4 163 (.int .i64 st.t) rfl rfl (by kernel_rfl) (by kernel_rfl) (by kernel_rfl) (fun _ _ _ h => h) (by kernel_rfl) (fun W hW => by obtain ⟨-, c5⟩ := SP.out W hW; go_simp) (by assumption) rfl rfl ?_
                simp only [Act.put, List.setIfInBounds_toArray, List.set_cons_zero, List.set_cons_succ]
                refine wpAnyH_yield 5 164 (cp q3) rfl rfl (by kernel_rfl) (by kernel_rfl) (by kernel_rfl) (fun _ _ _ h => h) (by kernel_rfl) (fun W hW => by kernel_rfl) (by assumption) rfl rfl ?_
                simp only [Act.put, List.setIfInBounds_toArray, List.set_cons_zero, List.set_cons_succ]
                refine wpAnyH_enter 6 165 24 #[cp q3] rfl rfl (by kernel_rfl) (by kernel_rfl) (by kernel_rfl) ?_
                refine ((TH.out.still I hT1).rot.rot.mark I).mono ?_
                rintro e w61 ⟨rfl, t61⟩
                have hT2 := hT0.trans (t61.mono fun _ _ h => h.elim) (fun _ _ h => h)
                refine ⟨_, rfl, hT2, ?_⟩
                simp only [Act.put, List.setIfInBounds_toArray, List.set_cons_zero, List.set_cons_succ]
                refine wpAnyH_yield 7 166 (.int .i64 (max st.t (mkN L))) rfl rfl (by kernel_rfl) (by kernel_rfl) (by kernel_rfl) (fun _ _ _ h => h) (by kernel_rfl) (fun W hW => by go_simp) (by assumption) rfl rfl ?_
                simp only [Act.put, List.setIfInBounds_toArray, List.set_cons_zero, List.set_cons_succ]
                refine wpAnyH_enter 8 167 21 #[cp q3, .string st.nm, .int .i64 (max st.t (mkN L))] rfl rfl (by kernel_rfl) (by kernel_rfl) (by kernel_rfl) ?_
                refine ((TH.out.still I (hT1.tr t61)).rot.rot.hold I st.nm (max st.t (mkN L)) (cap400 (Nat.le_trans (free_len _ _) LH.out)) st.ok).mono ?_
                rintro e w62 ⟨⟨v62, rfl⟩, th62, t62⟩
                have hT3 := hT2.trans t62 (fun _ _ h => h)
                refine ⟨_, rfl, hT3, ?_⟩
                simp only [Act.put, List.setIfInBounds_toArray, List.set_cons_zero, List.set_cons_succ]
                refine wpAnyH_done (by kernel_rfl) ?_ _
                replace TH := hide th62.rot
                clear hT0 hT1 hT2 hT3 t61 t62 th62 SP BX
                have fo := FO.out
                have fu := FU.out
                go_wp2_with fail
                refine (TH.out.mark I).mono ?_
                rintro e w28 ⟨rfl, t⟩
                replace TH := hide (TH.out.still I t)
                clear t
                go_wp2_with fail
                refine (TH.out.out I (capk (hold_len' _ _ _) (free_len _ _) LC.out)).mono ?_
                rintro e w29 ⟨rfl, t⟩
                replace TH := hide (TH.out.still I t)
                clear t
                go_wp2_with fail
                refine (TH.out.mark I).mono ?_
                rintro e w30 ⟨rfl, t⟩
                replace TH := hide (TH.out.still I t)
                clear t
                go_wp2_with fail
                refine (TH.out.rot.rot.out I (capk (hold_len' _ _ _) (free_len _ _) LH.out)).mono ?_
                rintro e w31 ⟨rfl, t⟩
                replace TH := hide (TH.out.still I t)
                clear t
                go_wp2_with fail
                go_roundw
                case rel => exact ⟨k + 1, (holdL (freeH Hc st.nm) st.nm st.t), (holdL (freeH Hh st.nm) st.nm (max st.t (mkN L))), by go_num, by omega, by omega, by rw [SN.out, EK.out]; exact TH.out.drop, srt_holdL (srt_free HSR.out _) _ _, by have := hold_len' (freeH Hc st.nm) st.nm st.t; have := free_len Hc st.nm; have := HLC.out; omega, by have := hold_len' (freeH Hh st.nm) st.nm (max st.t (mkN L)); have := free_len Hh st.nm; have := HLH.out; omega⟩
                case measure => simp [intOf]; omega
          · have kb2 : (st.k == 2) = false := by simp [k2]
            by_cases k3 : st.k = 3
            · have eK : stepL L st = L := if_neg k1
              have EK := hide eK
              clear eK
              have fm : ¬ mkN L < mkN L := by omega
              have f2 : ¬ outN L (freeH Hc st.nm) < outN L Hc := by have := out_free L Hc st.nm; omega
              have f3 : ¬ mkN L < outN L (freeH Hc st.nm) := by have := out_mk L (freeH Hc st.nm); omega
              have f4 : ¬ outN L Hh < outN L Hh := by omega
              obtain ⟨d0, d1, d2, d3, d4, d5, d6⟩ := stp_all BX.out
              go_wp2_with fail
              clear d0 d1 d2 d3 d4 d5 d6
              refine (TH.out.free I _ (cap400 LC.out) st.ok).mono ?_
              rintro e w44 ⟨rfl, th, t⟩
              replace BX := hide (t.heap BX.out (fun h => h rfl))
              replace TH := hide (th)
              clear t th
              go_wp2_with fail
              refine (TH.out.out I (cap400 (Nat.le_trans (free_len _ _) LC.out))).mono ?_
              rintro e w45 ⟨rfl, t⟩
              replace TH := hide (TH.out.still I t)
              replace BX := hide (t.at BX.out)
              clear t
              go_wp2_with fail
              refine (TH.out.mark I).mono ?_
              rintro e w46 ⟨rfl, t⟩
              replace TH := hide (TH.out.still I t)
              replace BX := hide (t.at BX.out)
              clear t
              go_wp2_with fail
              refine (TH.out.out I (cap400 (Nat.le_trans (free_len _ _) LC.out))).mono ?_
              rintro e w47 ⟨rfl, t⟩
              replace TH := hide (TH.out.still I t)
              replace BX := hide (t.at BX.out)
              clear t
              go_wp2_with fail
              refine (TH.out.mark I).mono ?_
              rintro e w48 ⟨rfl, t⟩
              replace TH := hide (TH.out.still I t)
              replace BX := hide (t.at BX.out)
              clear t
              go_wp2_with fail
              refine (TH.out.rot.rot.out I (cap400 LH.out)).mono ?_
              rintro e w49 ⟨rfl, t⟩
              replace TH := hide (TH.out.still I t)
              replace BX := hide (t.at BX.out)
              clear t
              go_wp2_with fail
              go_roundw
              case rel => exact ⟨k + 1, (freeH Hc st.nm), Hh, by go_num, by omega, by omega, by rw [SN.out, EK.out]; exact TH.out.drop, srt_free HSR.out _, by have := free_len Hc st.nm; have := HLC.out; omega, by have := HLH.out; omega⟩
              case measure => simp [intOf]; omega
            · have kb3 : (st.k == 3) = false := by simp [k3]
              have eK : stepL L st = L := if_neg k1
              have EK := hide eK
              clear eK
              have fm : ¬ mkN L < mkN L := by omega
              have f3 : ¬ mkN L < outN L Hc := by have := out_mk L Hc; omega
              have f4 : ¬ outN L Hh < outN L Hh := by omega
              obtain ⟨d0, d1, d2, d3, d4, d5, d6⟩ := stp_all BX.out
              go_wp2_with fail
              clear d0 d1 d2 d3 d4 d5 d6
              refine (TH.out.mark I).mono ?_
              rintro e w50 ⟨rfl, t⟩
              replace TH := hide (TH.out.still I t)
              replace BX := hide (t.at BX.out)
              clear t
              go_wp2_with fail
              refine (TH.out.out I (cap400 LC.out)).mono ?_
              rintro e w51 ⟨rfl, t⟩
              replace TH := hide (TH.out.still I t)
              replace BX := hide (t.at BX.out)
              clear t
              go_wp2_with fail
              refine (TH.out.mark I).mono ?_
              rintro e w52 ⟨rfl, t⟩
              replace TH := hide (TH.out.still I t)
              replace BX := hide (t.at BX.out)
              clear t
              go_wp2_with fail
              refine (TH.out.rot.rot.out I (cap400 LH.out)).mono ?_
              rintro e w53 ⟨rfl, t⟩
              replace TH := hide (TH.out.still I t)
              replace BX := hide (t.at BX.out)
              clear t
              go_wp2_with fail
              go_roundw
              case rel => exact ⟨k + 1, Hc, Hh, by go_num, by omega, by omega, by rw [SN.out, EK.out]; exact TH.out.drop, HSR.out, by have := HLC.out; omega, by have := HLH.out; omega⟩
              case measure => simp [intOf]; omega
      · have hlt4z : ¬ (k : Int) < 400 := by omega
        have NK : Hid (∀ i, i < N → (i < k ↔ i < 400)) := hide fun i hi => by omega
        have TH := hide th
        have LC : Hid (Hc.length ≤ 400) := hide (by omega)
        have LH : Hid (Hh.length ≤ 400) := hide (by omega)
        have hwN : wrap64 ((N : Int) - 1) = (N : Int) - 1 := by unfold wrap64; omega
        clear th hsr hlc hlh
        go_wp2_with fail
        clear hwN
        go_loopw [22] (fun s22 wz => ∃ j : Nat, s22 = .int .i64 ((j : Int) - 1) ∧ j ≤ N ∧ Tre Pk wk (fun _ => False) ⟨q1, setsL L0 (S.take k), Hc⟩ ⟨q2, setsL L0 ((S.take k).drop j), []⟩ ⟨q3, setsL L0 (S.take k), Hh⟩ wz) (fun s22 _ => (intOf s22 + 1).toNat)
        case atStart =>
          refine ⟨N, rfl, by omega, ?_⟩
          rw [List.drop_eq_nil_of_le (by simp; omega)]
          exact TH.out
        case round =>
          clear TH
          obtain ⟨j, rfl, hj, th⟩ := hrel
          by_cases hj0 : 0 < j
          · obtain ⟨i, rfl⟩ : ∃ i, j = i + 1 := ⟨j - 1, by omega⟩
            have ei : ((i + 1 : Nat) : Int) - 1 = (i : Int) := by omega
            rw [ei]
            have hz : (0 : Int) ≤ (i : Int) := by omega
            have hiN : (i : Int) < (N : Int) := by omega
            have hwi : wrap64 ((i : Int) - 1) = (i : Int) - 1 := by unfold wrap64; omega
            obtain ⟨b1, off, e1, p0, -, -, p3, -, -, p6⟩ := stp_at (Rc.Mem.calm HS.out (T0.out.tr th.calm)) i (by have := HNN.out; omega)
            subst e1
            have SM : Hid (∀ W, Calm w W → W.cell? ⟨b1, off + i * 7 + 3, none⟩ = some (.int .i64 (S.getD i stp0).src) ∧ W.cell? ⟨b1, off + i * 7 + 6, none⟩ = some (.int .i64 (S.getD i stp0).t)) := hide fun W hW => by
              obtain ⟨b2, off2, e2, -, -, -, p3', -, -, p6'⟩ := stp_at (Rc.Mem.calm HS.out hW) i (by have := HNN.out; omega)
              injection e2 with e2
              injection e2 with e2 e3
              subst e2 e3
              exact ⟨p3', p6'⟩
            have SBy : Hid (i < 400 → (S.getD i stp0).k = 1 → setsL L0 ((S.take k).drop i) = setL (setsL L0 ((S.take k).drop (i + 1))) (S.getD i stp0).src (S.getD i stp0).t) := hide fun h1 h2 => by
              have hik : i < k := (NK.out i (by omega)).2 h1
              have hl : i < (S.take k).length := by have := HNN.out; simp; omega
              have eg : (S.take k).getD i stp1 = S.getD i stp0 := by simp [List.getD_eq_getElem?_getD, hik]
              rw [sets_back L0 (S.take k) i hl, eg]
              exact if_pos h2
            have SBn : Hid (¬ (i < 400 ∧ (S.getD i stp0).k = 1) → setsL L0 ((S.take k).drop i) = setsL L0 ((S.take k).drop (i + 1))) := hide fun h1 => by
              by_cases h3 : i < 400
              · have hik : i < k := (NK.out i (by omega)).2 h3
                have hl : i < (S.take k).length := by have := HNN.out; simp; omega
                have eg : (S.take k).getD i stp1 = S.getD i stp0 := by simp [List.getD_eq_getElem?_getD, hik]
                rw [sets_back L0 (S.take k) i hl, eg]
                exact if_neg fun h2 => h1 ⟨h3, h2⟩
              · have hik : ¬ i < k := fun h => h3 ((NK.out i (by omega)).1 h)
                rw [List.drop_eq_nil_of_le (by simp; omega), List.drop_eq_nil_of_le (by simp; omega)]
            generalize S.getD i stp0 = st at *
            have TZ := hide th
            clear th ei
            by_cases k1 : st.k = 1
            · by_cases hi4 : i < 400
              · have hi4z : (i : Int) < 400 := by omega
                have SB := hide (SBy.out hi4 k1)
                clear SBy SBn
                go_wp2_with fail
                clear p0 p3 p6
                generalize wr = W0 at *
                refine wp_region_held (S := Calm w) (by kernel_rfl) ?_
                have hT1 : Calm W0 { W0 with drawn := W0.drawn + 1 } := (Touch.refl _ W0).drew
                have hT0 : Calm w { W0 with drawn := W0.drawn + 1 } := (T0.out.tr TZ.out.calm).tr hT1
                refine wpAnyH_yield 0 212 (cp q2) rfl rfl (by kernel_rfl) (by kernel_rfl) (by kernel_rfl) (fun _ _ _ h => h) (by kernel_rfl) (fun W hW => by kernel_rfl) (by assumption) rfl rfl ?_
                simp only [Act.put, List.setIfInBounds_toArray, List.set_cons_zero, List.set_cons_succ]
                refine wpAnyH_yield 1 213 (.slice (some ⟨b1, off, none⟩) N sc) rfl rfl (by kernel_rfl) (by kernel_rfl) (by kernel_rfl) (fun _ _ _ h => h) (by kernel_rfl) (fun W hW => by kernel_rfl) (by assumption) rfl rfl ?_
                simp only [Act.put, List.setIfInBounds_toArray, List.set_cons_zero, List.set_cons_succ]
                refine wpAnyH_yield 2 214 (.int .i64 (i : Int)) rfl rfl (by kernel_rfl) (by kernel_rfl) (by kernel_rfl) (fun _ _ _ h => h) (by kernel_rfl) (fun W hW => by kernel_rfl) (by assumption) rfl rfl ?_
                simp only [Act.put, List.setIfInBounds_toArray, List.set_cons_zero, List.set_cons_succ]
                refine wpAnyH_yield 3 215 (.pointer (some ⟨b1, off + i * 7, none⟩)) rfl rfl (by kernel_rfl) (by kernel_rfl) (by kernel_rfl) (fun _ _ _ h => h) (by kernel_rfl) (fun W hW => by go_simp) (by assumption) rfl rfl ?_
                simp only [Act.put, List.setIfInBounds_toArray, List.set_cons_zero, List.set_cons_succ]
                refine wpAnyH_yield 4 216 (.pointer (some ⟨b1, off + i * 7 + 3, none⟩)) rfl rfl (by kernel_rfl) (by kernel_rfl) (by kernel_rfl) (fun _ _ _ h => h) (by kernel_rfl) (fun W hW => by go_simp) (by assumption) rfl rfl ?_
                simp only [Act.put, List.setIfInBounds_toArray, List.set_cons_zero, List.set_cons_succ]
                refine wpAnyH_yield 5 217 (.int .i64 st.src) rfl rfl (by kernel_rfl) (by kernel_rfl) (by kernel_rfl) (fun _ _ _ h => h) (by kernel_rfl) (fun W hW => by obtain ⟨c5, -⟩ := SM.out W hW; go_simp) (by assumption) rfl rfl ?_
                simp only [Act.put, List.setIfInBounds_toArray, List.set_cons_zero, List.set_cons_succ]
                refine wpAnyH_yield 6 218 (.slice (some ⟨b1, off, none⟩) N sc) rfl rfl (by kernel_rfl) (by kernel_rfl) (by kernel_rfl) (fun _ _ _ h => h) (by kernel_rfl) (fun W hW => by kernel_rfl) (by assumption) rfl rfl ?_
                simp only [Act.put, List.setIfInBounds_toArray, List.set_cons_zero, List.set_cons_succ]
                refine wpAnyH_yield 7 219 (.int .i64 (i : Int)) rfl rfl (by kernel_rfl) (by kernel_rfl) (by kernel_rfl) (fun _ _ _ h => h) (by kernel_rfl) (fun W hW => by kernel_rfl) (by assumption) rfl rfl ?_
                simp only [Act.put, List.setIfInBounds_toArray, List.set_cons_zero, List.set_cons_succ]
                refine wpAnyH_yield 8 220 (.pointer (some ⟨b1, off + i * 7, none⟩)) rfl rfl (by kernel_rfl) (by kernel_rfl) (by kernel_rfl) (fun _ _ _ h => h) (by kernel_rfl) (fun W hW => by go_simp) (by assumption) rfl rfl ?_
                simp only [Act.put, List.setIfInBounds_toArray, List.set_cons_zero, List.set_cons_succ]
                refine wpAnyH_yield 9 221 (.pointer (some ⟨b1, off + i * 7 + 6, none⟩)) rfl rfl (by kernel_rfl) (by kernel_rfl) (by kernel_rfl) (fun _ _ _ h => h) (by kernel_rfl) (fun W hW => by go_simp) (by assumption) rfl rfl ?_
                simp only [Act.put, List.setIfInBounds_toArray, List.set_cons_zero, List.set_cons_succ]
                refine wpAnyH_yield 10 222 (.int .i64 st.t) rfl rfl (by kernel_rfl) (by kernel_rfl) (by kernel_rfl) (fun _ _ _ h => h) (by kernel_rfl) (fun W hW => by obtain ⟨-, c5⟩ := SM.out W hW; go_simp) (by assumption) rfl rfl ?_
                simp only [Act.put, List.setIfInBounds_toArray, List.set_cons_zero, List.set_cons_succ]
                refine wpAnyH_enter 11 223 27 #[cp q2, .int .i64 st.src, .int .i64 st.t] rfl rfl (by kernel_rfl) (by kernel_rfl) (by kernel_rfl) ?_
                refine ((TZ.out.still I hT1).rot.set I st.src st.t).mono ?_
                rintro e w71 ⟨⟨v71, rfl⟩, th, t71⟩
                refine ⟨_, rfl, T0.out.tr th.calm, ?_⟩
                simp only [Act.put, List.setIfInBounds_toArray, List.set_cons_zero, List.set_cons_succ]
                refine wpAnyH_done (by kernel_rfl) ?_ _
                replace TZ := hide th.rot.rot
                clear hT0 hT1 th t71 SM
                go_wp2_with fail
                go_roundw
                case rel => exact ⟨i, rfl, by omega, by rw [SB.out]; exact TZ.out⟩
                case measure => simp [intOf]
              · have hi4z : ¬ (i : Int) < 400 := by omega
                have SB : Hid (setsL L0 ((S.take k).drop i) = setsL L0 ((S.take k).drop (i + 1))) := hide (SBn.out (fun h => hi4 h.1))
                clear SBy SBn SM
                go_wp2_with fail
                go_roundw
                case rel => exact ⟨i, rfl, by omega, by rw [SB.out]; exact TZ.out⟩
                case measure => simp [intOf]
            · have kb1 : (st.k == 1) = false := by simp [k1]
              have SB : Hid (setsL L0 ((S.take k).drop i) = setsL L0 ((S.take k).drop (i + 1))) := hide (SBn.out (fun h => k1 h.2))
              clear SBy SBn SM
              go_wp2_with fail
              go_roundw
              case rel => exact ⟨i, rfl, by omega, by rw [SB.out]; exact TZ.out⟩
              case measure => simp [intOf]
          · obtain rfl : j = 0 := by omega
            rw [List.drop_zero] at th
            generalize setsL L0 (S.take k) = L at *
            have l64 := th.len I
            have TZ := hide th
            clear th
            have hz : ¬ (0 : Int) ≤ ((0 : Nat) : Int) - 1 := by omega
            go_wp2_with fail
            refine (TZ.out.rot.mark I).mono ?_
            rintro e w81 ⟨rfl, t⟩
            replace TZ := hide (TZ.out.still I t)
            clear t
            go_wp2_with fail
            refine (TZ.out.mark I).mono ?_
            rintro e w82 ⟨rfl, t⟩
            replace TZ := hide (TZ.out.still I t)
            clear t
            go_wp2_with fail
            refine (TZ.out.rot.marks I).mono ?_
            rintro e w83 ⟨ma, mc, rfl, ow, t⟩
            replace TZ := hide (TZ.out.still I t)
            have OW := hide ow
            clear t ow
            go_wp2_with fail
            refine (TZ.out.marks I).mono ?_
            rintro e w84 ⟨mb, md, rfl, ow, t⟩
            have CI := hide (kitInts_same ma mb L mc md w84 (seg_ints (Rc.Own.mem (Rc.Own.calm OW.out t)).2.1) (seg_ints (Rc.Own.mem ow).2.1) (by have h6 : L.length ≤ 64 := l64; omega))
            have TT := hide (T0.out.tr (TZ.out.calm.tr t))
            clear t ow OW TZ
            go_wp2_with fail
            refine CI.out.mono ?_
            rintro e w85 ⟨rfl, t⟩
            have TU := hide (TT.out.tr t)
            clear t TT CI
            go_wp2_with fail
            go_ret
            exact ⟨rfl, TU.out⟩
    · have hltz : ¬ (k : Int) < (N : Int) := by omega
      have NK : Hid (∀ i, i < N → (i < k ↔ i < 400)) := hide fun i hi => by omega
      have TH := hide th
      have LC : Hid (Hc.length ≤ 400) := hide (by omega)
      have LH : Hid (Hh.length ≤ 400) := hide (by omega)
      have hwN : wrap64 ((N : Int) - 1) = (N : Int) - 1 := by unfold wrap64; omega
      clear th hsr hlc hlh
      go_wp2_with fail
      clear hwN
      go_loopw [22] (fun s22 wz => ∃ j : Nat, s22 = .int .i64 ((j : Int) - 1) ∧ j ≤ N ∧ Tre Pk wk (fun _ => False) ⟨q1, setsL L0 (S.take k), Hc⟩ ⟨q2, setsL L0 ((S.take k).drop j), []⟩ ⟨q3, setsL L0 (S.take k), Hh⟩ wz) (fun s22 _ => (intOf s22 + 1).toNat)
      case atStart =>
        refine ⟨N, rfl, by omega, ?_⟩
        rw [List.drop_eq_nil_of_le (by simp; omega)]
        exact TH.out
      case round =>
        clear TH
        obtain ⟨j, rfl, hj, th⟩ := hrel
        by_cases hj0 : 0 < j
        · obtain ⟨i, rfl⟩ : ∃ i, j = i + 1 := ⟨j - 1, by omega⟩
          have ei : ((i + 1 : Nat) : Int) - 1 = (i : Int) := by omega
          rw [ei]
          have hz : (0 : Int) ≤ (i : Int) := by omega
          have hiN : (i : Int) < (N : Int) := by omega
          have hwi : wrap64 ((i : Int) - 1) = (i : Int) - 1 := by unfold wrap64; omega
          obtain ⟨b1, off, e1, p0, -, -, p3, -, -, p6⟩ := stp_at (Rc.Mem.calm HS.out (T0.out.tr th.calm)) i (by have := HNN.out; omega)
          subst e1
          have SM : Hid (∀ W, Calm w W → W.cell? ⟨b1, off + i * 7 + 3, none⟩ = some (.int .i64 (S.getD i stp0).src) ∧ W.cell? ⟨b1, off + i * 7 + 6, none⟩ = some (.int .i64 (S.getD i stp0).t)) := hide fun W hW => by
            obtain ⟨b2, off2, e2, -, -, -, p3', -, -, p6'⟩ := stp_at (Rc.Mem.calm HS.out hW) i (by have := HNN.out; omega)
            injection e2 with e2
            injection e2 with e2 e3
            subst e2 e3
            exact ⟨p3', p6'⟩
          have SBy : Hid (i < 400 → (S.getD i stp0).k = 1 → setsL L0 ((S.take k).drop i) = setL (setsL L0 ((S.take k).drop (i + 1))) (S.getD i stp0).src (S.getD i stp0).t) := hide fun h1 h2 => by
            have hik : i < k := (NK.out i (by omega)).2 h1
            have hl : i < (S.take k).length := by have := HNN.out; simp; omega
            have eg : (S.take k).getD i stp1 = S.getD i stp0 := by simp [List.getD_eq_getElem?_getD, hik]
            rw [sets_back L0 (S.take k) i hl, eg]
            exact if_pos h2
          have SBn : Hid (¬ (i < 400 ∧ (S.getD i stp0).k = 1) → setsL L0 ((S.take k).drop i) = setsL L0 ((S.take k).drop (i + 1))) := hide fun h1 => by
            by_cases h3 : i < 400
            · have hik : i < k := (NK.out i (by omega)).2 h3
              have hl : i < (S.take k).length := by have := HNN.out; simp; omega
              have eg : (S.take k).getD i stp1 = S.getD i stp0 := by simp [List.getD_eq_getElem?_getD, hik]
              rw [sets_back L0 (S.take k) i hl, eg]
              exact if_neg fun h2 => h1 ⟨h3, h2⟩
            · have hik : ¬ i < k := fun h => h3 ((NK.out i (by omega)).1 h)
              rw [List.drop_eq_nil_of_le (by simp; omega), List.drop_eq_nil_of_le (by simp; omega)]
          generalize S.getD i stp0 = st at *
          have TZ := hide th
          clear th ei
          by_cases k1 : st.k = 1
          · by_cases hi4 : i < 400
            · have hi4z : (i : Int) < 400 := by omega
              have SB := hide (SBy.out hi4 k1)
              clear SBy SBn
              go_wp2_with fail
              clear p0 p3 p6
              generalize wr = W0 at *
              refine wp_region_held (S := Calm w) (by kernel_rfl) ?_
              have hT1 : Calm W0 { W0 with drawn := W0.drawn + 1 } := (Touch.refl _ W0).drew
              have hT0 : Calm w { W0 with drawn := W0.drawn + 1 } := (T0.out.tr TZ.out.calm).tr hT1
              refine wpAnyH_yield 0 212 (cp q2) rfl rfl (by kernel_rfl) (by kernel_rfl) (by kernel_rfl) (fun _ _ _ h => h) (by kernel_rfl) (fun W hW => by kernel_rfl) (by assumption) rfl rfl ?_
              simp only [Act.put, List.setIfInBounds_toArray, List.set_cons_zero, List.set_cons_succ]
              refine wpAnyH_yield 1 213 (.slice (some ⟨b1, off, none⟩) N sc) rfl rfl (by kernel_rfl) (by kernel_rfl) (by kernel_rfl) (fun _ _ _ h => h) (by kernel_rfl) (fun W hW => by kernel_rfl) (by assumption) rfl rfl ?_
              simp only [Act.put, List.setIfInBounds_toArray, List.set_cons_zero, List.set_cons_succ]
              refine wpAnyH_yield 2 214 (.int .i64 (i : Int)) rfl rfl (by kernel_rfl) (by kernel_rfl) (by kernel_rfl) (fun _ _ _ h => h) (by kernel_rfl) (fun W hW => by kernel_rfl) (by assumption) rfl rfl ?_
              simp only [Act.put, List.setIfInBounds_toArray, List.set_cons_zero, List.set_cons_succ]
              refine wpAnyH_yield 3 215 (.pointer (some ⟨b1, off + i * 7, none⟩)) rfl rfl (by kernel_rfl) (by kernel_rfl) (by kernel_rfl) (fun _ _ _ h => h) (by kernel_rfl) (fun W hW => by go_simp) (by assumption) rfl rfl ?_
              simp only [Act.put, List.setIfInBounds_toArray, List.set_cons_zero, List.set_cons_succ]
              refine wpAnyH_yield 4 216 (.pointer (some ⟨b1, off + i * 7 + 3, none⟩)) rfl rfl (by kernel_rfl) (by kernel_rfl) (by kernel_rfl) (fun _ _ _ h => h) (by kernel_rfl) (fun W hW => by go_simp) (by assumption) rfl rfl ?_
              simp only [Act.put, List.setIfInBounds_toArray, List.set_cons_zero, List.set_cons_succ]
              refine wpAnyH_yield 5 217 (.int .i64 st.src) rfl rfl (by kernel_rfl) (by kernel_rfl) (by kernel_rfl) (fun _ _ _ h => h) (by kernel_rfl) (fun W hW => by obtain ⟨c5, -⟩ := SM.out W hW; go_simp) (by assumption) rfl rfl ?_
              simp only [Act.put, List.setIfInBounds_toArray, List.set_cons_zero, List.set_cons_succ]
              refine wpAnyH_yield 6 218 (.slice (some ⟨b1, off, none⟩) N sc) rfl rfl (by kernel_rfl) (by kernel_rfl) (by kernel_rfl) (fun _ _ _ h => h) (by kernel_rfl) (fun W hW => by kernel_rfl) (by assumption) rfl rfl ?_
              simp only [Act.put, List.setIfInBounds_toArray, List.set_cons_zero, List.set_cons_succ]
              refine wpAnyH_yield 7 219 (.int .i64 (i : Int)) rfl rfl (by kernel_rfl) (by kernel_rfl) (by kernel_rfl) (fun _ _ _ h => h) (by kernel_rfl) (fun W hW => by kernel_rfl) (by assumption) rfl rfl ?_
              simp only [Act.put, List.setIfInBounds_toArray, List.set_cons_zero, List.set_cons_succ]
              refine wpAnyH_yield 8 220 (.pointer (some ⟨b1, off + i * 7, none⟩)) rfl rfl (by kernel_rfl) (by kernel_rfl) (by kernel_rfl) (fun _ _ _ h => h) (by kernel_rfl) (fun W hW => by go_simp) (by assumption) rfl rfl ?_
              simp only [Act.put, List.setIfInBounds_toArray, List.set_cons_zero, List.set_cons_succ]
              refine wpAnyH_yield 9 221 (.pointer (some ⟨b1, off + i * 7 + 6, none⟩)) rfl rfl (by kernel_rfl) (by kernel_rfl) (by kernel_rfl) (fun _ _ _ h => h) (by kernel_rfl) (fun W hW => by go_simp) (by assumption) rfl rfl ?_
              simp only [Act.put, List.setIfInBounds_toArray, List.set_cons_zero, List.set_cons_succ]
              refine wpAnyH_yield 10 222 (.int .i64 st.t) rfl rfl (by kernel_rfl) (by kernel_rfl) (by kernel_rfl) (fun _ _ _ h => h) (by kernel_rfl) (fun W hW => by obtain ⟨-, c5⟩ := SM.out W hW; go_simp) (by assumption) rfl rfl ?_
              simp only [Act.put, List.setIfInBounds_toArray, List.set_cons_zero, List.set_cons_succ]
              refine wpAnyH_enter 11 223 27 #[cp q2, .int .i64 st.src, .int .i64 st.t] rfl rfl (by kernel_rfl) (by kernel_rfl) (by kernel_rfl) ?_
              refine ((TZ.out.still I hT1).rot.set I st.src st.t).mono ?_
              rintro e w71 ⟨⟨v71, rfl⟩, th, t71⟩
              refine ⟨_, rfl, T0.out.tr th.calm, ?_⟩
              simp only [Act.put, List.setIfInBounds_toArray, List.set_cons_zero, List.set_cons_succ]
              refine wpAnyH_done (by kernel_rfl) ?_ _
              replace TZ := hide th.rot.rot
              clear hT0 hT1 th t71 SM
              go_wp2_with fail
              go_roundw
              case rel => exact ⟨i, rfl, by omega, by rw [SB.out]; exact TZ.out⟩
              case measure => simp [intOf]
            · exact absurd hi4 (by omega)
          · have kb1 : (st.k == 1) = false := by simp [k1]
            have SB : Hid (setsL L0 ((S.take k).drop i) = setsL L0 ((S.take k).drop (i + 1))) := hide (SBn.out (fun h => k1 h.2))
            clear SBy SBn SM
            go_wp2_with fail
            go_roundw
            case rel => exact ⟨i, rfl, by omega, by rw [SB.out]; exact TZ.out⟩
            case measure => simp [intOf]
        · obtain rfl : j = 0 := by omega
          rw [List.drop_zero] at th
          generalize setsL L0 (S.take k) = L at *
          have l64 := th.len I
          have TZ := hide th
          clear th
          have hz : ¬ (0 : Int) ≤ ((0 : Nat) : Int) - 1 := by omega
          go_wp2_with fail
          refine (TZ.out.rot.mark I).mono ?_
          rintro e w81 ⟨rfl, t⟩
          replace TZ := hide (TZ.out.still I t)
          clear t
          go_wp2_with fail
          refine (TZ.out.mark I).mono ?_
          rintro e w82 ⟨rfl, t⟩
          replace TZ := hide (TZ.out.still I t)
          clear t
          go_wp2_with fail
          refine (TZ.out.rot.marks I).mono ?_
          rintro e w83 ⟨ma, mc, rfl, ow, t⟩
          replace TZ := hide (TZ.out.still I t)
          have OW := hide ow
          clear t ow
          go_wp2_with fail
          refine (TZ.out.marks I).mono ?_
          rintro e w84 ⟨mb, md, rfl, ow, t⟩
          have CI := hide (kitInts_same ma mb L mc md w84 (seg_ints (Rc.Own.mem (Rc.Own.calm OW.out t)).2.1) (seg_ints (Rc.Own.mem ow).2.1) (by have h6 : L.length ≤ 64 := l64; omega))
          have TT := hide (T0.out.tr (TZ.out.calm.tr t))
          clear t ow OW TZ
          go_wp2_with fail
          refine CI.out.mono ?_
          rintro e w85 ⟨rfl, t⟩
          have TU := hide (TT.out.tr t)
          clear t TT CI
          go_wp2_with fail
          go_ret
          exact ⟨rfl, TU.out⟩

end
end Go.Proofs.Ytcmigkemhoecfaa
