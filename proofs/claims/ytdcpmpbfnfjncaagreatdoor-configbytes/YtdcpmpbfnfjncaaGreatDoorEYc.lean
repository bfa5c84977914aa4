/- The walk of ConfigBytes where the job may be. -/
import Derived.Test.YtdcpmpbfnfjncaaGreatDoorEYb
namespace Go.Proofs.YtdcpmpbfnfjncaaGreatDoor
open Go.RowKit

set_option maxRecDepth 100000 in
set_option maxHeartbeats 8000000 in
theorem cbytes_good (c : Cf) (hw : wrongN c = 0) (m : List Int) (mo : Option Addr) (mc : Nat) (w : World) (hm : encB.Sl w mo mc m) (h8 : Cg.In8 m) (hl : m.length ≤ 140737488351232) (ht : Tab w) (he : Errs w) (hwd : Words w gW) (hq : Crd.Tab w) :
    Calls Tryz.prog 3 #[cfv c, .slice mo m.length mc] w fun e w' => e = .returned (.bool true) ∧ Calm w w' := by
  have hlen : (cfB c 10).length ≤ 100 := cfB_len (posJ hw) 10 (Nat.le_refl _)
  have CN := fun x w => hide (num_any x w)
  have CW : Hid (∀ W, Calm w W → Calls Tryz.prog 9 #[] W fun e w' => e = .returned (.bool true) ∧ Calm W w') := hide fun W hW => works_any W (ht.calm hW) (hwd.calm hW)
  have CB : Hid (∀ W, Calls Tryz.prog 4 #[cfv c] W fun e w' => ∃ b cap, e = .returned (.tuple #[.slice (some ⟨b, 0, none⟩) (cfB c 10).length cap, .int .i64 0]) ∧ encB.Own 5 w' W.heap.size (.slice (some ⟨b, 0, none⟩) (cfB c 10).length cap) (cfB c 10) ∧ Calm W w') := hide fun W => (bytes_any c posJ W).mono fun e w' h => by
    rcases h with ⟨h, -⟩ | ⟨-, b, n, cap, h1, h2, h3, h4⟩
    · exact absurd hw h
    · have hn := h3.len
      subst hn
      exact ⟨b, cap, h1, own_up (row_own h3) h2, h4⟩
  have CG : Hid (∀ W, Calm w W → Calls Tryz.prog 5 #[cfv c] W fun e w' => e = .returned (.tuple #[.int .u32 ((dgN c : Nat) : Int), .int .i64 0]) ∧ Calm W w') := hide fun W hW => by
    have := digest_any c posJ W (hq.calm hW)
    rwa [if_pos hw, if_pos hw] at this
  have CT : Hid (∀ W, Calm w W → Calls Tryz.prog 6 #[cfv c] W fun e w' => e = .returned (.tuple #[.string (txtS c 10), .int .i64 0]) ∧ Calm W w') := hide fun W hW => by
    have := text_any c txt_ok W (ht.calm hW) (hwd.calm hW)
    unfold RetT at this
    rwa [if_pos hw, if_pos hw] at this
  have CR : Hid (∀ W, Calls Tryz.prog 7 #[cfv c] W fun e w' => e = .returned (.int .i64 0) ∧ Calm W w') := hide fun W => by
    have := rwrong_any c W
    rw [hw] at this
    exact this
  have CD : Hid (∀ W, Calls Tryz.prog 10 #[cfv c] W fun e w' => ∃ ao cap, e = .returned (.slice ao (cfB c 10).length cap) ∧ encB.Own 5 w' W.heap.size (.slice ao (cfB c 10).length cap) (cfB c 10) ∧ Calm W w') := hide fun W => rbytes_any c (posJ hw) W
  have CE : Hid (∀ W, Calls Tryz.prog 11 #[cfv c] W fun e w' => e = .returned (.int .u32 ((dgN c : Nat) : Int)) ∧ Calm W w') := hide fun W => rdigest_any c (posJ hw) W
  have CF : Hid (∀ W, Calm w W → Calls Tryz.prog 12 #[cfv c] W fun e w' => e = .returned (.string (txtS c 10)) ∧ Calm W w') := hide fun W hW => rtext_any c (txt_ok hw) W (ht.calm hW)
  have CV : Hid (∀ ao cap W, encB.Sl W ao cap (cfB c 10 ++ m) → Calls Tryz.prog 13 #[.slice ao (cfB c 10 ++ m).length cap] W fun e w' => e = .returned (.tuple #[cfv c, .int .i64 ((cfB c 10).length : Int), .int .i64 0]) ∧ Calm W w') := hide fun ao cap W h => by
    have := read_any (cfB c 10 ++ m) ao cap W h (fun x hx => by
      rcases List.mem_append.1 hx with h | h
      · exact cfB_in8 c 10 x h
      · exact h8 x h)
    rw [pg_bytes m hw] at this
    exact this
  have CP : Hid (∀ W, Calm w W → Calls Tryz.prog 14 #[.string (txtS c 10)] W fun e w' => e = .returned (.tuple #[cfv c, .int .i64 0]) ∧ Calm W w') := hide fun W hW => by
    have hsz := txtS_size (txt_ok hw) 10 (Nat.le_refl _)
    have := parse_any (txtS c 10) (by omega) W (ht.calm hW) (he.calm hW) (hwd.calm hW)
    rw [pp_text hw] at this
    exact this
  have CM : Hid (∀ W, Calm w W → encB.Sl W mo mc m) := hide fun W hW => Rc.Sl.calm hm hW
  clear hm h8 ht he hwd hq hw
  generalize dgN c = d at *
  generalize txtS c 10 = s at *
  generalize cfB c 10 = L at *
  generalize hN : L.length = N at *
  have A0 := hide (al_new w (.cells (cfc c) 24))
  have T0 := hide ((Touch.refl (fun _ => False) w).alloc (.cells (cfc c) 24))
  have S0 : Hid ((w.alloc (.cells (cfc c) 24)).heap.size = w.heap.size + 1) := hide (al_size _ _)
  go_enter Tryz.func3, Tryz.ntmps3
  go_wp2_with fail
  generalize w.alloc (.cells (cfc c) 24) = w0 at *
  generalize hA : w.heap.size = A at *
  refine (CB.out _).mono ?_
  rintro e w1 ⟨b, cb, rfl, O1, T1⟩
  have TT1 := hide (T0.out.tr T1)
  have A1 := hide (T1.at A0.out)
  have hb0 : w0.heap.size ≤ b := (Rc.own_block O1 rfl).1
  have hb1 : b < w1.heap.size := ((Rc.Own.mem O1).2.2.2.2.2 _ rfl).2.2.2
  have hAb : A < b := by have := S0.out; omega
  have O1 := hide (Rc.Own.base O1 (show A + 1 ≤ w0.heap.size by have := S0.out; omega))
  obtain ⟨⟨g0, g1, g2, g3, g4, g5, g6⟩, g7, g8, g9⟩ := cf_cells (T1.at A0.out)
  clear T0 T1 A0 hb0
  go_wp2_with fail
  clear g0 g1 g2 g3 g4 g5 g6 g7 g8 g9
  refine (CB.out _).mono ?_
  rintro e w2 ⟨a, ca, rfl, O2, T2⟩
  have TT2 := hide (TT1.out.tr T2)
  have A2 := hide (T2.at A1.out)
  have P2 := hide (Rc.Own.calm O1.out T2)
  have Q2 := hide (Rc.Own.base O2 (show b + 1 ≤ w1.heap.size by omega))
  have hb2 : b < w2.heap.size := by have := T2.size; omega
  obtain ⟨⟨g0, g1, g2, g3, g4, g5, g6⟩, g7, g8, g9⟩ := cf_cells (T2.at A1.out)
  clear TT1 T2 A1 CB O1 O2
  go_wp2_with fail
  clear g0 g1 g2 g3 g4 g5 g6 g7 g8 g9
  refine (CG.out _ TT2.out).mono ?_
  rintro e w3 ⟨rfl, T3⟩
  have TT3 := hide (TT2.out.tr T3)
  have A3 := hide (T3.at A2.out)
  have P3 := hide (Rc.Own.calm P2.out T3)
  have Q3 := hide (Rc.Own.calm Q2.out T3)
  have hb3 : b < w3.heap.size := by have := T3.size; omega
  obtain ⟨⟨g0, g1, g2, g3, g4, g5, g6⟩, g7, g8, g9⟩ := cf_cells (T3.at A2.out)
  clear TT2 T3 A2 CG P2 Q2 hb1 hb2
  go_wp2_with fail
  clear g0 g1 g2 g3 g4 g5 g6 g7 g8 g9
  refine (CT.out _ TT3.out).mono ?_
  rintro e w4 ⟨rfl, T4⟩
  have TT4 := hide (TT3.out.tr T4)
  have A4 := hide (T4.at A3.out)
  have P4 := hide (Rc.Own.calm P3.out T4)
  have Q4 := hide (Rc.Own.calm Q3.out T4)
  have hb4 : b < w4.heap.size := by have := T4.size; omega
  obtain ⟨⟨g0, g1, g2, g3, g4, g5, g6⟩, g7, g8, g9⟩ := cf_cells (T4.at A3.out)
  clear TT3 T4 A3 CT P3 Q3 hb3
  go_wp2_with fail
  clear g0 g1 g2 g3 g4 g5 g6 g7 g8 g9
  refine (CR.out _).mono ?_
  rintro e w5 ⟨rfl, T5⟩
  have TT5 := hide (TT4.out.tr T5)
  have A5 := hide (T5.at A4.out)
  have P5 := hide (Rc.Own.calm P4.out T5)
  have Q5 := hide (Rc.Own.calm Q4.out T5)
  have hb5 : b < w5.heap.size := by have := T5.size; omega
  obtain ⟨⟨g0, g1, g2, g3, g4, g5, g6⟩, g7, g8, g9⟩ := cf_cells (T5.at A4.out)
  clear TT4 T5 A4 CR P4 Q4 hb4
  go_wp2_with fail
  clear g0 g1 g2 g3 g4 g5 g6 g7 g8 g9
  refine (CD.out _).mono ?_
  rintro e w6 ⟨o, co, rfl, O6, T6⟩
  have TT6 := hide (TT5.out.tr T6)
  have A6 := hide (T6.at A5.out)
  have P6 := hide (Rc.Own.calm P5.out T6)
  have Q6 := hide (Rc.Own.calm Q5.out T6)
  have R6 := hide (Rc.Own.base O6 (show b + 1 ≤ w5.heap.size by omega))
  have hb6 : b < w6.heap.size := by have := T6.size; omega
  have hcv1 := Cg.conv_mem (Rc.Own.mem P6.out).2.1 cb
  have hcv2 := Cg.conv_mem (Rc.Own.mem R6.out).2.1 co
  rw [hN] at hcv1 hcv2
  clear TT5 T6 A5 CD P5 Q5 O6 hb5
  generalize hS : strOfNums L = S at *
  go_wp2_with fail
  clear hcv1 hcv2
  refine (CN _ _).out.mono ?_
  rintro e wn ⟨rfl, hwn⟩
  subst hwn
  obtain ⟨⟨g0, g1, g2, g3, g4, g5, g6⟩, g7, g8, g9⟩ := cf_cells A6.out
  go_wp2_with fail
  clear g0 g1 g2 g3 g4 g5 g6 g7 g8 g9
  refine (CE.out _).mono ?_
  rintro e w7 ⟨rfl, T7⟩
  have TT7 := hide (TT6.out.tr T7)
  have A7 := hide (T7.at A6.out)
  have P7 := hide (Rc.Own.calm P6.out T7)
  have Q7 := hide (Rc.Own.calm Q6.out T7)
  have R7 := hide (Rc.Own.calm R6.out T7)
  have hb7 : b < w7.heap.size := by have := T7.size; omega
  clear TT6 T7 A6 CE P6 Q6 R6 hb6
  go_wp2_with fail
  refine (CN _ _).out.mono ?_
  rintro e wn ⟨rfl, hwn⟩
  subst hwn
  obtain ⟨⟨g0, g1, g2, g3, g4, g5, g6⟩, g7, g8, g9⟩ := cf_cells A7.out
  go_wp2_with fail
  clear g0 g1 g2 g3 g4 g5 g6 g7 g8 g9
  refine (CF.out _ TT7.out).mono ?_
  rintro e w8 ⟨rfl, T8⟩
  have TT8 := hide (TT7.out.tr T8)
  have A8 := hide (T8.at A7.out)
  have P8 := hide (Rc.Own.calm P7.out T8)
  have Q8 := hide (Rc.Own.calm Q7.out T8)
  have R8 := hide (Rc.Own.calm R7.out T8)
  have hb8 : b < w8.heap.size := by have := T8.size; omega
  clear TT7 T8 A7 CF P7 Q7 R7 hb7
  go_wp2_with fail
  refine (CN _ _).out.mono ?_
  rintro e wn ⟨rfl, hwn⟩
  subst hwn
  obtain ⟨a1, p1, w9, a2, p2, w10, hr1, hr2, SL, T10⟩ := by_join (Rc.Own.sl P8.out) (CM.out _ TT8.out) (by omega)
  rw [hN] at hr1 hr2
  have HR1 := hide hr1
  have HR2 := hide hr2
  have CV1 := hide (CV.out a2 p2 w10 SL)
  have TT10 := hide (TT8.out.tr T10)
  have A10 := hide (T10.at A8.out)
  have P10 := hide (Rc.Own.calm P8.out T10)
  have Q10 := hide (Rc.Own.calm Q8.out T10)
  have R10 := hide (Rc.Own.calm R8.out T10)
  have hb10 : b < w10.heap.size := by have := T10.size; omega
  clear hr1 hr2 SL T10 TT8 A8 P8 Q8 R8 hb8 CM CV
  generalize (L ++ m).length = LM at *
  go_wp2_with (at_builtin; first | refine Rc.wpList_appR rfl (.tmp 107) (.tmp 108) 25 25 rfl _ _ _ rfl rfl HR1.out ?_ | refine Rc.wpList_appR rfl (.tmp 109) (.tmp 110) 25 25 rfl _ _ _ rfl rfl HR2.out ?_)
  refine CV1.out.mono ?_
  rintro e w11 ⟨rfl, T11⟩
  have D12 := hide (al_new w11 (.cells (cfc c) 24))
  have U12 := T11.alloc (.cells (cfc c) 24)
  have TT12 := hide (TT10.out.tr U12)
  have A12 := hide (U12.at A10.out)
  have P12 := hide (Rc.Own.calm P10.out U12)
  have Q12 := hide (Rc.Own.calm Q10.out U12)
  have R12 := hide (Rc.Own.calm R10.out U12)
  have hb11 : b < w11.heap.size := by have := T11.size; omega
  clear HR1 HR2 CV1 T11 U12 TT10 A10 P10 Q10 R10 hb10
  go_wp2_with fail
  generalize w11.alloc (.cells (cfc c) 24) = w12 at *
  generalize w11.heap.size = D at *
  refine (CP.out _ TT12.out).mono ?_
  rintro e w13 ⟨rfl, T13⟩
  have hb13 : b < w13.heap.size := by have := T13.size; have := lt_of_heap D12.out; omega
  have E14 := hide (al_new w13 (.cells (cfc c) 24))
  have U14 := T13.alloc (.cells (cfc c) 24)
  have TT14 := hide (TT12.out.tr U14)
  have A14 := hide (U14.at A12.out)
  have D14 := hide (U14.at D12.out)
  have P14 := hide (Rc.Own.calm P12.out U14)
  have Q14 := hide (Rc.Own.calm Q12.out U14)
  have R14 := hide (Rc.Own.calm R12.out U14)
  have SZ : Hid (A + 1 ≤ w13.heap.size) := hide (by omega)
  clear T13 U14 TT12 A12 D12 P12 Q12 R12 CP
  go_wp2_with fail
  have SZ14 : Hid (A + 1 ≤ (w13.alloc (.cells (cfc c) 24)).heap.size) := hide (by rw [al_size]; have := SZ.out; omega)
  generalize w13.alloc (.cells (cfc c) 24) = w14 at *
  generalize w13.heap.size = E at *
  go_loopw [19] (fun s19 wr => ∃ (i : Nat) (L' : List Int), s19 = .int .i64 (i : Int) ∧ i ≤ N ∧ L'.length = N ∧ encB.Own 5 wr (A + 1) (.slice (some ⟨b, 0, none⟩) N cb) L' ∧ Touch (fun d => d = b) w14 wr) (fun s19 _ => N - (intOf s19).toNat)
  case atStart => exact ⟨0, L, rfl, by omega, hN, P14.out, Touch.refl _ _⟩
  case round =>
    obtain ⟨i, L', rfl, hi, hL', OR, TR⟩ := hrel
    by_cases hlt : i < N
    · have hltz : (i : Int) < (N : Int) := by omega
      obtain ⟨-, cur, hcur⟩ := Rc.own_block OR rfl
      obtain ⟨b', off, eb, cc⟩ := by_at (Rc.Own.mem OR).2.1 i (by omega)
      injection eb with eb
      injection eb with eb1 eb2
      subst eb1 eb2
      rw [Nat.zero_add] at cc
      have ff := wn_frozen hcur i
      have O2 := hide (by_set OR i 238)
      have T2 := hide (TR.setCell (p := ⟨b, i, none⟩) (fun _ => rfl) (.int .u8 238))
      clear OR TR hcur P14
      go_wp2_with fail
      go_roundw
      case rel => exact ⟨i + 1, L'.set i 238, by go_num, by omega, by simpa using hL', O2.out, T2.out⟩
      case measure => simp [intOf]; omega
    · have hltz : ¬ (i : Int) < (N : Int) := by omega
      obtain rfl : i = N := by omega
      have OR2 := OR
      rw [← hL'] at OR2
      obtain ⟨a3, p3, w16, hr3, t3⟩ := by_app3 OR2 (by have := TR.size; have := SZ14.out; omega) (by omega)
      rw [hL'] at hr3 t3
      have HR3 := hide hr3
      have TX : Touch (fun d => d = b) w14 w16 := TR.trans (t3.mono fun d _ h => own_is h) (fun _ _ h => h)
      have TW : Hid (Calm w w16) := hide (TT14.out.trans TX (fun g hg e => by omega))
      obtain ⟨⟨g0, g1, g2, g3, g4, g5, g6⟩, g7, g8, g9⟩ := cf_cells (TX.heap A14.out (by omega))
      obtain ⟨⟨k0, k1, k2, k3, k4, k5, k6⟩, k7, k8, k9⟩ := cf_cells (TX.heap D14.out (by omega))
      obtain ⟨⟨l0, l1, l2, l3, l4, l5, l6⟩, l7, l8, l9⟩ := cf_cells (TX.heap E14.out (by omega))
      have hcv1 := Cg.conv_mem (Rc.Own.mem (Rc.Own.touch Q14.out TX fun g hg e => by have := (Rc.own_block Q14.out hg).1; omega)).2.1 ca
      have hcv2 := Cg.conv_mem (Rc.Own.mem (Rc.Own.touch R14.out TX fun g hg e => by have := (Rc.own_block R14.out hg).1; omega)).2.1 co
      rw [hN, hS] at hcv1 hcv2
      clear OR OR2 TR hr3 t3 TX A14 D14 E14 P14 Q14 R14 TT14
      go_wp2_with (at_builtin; refine Rc.wpList_appR rfl (.tmp 130) (.tmp 131) 25 25 rfl _ _ _ rfl rfl HR3.out ?_)
      refine (CN _ _).out.mono ?_
      rintro e wn ⟨rfl, hwn⟩
      subst hwn
      go_wp2_with fail
      refine (CN _ _).out.mono ?_
      rintro e wn ⟨rfl, hwn⟩
      subst hwn
      go_wp2_with fail
      refine (CW.out _ TW.out).mono ?_
      rintro e w17 ⟨rfl, T17⟩
      have HT := hide (TW.out.tr T17)
      clear T17 TW
      go_wp2_with fail
      go_ret
      exact ⟨rfl, HT.out⟩

theorem cbytes_walk (c : Cf) (m : List Int) (mo : Option Addr) (mc : Nat) (w : World) (hm : encB.Sl w mo mc m) (h8 : Cg.In8 m) (hl : m.length ≤ 140737488351232) (ht : Tab w) (he : Errs w) (hwd : Words w gW) (hq : Crd.Tab w) :
    Calls Tryz.prog 3 #[cfv c, .slice mo m.length mc] w fun e w' => e = .returned (.bool true) ∧ Calm w w' := by
  by_cases hw : wrongN c = 0
  · exact cbytes_good c hw m mo mc w hm h8 hl ht he hwd hq
  · exact cbytes_bad c hw _ w ht hwd hq

end Go.Proofs.YtdcpmpbfnfjncaaGreatDoor
