/- The law's num and works. -/
import Derived.Test.YtdcpmpbfnfjncaaGreatDoorED
import Derived.Test.YtdcpmpbfnfjncaaGreatDoorEF
import Derived.Test.YtdcpmpbfnfjncaaGreatDoorEH
namespace Go.Proofs.YtdcpmpbfnfjncaaGreatDoor
open Go.RowKit

set_option maxRecDepth 100000 in
theorem num_any (x : Int) (w : World) : Calls Tryz.prog 8 #[.int .i64 x] w fun e w' => e = .returned (.int .i64 x) ∧ w' = w := by
  go_enter Tryz.func8, Tryz.ntmps8
  go_wp2_with fail
  go_ret
  exact ⟨rfl, rfl⟩

/-- Bytes of one's own, as records. -/
theorem row_own {w : World} {v : Value} {bs : List Int} (h : Row w 5 .u8 v bs) : encB.Own 5 w 0 v bs := by
  have e : encB.flat bs = bs.map (Value.int .u8) := encB_flat bs
  unfold Row at h
  unfold Rc.Enc.Own
  rw [e]
  exact h

abbrev cT : Cf := ⟨4, 1, 1, 10, 0, 3, 0, 5, 0, false⟩
abbrev cU : Cf := ⟨4, 1, 1, 10, 0, 10, 0, 0, 0, false⟩
theorem wr_T : wrongN cT = 0 := by kernel_rfl
theorem wr_U : wrongN cU = 6 := by kernel_rfl
theorem by_T : cfB cT 10 = [4, 1, 1, 10, 0, 3, 0, 5, 0, 0] := by
  have e : cfB cT 10 = numb 4 ++ (numb 1 ++ (numb 1 ++ (numb 10 ++ (numb 0 ++ (numb 3 ++ (numb 0 ++ (numb 5 ++ (numb 0 ++ (numb 0 ++ []))))))))) := rfl
  rw [e, numb_lo (by omega), numb_lo (by omega), numb_lo (by omega), numb_lo (by omega), numb_lo (by omega), numb_lo (by omega)]
  rfl
theorem pg_T : pgJ [4, 1, 1, 10, 0, 3, 0, 5, 0, 0] = (cT, 10, true) := by kernel_rfl
abbrev tT : ByteArray := ⟨#[103, 114, 111, 117, 112, 115, 32, 52, 32, 115, 111, 117, 114, 99, 101, 115, 32, 49, 32, 107, 105, 110, 100, 32, 116, 117, 109, 98, 108, 105, 110, 103, 32, 115, 105, 122, 101, 32, 49, 48, 32, 115, 108, 105, 100, 101, 32, 48, 32, 111, 102, 102, 115, 101, 116, 32, 51, 32, 103, 97, 112, 32, 48, 32, 108, 97, 116, 101, 32, 53, 32, 101, 97, 114, 108, 121, 32, 48, 32, 100, 105, 115, 99, 97, 114, 100, 32, 110, 111]⟩
theorem tx_T : txtS cT 10 = tT := by kernel_rfl

theorem pos_T : cT.Pos := fun j hj => by
  rcases (by omega : j = 0 ∨ j = 1 ∨ j = 2 ∨ j = 3 ∨ j = 4 ∨ j = 5 ∨ j = 6 ∨ j = 7 ∨ j = 8 ∨ j = 9) with rfl | rfl | rfl | rfl | rfl | rfl | rfl | rfl | rfl | rfl <;> exact ⟨by decide, by decide⟩
theorem txt_T : TxtOk cT := fun j hj => by
  rcases (by omega : j = 0 ∨ j = 1 ∨ j = 2 ∨ j = 3 ∨ j = 4 ∨ j = 5 ∨ j = 6 ∨ j = 7 ∨ j = 8 ∨ j = 9) with rfl | rfl | rfl | rfl | rfl | rfl | rfl | rfl | rfl | rfl <;> exact ⟨by decide, by decide, by decide, by decide⟩
abbrev bT : List Int := [4, 1, 1, 10, 0, 3, 0, 5, 0, 0]
theorem in8_T : Cg.In8 bT := by unfold Cg.In8; decide
theorem str_T : strOfNums bT = ⟨#[4, 1, 1, 10, 0, 3, 0, 5, 0, 0]⟩ := by kernel_rfl

set_option maxRecDepth 100000 in
set_option maxHeartbeats 1000000 in
theorem works_any (w : World) (ht : Tab w) (hw : Words w gW) : Calls Tryz.prog 9 #[] w fun e w' => e = .returned (.bool true) ∧ Calm w w' := by
  have CN := fun x w => hide (num_any x w)
  have CB := fun w => hide (bytes_any cT (fun _ => pos_T) w)
  have CR : Hid (∀ ao cap W, encB.Sl W ao cap bT → Calls Tryz.prog 13 #[.slice ao 10 cap] W fun e w' => e = .returned (.tuple #[cfv cT, .int .i64 10, .int .i64 0]) ∧ Calm W w') := hide fun ao cap W h => by
    have := read_any bT ao cap W h in8_T
    rw [pg_T] at this
    exact this
  have CT : Hid (∀ W, Calm w W → Calls Tryz.prog 6 #[cfv cT] W fun e w' => e = .returned (.tuple #[.string tT, .int .i64 0]) ∧ Calm W w') := hide fun W hW => by
    have := text_any cT (fun _ => txt_T) W (ht.calm hW) (hw.calm hW)
    unfold RetT at this
    rw [wr_T, tx_T] at this
    exact this
  have CU : Hid (∀ W, Calls Tryz.prog 24 #[cfv cU] W fun e w' => e = .returned (.tuple #[.int .i64 6, .int .i64 4]) ∧ Calm W w') := hide fun W => by
    have := wrong_any cU W
    rw [wr_job, wr_U] at this
    exact this
  have CK : Hid (∀ W, Calls Tryz.prog 15 #[cfv cT] W fun e w' => e = .returned (.int .i64 0) ∧ Calm W w') := hide fun W => by
    have := check_any cT W
    rw [ch_job, wr_T] at this
    exact this
  have A0 := hide (al_new w (.cells (cfc cT) 24))
  have T0 := hide ((Touch.refl (fun _ => False) w).alloc (.cells (cfc cT) 24))
  clear ht hw
  go_enter Tryz.func9, Tryz.ntmps9
  go_wp2_with fail
  generalize w.alloc (.cells (cfc cT) 24) = w0 at *
  generalize w.heap.size = A at *
  refine (CB _).out.mono ?_
  intro e w1 hret
  rcases hret with ⟨h, -⟩ | ⟨-, b, n, cap, rfl, hb, R1, T1⟩
  · exact absurd wr_T h
  rw [by_T] at R1
  obtain rfl : n = 10 := R1.len
  have B1 := T1.at A0.out
  have TT1 := T0.out.tr T1
  have S1 := Rc.Own.sl (row_own R1)
  have hcv := fun W (hW : Calm w1 W) => Cg.conv_mem (Rc.Mem.calm S1.mem hW) cap
  rw [str_T] at hcv
  have HCV := hide hcv
  have CR1 := hide (CR.out _ cap w1 S1)
  clear CB R1 T1 S1 hcv A0 T0 hb
  go_wp2_with fail
  refine CR1.out.mono ?_
  rintro e w2 ⟨rfl, T2⟩
  have B2 := hide (al_old (T2.at B1) (.cells (cfc cT) 24))
  have D2 := hide (al_new w2 (.cells (cfc cT) 24))
  have C2 := hide (T2.alloc (.cells (cfc cT) 24))
  have TT2 := hide (TT1.tr (T2.alloc (.cells (cfc cT) 24)))
  obtain ⟨⟨g0, g1, g2, g3, g4, g5, g6⟩, g7, g8, g9⟩ := cf_cells (T2.at B1)
  have hAl := lt_of_heap (T2.at B1)
  have hAn : ¬ w2.heap.size = A := by omega
  clear CR CR1 B1 TT1 T2
  go_wp2_with fail
  clear g0 g1 g2 g3 g4 g5 g6 g7 g8 g9
  refine (CT.out _ TT2.out).mono ?_
  rintro e w3 ⟨rfl, T3⟩
  have B3 := hide (T3.at B2.out)
  have D3 := hide (T3.at D2.out)
  have C3 := hide (C2.out.tr T3)
  have TT3 := hide (TT2.out.tr T3)
  clear CT T3 B2 D2 C2 TT2
  generalize w2.heap.size = D at *
  go_wp2_with fail
  refine (CU.out _).mono ?_
  rintro e w4 ⟨rfl, T4⟩
  have B4 := T4.at B3.out
  have D4 := hide (T4.at D3.out)
  have C4 := hide (C3.out.tr T4)
  have TT4 := hide (TT3.out.tr T4)
  obtain ⟨⟨g0, g1, g2, g3, g4, g5, g6⟩, g7, g8, g9⟩ := cf_cells B4
  have B4 := hide B4
  clear CU T4 B3 D3 C3 TT3
  go_wp2_with fail
  refine (CK.out _).mono ?_
  rintro e w5 ⟨rfl, T5⟩
  have hcv : (convert 25 9 (.slice (some ⟨b, 0, none⟩) 10 cap)).run Tryz.prog w5 = .ok (.string ⟨#[4, 1, 1, 10, 0, 3, 0, 5, 0, 0]⟩) w5 := HCV.out w5 (C4.out.tr T5)
  have TT5 := hide (TT4.out.tr T5)
  clear g0 g1 g2 g3 g4 g5 g6 g7 g8 g9
  obtain ⟨⟨g0, g1, g2, g3, g4, g5, g6⟩, g7, g8, g9⟩ := cf_cells (T5.at B4.out)
  obtain ⟨⟨k0, k1, k2, k3, k4, k5, k6⟩, k7, k8, k9⟩ := cf_cells (T5.at D4.out)
  clear CK T5 B4 D4 C4 TT4 HCV
  go_wp2_with fail
  refine (CN _ _).out.mono ?_
  rintro e w6 ⟨rfl, hw6⟩
  subst hw6
  go_wp2_with fail
  refine (CN _ _).out.mono ?_
  rintro e w6 ⟨rfl, hw6⟩
  subst hw6
  go_wp2_with fail
  refine (CN _ _).out.mono ?_
  rintro e w6 ⟨rfl, hw6⟩
  subst hw6
  go_wp2_with fail
  refine (CN _ _).out.mono ?_
  rintro e w6 ⟨rfl, hw6⟩
  subst hw6
  go_wp2_with fail
  refine (CN _ _).out.mono ?_
  rintro e w6 ⟨rfl, hw6⟩
  subst hw6
  go_wp2_with fail
  go_ret
  exact ⟨rfl, TT5.out⟩

end Go.Proofs.YtdcpmpbfnfjncaaGreatDoor
