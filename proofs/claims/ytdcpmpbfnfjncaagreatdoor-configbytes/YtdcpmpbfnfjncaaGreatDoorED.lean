/- A job's bytes (the program's Bytes). -/
import Derived.Test.YtdcpmpbfnfjncaaGreatDoorEC
import Derived.Test.YtdcpmpbfnfjncaaGreatDoorEW
import Derived.Test.YtdcpmpbfnfjncaaGreatDoorCC0
namespace Go.Proofs.YtdcpmpbfnfjncaaGreatDoor
open Go.RowKit

theorem run_index_numbers (f : Nat → Int) (i : Nat) (hi : i < 10) (w : World) : (Instr.index 49 (.agg (f10c f)) (.int .i64 (i : Int))).run Tryz.prog w = .ok (.int .i64 (f i)) w := by
  rcases (by omega : i = 0 ∨ i = 1 ∨ i = 2 ∨ i = 3 ∨ i = 4 ∨ i = 5 ∨ i = 6 ∨ i = 7 ∨ i = 8 ∨ i = 9) with rfl | rfl | rfl | rfl | rfl | rfl | rfl | rfl | rfl | rfl <;> kernel_rfl

/-- What the program's Bytes answers. -/
def RetBs (w : World) (e : Ending) (w' : World) (c : Cf) : Prop :=
  (wrongN c ≠ 0 ∧ e = .returned (.tuple #[.slice none 0 0, .int .i64 4]) ∧ Calm w w') ∨
  (wrongN c = 0 ∧ ∃ b n cap, e = .returned (.tuple #[.slice (some ⟨b, 0, none⟩) n cap, .int .i64 0]) ∧ w.heap.size ≤ b ∧ Row w' 5 .u8 (.slice (some ⟨b, 0, none⟩) n cap) (cfB c 10) ∧ Calm w w')

set_option maxRecDepth 100000 in
set_option maxHeartbeats 1000000 in
theorem bytes_any (c : Cf) (hp : wrongN c = 0 → c.Pos) (w : World) : Calls Tryz.prog 4 #[cfv c] w fun e w' => RetBs w e w' c := by
  have CK := fun w => hide (check_any c w)
  have CN := fun w => hide (numbersOf_any c w)
  have T0 := hide ((Touch.refl (fun _ => False) w).alloc (.cells (cfc c) 24))
  have A0 := hide (al_new w (.cells (cfc c) 24))
  by_cases hw : wrongN c = 0
  · have HC : Hid (chN (fwN (fldF c)) = 0) := hide (by rw [ch_job, if_pos hw])
    have HE : Hid (∀ e w', (∃ b n cap, e = .returned (.tuple #[.slice (some ⟨b, 0, none⟩) n cap, .int .i64 0]) ∧ w.heap.size ≤ b ∧ Row w' 5 .u8 (.slice (some ⟨b, 0, none⟩) n cap) (cfB c 10) ∧ Calm w w') → RetBs w e w' c) := hide fun _ _ h => .inr ⟨hw, h⟩
    have HP := hide (show ∀ j, j < 10 → 0 ≤ fldF c j ∧ fldF c j < 9223372036854775808 from hp hw)
    have NX := hide (cfB_next c)
    have LN := hide (fun i (hi : i ≤ 10) => cfB_len (hp hw) i hi)
    have Z0 : Hid (cfB c 0 = []) := hide rfl
    have IX : Hid (∀ (i : Nat), i < 10 → ∀ W, (Instr.index 49 (.agg (f10c (fldF c))) (.int .i64 (i : Int))).run Tryz.prog W = .ok (.int .i64 (fldF c i)) W) := hide fun i hi W => run_index_numbers _ i hi W
    clear hw hp
    simp only [HC.out] at CK
    clear HC
    go_enter Tryz.func4, Tryz.ntmps4
    go_wp2_with fail
    generalize w.alloc (.cells (cfc c) 24) = w0 at *
    generalize hA : w.heap.size = A at *
    refine (CK _).out.mono ?_
    rintro e w1 ⟨rfl, T1⟩
    have B1 := hide (T1.at A0.out)
    have TT1 := hide (T0.out.tr T1)
    clear CK T1 T0 A0
    go_wp2_with fail
    refine (newWriter_any _).mono ?_
    rintro e w2 ⟨rfl, W2, T2, l2⟩
    have B2 := hide (T2.at B1.out)
    have TT2 := hide (TT1.out.tr T2)
    have HA2 : Hid (A < w1.heap.size) := hide (lt_of_heap B1.out)
    obtain ⟨⟨g0, g1, g2, g3, g4, g5, g6⟩, g7, g8, g9⟩ := cf_cells B2.out
    have HW2 := hide W2
    clear B1 TT1 T2 l2 W2
    generalize hD : w1.heap.size = D at *
    go_wp2_with fail
    refine (CN _).out.mono ?_
    rintro e w3 ⟨rfl, T3⟩
    have TT3 := hide (TT2.out.tr T3)
    have W3 : Hid (Wr w3 D (.slice none 0 0) []) := hide ⟨T3.at HW2.out.cell, Row.nil _ _ _⟩
    clear T3 TT2 HW2 CN B2 g0 g1 g2 g3 g4 g5 g6 g7 g8 g9
    generalize fldF c = F at *
    generalize f10c F = FF at *
    go_wp2_with fail
    go_loopw [16] (fun s wr => ∃ (i : Nat) (v : Value), s = .int .i64 (i : Int) ∧ i ≤ 10 ∧ Wr wr D v (cfB c i) ∧ (∀ g, v.ownBlock = some g → A ≤ g) ∧ Calm w wr) (fun s _ => 10 - (intOf s).toNat)
    case atStart => exact ⟨0, _, rfl, by omega, by rw [Z0.out]; exact W3.out, fun g hg => (by cases hg), TT3.out⟩
    case round =>
      obtain ⟨i, v, rfl, hi, WR, OV, TL⟩ := hrel
      by_cases hlt : i < 10
      · have hltz : (i : Int) < 10 := by omega
        have ix := IX.out i hlt
        obtain ⟨hp1, hp2⟩ := HP.out i hlt
        obtain ⟨x, hx⟩ : ∃ x : Nat, x = (F i).toNat := ⟨_, rfl⟩
        have hFi : F i = (x : Int) := by omega
        rw [hFi] at ix
        have hxb : x < 9223372036854775808 := by omega
        have NX1 : Hid (cfB c (i + 1) = cfB c i ++ numb x) := hide (by rw [NX.out i, hx])
        have CW := hide (wNumber_any D v (cfB c i) x wr (by omega) WR (by have := LN.out i (by omega); omega))
        have HOV := hide OV
        have HTL := hide TL
        have hAl : Hid (A ≤ wr.heap.size) := hide (by rw [← hA]; exact TL.size)
        clear WR OV TL hFi hx hp1 hp2 IX NX LN HP
        generalize F i = fi at *
        go_wp2_with fail
        refine CW.out.mono ?_
        rintro e w5 ⟨rfl, v5, W5, T5⟩
        have HW5 : Hid (Wr w5 D v5 (cfB c (i + 1))) := hide (by rw [NX1.out]; exact W5)
        have HT5 : Hid (Calm w w5) := hide (HTL.out.trans T5.touch fun k hk h => by
          rw [hA] at hk
          rcases h with h | h
          · have := HA2.out; omega
          · have := HOV.out k h; omega)
        have HO5 : Hid (∀ g, v5.ownBlock = some g → A ≤ g) := hide fun g hg => by
          rcases T5.fresh with h | ⟨g', h, hl⟩
          · rw [h] at hg; exact HOV.out g hg
          · rw [h] at hg; injection hg with hg; have := hAl.out; omega
        clear T5 W5 CW
        go_wp2_with fail
        go_roundw
        case rel => exact ⟨i + 1, v5, by go_num, by omega, HW5.out, HO5.out, HT5.out⟩
        case measure => simp [intOf]; omega
      · have hltz : ¬ (i : Int) < 10 := by omega
        obtain rfl : i = 10 := by omega
        have CB := hide (wBytes_any D v (cfB c 10) wr WR (by have := LN.out 10 (by omega); omega))
        have HTL := hide TL
        have hAl : Hid (A ≤ wr.heap.size) := hide (by rw [← hA]; exact TL.size)
        clear WR OV TL
        go_wp2_with fail
        refine CB.out.mono ?_
        rintro e w5 ⟨n, cc, rfl, R5, T5, l5⟩
        have HF := hide (HE.out _ w5 ⟨wr.heap.size, n, cc, rfl, hAl.out, R5, HTL.out.tr T5⟩)
        clear R5 T5 l5 CB
        go_wp2_with fail
        go_ret2
        exact HF.out
  · have HC : Hid (chN (fwN (fldF c)) = 4) := hide (by rw [ch_job, if_neg hw])
    have HE : Hid (∀ e w', e = .returned (.tuple #[.slice none 0 0, .int .i64 4]) ∧ Calm w w' → RetBs w e w' c) := hide fun _ _ h => .inl ⟨hw, h⟩
    clear hw hp
    simp only [HC.out] at CK
    clear HC
    go_enter Tryz.func4, Tryz.ntmps4
    go_wp2_with fail
    refine (CK _).out.mono ?_
    rintro e w1 ⟨rfl, T1⟩
    have HF := hide (HE.out _ w1 ⟨rfl, T0.out.tr T1⟩)
    clear T1 T0
    go_wp2_with fail
    go_ret2
    exact HF.out

end Go.Proofs.YtdcpmpbfnfjncaaGreatDoor
