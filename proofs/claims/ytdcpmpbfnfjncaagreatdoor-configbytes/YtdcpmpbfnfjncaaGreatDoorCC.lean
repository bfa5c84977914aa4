/- A job's bytes (the document's Bytes). -/
import Derived.Test.YtdcpmpbfnfjncaaGreatDoorCC0
import Derived.Test.YtdcpmpbfnfjncaaGreatDoorCB1
namespace Go.Proofs.YtdcpmpbfnfjncaaGreatDoor
open Go.RowKit

set_option maxRecDepth 100000 in
set_option maxHeartbeats 1000000 in
theorem rbytes_any (c : Cf) (hp : c.Pos) (w : World) : Calls Tryz.prog 10 #[cfv c] w fun e w' => RetB w e w' (cfB c 10) := by
  have CF := fun w => hide (rfields_any c w)
  have CN : Hid (∀ (x : Nat) (W : World), x < 18446744073709551616 → Calls Tryz.prog 26 #[.int .u64 (x : Int)] W fun e w' => RetB W e w' (numb x)) := hide fun x W hx => rnumber_any x hx W
  have NX := hide (cfB_next c)
  have LN := hide (fun i (hi : i ≤ 10) => cfB_len hp i hi)
  have HP := hide hp
  have Z0 : Hid (cfB c 0 = []) := hide rfl
  have HE : Hid (∀ e w', RetB w e w' (cfB c 10) → RetB w e w' (cfB c 10)) := hide fun _ _ h => h
  have T0 := hide ((Touch.refl (fun _ => False) w).alloc (.cells (cfc c) 24))
  clear hp
  go_enter Tryz.func10, Tryz.ntmps10
  go_wp2_with fail
  refine (CF _).out.mono ?_
  rintro e w1 ⟨rfl, T1⟩
  have A1 := hide (al_new w1 (.cells (f10c (fldF c)) 48))
  have TA := hide ((T0.out.tr T1).alloc (.cells (f10c (fldF c)) 48))
  have hDw : Hid (w.heap.size ≤ w1.heap.size) := hide (T0.out.tr T1).size
  clear T1 CF T0
  generalize hF : fldF c = F at *
  go_wp2_with fail
  generalize w1.alloc (.cells (f10c F) 48) = wS at *
  generalize w1.heap.size = D at *
  go_loopw [4, 5] (fun s4 s5 wr => ∃ (i n : Nat) (ao : Option Addr) (cap : Nat), s5 = .int .i64 (i : Int) ∧ i ≤ 10 ∧ s4 = .slice ao n cap ∧ n = (cfB c i).length ∧ encB.Own 5 wr (D + 1) (.slice ao n cap) (cfB c i) ∧ wr.heap[D]? = some (.cells (f10c F) 48 (0, 0)) ∧ Calm w wr) (fun _ s5 _ => 10 - (intOf s5).toNat)
  case atStart => exact ⟨0, 0, none, 0, rfl, by omega, rfl, by rw [Z0.out]; rfl, by rw [Z0.out]; exact Rc.Own.nil _ _ _, A1.out, TA.out⟩
  case round =>
    obtain ⟨i, n, ao, cap, rfl, hi, rfl, hn, OA, AD, TL⟩ := hrel
    by_cases hlt : i < 10
    · have hltz : (i : Int) < 10 := by omega
      obtain ⟨hp1, hp2⟩ := HP.out i hlt
      rw [hF] at hp1 hp2
      have hcell := f10_cells AD i hlt
      obtain ⟨x, hx⟩ : ∃ x : Nat, x = (F i).toNat := ⟨_, rfl⟩
      have hFi : F i = (x : Int) := by omega
      rw [hFi] at hcell
      have hxb : x < 9223372036854775808 := by omega
      have hln := LN.out i (by omega)
      have NX1 : Hid (cfB c (i + 1) = cfB c i ++ numb x) := hide (by rw [NX.out i, hx])
      have LN1 := hide (LN.out (i + 1) (by omega))
      have C1 := hide (CN.out x wr (by omega))
      have HOA := hide OA
      have HAD := hide AD
      have HTL := hide TL
      have Hn := hide hn
      clear hp1 hp2 hx hFi OA AD TL hn
      generalize cfB c i = A at *
      go_wp2_with fail
      refine C1.out.mono ?_
      rintro e w2 ⟨bo, bc, rfl, ow, T2⟩
      have O2 := Rc.Own.calm HOA.out T2
      have A2 := T2.at HAD.out
      have TL2 := HTL.out.tr T2
      have hsz : D + 1 ≤ w2.heap.size := lt_of_heap A2
      rw [Hn.out] at O2
      obtain ⟨a2, p2, w4, hrun, ow4, t4⟩ := by_apps O2 bo bc (numb x) (Rc.Own.mem ow).2.1 (Rc.Own.mem ow).2.2.2.2.1 hsz (by have := Hn.out; have := numb_len10 (x := x) (by omega); omega)
      have T4 : Hid (Calm w w4) := hide (own_calm O2 t4 TL2 (by have := hDw.out; omega))
      have A4 : Hid (w4.heap[D]? = some (.cells (f10c F) 48 (0, 0))) := hide (t4.heap A2 (fun h => by have := (Rc.own_block O2 h).1; omega))
      rw [← NX1.out] at ow4 hrun
      rw [← Hn.out] at hrun
      have OW := hide ow4
      have HR := hide hrun
      clear ow O2 A2 TL2 t4 ow4 hrun T2 C1 HOA HAD HTL hsz
      generalize hk : (cfB c (i + 1)).length = k9 at *
      have HK := hide hk
      clear hk
      generalize (numb x).length = nl at *
      go_wp2_with (at_builtin; refine Rc.wpList_appR rfl (.tmp 12) (.tmp 17) 25 25 rfl _ _ _ rfl rfl HR.out ?_)
      go_roundw
      case rel => exact ⟨i + 1, k9, a2, p2, by go_num, by omega, rfl, HK.out.symm, OW.out, A4.out, T4.out⟩
      case measure => simp [intOf]; omega
    · have hltz : ¬ (i : Int) < 10 := by omega
      obtain rfl : i = 10 := by omega
      have HF : Hid (RetB w (.returned (.slice ao n cap)) wr (cfB c 10)) := hide ⟨ao, cap, by rw [hn], by rw [← hn]; exact Rc.Own.base OA (by have := hDw.out; omega), TL⟩
      clear hn OA AD TL
      go_wp2_with fail
      go_ret
      exact HF.out

end Go.Proofs.YtdcpmpbfnfjncaaGreatDoor
