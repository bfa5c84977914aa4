/- A job's text (the document's Text). -/
import Derived.Test.YtdcpmpbfnfjncaaGreatDoorCV
import Derived.Test.YtdcpmpbfnfjncaaGreatDoorCT0
import Derived.Test.YtdcpmpbfnfjncaaGreatDoorCB1
namespace Go.Proofs.YtdcpmpbfnfjncaaGreatDoor
open Go.RowKit

theorem rnames_words (w : World) : Calls Tryz.prog 28 #[] w fun e w' => ∃ g, e = .returned (.slice (some ⟨g, 0, none⟩) 10 10) ∧ Calm w w' ∧ Words w' g := by
  refine (rnames_any w).mono ?_
  rintro e w' ⟨rfl, rfl⟩
  exact ⟨w.heap.size, rfl, (Touch.refl _ w).alloc _, fun W hW i hi => nms_cell (hW.at (al_new w _)) i hi⟩

set_option maxRecDepth 100000 in
set_option maxHeartbeats 1000000 in
theorem rtext_any (c : Cf) (hc : TxtOk c) (w : World) (ht : Tab w) : Calls Tryz.prog 12 #[cfv c] w fun e w' => e = .returned (.string (txtS c 10)) ∧ Calm w w' := by
  have CF := fun w => hide (rfields_any c w)
  have CN := fun w => hide (rnames_words w)
  have CV : Hid (∀ i : Nat, i < 10 → ∀ W, Calm w W → Calls Tryz.prog 29 #[.int .i64 (i : Int), .int .i64 (fldF c i)] W fun e w' => e = .returned (.string (valB i (fldF c i))) ∧ Calm W w') := hide fun i hi W hW => rvalue_any i _ hi (hc i hi) W (ht.calm hW)
  have LN := hide (fun i (hi : i ≤ 10) => txtS_size hc i hi)
  have LV := hide (fun i (hi : i < 10) => valB_size (hc i hi))
  have NX : Hid (∀ i, txtS c (i + 1) = (((if i = 0 then txtS c i else txtS c i ++ spB) ++ nm i) ++ spB) ++ valB i (fldF c i)) := hide fun _ => rfl
  have Z0 : Hid (txtS c 0 = ⟨#[]⟩) := hide rfl
  have T0 := hide ((Touch.refl (fun _ => False) w).alloc (.cells (cfc c) 24))
  clear hc ht
  go_enter Tryz.func12, Tryz.ntmps12
  go_wp2_with fail
  refine (CF _).out.mono ?_
  rintro e w1 ⟨rfl, T1⟩
  have A1 := hide (al_new w1 (.cells (f10c (fldF c)) 48))
  have TA := hide ((T0.out.tr T1).alloc (.cells (f10c (fldF c)) 48))
  clear T1 CF T0
  generalize hF : fldF c = F at *
  go_wp2_with fail
  generalize w1.alloc (.cells (f10c F) 48) = wS at *
  generalize w1.heap.size = D at *
  refine (CN _).out.mono ?_
  rintro e w3 ⟨E, rfl, T2, hw⟩
  have A3 := hide (T2.at A1.out)
  have TL3 := hide (TA.out.tr T2)
  have HW := hide hw
  clear A1 TA CN T2 hw
  go_wp2_with fail
  have SPX : spB = (⟨#[32]⟩ : ByteArray) := rfl
  have Hi3 := hide SPX
  go_loopw [5, 6] (fun s5 s6 wr => ∃ i : Nat, s5 = .string (txtS c i) ∧ s6 = .int .i64 (i : Int) ∧ i ≤ 10 ∧ Calm w3 wr) (fun _ s6 _ => 10 - (intOf s6).toNat)
  case atStart => exact ⟨0, by rw [Z0.out], rfl, by omega, Touch.refl _ _⟩
  case round =>
    obtain ⟨i, rfl, rfl, hi, TL⟩ := hrel
    by_cases hlt : i < 10
    · have hltz : (i : Int) < 10 := by omega
      have l1 := LN.out i (by omega)
      have l2 := LV.out i hlt
      have l3 := nm_size i
      have C1 := hide (CV.out i hlt)
      have NX1 := hide (NX.out i)
      have FC : Hid (∀ W, Calm w3 W → W.cell? ⟨E, i, none⟩ = some (.string (nm i)) ∧ W.cell? ⟨D, i, none⟩ = some (.int .i64 (F i))) := hide fun W hW => ⟨HW.out W hW i hlt, f10_cells (hW.at A3.out) i hlt⟩
      have HTL := hide TL
      clear TL CV NX LN LV
      generalize nm i = nn at *
      generalize valB i (F i) = v at *
      generalize txtS c i = s at *
      obtain ⟨s0, hs0⟩ : ∃ s0, s0 = if i = 0 then s else s ++ spB := ⟨_, rfl⟩
      rw [← hs0] at NX1
      have lb : spB.size = 1 := rfl
      have l0 : s0.size ≤ 302 := by
        rw [hs0]
        split
        · omega
        · rw [ByteArray.size_append]; omega
      obtain ⟨s1, hs1⟩ : ∃ s1, s1 = s0 ++ nn := ⟨_, rfl⟩
      obtain ⟨s2, hs2⟩ : ∃ s2, s2 = s1 ++ spB := ⟨_, rfl⟩
      obtain ⟨s3, hs3⟩ : ∃ s3, s3 = s2 ++ v := ⟨_, rfl⟩
      have e1 : s1.size = s0.size + nn.size := by rw [hs1, ByteArray.size_append]
      have e2 : s2.size = s1.size + spB.size := by rw [hs2, ByteArray.size_append]
      have G0 : Hid (binOp .add 9 (.string s) (.string ⟨#[32]⟩) = pure (.string (s ++ spB))) := hide (str_add _ s spB (by omega))
      have G1 : Hid (binOp .add 9 (.string s0) (.string nn) = pure (.string s1)) := hide (by rw [hs1]; exact str_add _ s0 nn (by omega))
      have G2 : Hid (binOp .add 9 (.string s1) (.string ⟨#[32]⟩) = pure (.string s2)) := hide (by rw [hs2]; exact str_add _ s1 spB (by omega))
      have G3 : Hid (binOp .add 9 (.string s2) (.string v) = pure (.string s3)) := hide (by rw [hs3]; exact str_add _ s2 v (by omega))
      have NX2 : Hid (txtS c (i + 1) = s3) := hide (by rw [NX1.out, hs3, hs2, hs1])
      have Hs0 := hide hs0
      clear NX1 hs0 hs1 hs2 hs3 e1 e2 l0 l1 l2 l3 lb
      by_cases hi0 : i = 0
      · have hs : s0 = s := by rw [Hs0.out, if_pos hi0]
        subst hs
        have hi0z : ¬ (0 : Int) < (i : Int) := by omega
        clear hi0 G0 Hs0
        go_wp2_with fail
        clear hi0z
        refine wp_region_held (S := Calm w3) (by kernel_rfl) ?_
        have hT0 : Calm w3 { wr with drawn := wr.drawn + 1 } := HTL.out.drew
        refine wpAnyH_yield 0 18 (.string s0) rfl rfl (by kernel_rfl) (by kernel_rfl) (by kernel_rfl) (fun _ _ _ h => h) (by kernel_rfl) (fun W hW => by kernel_rfl) (by assumption) rfl rfl ?_
        simp only [Act.put, List.setIfInBounds_toArray, List.set_cons_zero, List.set_cons_succ]
        refine wpAnyH_yield 1 19 (.slice (some ⟨E, 0, none⟩) 10 10) rfl rfl (by kernel_rfl) (by kernel_rfl) (by kernel_rfl) (fun _ _ _ h => h) (by kernel_rfl) (fun W hW => by kernel_rfl) (by assumption) rfl rfl ?_
        simp only [Act.put, List.setIfInBounds_toArray, List.set_cons_zero, List.set_cons_succ]
        refine wpAnyH_yield 2 20 (.int .i64 (i : Int)) rfl rfl (by kernel_rfl) (by kernel_rfl) (by kernel_rfl) (fun _ _ _ h => h) (by kernel_rfl) (fun W hW => by kernel_rfl) (by assumption) rfl rfl ?_
        simp only [Act.put, List.setIfInBounds_toArray, List.set_cons_zero, List.set_cons_succ]
        refine wpAnyH_yield 3 21 (.pointer (some ⟨E, i, none⟩)) rfl rfl (by kernel_rfl) (by kernel_rfl) (by kernel_rfl) (fun _ _ _ h => h) (by kernel_rfl) (fun W hW => by go_simp) (by assumption) rfl rfl ?_
        simp only [Act.put, List.setIfInBounds_toArray, List.set_cons_zero, List.set_cons_succ]
        refine wpAnyH_yield 4 22 (.string nn) rfl rfl (by kernel_rfl) (by kernel_rfl) (by kernel_rfl) (fun _ _ _ h => h) (by kernel_rfl) (fun W hW => by obtain ⟨c0, -⟩ := FC.out W hW; go_simp) (by assumption) rfl rfl ?_
        simp only [Act.put, List.setIfInBounds_toArray, List.set_cons_zero, List.set_cons_succ]
        refine wpAnyH_yield 5 23 (.string s1) rfl rfl (by kernel_rfl) (by kernel_rfl) (by kernel_rfl) (fun _ _ _ h => h) (by kernel_rfl) (fun W hW => by have q := G1.out; go_simp) (by assumption) rfl rfl ?_
        simp only [Act.put, List.setIfInBounds_toArray, List.set_cons_zero, List.set_cons_succ]
        refine wpAnyH_yield 6 24 (.string s2) rfl rfl (by kernel_rfl) (by kernel_rfl) (by kernel_rfl) (fun _ _ _ h => h) (by kernel_rfl) (fun W hW => by have q := G2.out; go_simp) (by assumption) rfl rfl ?_
        simp only [Act.put, List.setIfInBounds_toArray, List.set_cons_zero, List.set_cons_succ]
        refine wpAnyH_yield 7 25 (.int .i64 (i : Int)) rfl rfl (by kernel_rfl) (by kernel_rfl) (by kernel_rfl) (fun _ _ _ h => h) (by kernel_rfl) (fun W hW => by kernel_rfl) (by assumption) rfl rfl ?_
        simp only [Act.put, List.setIfInBounds_toArray, List.set_cons_zero, List.set_cons_succ]
        refine wpAnyH_yield 8 26 (.int .i64 (i : Int)) rfl rfl (by kernel_rfl) (by kernel_rfl) (by kernel_rfl) (fun _ _ _ h => h) (by kernel_rfl) (fun W hW => by kernel_rfl) (by assumption) rfl rfl ?_
        simp only [Act.put, List.setIfInBounds_toArray, List.set_cons_zero, List.set_cons_succ]
        refine wpAnyH_yield 9 27 (.pointer (some ⟨D, i, none⟩)) rfl rfl (by kernel_rfl) (by kernel_rfl) (by kernel_rfl) (fun _ _ _ h => h) (by kernel_rfl) (fun W hW => by go_simp) (by assumption) rfl rfl ?_
        simp only [Act.put, List.setIfInBounds_toArray, List.set_cons_zero, List.set_cons_succ]
        refine wpAnyH_yield 10 28 (.int .i64 (F i)) rfl rfl (by kernel_rfl) (by kernel_rfl) (by kernel_rfl) (fun _ _ _ h => h) (by kernel_rfl) (fun W hW => by obtain ⟨-, c1⟩ := FC.out W hW; go_simp) (by assumption) rfl rfl ?_
        simp only [Act.put, List.setIfInBounds_toArray, List.set_cons_zero, List.set_cons_succ]
        refine wpAnyH_enter 11 29 29 #[.int .i64 (i : Int), .int .i64 (F i)] rfl rfl (by kernel_rfl) (by kernel_rfl) (by kernel_rfl) ?_
        refine (C1.out _ (TL3.out.tr hT0)).mono ?_
        rintro r w5 ⟨rfl, T5⟩
        have h5 := hT0.tr T5
        refine ⟨_, rfl, h5, ?_⟩
        simp only [Act.put, List.setIfInBounds_toArray, List.set_cons_zero, List.set_cons_succ]
        refine wpAnyH_yield 12 30 (.string s3) rfl rfl (by kernel_rfl) (by kernel_rfl) (by kernel_rfl) (fun _ _ _ h => h) (by kernel_rfl) (fun W hW => by have q := G3.out; go_simp) (by assumption) rfl rfl ?_
        simp only [Act.put, List.setIfInBounds_toArray, List.set_cons_zero, List.set_cons_succ]
        refine wpAnyH_yield 13 5 (.string s3) rfl rfl (by kernel_rfl) (by kernel_rfl) (by kernel_rfl) (fun _ _ _ h => h) (by kernel_rfl) (fun W hW => by kernel_rfl) (by assumption) rfl rfl ?_
        simp only [Act.put, List.setIfInBounds_toArray, List.set_cons_zero, List.set_cons_succ]
        refine wpAnyH_done (by kernel_rfl) ?_ _
        have H5 := hide h5
        clear h5 T5 hT0 C1 FC G1 G2 G3 HTL
        go_wp2_with fail
        go_roundw
        case rel => exact ⟨i + 1, by rw [NX2.out], by go_num, by omega, H5.out⟩
        case measure => simp [intOf]; omega
      · have hs : s ++ spB = s0 := by rw [Hs0.out, if_neg hi0]
        have g0 := G0.out
        rw [hs] at g0
        have hi0z : (0 : Int) < (i : Int) := by omega
        clear hi0 G0 Hs0 hs
        go_wp2_with fail
        clear hi0z g0
        refine wp_region_held (S := Calm w3) (by kernel_rfl) ?_
        have hT0 : Calm w3 { wr with drawn := wr.drawn + 1 } := HTL.out.drew
        refine wpAnyH_yield 0 18 (.string s0) rfl rfl (by kernel_rfl) (by kernel_rfl) (by kernel_rfl) (fun _ _ _ h => h) (by kernel_rfl) (fun W hW => by kernel_rfl) (by assumption) rfl rfl ?_
        simp only [Act.put, List.setIfInBounds_toArray, List.set_cons_zero, List.set_cons_succ]
        refine wpAnyH_yield 1 19 (.slice (some ⟨E, 0, none⟩) 10 10) rfl rfl (by kernel_rfl) (by kernel_rfl) (by kernel_rfl) (fun _ _ _ h => h) (by kernel_rfl) (fun W hW => by kernel_rfl) (by assumption) rfl rfl ?_
        simp only [Act.put, List.setIfInBounds_toArray, List.set_cons_zero, List.set_cons_succ]
        refine wpAnyH_yield 2 20 (.int .i64 (i : Int)) rfl rfl (by kernel_rfl) (by kernel_rfl) (by kernel_rfl) (fun _ _ _ h => h) (by kernel_rfl) (fun W hW => by kernel_rfl) (by assumption) rfl rfl ?_
        simp only [Act.put, List.setIfInBounds_toArray, List.set_cons_zero, List.set_cons_succ]
        refine wpAnyH_yield 3 21 (.pointer (some ⟨E, i, none⟩)) rfl rfl (by kernel_rfl) (by kernel_rfl) (by kernel_rfl) (fun _ _ _ h => h) (by kernel_rfl) (fun W hW => by go_simp) (by assumption) rfl rfl ?_
        simp only [Act.put, List.setIfInBounds_toArray, List.set_cons_zero, List.set_cons_succ]
        refine wpAnyH_yield 4 22 (.string nn) rfl rfl (by kernel_rfl) (by kernel_rfl) (by kernel_rfl) (fun _ _ _ h => h) (by kernel_rfl) (fun W hW => by obtain ⟨c0, -⟩ := FC.out W hW; go_simp) (by assumption) rfl rfl ?_
        simp only [Act.put, List.setIfInBounds_toArray, List.set_cons_zero, List.set_cons_succ]
        refine wpAnyH_yield 5 23 (.string s1) rfl rfl (by kernel_rfl) (by kernel_rfl) (by kernel_rfl) (fun _ _ _ h => h) (by kernel_rfl) (fun W hW => by have q := G1.out; go_simp) (by assumption) rfl rfl ?_
        simp only [Act.put, List.setIfInBounds_toArray, List.set_cons_zero, List.set_cons_succ]
        refine wpAnyH_yield 6 24 (.string s2) rfl rfl (by kernel_rfl) (by kernel_rfl) (by kernel_rfl) (fun _ _ _ h => h) (by kernel_rfl) (fun W hW => by have q := G2.out; go_simp) (by assumption) rfl rfl ?_
        simp only [Act.put, List.setIfInBounds_toArray, List.set_cons_zero, List.set_cons_succ]
        refine wpAnyH_yield 7 25 (.int .i64 (i : Int)) rfl rfl (by kernel_rfl) (by kernel_rfl) (by kernel_rfl) (fun _ _ _ h => h) (by kernel_rfl) (fun W hW => by kernel_rfl) (by assumption) rfl rfl ?_
        simp only [Act.put, List.setIfInBounds_toArray, List.set_cons_zero, List.set_cons_succ]
        refine wpAnyH_yield 8 26 (.int .i64 (i : Int)) rfl rfl (by kernel_rfl) (by kernel_rfl) (by kernel_rfl) (fun _ _ _ h => h) (by kernel_rfl) (fun W hW => by kernel_rfl) (by assumption) rfl rfl ?_
        simp only [Act.put, List.setIfInBounds_toArray, List.set_cons_zero, List.set_cons_succ]
        refine wpAnyH_yield 9 27 (.pointer (some ⟨D, i, none⟩)) rfl rfl (by kernel_rfl) (by kernel_rfl) (by kernel_rfl) (fun _ _ _ h => h) (by kernel_rfl) (fun W hW => by go_simp) (by assumption) rfl rfl ?_
        simp only [Act.put, List.setIfInBounds_toArray, List.set_cons_zero, List.set_cons_succ]
        refine wpAnyH_yield 10 28 (.int .i64 (F i)) rfl rfl (by kernel_rfl) (by kernel_rfl) (by kernel_rfl) (fun _ _ _ h => h) (by kernel_rfl) (fun W hW => by obtain ⟨-, c1⟩ := FC.out W hW; go_simp) (by assumption) rfl rfl ?_
        simp only [Act.put, List.setIfInBounds_toArray, List.set_cons_zero, List.set_cons_succ]
        refine wpAnyH_enter 11 29 29 #[.int .i64 (i : Int), .int .i64 (F i)] rfl rfl (by kernel_rfl) (by kernel_rfl) (by kernel_rfl) ?_
        refine (C1.out _ (TL3.out.tr hT0)).mono ?_
        rintro r w5 ⟨rfl, T5⟩
        have h5 := hT0.tr T5
        refine ⟨_, rfl, h5, ?_⟩
        simp only [Act.put, List.setIfInBounds_toArray, List.set_cons_zero, List.set_cons_succ]
        refine wpAnyH_yield 12 30 (.string s3) rfl rfl (by kernel_rfl) (by kernel_rfl) (by kernel_rfl) (fun _ _ _ h => h) (by kernel_rfl) (fun W hW => by have q := G3.out; go_simp) (by assumption) rfl rfl ?_
        simp only [Act.put, List.setIfInBounds_toArray, List.set_cons_zero, List.set_cons_succ]
        refine wpAnyH_yield 13 5 (.string s3) rfl rfl (by kernel_rfl) (by kernel_rfl) (by kernel_rfl) (fun _ _ _ h => h) (by kernel_rfl) (fun W hW => by kernel_rfl) (by assumption) rfl rfl ?_
        simp only [Act.put, List.setIfInBounds_toArray, List.set_cons_zero, List.set_cons_succ]
        refine wpAnyH_done (by kernel_rfl) ?_ _
        have H5 := hide h5
        clear h5 T5 hT0 C1 FC G1 G2 G3 HTL
        go_wp2_with fail
        go_roundw
        case rel => exact ⟨i + 1, by rw [NX2.out], by go_num, by omega, H5.out⟩
        case measure => simp [intOf]; omega
    · have hltz : ¬ (i : Int) < 10 := by omega
      obtain rfl : i = 10 := by omega
      have HTL := hide (TL3.out.tr TL)
      clear TL CV NX LN LV
      go_wp2_with fail
      go_ret
      exact ⟨rfl, HTL.out⟩

end Go.Proofs.YtdcpmpbfnfjncaaGreatDoor
