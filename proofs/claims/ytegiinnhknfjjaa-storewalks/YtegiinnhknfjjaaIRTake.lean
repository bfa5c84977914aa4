/- The document's Take. -/
import Derived.Test.YtegiinnhknfjjaaIRPut
namespace Go.Proofs.Ytegiinnhknfjjaa.IM
open Go.RowKit

/-- The pairs with a key taken away. -/
def rtake (which key : Int) (L : List (Int × Int)) : List (Int × Int) := if thereB which key L = true then L.take (lead which key L) ++ L.drop (lead which key L + 1) else L

set_option maxRecDepth 100000 in
theorem rtake_no (r : Nat) (which key : Int) (L : List (Int × Int)) (ao : Option Addr) (cap : Nat) (w : World) (h : Rf w r which L ao cap) (hth : thereB which key L = false) :
    Calls Try.prog 36 #[.pointer (some ⟨r, 0, none⟩), .int .i64 key] w fun e w' => e = .returned (.tuple #[.int .i64 0, .bool false]) ∧ Calm w w' := by
  have PL := hide (rplace_any r which key L ao cap w h)
  rw [hth] at PL
  clear h hth
  generalize lead which key L = k at *
  go_enter Try.func36, Try.ntmps36
  go_wp2_with fail
  refine PL.out.mono ?_
  rintro e w2 ⟨rfl, t2⟩
  go_wp2_with fail
  go_ret2
  exact ⟨rfl, t2⟩

set_option maxRecDepth 100000 in
set_option maxHeartbeats 2000000 in
theorem rtake_yes (r : Nat) (which key : Int) (L : List (Int × Int)) (ao : Option Addr) (cap : Nat) (w : World) (h : Rf w r which L ao cap) (hth : thereB which key L = true) (hb : L.length + 1 ≤ 8796093022208) :
    Calls Try.prog 36 #[.pointer (some ⟨r, 0, none⟩), .int .i64 key] w fun e w' => e = .returned (.tuple #[.int .i64 (valAt which key L), .bool true]) ∧ (∃ ao' cap', Rf w' r which (rtake which key L) ao' cap') ∧ Touch (fun g => g = r) w w' := by
  have PL := hide (rplace_any r which key L ao cap w h)
  have hlt := there_lt hth
  have hc := h.cap
  have HRP : Hid (rtake which key L = L.take (lead which key L) ++ L.drop (lead which key L + 1)) := hide (by unfold rtake; rw [hth, if_pos rfl])
  have HVA : Hid (valAt which key L = L[lead which key L].2) := hide (by unfold valAt; rw [hth, if_pos rfl, List.getElem?_eq_getElem hlt]; rfl)
  rw [hth] at PL
  have HO := hide h.own
  have HNIL := hide h.nil
  have HLT : Hid ((L.take (lead which key L)).length = lead which key L) := hide (by rw [List.length_take]; omega)
  have HLD : Hid ((L.drop (lead which key L + 1)).length = L.length - (lead which key L + 1)) := hide (by rw [List.length_drop])
  have HB0 : Hid (([] : List (Int × Int)).length + (L.take (lead which key L)).length ≤ 8796093022208) := hide (by rw [List.length_take]; simp; omega)
  obtain ⟨so, sc, hsl, hsp, hsn⟩ : ∃ so sc, (∀ W, (Instr.slice 28 (.slice ao L.length cap) (some (.int .i64 (lead which key L + 1 : Nat))) none none).run Try.prog W = .ok (.slice so (L.length - (lead which key L + 1)) sc) W) ∧ Prs w so (L.drop (lead which key L + 1)) ∧ (so = none → sc = 0) := slice_from h.prs (by omega) hc.1 h.nil
  have HST : Hid (∀ W, (Instr.slice 28 (.slice ao L.length cap) none (some (.int .i64 (lead which key L : Nat))) none).run Try.prog W = .ok (.slice ao (lead which key L) cap) W) := hide (fun W => slice_to (fun a ha => (h.row a ha).1) (by omega) W)
  have HPT := hide (h.prs.take (lead which key L))
  have HSL := hide hsl
  have HSP := hide hsp
  have HSN := hide hsn
  have HW1 : Hid (wrap64 (((lead which key L : Nat) : Int) + 1) = ((lead which key L + 1 : Nat) : Int)) := hide (wrap_n hlt (Nat.le_trans hc.1 hc.2))
  have HR := hide h
  obtain ⟨b, off, rfl, p0, p1⟩ := h.prs _ hlt
  have HP1 : Hid (∀ W, Calm w W → W.cell? ⟨b, off + lead which key L * 2 + 1, none⟩ = some (.int .i64 L[lead which key L].2)) := hide (fun W h => (h.cell (p := ⟨b, off + lead which key L * 2 + 1, none⟩) (lt_of_cell p1) (fun h => h)).trans p1)
  have HB2 : Hid ((L.take (lead which key L)).length + (L.drop (lead which key L + 1)).length ≤ 8796093022208) := hide (by rw [List.length_take, List.length_drop]; omega)
  have hk1 : ((lead which key L : Nat) : Int) ≤ (cap : Int) := by omega
  have hk2 : ((lead which key L : Nat) : Int) < (L.length : Int) := by omega
  clear h hth hc hb hsl hsp hsn p0 p1
  generalize L[lead which key L].2 = xv at *
  clear hlt
  generalize hkk : lead which key L = k at *
  clear hkk
  generalize hnl : L.length = n at *
  clear hnl
  generalize L.take k = TK at *
  generalize L.drop (k + 1) = DK at *
  have ek : ((k + 1 : Nat) : Int) = (k : Int) + 1 := by omega
  rw [ek] at HSL HW1
  clear ek
  go_enter Try.func36, Try.ntmps36
  go_wp2_with fail
  refine PL.out.mono ?_
  rintro e w3 ⟨rfl, t3⟩
  obtain ⟨d0, d1⟩ := cells2 (t3.at HO.out)
  have d2 := HP1.out _ t3
  have T3 := hide t3
  clear t3
  go_wp2_with fail
  clear d0 d1 d2
  refine wp_only ?_
  refine wp_region_z 19 (Calm w) (by kernel_rfl) ?_
  have hT0 : Calm w { w3 with drawn := w3.drawn + 1 } := T3.out.drew
  generalize ({ w3 with drawn := w3.drawn + 1 } : World) = w4 at *
  refine wpAnyZ_yield 0 25 (.pointer (some ⟨r, 0, none⟩)) [17, 18, 19] rfl rfl (by kernel_rfl) (by kernel_rfl) (by kernel_rfl) (by kernel_rfl) (by kernel_rfl) (fun _ _ _ h => h) (by kernel_rfl) (fun W hW => by kernel_rfl) (by assumption) rfl rfl ?_
  simp only [Act.put, List.setIfInBounds_toArray, List.set_cons_zero, List.set_cons_succ]
  refine wpAnyZ_yield 2 27 (.pointer (some ⟨r, 0, none⟩)) [3, 4, 5, 7, 8, 16, 19] rfl rfl (by kernel_rfl) (by kernel_rfl) (by kernel_rfl) (by kernel_rfl) (by kernel_rfl) (fun _ _ _ h => h) (by kernel_rfl) (fun W hW => by kernel_rfl) (by assumption) rfl rfl ?_
  simp only [Act.put, List.setIfInBounds_toArray, List.set_cons_zero, List.set_cons_succ]
  refine wpAnyZ_yield 3 28 (.pointer (some ⟨r, 0, none⟩)) [4, 5, 7, 8, 16, 19] rfl rfl (by kernel_rfl) (by kernel_rfl) (by kernel_rfl) (by kernel_rfl) (by kernel_rfl) (fun _ _ _ h => h) (by kernel_rfl) (fun W hW => by kernel_rfl) (by assumption) rfl rfl ?_
  simp only [Act.put, List.setIfInBounds_toArray, List.set_cons_zero, List.set_cons_succ]
  refine wpAnyZ_yield 4 29 (.pointer (some ⟨r, 1, none⟩)) [5, 7, 8, 16, 19] rfl rfl (by kernel_rfl) (by kernel_rfl) (by kernel_rfl) (by kernel_rfl) (by kernel_rfl) (fun _ _ _ h => h) (by kernel_rfl) (fun W hW => by go_simp) (by assumption) rfl rfl ?_
  simp only [Act.put, List.setIfInBounds_toArray, List.set_cons_zero, List.set_cons_succ]
  refine wpAnyZ_yield 5 30 (.slice (some ⟨b, off, none⟩) n cap) [7, 8, 16, 19] rfl rfl (by kernel_rfl) (by kernel_rfl) (by kernel_rfl) (by kernel_rfl) (by kernel_rfl) (fun _ _ _ h => h) (by kernel_rfl) (fun W hW => by obtain ⟨c0, c1⟩ := cells2 (hW.at HO.out); go_simp) (by assumption) rfl rfl ?_
  simp only [Act.put, List.setIfInBounds_toArray, List.set_cons_zero, List.set_cons_succ]
  refine wpAnyZ_yield 6 31 (.int .i64 (k : Int)) [7, 8, 16, 19] rfl rfl (by kernel_rfl) (by kernel_rfl) (by kernel_rfl) (by kernel_rfl) (by kernel_rfl) (fun _ _ _ h => h) (by kernel_rfl) (fun W hW => by kernel_rfl) (by assumption) rfl rfl ?_
  simp only [Act.put, List.setIfInBounds_toArray, List.set_cons_zero, List.set_cons_succ]
  refine wpAnyZ_yield 7 32 ((.slice (some ⟨b, off, none⟩) k cap)) [8, 16, 19] rfl rfl (by kernel_rfl) (by kernel_rfl) (by kernel_rfl) (by kernel_rfl) (by kernel_rfl) (fun _ _ _ h => h) (by kernel_rfl) (fun W hW => by have hs := HST.out W; go_simp) (by assumption) rfl rfl ?_
  simp only [Act.put, List.setIfInBounds_toArray, List.set_cons_zero, List.set_cons_succ]
  refine wpAnyZ_yield 9 34 (.pointer (some ⟨r, 0, none⟩)) [10, 11, 12, 15, 16, 19] rfl rfl (by kernel_rfl) (by kernel_rfl) (by kernel_rfl) (by kernel_rfl) (by kernel_rfl) (fun _ _ _ h => h) (by kernel_rfl) (fun W hW => by kernel_rfl) (by assumption) rfl rfl ?_
  simp only [Act.put, List.setIfInBounds_toArray, List.set_cons_zero, List.set_cons_succ]
  refine wpAnyZ_yield 10 35 (.pointer (some ⟨r, 0, none⟩)) [11, 12, 15, 16, 19] rfl rfl (by kernel_rfl) (by kernel_rfl) (by kernel_rfl) (by kernel_rfl) (by kernel_rfl) (fun _ _ _ h => h) (by kernel_rfl) (fun W hW => by kernel_rfl) (by assumption) rfl rfl ?_
  simp only [Act.put, List.setIfInBounds_toArray, List.set_cons_zero, List.set_cons_succ]
  refine wpAnyZ_yield 11 36 (.pointer (some ⟨r, 1, none⟩)) [12, 15, 16, 19] rfl rfl (by kernel_rfl) (by kernel_rfl) (by kernel_rfl) (by kernel_rfl) (by kernel_rfl) (fun _ _ _ h => h) (by kernel_rfl) (fun W hW => by go_simp) (by assumption) rfl rfl ?_
  simp only [Act.put, List.setIfInBounds_toArray, List.set_cons_zero, List.set_cons_succ]
  refine wpAnyZ_yield 12 37 (.slice (some ⟨b, off, none⟩) n cap) [15, 16, 19] rfl rfl (by kernel_rfl) (by kernel_rfl) (by kernel_rfl) (by kernel_rfl) (by kernel_rfl) (fun _ _ _ h => h) (by kernel_rfl) (fun W hW => by obtain ⟨c0, c1⟩ := cells2 (hW.at HO.out); go_simp) (by assumption) rfl rfl ?_
  simp only [Act.put, List.setIfInBounds_toArray, List.set_cons_zero, List.set_cons_succ]
  refine wpAnyZ_yield 13 38 (.int .i64 (k : Int)) [14, 15, 16, 19] rfl rfl (by kernel_rfl) (by kernel_rfl) (by kernel_rfl) (by kernel_rfl) (by kernel_rfl) (fun _ _ _ h => h) (by kernel_rfl) (fun W hW => by kernel_rfl) (by assumption) rfl rfl ?_
  simp only [Act.put, List.setIfInBounds_toArray, List.set_cons_zero, List.set_cons_succ]
  refine wpAnyZ_yield 14 39 (.int .i64 ((k : Int) + 1)) [15, 16, 19] rfl rfl (by kernel_rfl) (by kernel_rfl) (by kernel_rfl) (by kernel_rfl) (by kernel_rfl) (fun _ _ _ h => h) (by kernel_rfl) (fun W hW => by have hw := HW1.out; go_simp; rw [wrapEq, hw]) (by assumption) rfl rfl ?_
  simp only [Act.put, List.setIfInBounds_toArray, List.set_cons_zero, List.set_cons_succ]
  refine wpAnyZ_yield 15 40 ((.slice so (n - (k + 1)) sc)) [16, 19] rfl rfl (by kernel_rfl) (by kernel_rfl) (by kernel_rfl) (by kernel_rfl) (by kernel_rfl) (fun _ _ _ h => h) (by kernel_rfl) (fun W hW => by have hs := HSL.out W; go_simp) (by assumption) rfl rfl ?_
  simp only [Act.put, List.setIfInBounds_toArray, List.set_cons_zero, List.set_cons_succ]
  refine wpAnyZ_value 1 26 (.slice (some ⟨w4.heap.size, 0, none⟩) 0 0) (w' := w4.alloc (.cells #[] 57)) rfl rfl (by decide) (by kernel_rfl) (by kernel_rfl) (by go_simp) (hT0.alloc _) ?_
  simp only [Act.put, List.setIfInBounds_toArray, List.set_cons_zero, List.set_cons_succ]
  have hT5 : Calm w (w4.alloc (.cells #[] 57)) := hT0.alloc _
  have OW5 : OwnP (w4.alloc (.cells #[] 57)) w.heap.size (.slice (some ⟨w4.heap.size, 0, none⟩) 0 0) [] := own_base (own_empty w4) hT0.size
  obtain ⟨w5, ew5⟩ : ∃ w5, w5 = w4.alloc (.cells #[] 57) := ⟨_, rfl⟩
  rw [← ew5] at hT5 OW5 ⊢
  obtain ⟨ao6, c6, w6, hr6, ow6, t6⟩ := run_app w5 w.heap.size 28 (.slice (some ⟨w4.heap.size, 0, none⟩) 0 0) [] OW5 (some ⟨b, off, none⟩) cap TK (HPT.out.calm hT5) (fun h => (nomatch h)) HB0.out hT5.size
  rw [HLT.out] at hr6
  rw [List.nil_append] at hr6 ow6
  have hT6 : Calm w w6 := hT5.trans t6 (fun g hg hs => by have := (own_block OW5 hs).1; omega)
  refine wpAnyZ_value 8 33 (.slice ao6 TK.length c6) (w' := w6) rfl rfl (by decide) (by kernel_rfl) (by kernel_rfl) (exec_app rfl hr6) hT6 ?_
  simp only [Act.put, List.setIfInBounds_toArray, List.set_cons_zero, List.set_cons_succ]
  obtain ⟨ao7, c7, w7, hr7, ow7, t7⟩ := run_app w6 w.heap.size 28 (.slice ao6 TK.length c6) TK ow6 so sc DK (HSP.out.calm hT6) HSN.out HB2.out hT6.size
  rw [HLD.out] at hr7
  have hT7 : Calm w w7 := hT6.trans t7 (fun g hg hs => by have := (own_block ow6 hs).1; omega)
  refine wpAnyZ_value 16 41 (.slice ao7 (TK ++ DK).length c7) (w' := w7) rfl rfl (by decide) (by kernel_rfl) (by kernel_rfl) (exec_app rfl hr7) hT7 ?_
  simp only [Act.put, List.setIfInBounds_toArray, List.set_cons_zero, List.set_cons_succ]
  refine wpAnyZ_yield 17 42 (.pointer (some ⟨r, 0, none⟩)) [18, 19] rfl rfl (by kernel_rfl) (by kernel_rfl) (by kernel_rfl) (by kernel_rfl) (by kernel_rfl) (fun _ _ _ h => h) (by kernel_rfl) (fun W hW => by kernel_rfl) (by assumption) rfl rfl ?_
  simp only [Act.put, List.setIfInBounds_toArray, List.set_cons_zero, List.set_cons_succ]
  refine wpAnyZ_yield 18 43 (.pointer (some ⟨r, 1, none⟩)) [19] rfl rfl (by kernel_rfl) (by kernel_rfl) (by kernel_rfl) (by kernel_rfl) (by kernel_rfl) (fun _ _ _ h => h) (by kernel_rfl) (fun W hW => by go_simp) (by assumption) rfl rfl ?_
  simp only [Act.put, List.setIfInBounds_toArray, List.set_cons_zero, List.set_cons_succ]
  refine wpAnyZ_end rfl (by kernel_rfl) (by kernel_rfl) (by kernel_rfl) ?_
  obtain ⟨f0, f1⟩ := HR.out.turned hT7 ow7
  obtain ⟨d0, d1⟩ := cells2 (hT7.at HO.out)
  have fz : w7.frozen? ⟨r, 1, none⟩ = false := by have := hT7.at HO.out; simp [World.frozen?, this]
  have F0 := hide f0
  have F1 := hide f1
  clear f0 f1 hT0 hT5 hT6 hT7 t6 t7 ow6 ow7 hr6 hr7 OW5
  generalize (TK ++ DK).length = ln at *
  unfold Oper.wp
  go_simp
  rw [onlyN_normal]
  go_wp2_with fail
  go_ret2
  exact ⟨by rw [HVA.out]; rfl, ⟨_, _, by rw [HRP.out]; exact F0.out⟩, F1.out⟩

set_option maxRecDepth 100000 in
set_option maxHeartbeats 2000000 in
theorem rcopy_any (r : Nat) (which : Int) (L : List (Int × Int)) (ao : Option Addr) (cap : Nat) (w : World) (h : Rf w r which L ao cap) (hb : L.length + 1 ≤ 8796093022208) :
    Calls Try.prog 8 #[.pointer (some ⟨r, 0, none⟩)] w fun e w' => ∃ r' ao' cap', e = .returned (.pointer (some ⟨r', 0, none⟩)) ∧ Rf w' r' which L ao' cap' ∧ w.heap.size ≤ r' ∧ Calm w w' := by
  have HO := hide h.own
  have HR := hide h
  have HB := hide (show ([] : List (Int × Int)).length + L.length ≤ 8796093022208 by simp; omega)
  clear h hb
  go_enter Try.func8, Try.ntmps8
  go_wp2_with fail
  refine wp_region_held (S := Calm w) (by kernel_rfl) ?_
  have hT0 : Calm w { w with drawn := w.drawn + 1 } := (Touch.refl (fun _ => False) w).drew
  generalize ({ w with drawn := w.drawn + 1 } : World) = w4 at *
  refine wpAnyH_yield 0 3 (.pointer (some ⟨r, 0, none⟩)) rfl rfl (by kernel_rfl) (by kernel_rfl) (by kernel_rfl) (fun _ _ _ h => h) (by kernel_rfl) (fun W hW => by kernel_rfl) (by assumption) rfl rfl ?_
  simp only [Act.put, List.setIfInBounds_toArray, List.set_cons_zero, List.set_cons_succ]
  refine wpAnyH_yield 1 4 (.pointer (some ⟨r, 0, none⟩)) rfl rfl (by kernel_rfl) (by kernel_rfl) (by kernel_rfl) (fun _ _ _ h => h) (by kernel_rfl) (fun W hW => by kernel_rfl) (by assumption) rfl rfl ?_
  simp only [Act.put, List.setIfInBounds_toArray, List.set_cons_zero, List.set_cons_succ]
  refine wpAnyH_yield 2 5 (.pointer (some ⟨r, 0, none⟩)) rfl rfl (by kernel_rfl) (by kernel_rfl) (by kernel_rfl) (fun _ _ _ h => h) (by kernel_rfl) (fun W hW => by go_simp) (by assumption) rfl rfl ?_
  simp only [Act.put, List.setIfInBounds_toArray, List.set_cons_zero, List.set_cons_succ]
  refine wpAnyH_yield 3 6 (.int .i64 which) rfl rfl (by kernel_rfl) (by kernel_rfl) (by kernel_rfl) (fun _ _ _ h => h) (by kernel_rfl) (fun W hW => by obtain ⟨c0, c1⟩ := cells2 (hW.at HO.out); go_simp) (by assumption) rfl rfl ?_
  simp only [Act.put, List.setIfInBounds_toArray, List.set_cons_zero, List.set_cons_succ]
  refine wpAnyH_yield 5 8 (.pointer (some ⟨r, 0, none⟩)) rfl rfl (by kernel_rfl) (by kernel_rfl) (by kernel_rfl) (fun _ _ _ h => h) (by kernel_rfl) (fun W hW => by kernel_rfl) (by assumption) rfl rfl ?_
  simp only [Act.put, List.setIfInBounds_toArray, List.set_cons_zero, List.set_cons_succ]
  refine wpAnyH_yield 6 9 (.pointer (some ⟨r, 0, none⟩)) rfl rfl (by kernel_rfl) (by kernel_rfl) (by kernel_rfl) (fun _ _ _ h => h) (by kernel_rfl) (fun W hW => by kernel_rfl) (by assumption) rfl rfl ?_
  simp only [Act.put, List.setIfInBounds_toArray, List.set_cons_zero, List.set_cons_succ]
  refine wpAnyH_yield 7 10 (.pointer (some ⟨r, 1, none⟩)) rfl rfl (by kernel_rfl) (by kernel_rfl) (by kernel_rfl) (fun _ _ _ h => h) (by kernel_rfl) (fun W hW => by go_simp) (by assumption) rfl rfl ?_
  simp only [Act.put, List.setIfInBounds_toArray, List.set_cons_zero, List.set_cons_succ]
  refine wpAnyH_yield 8 11 (.slice ao L.length cap) rfl rfl (by kernel_rfl) (by kernel_rfl) (by kernel_rfl) (fun _ _ _ h => h) (by kernel_rfl) (fun W hW => by obtain ⟨c0, c1⟩ := cells2 (hW.at HO.out); go_simp) (by assumption) rfl rfl ?_
  simp only [Act.put, List.setIfInBounds_toArray, List.set_cons_zero, List.set_cons_succ]
  refine wpAnyH_value 4 7 (.slice (some ⟨w4.heap.size, 0, none⟩) 0 0) (w' := w4.alloc (.cells #[] 57)) rfl rfl (by kernel_rfl) (by kernel_rfl) (by go_simp) (hT0.alloc _) ?_
  simp only [Act.put, List.setIfInBounds_toArray, List.set_cons_zero, List.set_cons_succ]
  have hT5 : Calm w (w4.alloc (.cells #[] 57)) := hT0.alloc _
  have OW5 : OwnP (w4.alloc (.cells #[] 57)) w.heap.size (.slice (some ⟨w4.heap.size, 0, none⟩) 0 0) [] := own_base (own_empty w4) hT0.size
  obtain ⟨w5, ew5⟩ : ∃ w5, w5 = w4.alloc (.cells #[] 57) := ⟨_, rfl⟩
  rw [← ew5] at hT5 OW5 ⊢
  obtain ⟨ao6, c6, w6, hr6, ow6, t6⟩ := run_app w5 w.heap.size 28 (.slice (some ⟨w4.heap.size, 0, none⟩) 0 0) [] OW5 ao cap L (HR.out.prs.calm hT5) HR.out.nil HB.out hT5.size
  rw [List.nil_append] at hr6 ow6
  have hT6 : Calm w w6 := hT5.trans t6 (fun g hg hs => by have := (own_block OW5 hs).1; omega)
  refine wpAnyH_value 9 12 (.slice ao6 L.length c6) (w' := w6) rfl rfl (by kernel_rfl) (by kernel_rfl) (exec_app rfl hr6) hT6 ?_
  simp only [Act.put, List.setIfInBounds_toArray, List.set_cons_zero, List.set_cons_succ]
  refine wpAnyH_yield 10 13 (.agg #[.int .i64 which, .slice ao6 L.length c6]) rfl rfl (by kernel_rfl) (by kernel_rfl) (by kernel_rfl) (fun _ _ _ h => h) (by kernel_rfl) (fun W hW => by go_simp) (by assumption) rfl rfl ?_
  simp only [Act.put, List.setIfInBounds_toArray, List.set_cons_zero, List.set_cons_succ]
  refine wpAnyH_value 11 14 (.pointer (some ⟨w6.heap.size, 0, none⟩)) (w' := w6.alloc (.cells #[.int .i64 which, .slice ao6 L.length c6] 30)) rfl rfl (by kernel_rfl) (by kernel_rfl) (by go_simp) (hT6.alloc _) ?_
  simp only [Act.put, List.setIfInBounds_toArray, List.set_cons_zero, List.set_cons_succ]
  have hT7 : Calm w (w6.alloc (.cells #[.int .i64 which, .slice ao6 L.length c6] 30)) := hT6.alloc _
  have t67 : Calm w6 (w6.alloc (.cells #[.int .i64 which, .slice ao6 L.length c6] 30)) := (Touch.refl (fun _ => False) w6).alloc _
  have hnew := heap_alloc_last w6 (.cells #[.int .i64 which, .slice ao6 L.length c6] 30)
  have HSZ := hide hT6.size
  obtain ⟨-, g2, g3, g4, g5, g6⟩ := ow6.prs
  have RF : Hid (Rf (w6.alloc (.cells #[.int .i64 which, .slice ao6 L.length c6] 30)) w6.heap.size which L ao6 c6) := hide ⟨hnew, g2.calm t67, fun a ha => by
    obtain ⟨k1, _, cs, hc⟩ := g3 a ha
    exact ⟨k1, cs, t67.at hc⟩, g6, ⟨g4, g5⟩⟩
  refine wpAnyH_yield 12 2 (.pointer (some ⟨w6.heap.size, 0, none⟩)) rfl rfl (by kernel_rfl) (by kernel_rfl) (by kernel_rfl) (fun _ _ _ h => h) (by kernel_rfl) (fun W hW => by kernel_rfl) (by assumption) rfl rfl ?_
  simp only [Act.put, List.setIfInBounds_toArray, List.set_cons_zero, List.set_cons_succ]
  refine wpAnyH_done (by kernel_rfl) ?_ _
  clear g2 g3 g4 g5 g6 hnew t67 ow6 hr6 t6 hT6 hT5 hT0 OW5
  go_wp2_with fail
  go_ret
  exact ⟨_, _, _, rfl, RF.out, HSZ.out, hT7⟩

end Go.Proofs.Ytegiinnhknfjjaa.IM
