/- The document's Put. -/
import Derived.Test.YtegiinnhknfjjaaIApp
import Derived.Test.YtegiinnhknfjjaaSLast
namespace Go.Proofs.Ytegiinnhknfjjaa.IM
open Go.RowKit

theorem Prs.take {w : World} {ao : Option Addr} {L : List (Int × Int)} (h : Prs w ao L) (k : Nat) : Prs w ao (L.take k) := fun j hj => by
  rw [List.length_take] at hj
  obtain ⟨b, off, e, h1, h2⟩ := h j (by omega)
  rw [List.getElem_take]
  exact ⟨b, off, e, h1, h2⟩

/-- The pairs with a key put. -/
def rput (which key value : Int) (L : List (Int × Int)) : List (Int × Int) :=
  if thereB which key L = true then L.take (lead which key L) ++ [(((L[lead which key L]?).map (·.1)).getD 0, value)] ++ L.drop (lead which key L + 1)
  else L.take (lead which key L) ++ [(key, value)] ++ L.drop (lead which key L)

theorem prs_one (w : World) (x y : Int) : Prs (w.alloc (.cells #[.int .i64 x, .int .i64 y] 57)) (some ⟨w.heap.size, 0, none⟩) [(x, y)] := fun j hj => by
  obtain rfl : j = 0 := by simpa using hj
  obtain ⟨h1, h2⟩ := cells2 (heap_alloc_last w (.cells #[.int .i64 x, .int .i64 y] 57))
  exact ⟨w.heap.size, 0, rfl, h1, h2⟩

set_option maxRecDepth 100000 in
set_option maxHeartbeats 2000000 in
theorem rput_no (r : Nat) (which key value : Int) (L : List (Int × Int)) (ao : Option Addr) (cap : Nat) (w : World) (h : Rf w r which L ao cap) (hth : thereB which key L = false) (hb : L.length + 1 ≤ 8796093022208) :
    Calls Try.prog 14 #[.pointer (some ⟨r, 0, none⟩), .int .i64 key, .int .i64 value] w fun e w' => e = .returned (.tuple #[.int .i64 0, .bool false]) ∧ (∃ ao' cap', Rf w' r which (rput which key value L) ao' cap') ∧ Touch (fun g => g = r) w w' := by
  have PL := hide (rplace_any r which key L ao cap w h)
  rw [hth] at PL
  have HR := hide h
  have hle := lead_le which key L
  have hc := h.cap
  have HO := hide h.own
  have HNIL := hide h.nil
  have HRP : Hid (rput which key value L = L.take (lead which key L) ++ [(key, value)] ++ L.drop (lead which key L)) := hide (by unfold rput; rw [hth]; rfl)
  have HLT : Hid ((L.take (lead which key L)).length = lead which key L) := hide (by rw [List.length_take]; omega)
  have HLD : Hid ((L.drop (lead which key L)).length = L.length - lead which key L) := hide (by rw [List.length_drop])
  have HB0 : Hid (([] : List (Int × Int)).length + (L.take (lead which key L)).length ≤ 8796093022208) := hide (by rw [List.length_take]; simp; omega)
  have HB1 : Hid ((L.take (lead which key L)).length + [(key, value)].length ≤ 8796093022208) := hide (by rw [List.length_take]; simp; omega)
  have HB2 : Hid ((L.take (lead which key L) ++ [(key, value)]).length + (L.drop (lead which key L)).length ≤ 8796093022208) := hide (by rw [List.length_append, List.length_take, List.length_drop]; simp; omega)
  have hk1 : ((lead which key L : Nat) : Int) ≤ (cap : Int) := by omega
  have hk2 : ((lead which key L : Nat) : Int) ≤ (L.length : Int) := by omega
  have hk3 : (L.length : Int) ≤ (cap : Int) := by omega
  obtain ⟨so, sc, hsl, hsp, hsn⟩ : ∃ so sc, (∀ W, (Instr.slice 28 (.slice ao L.length cap) (some (.int .i64 (lead which key L : Nat))) none none).run Try.prog W = .ok (.slice so (L.length - lead which key L) sc) W) ∧ Prs w so (L.drop (lead which key L)) ∧ (so = none → sc = 0) := slice_from h.prs hle hc.1 h.nil
  have HST : Hid (∀ W, (Instr.slice 28 (.slice ao L.length cap) none (some (.int .i64 (lead which key L : Nat))) none).run Try.prog W = .ok (.slice ao (lead which key L) cap) W) := hide (fun W => slice_to (fun a ha => (h.row a ha).1) (by omega) W)
  have HPT := hide (h.prs.take (lead which key L))
  have HSL := hide hsl
  have HSP := hide hsp
  have HSN := hide hsn
  clear h hth hle hc hb hsl hsp hsn
  generalize hkk : lead which key L = k at *
  clear hkk
  generalize hnl : L.length = n at *
  clear hnl
  generalize L.take k = TK at *
  generalize L.drop k = DK at *
  go_enter Try.func14, Try.ntmps14
  go_wp2_with fail
  refine PL.out.mono ?_
  rintro e w2 ⟨rfl, t2⟩
  have HE := hide (own_empty w2)
  have TE := hide (t2.alloc (.cells #[] 57))
  obtain ⟨c0, c1⟩ := cells2 (TE.out.at HO.out)
  have hst := HST.out (w2.alloc (.cells #[] 57))
  have HSZ := hide (show w.heap.size ≤ w2.heap.size from t2.size)
  have PT := hide (HPT.out.calm TE.out)
  clear t2
  go_wp2_with (at_builtin; refine wpList_app rfl (.tmp 18) (.tmp 24) rfl w.heap.size _ [] rfl (own_base HE.out HSZ.out) ao k cap TK HLT.out rfl PT.out HNIL.out HB0.out TE.out.size ?ny)
  case ny =>
    intro ao3 c3 w3 own3 t3
    have T3 := hide (show Calm w w3 from TE.out.trans t3 (fun g hg hs => by
      have h1 : w2.heap.size = g := by simpa [Value.ownBlock] using hs
      have := HSZ.out
      omega))
    simp only [HLT.out] at own3 ⊢
    have OW3 := hide own3
    clear own3 t3 c0 c1 HE TE PT hst
    go_wp2_with fail
    refine wp_only ?_
    refine wp_region_z 16 (Calm w) (by kernel_rfl) ?_
    have hT0 : Calm w { w3 with drawn := w3.drawn + 1 } := T3.out.drew
    have OW4 : OwnP { w3 with drawn := w3.drawn + 1 } w.heap.size (.slice ao3 k c3) TK := OW3.out.touch (Touch.refl (fun _ => False) w3).drew (fun _ _ h => h)
    generalize ({ w3 with drawn := w3.drawn + 1 } : World) = w4 at *
    refine wpAnyZ_yield 0 60 (.pointer (some ⟨r, 0, none⟩)) [14, 15, 16] rfl rfl (by kernel_rfl) (by kernel_rfl) (by kernel_rfl) (by kernel_rfl) (by kernel_rfl) (fun _ _ _ h => h) (by kernel_rfl) (fun W hW => by kernel_rfl) (by assumption) rfl rfl ?_
    simp only [Act.put, List.setIfInBounds_toArray, List.set_cons_zero, List.set_cons_succ]
    refine wpAnyZ_yield 1 61 (.slice ao3 k c3) [6, 13, 16] rfl rfl (by kernel_rfl) (by kernel_rfl) (by kernel_rfl) (by kernel_rfl) (by kernel_rfl) (fun _ _ _ h => h) (by kernel_rfl) (fun W hW => by kernel_rfl) (by assumption) rfl rfl ?_
    simp only [Act.put, List.setIfInBounds_toArray, List.set_cons_zero, List.set_cons_succ]
    refine wpAnyZ_yield 2 62 (.int .i64 key) [4, 5, 6, 13, 16] rfl rfl (by kernel_rfl) (by kernel_rfl) (by kernel_rfl) (by kernel_rfl) (by kernel_rfl) (fun _ _ _ h => h) (by kernel_rfl) (fun W hW => by kernel_rfl) (by assumption) rfl rfl ?_
    simp only [Act.put, List.setIfInBounds_toArray, List.set_cons_zero, List.set_cons_succ]
    refine wpAnyZ_yield 3 63 (.int .i64 value) [4, 5, 6, 13, 16] rfl rfl (by kernel_rfl) (by kernel_rfl) (by kernel_rfl) (by kernel_rfl) (by kernel_rfl) (fun _ _ _ h => h) (by kernel_rfl) (fun W hW => by kernel_rfl) (by assumption) rfl rfl ?_
    simp only [Act.put, List.setIfInBounds_toArray, List.set_cons_zero, List.set_cons_succ]
    refine wpAnyZ_yield 4 64 (.agg #[.int .i64 key, .int .i64 value]) [5, 6, 13, 16] rfl rfl (by kernel_rfl) (by kernel_rfl) (by kernel_rfl) (by kernel_rfl) (by kernel_rfl) (fun _ _ _ h => h) (by kernel_rfl) (fun W hW => by go_simp) (by assumption) rfl rfl ?_
    simp only [Act.put, List.setIfInBounds_toArray, List.set_cons_zero, List.set_cons_succ]
    refine wpAnyZ_yield 7 67 (.pointer (some ⟨r, 0, none⟩)) [8, 9, 10, 12, 13, 16] rfl rfl (by kernel_rfl) (by kernel_rfl) (by kernel_rfl) (by kernel_rfl) (by kernel_rfl) (fun _ _ _ h => h) (by kernel_rfl) (fun W hW => by kernel_rfl) (by assumption) rfl rfl ?_
    simp only [Act.put, List.setIfInBounds_toArray, List.set_cons_zero, List.set_cons_succ]
    refine wpAnyZ_yield 8 68 (.pointer (some ⟨r, 0, none⟩)) [9, 10, 12, 13, 16] rfl rfl (by kernel_rfl) (by kernel_rfl) (by kernel_rfl) (by kernel_rfl) (by kernel_rfl) (fun _ _ _ h => h) (by kernel_rfl) (fun W hW => by kernel_rfl) (by assumption) rfl rfl ?_
    simp only [Act.put, List.setIfInBounds_toArray, List.set_cons_zero, List.set_cons_succ]
    refine wpAnyZ_yield 9 69 (.pointer (some ⟨r, 1, none⟩)) [10, 12, 13, 16] rfl rfl (by kernel_rfl) (by kernel_rfl) (by kernel_rfl) (by kernel_rfl) (by kernel_rfl) (fun _ _ _ h => h) (by kernel_rfl) (fun W hW => by go_simp) (by assumption) rfl rfl ?_
    simp only [Act.put, List.setIfInBounds_toArray, List.set_cons_zero, List.set_cons_succ]
    refine wpAnyZ_yield 10 70 (.slice ao n cap) [12, 13, 16] rfl rfl (by kernel_rfl) (by kernel_rfl) (by kernel_rfl) (by kernel_rfl) (by kernel_rfl) (fun _ _ _ h => h) (by kernel_rfl) (fun W hW => by obtain ⟨c0, c1⟩ := cells2 (hW.at HO.out); go_simp) (by assumption) rfl rfl ?_
    simp only [Act.put, List.setIfInBounds_toArray, List.set_cons_zero, List.set_cons_succ]
    refine wpAnyZ_yield 11 71 (.int .i64 (k : Int)) [12, 13, 16] rfl rfl (by kernel_rfl) (by kernel_rfl) (by kernel_rfl) (by kernel_rfl) (by kernel_rfl) (fun _ _ _ h => h) (by kernel_rfl) (fun W hW => by kernel_rfl) (by assumption) rfl rfl ?_
    simp only [Act.put, List.setIfInBounds_toArray, List.set_cons_zero, List.set_cons_succ]
    refine wpAnyZ_yield 12 72 ((.slice so (n - k) sc)) [13, 16] rfl rfl (by kernel_rfl) (by kernel_rfl) (by kernel_rfl) (by kernel_rfl) (by kernel_rfl) (fun _ _ _ h => h) (by kernel_rfl) (fun W hW => by have hs := HSL.out W; go_simp) (by assumption) rfl rfl ?_
    simp only [Act.put, List.setIfInBounds_toArray, List.set_cons_zero, List.set_cons_succ]
    refine wpAnyZ_value 5 65 (.slice (some ⟨w4.heap.size, 0, none⟩) 1 1) (w' := w4.alloc (.cells #[.int .i64 key, .int .i64 value] 57)) rfl rfl (by decide) (by kernel_rfl) (by kernel_rfl) (by go_simp) (hT0.alloc _) ?_
    simp only [Act.put, List.setIfInBounds_toArray, List.set_cons_zero, List.set_cons_succ]
    have hT5 : Calm w (w4.alloc (.cells #[.int .i64 key, .int .i64 value] 57)) := hT0.alloc _
    have PO := prs_one w4 key value
    have OW5 := OW4.touch ((Touch.refl (fun _ => False) w4).alloc (.cells #[.int .i64 key, .int .i64 value] 57)) (fun _ _ h => h)
    obtain ⟨w5, ew5⟩ : ∃ w5, w5 = w4.alloc (.cells #[.int .i64 key, .int .i64 value] 57) := ⟨_, rfl⟩
    rw [← ew5] at hT5 PO OW5 ⊢
    obtain ⟨ao6, c6, w6, hr6, ow6, t6⟩ := run_app w5 w.heap.size 28 (.slice ao3 k c3) TK OW5 (some ⟨w4.heap.size, 0, none⟩) 1 [(key, value)] PO (fun h => (nomatch h)) HB1.out hT5.size
    have hT6 : Calm w w6 := hT5.trans t6 (fun g hg hs => by have := (own_block OW5 hs).1; omega)
    refine wpAnyZ_value 6 66 (.slice ao6 (TK ++ [(key, value)]).length c6) (w' := w6) rfl rfl (by decide) (by kernel_rfl) (by kernel_rfl) (exec_app rfl hr6) hT6 ?_
    simp only [Act.put, List.setIfInBounds_toArray, List.set_cons_zero, List.set_cons_succ]
    obtain ⟨ao7, c7, w7, hr7, ow7, t7⟩ := run_app w6 w.heap.size 28 (.slice ao6 (TK ++ [(key, value)]).length c6) (TK ++ [(key, value)]) ow6 so sc DK (HSP.out.calm hT6) HSN.out HB2.out hT6.size
    rw [HLD.out] at hr7
    have hT7 : Calm w w7 := hT6.trans t7 (fun g hg hs => by have := (own_block ow6 hs).1; omega)
    refine wpAnyZ_value 13 73 (.slice ao7 (TK ++ [(key, value)] ++ DK).length c7) (w' := w7) rfl rfl (by decide) (by kernel_rfl) (by kernel_rfl) (exec_app rfl hr7) hT7 ?_
    simp only [Act.put, List.setIfInBounds_toArray, List.set_cons_zero, List.set_cons_succ]
    refine wpAnyZ_yield 14 74 (.pointer (some ⟨r, 0, none⟩)) [15, 16] rfl rfl (by kernel_rfl) (by kernel_rfl) (by kernel_rfl) (by kernel_rfl) (by kernel_rfl) (fun _ _ _ h => h) (by kernel_rfl) (fun W hW => by kernel_rfl) (by assumption) rfl rfl ?_
    simp only [Act.put, List.setIfInBounds_toArray, List.set_cons_zero, List.set_cons_succ]
    refine wpAnyZ_yield 15 75 (.pointer (some ⟨r, 1, none⟩)) [16] rfl rfl (by kernel_rfl) (by kernel_rfl) (by kernel_rfl) (by kernel_rfl) (by kernel_rfl) (fun _ _ _ h => h) (by kernel_rfl) (fun W hW => by go_simp) (by assumption) rfl rfl ?_
    simp only [Act.put, List.setIfInBounds_toArray, List.set_cons_zero, List.set_cons_succ]
    refine wpAnyZ_end rfl (by kernel_rfl) (by kernel_rfl) (by kernel_rfl) ?_
    obtain ⟨f0, f1⟩ := HR.out.turned hT7 ow7
    obtain ⟨d0, d1⟩ := cells2 (hT7.at HO.out)
    have fz : w7.frozen? ⟨r, 1, none⟩ = false := by have := hT7.at HO.out; simp [World.frozen?, this]
    have F0 := hide f0
    have F1 := hide f1
    clear f0 f1 hT0 hT5 hT6 hT7 t6 t7 ow6 ow7 hr6 hr7 OW4 OW5 PO
    generalize (TK ++ [(key, value)] ++ DK).length = ln at *
    unfold Oper.wp
    go_simp
    rw [onlyN_normal]
    go_wp2_with fail
    go_ret2
    exact ⟨rfl, ⟨_, _, by rw [HRP.out]; exact F0.out⟩, F1.out⟩


set_option maxRecDepth 100000 in
set_option maxHeartbeats 2000000 in
theorem rput_yes (r : Nat) (which key value : Int) (L : List (Int × Int)) (ao : Option Addr) (cap : Nat) (w : World) (h : Rf w r which L ao cap) (hth : thereB which key L = true) (hb : L.length + 1 ≤ 8796093022208) :
    Calls Try.prog 14 #[.pointer (some ⟨r, 0, none⟩), .int .i64 key, .int .i64 value] w fun e w' => e = .returned (.tuple #[.int .i64 (valAt which key L), .bool true]) ∧ (∃ ao' cap', Rf w' r which (rput which key value L) ao' cap') ∧ Touch (fun g => g = r) w w' := by
  have PL := hide (rplace_any r which key L ao cap w h)
  have hlt := there_lt hth
  have hc := h.cap
  have HRP : Hid (rput which key value L = L.take (lead which key L) ++ [(L[lead which key L].1, value)] ++ L.drop (lead which key L + 1)) := hide (by unfold rput; rw [hth, if_pos rfl, List.getElem?_eq_getElem hlt]; rfl)
  have HVA : Hid (valAt which key L = L[lead which key L].2) := hide (by unfold valAt; rw [hth, if_pos rfl, List.getElem?_eq_getElem hlt]; rfl)
  rw [hth] at PL
  have HO := hide h.own
  have HNIL := hide h.nil
  have HLT : Hid ((L.take (lead which key L)).length = lead which key L) := hide (by rw [List.length_take]; omega)
  have HLD : Hid ((L.drop (lead which key L + 1)).length = L.length - (lead which key L + 1)) := hide (by rw [List.length_drop])
  have HB0 : Hid (([] : List (Int × Int)).length + (L.take (lead which key L)).length ≤ 8796093022208) := hide (by rw [List.length_take]; simp; omega)
  obtain ⟨so, sc, hsl, hsp, hsn⟩ : ∃ so sc, (∀ W, (Instr.slice 28 (.slice ao L.length cap) (some (.int .i64 (lead which key L + 1 : Nat))) none none).run Try.prog W = .ok (.slice so (L.length - (lead which key L + 1)) sc) W) ∧ Prs w so (L.drop (lead which key L + 1)) ∧ (so = none → sc = 0) := slice_from h.prs (by omega) hc.1 h.nil
  have HST : Hid (∀ W, (Instr.slice 28 (.slice ao L.length cap) none (some (.int .i64 (lead which key L : Nat))) none).run Try.prog W = .ok (.slice ao (lead which key L) cap) W) := hide (fun W => slice_to (fun a ha => (h.row a ha).1) (by omega) W)
  have HPT := hide (h.prs.take (lead which key L))
  have HSL := hide hsl
  have HSP := hide hsp
  have HSN := hide hsn
  have HW1 : Hid (wrap64 (((lead which key L : Nat) : Int) + 1) = ((lead which key L + 1 : Nat) : Int)) := hide (wrap_n hlt (Nat.le_trans hc.1 hc.2))
  have HR := hide h
  obtain ⟨b, off, rfl, p0, p1⟩ := h.prs _ hlt
  have HP0 : Hid (∀ W, Calm w W → W.cell? ⟨b, off + lead which key L * 2, none⟩ = some (.int .i64 L[lead which key L].1)) := hide (fun W h => (h.cell (p := ⟨b, off + lead which key L * 2, none⟩) (lt_of_cell p0) (fun h => h)).trans p0)
  have HP1 : Hid (∀ W, Calm w W → W.cell? ⟨b, off + lead which key L * 2 + 1, none⟩ = some (.int .i64 L[lead which key L].2)) := hide (fun W h => (h.cell (p := ⟨b, off + lead which key L * 2 + 1, none⟩) (lt_of_cell p1) (fun h => h)).trans p1)
  have HB1 : Hid ((L.take (lead which key L)).length + [(L[lead which key L].1, value)].length ≤ 8796093022208) := hide (by rw [List.length_take]; simp; omega)
  have HB2 : Hid ((L.take (lead which key L) ++ [(L[lead which key L].1, value)]).length + (L.drop (lead which key L + 1)).length ≤ 8796093022208) := hide (by rw [List.length_append, List.length_take, List.length_drop]; simp; omega)
  have hk1 : ((lead which key L : Nat) : Int) ≤ (cap : Int) := by omega
  have hk2 : ((lead which key L : Nat) : Int) < (L.length : Int) := by omega
  clear h hth hc hb hsl hsp hsn p0 p1
  generalize L[lead which key L].1 = xk at *
  generalize L[lead which key L].2 = xv at *
  clear hlt
  generalize hkk : lead which key L = k at *
  clear hkk
  generalize hnl : L.length = n at *
  clear hnl
  generalize L.take k = TK at *
  generalize L.drop (k + 1) = DK at *
  have ek : ((k + 1 : Nat) : Int) = (k : Int) + 1 := by omega
  rw [ek] at HSL HW1
  clear ek
  go_enter Try.func14, Try.ntmps14
  go_wp2_with fail
  refine PL.out.mono ?_
  rintro e w2 ⟨rfl, t2⟩
  have HE := hide (own_empty w2)
  have TE := hide (t2.alloc (.cells #[] 57))
  obtain ⟨c0, c1⟩ := cells2 (TE.out.at HO.out)
  have hst := HST.out (w2.alloc (.cells #[] 57))
  have HSZ := hide (show w.heap.size ≤ w2.heap.size from t2.size)
  have PT := hide (HPT.out.calm TE.out)
  clear t2
  go_wp2_with (at_builtin; refine wpList_app rfl (.tmp 18) (.tmp 24) rfl w.heap.size _ [] rfl (own_base HE.out HSZ.out) (some ⟨b, off, none⟩) k cap TK HLT.out rfl PT.out HNIL.out HB0.out TE.out.size ?ny)
  case ny =>
    intro ao3 c3 w3 own3 t3
    have T3 := hide (show Calm w w3 from TE.out.trans t3 (fun g hg hs => by
      have h1 : w2.heap.size = g := by simpa [Value.ownBlock] using hs
      have := HSZ.out
      omega))
    simp only [HLT.out] at own3 ⊢
    have OW3 := hide own3
    clear own3 t3 c0 c1 HE TE PT hst
    obtain ⟨d0, d1⟩ := cells2 (T3.out.at HO.out)
    have d2 := HP1.out _ T3.out
    go_wp2_with fail
    clear d0 d1 d2
    refine wp_only ?_
    refine wp_region_z 24 (Calm w) (by kernel_rfl) ?_
    have hT0 : Calm w { w3 with drawn := w3.drawn + 1 } := T3.out.drew
    have OW4 : OwnP { w3 with drawn := w3.drawn + 1 } w.heap.size (.slice ao3 k c3) TK := OW3.out.touch (Touch.refl (fun _ => False) w3).drew (fun _ _ h => h)
    generalize ({ w3 with drawn := w3.drawn + 1 } : World) = w4 at *
    refine wpAnyZ_yield 0 35 (.pointer (some ⟨r, 0, none⟩)) [22, 23, 24] rfl rfl (by kernel_rfl) (by kernel_rfl) (by kernel_rfl) (by kernel_rfl) (by kernel_rfl) (fun _ _ _ h => h) (by kernel_rfl) (fun W hW => by kernel_rfl) (by assumption) rfl rfl ?_
    simp only [Act.put, List.setIfInBounds_toArray, List.set_cons_zero, List.set_cons_succ]
    refine wpAnyZ_yield 1 36 (.slice ao3 k c3) [13, 21, 24] rfl rfl (by kernel_rfl) (by kernel_rfl) (by kernel_rfl) (by kernel_rfl) (by kernel_rfl) (fun _ _ _ h => h) (by kernel_rfl) (fun W hW => by kernel_rfl) (by assumption) rfl rfl ?_
    simp only [Act.put, List.setIfInBounds_toArray, List.set_cons_zero, List.set_cons_succ]
    refine wpAnyZ_yield 2 37 (.pointer (some ⟨r, 0, none⟩)) [3, 4, 5, 7, 8, 9, 11, 12, 13, 21, 24] rfl rfl (by kernel_rfl) (by kernel_rfl) (by kernel_rfl) (by kernel_rfl) (by kernel_rfl) (fun _ _ _ h => h) (by kernel_rfl) (fun W hW => by kernel_rfl) (by assumption) rfl rfl ?_
    simp only [Act.put, List.setIfInBounds_toArray, List.set_cons_zero, List.set_cons_succ]
    refine wpAnyZ_yield 3 38 (.pointer (some ⟨r, 0, none⟩)) [4, 5, 7, 8, 9, 11, 12, 13, 21, 24] rfl rfl (by kernel_rfl) (by kernel_rfl) (by kernel_rfl) (by kernel_rfl) (by kernel_rfl) (fun _ _ _ h => h) (by kernel_rfl) (fun W hW => by kernel_rfl) (by assumption) rfl rfl ?_
    simp only [Act.put, List.setIfInBounds_toArray, List.set_cons_zero, List.set_cons_succ]
    refine wpAnyZ_yield 4 39 (.pointer (some ⟨r, 1, none⟩)) [5, 7, 8, 9, 11, 12, 13, 21, 24] rfl rfl (by kernel_rfl) (by kernel_rfl) (by kernel_rfl) (by kernel_rfl) (by kernel_rfl) (fun _ _ _ h => h) (by kernel_rfl) (fun W hW => by go_simp) (by assumption) rfl rfl ?_
    simp only [Act.put, List.setIfInBounds_toArray, List.set_cons_zero, List.set_cons_succ]
    refine wpAnyZ_yield 5 40 (.slice (some ⟨b, off, none⟩) n cap) [7, 8, 9, 11, 12, 13, 21, 24] rfl rfl (by kernel_rfl) (by kernel_rfl) (by kernel_rfl) (by kernel_rfl) (by kernel_rfl) (fun _ _ _ h => h) (by kernel_rfl) (fun W hW => by obtain ⟨c0, c1⟩ := cells2 (hW.at HO.out); go_simp) (by assumption) rfl rfl ?_
    simp only [Act.put, List.setIfInBounds_toArray, List.set_cons_zero, List.set_cons_succ]
    refine wpAnyZ_yield 6 41 (.int .i64 (k : Int)) [7, 8, 9, 11, 12, 13, 21, 24] rfl rfl (by kernel_rfl) (by kernel_rfl) (by kernel_rfl) (by kernel_rfl) (by kernel_rfl) (fun _ _ _ h => h) (by kernel_rfl) (fun W hW => by kernel_rfl) (by assumption) rfl rfl ?_
    simp only [Act.put, List.setIfInBounds_toArray, List.set_cons_zero, List.set_cons_succ]
    refine wpAnyZ_yield 7 42 (.pointer (some ⟨b, off + k * 2, none⟩)) [8, 9, 11, 12, 13, 21, 24] rfl rfl (by kernel_rfl) (by kernel_rfl) (by kernel_rfl) (by kernel_rfl) (by kernel_rfl) (fun _ _ _ h => h) (by kernel_rfl) (fun W hW => by go_simp) (by assumption) rfl rfl ?_
    simp only [Act.put, List.setIfInBounds_toArray, List.set_cons_zero, List.set_cons_succ]
    refine wpAnyZ_yield 8 43 (.pointer (some ⟨b, off + k * 2, none⟩)) [9, 11, 12, 13, 21, 24] rfl rfl (by kernel_rfl) (by kernel_rfl) (by kernel_rfl) (by kernel_rfl) (by kernel_rfl) (fun _ _ _ h => h) (by kernel_rfl) (fun W hW => by go_simp) (by assumption) rfl rfl ?_
    simp only [Act.put, List.setIfInBounds_toArray, List.set_cons_zero, List.set_cons_succ]
    refine wpAnyZ_yield 9 44 (.int .i64 xk) [11, 12, 13, 21, 24] rfl rfl (by kernel_rfl) (by kernel_rfl) (by kernel_rfl) (by kernel_rfl) (by kernel_rfl) (fun _ _ _ h => h) (by kernel_rfl) (fun W hW => by have c0 := HP0.out W hW; go_simp) (by assumption) rfl rfl ?_
    simp only [Act.put, List.setIfInBounds_toArray, List.set_cons_zero, List.set_cons_succ]
    refine wpAnyZ_yield 10 45 (.int .i64 value) [11, 12, 13, 21, 24] rfl rfl (by kernel_rfl) (by kernel_rfl) (by kernel_rfl) (by kernel_rfl) (by kernel_rfl) (fun _ _ _ h => h) (by kernel_rfl) (fun W hW => by kernel_rfl) (by assumption) rfl rfl ?_
    simp only [Act.put, List.setIfInBounds_toArray, List.set_cons_zero, List.set_cons_succ]
    refine wpAnyZ_yield 11 46 (.agg #[.int .i64 xk, .int .i64 value]) [12, 13, 21, 24] rfl rfl (by kernel_rfl) (by kernel_rfl) (by kernel_rfl) (by kernel_rfl) (by kernel_rfl) (fun _ _ _ h => h) (by kernel_rfl) (fun W hW => by go_simp) (by assumption) rfl rfl ?_
    simp only [Act.put, List.setIfInBounds_toArray, List.set_cons_zero, List.set_cons_succ]
    refine wpAnyZ_yield 14 49 (.pointer (some ⟨r, 0, none⟩)) [15, 16, 17, 20, 21, 24] rfl rfl (by kernel_rfl) (by kernel_rfl) (by kernel_rfl) (by kernel_rfl) (by kernel_rfl) (fun _ _ _ h => h) (by kernel_rfl) (fun W hW => by kernel_rfl) (by assumption) rfl rfl ?_
    simp only [Act.put, List.setIfInBounds_toArray, List.set_cons_zero, List.set_cons_succ]
    refine wpAnyZ_yield 15 50 (.pointer (some ⟨r, 0, none⟩)) [16, 17, 20, 21, 24] rfl rfl (by kernel_rfl) (by kernel_rfl) (by kernel_rfl) (by kernel_rfl) (by kernel_rfl) (fun _ _ _ h => h) (by kernel_rfl) (fun W hW => by kernel_rfl) (by assumption) rfl rfl ?_
    simp only [Act.put, List.setIfInBounds_toArray, List.set_cons_zero, List.set_cons_succ]
    refine wpAnyZ_yield 16 51 (.pointer (some ⟨r, 1, none⟩)) [17, 20, 21, 24] rfl rfl (by kernel_rfl) (by kernel_rfl) (by kernel_rfl) (by kernel_rfl) (by kernel_rfl) (fun _ _ _ h => h) (by kernel_rfl) (fun W hW => by go_simp) (by assumption) rfl rfl ?_
    simp only [Act.put, List.setIfInBounds_toArray, List.set_cons_zero, List.set_cons_succ]
    refine wpAnyZ_yield 17 52 (.slice (some ⟨b, off, none⟩) n cap) [20, 21, 24] rfl rfl (by kernel_rfl) (by kernel_rfl) (by kernel_rfl) (by kernel_rfl) (by kernel_rfl) (fun _ _ _ h => h) (by kernel_rfl) (fun W hW => by obtain ⟨c0, c1⟩ := cells2 (hW.at HO.out); go_simp) (by assumption) rfl rfl ?_
    simp only [Act.put, List.setIfInBounds_toArray, List.set_cons_zero, List.set_cons_succ]
    refine wpAnyZ_yield 18 53 (.int .i64 (k : Int)) [19, 20, 21, 24] rfl rfl (by kernel_rfl) (by kernel_rfl) (by kernel_rfl) (by kernel_rfl) (by kernel_rfl) (fun _ _ _ h => h) (by kernel_rfl) (fun W hW => by kernel_rfl) (by assumption) rfl rfl ?_
    simp only [Act.put, List.setIfInBounds_toArray, List.set_cons_zero, List.set_cons_succ]
    refine wpAnyZ_yield 19 54 (.int .i64 ((k : Int) + 1)) [20, 21, 24] rfl rfl (by kernel_rfl) (by kernel_rfl) (by kernel_rfl) (by kernel_rfl) (by kernel_rfl) (fun _ _ _ h => h) (by kernel_rfl) (fun W hW => by have hw := HW1.out; go_simp; rw [wrapEq, hw]) (by assumption) rfl rfl ?_
    simp only [Act.put, List.setIfInBounds_toArray, List.set_cons_zero, List.set_cons_succ]
    refine wpAnyZ_yield 20 55 ((.slice so (n - (k + 1)) sc)) [21, 24] rfl rfl (by kernel_rfl) (by kernel_rfl) (by kernel_rfl) (by kernel_rfl) (by kernel_rfl) (fun _ _ _ h => h) (by kernel_rfl) (fun W hW => by have hs := HSL.out W; go_simp) (by assumption) rfl rfl ?_
    simp only [Act.put, List.setIfInBounds_toArray, List.set_cons_zero, List.set_cons_succ]
    refine wpAnyZ_value 12 47 (.slice (some ⟨w4.heap.size, 0, none⟩) 1 1) (w' := w4.alloc (.cells #[.int .i64 xk, .int .i64 value] 57)) rfl rfl (by decide) (by kernel_rfl) (by kernel_rfl) (by go_simp) (hT0.alloc _) ?_
    simp only [Act.put, List.setIfInBounds_toArray, List.set_cons_zero, List.set_cons_succ]
    have hT5 : Calm w (w4.alloc (.cells #[.int .i64 xk, .int .i64 value] 57)) := hT0.alloc _
    have PO := prs_one w4 xk value
    have OW5 := OW4.touch ((Touch.refl (fun _ => False) w4).alloc (.cells #[.int .i64 xk, .int .i64 value] 57)) (fun _ _ h => h)
    obtain ⟨w5, ew5⟩ : ∃ w5, w5 = w4.alloc (.cells #[.int .i64 xk, .int .i64 value] 57) := ⟨_, rfl⟩
    rw [← ew5] at hT5 PO OW5 ⊢
    obtain ⟨ao6, c6, w6, hr6, ow6, t6⟩ := run_app w5 w.heap.size 28 (.slice ao3 k c3) TK OW5 (some ⟨w4.heap.size, 0, none⟩) 1 [(xk, value)] PO (fun h => (nomatch h)) HB1.out hT5.size
    have hT6 : Calm w w6 := hT5.trans t6 (fun g hg hs => by have := (own_block OW5 hs).1; omega)
    refine wpAnyZ_value 13 48 (.slice ao6 (TK ++ [(xk, value)]).length c6) (w' := w6) rfl rfl (by decide) (by kernel_rfl) (by kernel_rfl) (exec_app rfl hr6) hT6 ?_
    simp only [Act.put, List.setIfInBounds_toArray, List.set_cons_zero, List.set_cons_succ]
    obtain ⟨ao7, c7, w7, hr7, ow7, t7⟩ := run_app w6 w.heap.size 28 (.slice ao6 (TK ++ [(xk, value)]).length c6) (TK ++ [(xk, value)]) ow6 so sc DK (HSP.out.calm hT6) HSN.out HB2.out hT6.size
    rw [HLD.out] at hr7
    have hT7 : Calm w w7 := hT6.trans t7 (fun g hg hs => by have := (own_block ow6 hs).1; omega)
    refine wpAnyZ_value 21 56 (.slice ao7 (TK ++ [(xk, value)] ++ DK).length c7) (w' := w7) rfl rfl (by decide) (by kernel_rfl) (by kernel_rfl) (exec_app rfl hr7) hT7 ?_
    simp only [Act.put, List.setIfInBounds_toArray, List.set_cons_zero, List.set_cons_succ]
    refine wpAnyZ_yield 22 57 (.pointer (some ⟨r, 0, none⟩)) [23, 24] rfl rfl (by kernel_rfl) (by kernel_rfl) (by kernel_rfl) (by kernel_rfl) (by kernel_rfl) (fun _ _ _ h => h) (by kernel_rfl) (fun W hW => by kernel_rfl) (by assumption) rfl rfl ?_
    simp only [Act.put, List.setIfInBounds_toArray, List.set_cons_zero, List.set_cons_succ]
    refine wpAnyZ_yield 23 58 (.pointer (some ⟨r, 1, none⟩)) [24] rfl rfl (by kernel_rfl) (by kernel_rfl) (by kernel_rfl) (by kernel_rfl) (by kernel_rfl) (fun _ _ _ h => h) (by kernel_rfl) (fun W hW => by go_simp) (by assumption) rfl rfl ?_
    simp only [Act.put, List.setIfInBounds_toArray, List.set_cons_zero, List.set_cons_succ]
    refine wpAnyZ_end rfl (by kernel_rfl) (by kernel_rfl) (by kernel_rfl) ?_
    obtain ⟨f0, f1⟩ := HR.out.turned hT7 ow7
    obtain ⟨d0, d1⟩ := cells2 (hT7.at HO.out)
    have fz : w7.frozen? ⟨r, 1, none⟩ = false := by have := hT7.at HO.out; simp [World.frozen?, this]
    have F0 := hide f0
    have F1 := hide f1
    clear f0 f1 hT0 hT5 hT6 hT7 t6 t7 ow6 ow7 hr6 hr7 OW4 OW5 PO
    generalize (TK ++ [(xk, value)] ++ DK).length = ln at *
    unfold Oper.wp
    go_simp
    rw [onlyN_normal]
    go_wp2_with fail
    go_ret2
    exact ⟨by rw [HVA.out]; rfl, ⟨_, _, by rw [HRP.out]; exact F0.out⟩, F1.out⟩


end Go.Proofs.Ytegiinnhknfjjaa.IM
