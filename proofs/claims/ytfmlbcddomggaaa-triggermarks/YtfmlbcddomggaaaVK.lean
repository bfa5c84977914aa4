/- What is asked of the program's trigger, as contracts; the law's win, num, known. -/
import Derived.Test.YtfmlbcddomggaaaVE
import Derived.Test.YtfmlbcddomggaaaVH
import Derived.Test.YtfmlbcddomggaaaVFl
namespace Go.Proofs.Ytfmlbcddomggaaa
open Go.RowKit

/-- The program's Behind, OnTime, Tell, Event, Mark answer as the document asks. -/
def BehC : Prop := ∀ (c : Cf) (x : Wn) (m : Int) (w : World), Calls Try.prog 8 #[cfv c, wnv x, .int .i64 m] w fun e w' => e = .returned (.tuple #[.int .i64 (behK c.ea m x), .bool (behB c.ea m x)]) ∧ Calm w w'
def OnC : Prop := ∀ (x : Wn) (f t : Int) (w : World), Calls Try.prog 10 #[wnv x, .int .i64 f, .int .i64 t] w fun e w' => e = .returned (.bool (onT x f t)) ∧ Calm w w'
/-- Is it one of the three kinds? -/
def kindB (d : Int) : Bool := decide (1 ≤ d) && decide (d ≤ 3)
def TellC : Prop := ∀ (k : ByteArray) (x : Wn) (d : Int) (di : Bool), x.Ok → ∀ w : World, Calls Try.prog 12 #[.string k, wnv x, .int .i64 d, .bool di] w fun e w' => e = .returned (.tuple #[pnv (if kindB d then tellP k x d else pn0), wnv (if kindB d then tellW x di else wn0), .int .i64 (if kindB d then 0 else 2)]) ∧ Calm w w'
def EvC : Prop := ∀ (c : Cf) (k : ByteArray) (x : Wn) (v t m : Int), x.Ok → I64 v → I64 t → I64 m → ∀ w : World, Calls Try.prog 16 #[cfv c, .string k, wnv x, .int .i64 v, .int .i64 t, .int .i64 m] w fun e w' => RetE w e w' (evW c x v t m) (evP c k x v t m)
def MarkC : Prop := ∀ (c : Cf) (k : ByteArray) (ao : Option Addr) (cap : Nat) (L : List Wn) (f t : Int) (w : World), encW.Sl w ao cap L → L.length ≤ 2000000000000 → (∀ x ∈ L, x.Ok) → I64 c.lt → I64 f → I64 t →
    Calls Try.prog 20 #[cfv c, .string k, .slice ao L.length cap, .int .i64 f, .int .i64 t] w fun e w' => RetM w e w' (outM f t c.lt c.di L) (panesM k f t L)

abbrev kW : Wn := ⟨0, 10, 3, ⟨2, 9, 4, 5⟩, 2, 1⟩
abbrev kC : Cf := ⟨0, 0, 0, 0, 0, 0, 0, 5, 2, false⟩
abbrev kK : ByteArray := ⟨#[107]⟩
theorem kEv1 : evW kC kW 1 2 0 = ⟨0, 10, 2, ⟨3, 10, 1, 5⟩, 0, 2⟩ := by kernel_rfl
theorem kEv2 : evP kC kK kW 1 2 0 = [⟨kK, 0, 10, 1, 1, ⟨3, 10, 1, 5⟩⟩] := by kernel_rfl
theorem kW_ok : kW.Ok := ⟨by unfold I64; decide, by unfold I64; decide, by unfold I64; decide, ⟨by unfold I64; decide, by unfold I64; decide, by unfold I64; decide, by unfold I64; decide⟩, by unfold I64; decide, by unfold I64; decide⟩

set_option maxRecDepth 100000 in
theorem win_any (w : World) : Calls Try.prog 26 #[] w fun e w' => e = .returned (wnv kW) ∧ Calm w w' := by
  go_enter Try.func26, Try.ntmps26
  go_wp2_with fail
  refine bodyPost_ret (results_cell_row rfl _ _ _ _ _ _ _ rfl (al_new w (.cells (wnc kW) 30)) Try.underlying30 rfl (by kernel_rfl)) rfl ?_
  exact ⟨rfl, (Touch.refl (fun _ => False) w).alloc _⟩

set_option maxRecDepth 100000 in
theorem num_any (n : Int) (w : World) : Calls Try.prog 13 #[.int .i64 n] w fun e w' => e = .returned (.int .i64 n) ∧ w' = w := by
  go_enter Try.func13, Try.ntmps13
  go_wp2_with fail
  go_ret
  exact ⟨rfl, rfl⟩

set_option maxRecDepth 100000 in
set_option maxHeartbeats 2000000 in
theorem known10_any (hB : BehC) (hO : OnC) (hT : TellC) (hE : EvC) (w : World) : Calls Try.prog 14 #[] w fun e w' => e = .returned (.bool true) ∧ Calm w w' := by
  have CW := fun w => hide (win_any w)
  have CN := fun w => hide (num_any 2 w)
  have CB1 : ∀ w, Hid (Calls Try.prog 8 #[cfv kC, wnv kW, .int .i64 9] w fun e w' => e = .returned (.tuple #[.int .i64 1, .bool true]) ∧ Calm w w') := fun w => hide (hB kC kW 9 w)
  have CB2 : ∀ w, Hid (Calls Try.prog 8 #[cfv kC, wnv kW, .int .i64 10] w fun e w' => e = .returned (.tuple #[.int .i64 3, .bool true]) ∧ Calm w w') := fun w => hide (hB kC kW 10 w)
  have CT1 : ∀ w, Hid (Calls Try.prog 12 #[.string kK, wnv kW, .int .i64 4, .bool false] w fun e w' => e = .returned (.tuple #[pnv pn0, wnv wn0, .int .i64 2]) ∧ Calm w w') := fun w => hide (hT kK kW 4 false kW_ok w)
  have CE1 : ∀ w, Hid (Calls Try.prog 16 #[cfv kC, .string kK, wnv kW, .int .i64 1, .int .i64 2, .int .i64 0] w fun e w' => RetE w e w' ⟨0, 10, 2, ⟨3, 10, 1, 5⟩, 0, 2⟩ [⟨kK, 0, 10, 1, 1, ⟨3, 10, 1, 5⟩⟩]) := fun w => hide (by have h := hE kC kK kW 1 2 0 kW_ok (by unfold I64; decide) (by unfold I64; decide) (by unfold I64; decide) w; rw [kEv1, kEv2] at h; exact h)
  have CO1 : ∀ w, Hid (Calls Try.prog 10 #[wnv kW, .int .i64 9, .int .i64 10] w fun e w' => e = .returned (.bool true) ∧ Calm w w') := fun w => hide (hO kW 9 10 w)
  have CO2 : ∀ w, Hid (Calls Try.prog 10 #[wnv kW, .int .i64 10, .int .i64 20] w fun e w' => e = .returned (.bool false) ∧ Calm w w') := fun w => hide (hO kW 10 20 w)
  clear hB hO hT hE
  have HC0 := hide (al_new w (.cells (cfc kC) 24))
  have HT0 := hide ((Touch.refl (fun _ => False) w).alloc (.cells (cfc kC) 24))
  go_enter Try.func14, Try.ntmps14
  go_wp2_with fail
  generalize w.alloc (.cells (cfc kC) 24) = w1 at *
  generalize w.heap.size = B at *
  refine wp_region_held (S := Calm w1) (by kernel_rfl) ?_
  have hT0 : Calm w1 { w1 with drawn := w1.drawn + 1 } := (Touch.refl (fun _ => False) w1).drew
  refine wpAnyH_yield 0 13 (cfv kC) rfl rfl (by kernel_rfl) (by kernel_rfl) (by kernel_rfl) (fun _ _ _ h => h) (by kernel_rfl) (fun W hW => by obtain ⟨⟨g0, g1, g2, g3, g4, g5, g6⟩, g7, g8, g9⟩ := cf_cells (hW.at HC0.out); go_simp) (by assumption) rfl rfl ?_
  simp only [Act.put, List.setIfInBounds_toArray, List.set_cons_zero, List.set_cons_succ]
  refine wpAnyH_enter 1 14 26 #[] rfl rfl (by kernel_rfl) (by kernel_rfl) (by kernel_rfl) ?_
  refine ((CW _).out).mono ?_
  rintro r w2 ⟨rfl, T2⟩
  have h2 := hT0.tr T2
  refine ⟨_, rfl, h2, ?_⟩
  simp only [Act.put, List.setIfInBounds_toArray, List.set_cons_zero, List.set_cons_succ]
  refine wpAnyH_enter 2 15 8 #[cfv kC, wnv kW, .int .i64 9] rfl rfl (by kernel_rfl) (by kernel_rfl) (by kernel_rfl) ?_
  refine ((CB1 _).out).mono ?_
  rintro r w3 ⟨rfl, T3⟩
  have h3 := h2.tr T3
  refine ⟨_, rfl, h3, ?_⟩
  simp only [Act.put, List.setIfInBounds_toArray, List.set_cons_zero, List.set_cons_succ]
  refine wpAnyH_yield 3 12 (.tuple #[.int .i64 1, .bool true]) rfl rfl (by kernel_rfl) (by kernel_rfl) (by kernel_rfl) (fun _ _ _ h => h) (by kernel_rfl) (fun W hW => by kernel_rfl) (by assumption) rfl rfl ?_
  simp only [Act.put, List.setIfInBounds_toArray, List.set_cons_zero, List.set_cons_succ]
  refine wpAnyH_yield 4 16 (.int .i64 1) rfl rfl (by kernel_rfl) (by kernel_rfl) (by kernel_rfl) (fun _ _ _ h => h) (by kernel_rfl) (fun W hW => by go_simp) (by assumption) rfl rfl ?_
  simp only [Act.put, List.setIfInBounds_toArray, List.set_cons_zero, List.set_cons_succ]
  refine wpAnyH_yield 5 17 (.bool true) rfl rfl (by kernel_rfl) (by kernel_rfl) (by kernel_rfl) (fun _ _ _ h => h) (by kernel_rfl) (fun W hW => by go_simp) (by assumption) rfl rfl ?_
  simp only [Act.put, List.setIfInBounds_toArray, List.set_cons_zero, List.set_cons_succ]
  refine wpAnyH_yield 6 2 (.int .i64 1) rfl rfl (by kernel_rfl) (by kernel_rfl) (by kernel_rfl) (fun _ _ _ h => h) (by kernel_rfl) (fun W hW => by kernel_rfl) (by assumption) rfl rfl ?_
  simp only [Act.put, List.setIfInBounds_toArray, List.set_cons_zero, List.set_cons_succ]
  refine wpAnyH_yield 7 3 (.bool true) rfl rfl (by kernel_rfl) (by kernel_rfl) (by kernel_rfl) (fun _ _ _ h => h) (by kernel_rfl) (fun W hW => by kernel_rfl) (by assumption) rfl rfl ?_
  simp only [Act.put, List.setIfInBounds_toArray, List.set_cons_zero, List.set_cons_succ]
  refine wpAnyH_done (by kernel_rfl) ?_ _
  have H3 := hide h3
  clear hT0 h2 T2 h3 T3 CB1
  go_wp2_with fail
  refine wp_region_held (S := Calm w1) (by kernel_rfl) ?_
  have hT0 : Calm w1 { w3 with drawn := w3.drawn + 1 } := H3.out.drew
  refine wpAnyH_yield 0 19 (cfv kC) rfl rfl (by kernel_rfl) (by kernel_rfl) (by kernel_rfl) (fun _ _ _ h => h) (by kernel_rfl) (fun W hW => by obtain ⟨⟨g0, g1, g2, g3, g4, g5, g6⟩, g7, g8, g9⟩ := cf_cells (hW.at HC0.out); go_simp) (by assumption) rfl rfl ?_
  simp only [Act.put, List.setIfInBounds_toArray, List.set_cons_zero, List.set_cons_succ]
  refine wpAnyH_enter 1 20 26 #[] rfl rfl (by kernel_rfl) (by kernel_rfl) (by kernel_rfl) ?_
  refine ((CW _).out).mono ?_
  rintro r w4 ⟨rfl, T4⟩
  have h4 := hT0.tr T4
  refine ⟨_, rfl, h4, ?_⟩
  simp only [Act.put, List.setIfInBounds_toArray, List.set_cons_zero, List.set_cons_succ]
  refine wpAnyH_enter 2 21 8 #[cfv kC, wnv kW, .int .i64 10] rfl rfl (by kernel_rfl) (by kernel_rfl) (by kernel_rfl) ?_
  refine ((CB2 _).out).mono ?_
  rintro r w5 ⟨rfl, T5⟩
  have h5 := h4.tr T5
  refine ⟨_, rfl, h5, ?_⟩
  simp only [Act.put, List.setIfInBounds_toArray, List.set_cons_zero, List.set_cons_succ]
  refine wpAnyH_yield 3 18 (.tuple #[.int .i64 3, .bool true]) rfl rfl (by kernel_rfl) (by kernel_rfl) (by kernel_rfl) (fun _ _ _ h => h) (by kernel_rfl) (fun W hW => by kernel_rfl) (by assumption) rfl rfl ?_
  simp only [Act.put, List.setIfInBounds_toArray, List.set_cons_zero, List.set_cons_succ]
  refine wpAnyH_yield 4 22 (.int .i64 3) rfl rfl (by kernel_rfl) (by kernel_rfl) (by kernel_rfl) (fun _ _ _ h => h) (by kernel_rfl) (fun W hW => by go_simp) (by assumption) rfl rfl ?_
  simp only [Act.put, List.setIfInBounds_toArray, List.set_cons_zero, List.set_cons_succ]
  refine wpAnyH_yield 5 23 (.bool true) rfl rfl (by kernel_rfl) (by kernel_rfl) (by kernel_rfl) (fun _ _ _ h => h) (by kernel_rfl) (fun W hW => by go_simp) (by assumption) rfl rfl ?_
  simp only [Act.put, List.setIfInBounds_toArray, List.set_cons_zero, List.set_cons_succ]
  refine wpAnyH_yield 6 4 (.int .i64 3) rfl rfl (by kernel_rfl) (by kernel_rfl) (by kernel_rfl) (fun _ _ _ h => h) (by kernel_rfl) (fun W hW => by kernel_rfl) (by assumption) rfl rfl ?_
  simp only [Act.put, List.setIfInBounds_toArray, List.set_cons_zero, List.set_cons_succ]
  refine wpAnyH_yield 7 5 (.bool true) rfl rfl (by kernel_rfl) (by kernel_rfl) (by kernel_rfl) (fun _ _ _ h => h) (by kernel_rfl) (fun W hW => by kernel_rfl) (by assumption) rfl rfl ?_
  simp only [Act.put, List.setIfInBounds_toArray, List.set_cons_zero, List.set_cons_succ]
  refine wpAnyH_done (by kernel_rfl) ?_ _
  have H5 := hide h5
  clear hT0 h4 T4 h5 T5 CB2 H3
  go_wp2_with fail
  refine ((CW _).out).mono ?_
  rintro r w6 ⟨rfl, T6⟩
  have H6 := hide (H5.out.tr T6)
  clear T6 H5
  go_wp2_with fail
  refine ((CT1 _).out).mono ?_
  rintro r w7 ⟨rfl, T7⟩
  have H7 := hide (H6.out.tr T7)
  clear T7 H6 CT1
  go_wp2_with fail
  have H8 := hide ((H7.out.alloc (.cells (pnc pn0) 37)).alloc (.cells (wnc wn0) 30))
  have HC8 := hide (H8.out.at HC0.out)
  generalize (w7.alloc (.cells (pnc pn0) 37)).alloc (.cells (wnc wn0) 30) = w8 at *
  refine wp_region_held (S := Calm w8) (by kernel_rfl) ?_
  have hT0 : Calm w8 { w8 with drawn := w8.drawn + 1 } := (Touch.refl _ w8).drew
  have hC0 : Calm w8 { w8 with drawn := w8.drawn + 1 } := (Touch.refl _ w8).drew
  refine wpAnyH_yield 0 31 (cfv kC) rfl rfl (by kernel_rfl) (by kernel_rfl) (by kernel_rfl) (fun _ _ _ h => h) (by kernel_rfl) (fun W hW => by obtain ⟨⟨g0, g1, g2, g3, g4, g5, g6⟩, g7, g8, g9⟩ := cf_cells (hW.at HC8.out); go_simp) (by assumption) rfl rfl ?_
  simp only [Act.put, List.setIfInBounds_toArray, List.set_cons_zero, List.set_cons_succ]
  refine wpAnyH_names fun ops Q a0 hops hQ ha => ?_
  obtain ⟨F, hF⟩ : ∃ F : (Nat → Value) → Value → Act, F = fun vs p => ((a0.put (some 32) (vs 0)).put (some 33) (vs 1)).put (some 9) p := ⟨_, rfl⟩
  have f0 : a0 = F (fun _ => undef) undef := by rw [hF, ha]; kernel_rfl
  have g0 : ∀ vs p x, (F vs p).put (some 32) x = F (fun j => if j = 0 then x else vs j) p := fun vs p x => by rw [hF, ha]; kernel_rfl
  have g1 : ∀ vs p x, (F vs p).put (some 33) x = F (fun j => if j = 1 then x else vs j) p := fun vs p x => by rw [hF, ha]; kernel_rfl
  have g4 : ∀ vs x, (F vs undef).put (some 9) x = F vs x := fun vs x => by rw [hF, ha]; kernel_rfl
  rw [f0]
  refine wpAnyH_float2 (m := 2) (fuel := 5) (fun k => [1, 2].getD k 0) 6 9 (.cells (wnc wn0) 30) F (fun k b => #[true, decide (1 ≤ k), decide (2 ≤ k), false, false, false, b, false, false])
    (fun k vs W => (k = 1 → vs 0 = wnv kW) ∧ (k = 2 → ∃ po pc, vs 1 = .tuple #[wnv ⟨0, 10, 2, ⟨3, 10, 1, 5⟩, 0, 2⟩, .slice po 1 pc] ∧ encP.Own 37 W w8.heap.size (.slice po 1 pc) [⟨kK, 0, 10, 1, 1, ⟨3, 10, 1, 5⟩⟩])) w8
    (by rw [hops]; rfl) rfl (fun vs p => by rw [hops]; kernel_rfl) (fun vs W => by kernel_rfl) g4 ?hLf ?hLi ?r0 ?r1 ?hI (fun W h => h) ?step ?tail ?tail0 _ _ ⟨fun h => (nomatch h), fun h => (nomatch h)⟩ hC0
  case hLf => intro k hk; rcases (by omega : k = 0 ∨ k = 1) with rfl | rfl <;> rfl
  case hLi => intro k b hk; rcases (by omega : k = 0 ∨ k = 1) with rfl | rfl <;> rfl
  case r0 => intro k hk; subst hops; rcases (by omega : k = 0 ∨ k = 1) with rfl | rfl <;> kernel_rfl
  case r1 => intro k hk; subst hops; rcases (by omega : k = 0 ∨ k = 1) with rfl | rfl <;> kernel_rfl
  case hI =>
    rintro k vs W W' ⟨h1, h2⟩ hW
    exact ⟨h1, fun h => by obtain ⟨po, pc, e, f⟩ := h2 h; exact ⟨po, pc, e, Rc.Own.calm f hW⟩⟩
  case step =>
    rintro k vs p' W K hk ⟨h1, h2⟩ hc hK
    subst hops
    rcases (by omega : k = 0 ∨ k = 1) with rfl | rfl
    · refine wpOp_enter 1 32 26 #[] rfl rfl (by kernel_rfl) (by rw [hF, ha]; kernel_rfl) ?_
      refine ((CW _).out).mono ?_
      rintro r W' ⟨rfl, hW⟩
      exact ⟨_, rfl, by rw [g0]; exact hK _ _ hW ⟨fun _ => rfl, fun h => (nomatch h)⟩⟩
    · have e := h1 rfl
      refine wpOp_enter 2 33 16 #[cfv kC, .string kK, vs 0, .int .i64 1, .int .i64 2, .int .i64 0] rfl rfl (by kernel_rfl) (by rw [hF, ha]; kernel_rfl) ?_
      rw [e]
      refine ((CE1 _).out).mono ?_
      rintro r W' ⟨po, pc, rfl, ow, hW⟩
      exact ⟨_, rfl, by rw [g1]; exact hK _ _ hW ⟨fun h => (nomatch h), fun _ => ⟨po, pc, rfl, Rc.Own.base ow hc.size⟩⟩⟩
  case tail =>
    rintro vs q1 W ⟨-, h2⟩ hc hq1 hh
    obtain ⟨po, pc, e, ow⟩ := h2 rfl
    generalize hv0 : vs 0 = v0
    rw [hF, ha]
    simp only [e, hv0]
    subst hops hQ
    clear hF ha f0 g0 g1 g4 h2 e hv0
    simp only [Act.put, List.setIfInBounds_toArray, List.set_cons_zero, List.set_cons_succ]
    have hcS : Calm w8 W := hc
    refine wpAnyH_yield 3 30 (.tuple #[wnv ⟨0, 10, 2, ⟨3, 10, 1, 5⟩, 0, 2⟩, .slice po 1 pc]) rfl rfl (by kernel_rfl) (by kernel_rfl) (by kernel_rfl) (fun _ _ _ h => h) (by kernel_rfl) (fun W hW => by kernel_rfl) (by assumption) rfl rfl ?_
    simp only [Act.put, List.setIfInBounds_toArray, List.set_cons_zero, List.set_cons_succ]
    refine wpAnyH_yield 4 34 (wnv ⟨0, 10, 2, ⟨3, 10, 1, 5⟩, 0, 2⟩) rfl rfl (by kernel_rfl) (by kernel_rfl) (by kernel_rfl) (fun _ _ _ h => h) (by kernel_rfl) (fun W hW => by go_simp) (by assumption) rfl rfl ?_
    simp only [Act.put, List.setIfInBounds_toArray, List.set_cons_zero, List.set_cons_succ]
    refine wpAnyH_yield 5 35 (.slice po 1 pc) rfl rfl (by kernel_rfl) (by kernel_rfl) (by kernel_rfl) (fun _ _ _ h => h) (by kernel_rfl) (fun W hW => by go_simp) (by assumption) rfl rfl ?_
    simp only [Act.put, List.setIfInBounds_toArray, List.set_cons_zero, List.set_cons_succ]
    obtain ⟨A6, T6⟩ := wn_all ⟨0, 10, 2, ⟨3, 10, 1, 5⟩, 0, 2⟩ hh
    have SS : Calm w8 _ := Touch.trans hcS T6 (fun k _ e => by omega)
    refine wpAnyH_do 7 ((((((((((W).setCell ⟨q1, 0, none⟩ (.int .i64 0)).setCell ⟨q1, 1, none⟩ (.int .i64 10)).setCell ⟨q1, 2, none⟩ (.int .i64 2)).setCell ⟨q1, 3, none⟩ (.int .i64 3)).setCell ⟨q1, 4, none⟩ (.int .i64 10)).setCell ⟨q1, 5, none⟩ (.int .i64 1)).setCell ⟨q1, 6, none⟩ (.int .i64 5)).setCell ⟨q1, 7, none⟩ (.int .i64 0)).setCell ⟨q1, 8, none⟩ (.int .i64 2)) rfl (by kernel_rfl) (by kernel_rfl) (fun K hK => ?_) SS ?_
    · obtain ⟨⟨i0, i1, i2⟩, ⟨i3, i4, i5, i6⟩, i7, i8⟩ := wn_cells hh
      have y0 := wn_frozen hh 0
      have y1 := wn_frozen hh 1
      have y2 := wn_frozen hh 2
      have y3 := wn_frozen hh 3
      have y4 := wn_frozen hh 4
      have y5 := wn_frozen hh 5
      have y6 := wn_frozen hh 6
      have y7 := wn_frozen hh 7
      have y8 := wn_frozen hh 8
      unfold Oper.wp
      go_simp
      exact hK
    have ow7 := Rc.Own.touch ow T6 (fun g hg e => by
      subst e
      obtain ⟨-, cur, hcur⟩ := Rc.own_block ow hg
      rw [hh] at hcur
      injection hcur with hcur
      injection hcur with _ h37
      cases h37)
    refine wpAnyH_yield 8 10 (.slice po 1 pc) rfl rfl (by kernel_rfl) (by kernel_rfl) (by kernel_rfl) (fun _ _ _ h => h) (by kernel_rfl) (fun W hW => by kernel_rfl) (by assumption) rfl rfl ?_
    simp only [Act.put, List.setIfInBounds_toArray, List.set_cons_zero, List.set_cons_succ]
    refine wpAnyH_done (by kernel_rfl) ?_ _
    generalize (((((((((W).setCell ⟨q1, 0, none⟩ (.int .i64 0)).setCell ⟨q1, 1, none⟩ (.int .i64 10)).setCell ⟨q1, 2, none⟩ (.int .i64 2)).setCell ⟨q1, 3, none⟩ (.int .i64 3)).setCell ⟨q1, 4, none⟩ (.int .i64 10)).setCell ⟨q1, 5, none⟩ (.int .i64 1)).setCell ⟨q1, 6, none⟩ (.int .i64 5)).setCell ⟨q1, 7, none⟩ (.int .i64 0)).setCell ⟨q1, 8, none⟩ (.int .i64 2) = w11 at *
    obtain ⟨⟨i0, i1, i2⟩, ⟨i3, i4, i5, i6⟩, i7, i8⟩ := wn_cells A6
    obtain ⟨pb, pf, rfl, ⟨d0, d1, d2, d3, d4⟩, d5, d6, d7, d8⟩ := pn_at (Rc.Own.mem ow7).2.1 0 (by simp)
    simp only [List.getD_cons_zero, Nat.zero_mul, Nat.add_zero] at d0 d1 d2 d3 d4 d5 d6 d7 d8
    have H11 := hide (H8.out.tr SS)
    have HA6 := hide A6
    clear A6 T6 SS ow ow7 hh hcS hT0 hC0 hc
    go_wp2_with fail
    refine ((CN _).out).mono ?_
    rintro r wn ⟨rfl, hq⟩
    subst hq
    go_wp2_with fail
    refine ((CW _).out).mono ?_
    rintro r wm ⟨rfl, Tm⟩
    have Hm := hide (H11.out.tr Tm)
    clear Tm
    go_wp2_with fail
    refine ((CO1 _).out).mono ?_
    rintro r wo ⟨rfl, To⟩
    have Ho := hide (Hm.out.tr To)
    clear To
    go_wp2_with fail
    refine ((CW _).out).mono ?_
    rintro r wp ⟨rfl, Tp⟩
    have Hp := hide (Ho.out.tr Tp)
    clear Tp
    go_wp2_with fail
    refine ((CO2 _).out).mono ?_
    rintro r wq ⟨rfl, Tq⟩
    have Hq := hide (Hp.out.tr Tq)
    clear Tq
    go_wp2_with fail
    go_ret
    exact ⟨rfl, HT0.out.tr Hq.out⟩
  case tail0 =>
    rintro vs W ⟨-, h2⟩ hc
    obtain ⟨po, pc, e, ow⟩ := h2 rfl
    generalize hv0 : vs 0 = v0
    rw [hF, ha]
    simp only [e, hv0]
    subst hops hQ
    clear hF ha f0 g0 g1 g4 h2 e hv0
    simp only [Act.put, List.setIfInBounds_toArray, List.set_cons_zero, List.set_cons_succ]
    have hcS : Calm w8 W := hc
    refine wpAnyH_yield 3 30 (.tuple #[wnv ⟨0, 10, 2, ⟨3, 10, 1, 5⟩, 0, 2⟩, .slice po 1 pc]) rfl rfl (by kernel_rfl) (by kernel_rfl) (by kernel_rfl) (fun _ _ _ h => h) (by kernel_rfl) (fun W hW => by kernel_rfl) (by assumption) rfl rfl ?_
    simp only [Act.put, List.setIfInBounds_toArray, List.set_cons_zero, List.set_cons_succ]
    refine wpAnyH_yield 4 34 (wnv ⟨0, 10, 2, ⟨3, 10, 1, 5⟩, 0, 2⟩) rfl rfl (by kernel_rfl) (by kernel_rfl) (by kernel_rfl) (fun _ _ _ h => h) (by kernel_rfl) (fun W hW => by go_simp) (by assumption) rfl rfl ?_
    simp only [Act.put, List.setIfInBounds_toArray, List.set_cons_zero, List.set_cons_succ]
    refine wpAnyH_yield 5 35 (.slice po 1 pc) rfl rfl (by kernel_rfl) (by kernel_rfl) (by kernel_rfl) (fun _ _ _ h => h) (by kernel_rfl) (fun W hW => by go_simp) (by assumption) rfl rfl ?_
    simp only [Act.put, List.setIfInBounds_toArray, List.set_cons_zero, List.set_cons_succ]
    have hA := hcS.alloc (.cells (wnc wn0) 30)
    have hh := al_new W (.cells (wnc wn0) 30)
    have hq1 : w8.heap.size ≤ W.heap.size := hcS.size
    have ow := Rc.Own.calm ow ((Touch.refl (fun _ => False) W).alloc (.cells (wnc wn0) 30))
    refine wpAnyH_value 6 9 (.pointer (some ⟨W.heap.size, 0, none⟩)) (w' := W.alloc (.cells (wnc wn0) 30)) rfl rfl (by kernel_rfl) (by kernel_rfl) (by go_simp) hA ?_
    simp only [Act.put, List.setIfInBounds_toArray, List.set_cons_zero, List.set_cons_succ]
    generalize hWs : W.heap.size = q1 at *
    clear hcS hc hWs
    generalize W.alloc (.cells (wnc wn0) 30) = W' at *
    have hcS := hA
    obtain ⟨A6, T6⟩ := wn_all ⟨0, 10, 2, ⟨3, 10, 1, 5⟩, 0, 2⟩ hh
    have SS : Calm w8 _ := Touch.trans hcS T6 (fun k _ e => by omega)
    refine wpAnyH_do 7 ((((((((((W').setCell ⟨q1, 0, none⟩ (.int .i64 0)).setCell ⟨q1, 1, none⟩ (.int .i64 10)).setCell ⟨q1, 2, none⟩ (.int .i64 2)).setCell ⟨q1, 3, none⟩ (.int .i64 3)).setCell ⟨q1, 4, none⟩ (.int .i64 10)).setCell ⟨q1, 5, none⟩ (.int .i64 1)).setCell ⟨q1, 6, none⟩ (.int .i64 5)).setCell ⟨q1, 7, none⟩ (.int .i64 0)).setCell ⟨q1, 8, none⟩ (.int .i64 2)) rfl (by kernel_rfl) (by kernel_rfl) (fun K hK => ?_) SS ?_
    · obtain ⟨⟨i0, i1, i2⟩, ⟨i3, i4, i5, i6⟩, i7, i8⟩ := wn_cells hh
      have y0 := wn_frozen hh 0
      have y1 := wn_frozen hh 1
      have y2 := wn_frozen hh 2
      have y3 := wn_frozen hh 3
      have y4 := wn_frozen hh 4
      have y5 := wn_frozen hh 5
      have y6 := wn_frozen hh 6
      have y7 := wn_frozen hh 7
      have y8 := wn_frozen hh 8
      unfold Oper.wp
      go_simp
      exact hK
    have ow7 := Rc.Own.touch ow T6 (fun g hg e => by
      subst e
      obtain ⟨-, cur, hcur⟩ := Rc.own_block ow hg
      rw [hh] at hcur
      injection hcur with hcur
      injection hcur with _ h37
      cases h37)
    refine wpAnyH_yield 8 10 (.slice po 1 pc) rfl rfl (by kernel_rfl) (by kernel_rfl) (by kernel_rfl) (fun _ _ _ h => h) (by kernel_rfl) (fun W hW => by kernel_rfl) (by assumption) rfl rfl ?_
    simp only [Act.put, List.setIfInBounds_toArray, List.set_cons_zero, List.set_cons_succ]
    refine wpAnyH_done (by kernel_rfl) ?_ _
    generalize (((((((((W').setCell ⟨q1, 0, none⟩ (.int .i64 0)).setCell ⟨q1, 1, none⟩ (.int .i64 10)).setCell ⟨q1, 2, none⟩ (.int .i64 2)).setCell ⟨q1, 3, none⟩ (.int .i64 3)).setCell ⟨q1, 4, none⟩ (.int .i64 10)).setCell ⟨q1, 5, none⟩ (.int .i64 1)).setCell ⟨q1, 6, none⟩ (.int .i64 5)).setCell ⟨q1, 7, none⟩ (.int .i64 0)).setCell ⟨q1, 8, none⟩ (.int .i64 2) = w11 at *
    obtain ⟨⟨i0, i1, i2⟩, ⟨i3, i4, i5, i6⟩, i7, i8⟩ := wn_cells A6
    obtain ⟨pb, pf, rfl, ⟨d0, d1, d2, d3, d4⟩, d5, d6, d7, d8⟩ := pn_at (Rc.Own.mem ow7).2.1 0 (by simp)
    simp only [List.getD_cons_zero, Nat.zero_mul, Nat.add_zero] at d0 d1 d2 d3 d4 d5 d6 d7 d8
    have H11 := hide (H8.out.tr SS)
    have HA6 := hide A6
    clear A6 T6 SS ow ow7 hh hcS hT0 hC0 hA
    go_wp2_with fail
    refine ((CN _).out).mono ?_
    rintro r wn ⟨rfl, hq⟩
    subst hq
    go_wp2_with fail
    refine ((CW _).out).mono ?_
    rintro r wm ⟨rfl, Tm⟩
    have Hm := hide (H11.out.tr Tm)
    clear Tm
    go_wp2_with fail
    refine ((CO1 _).out).mono ?_
    rintro r wo ⟨rfl, To⟩
    have Ho := hide (Hm.out.tr To)
    clear To
    go_wp2_with fail
    refine ((CW _).out).mono ?_
    rintro r wp ⟨rfl, Tp⟩
    have Hp := hide (Ho.out.tr Tp)
    clear Tp
    go_wp2_with fail
    refine ((CO2 _).out).mono ?_
    rintro r wq ⟨rfl, Tq⟩
    have Hq := hide (Hp.out.tr Tq)
    clear Tq
    go_wp2_with fail
    go_ret
    exact ⟨rfl, HT0.out.tr Hq.out⟩

end Go.Proofs.Ytfmlbcddomggaaa
