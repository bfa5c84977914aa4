/- Jobs: the first number that may not be (the program's firstWrong, fieldAt, Wrong, Check, job). -/
import Derived.Test.YtdcpmpbfnfjncaaGreatDoorEA
import Derived.BigQuiet
import Derived.Deep.QuietTactic
namespace Go.Proofs.YtdcpmpbfnfjncaaGreatDoor
open Go.RowKit

theorem Touch.drewQ {S : Nat → Prop} {a w : World} (h : Touch S a w) (n : Nat) : Touch S a (w.drewN n) := ⟨h.os, h.tape, h.output, h.size, h.block⟩

/-- May that number be? -/
def okAt (f : Nat → Int) (i : Nat) : Bool := inB (f i) (loB f i) (hiB f i)
/-- The first one from i on, of k, that may not be. -/
def fwF (f : Nat → Int) : Nat → Nat → Option Nat
  | _, 0 => none
  | i, k + 1 => if okAt f i then fwF f (i + 1) k else some i
def fwN (f : Nat → Int) : Option Nat := fwF f 0 10
/-- What is told of it. -/
def fwV : Option Nat → Value
  | none => .tuple #[.int .i64 0, .bool false]
  | some i => .tuple #[.int .i64 (i : Int), .bool true]

theorem run_index_bounds (f : Nat → Int) (i : Nat) (hi : i < 10) (w : World) : (Instr.index 109 (.agg (b20c f)) (.int .i64 (i : Int))).run Tryz.prog w = .ok (.agg #[.int .i64 (loB f i), .int .i64 (hiB f i)]) w := by
  rcases (by omega : i = 0 ∨ i = 1 ∨ i = 2 ∨ i = 3 ∨ i = 4 ∨ i = 5 ∨ i = 6 ∨ i = 7 ∨ i = 8 ∨ i = 9) with rfl | rfl | rfl | rfl | rfl | rfl | rfl | rfl | rfl | rfl <;> kernel_rfl

set_option maxRecDepth 100000 in
set_option maxHeartbeats 1000000 in
theorem firstWrong_any (f : Nat → Int) (w : World) : Calls Tryz.prog 46 #[.agg (f10c f)] w fun e w' => e = .returned (fwV (fwN f)) ∧ Calm w w' := by
  have CB := fun w => hide (bounds_any f w)
  have IX : Hid (∀ (i : Nat), i < 10 → ∀ W, (Instr.index 109 (.agg (b20c f)) (.int .i64 (i : Int))).run Tryz.prog W = .ok (.agg #[.int .i64 (loB f i), .int .i64 (hiB f i)]) W) := hide fun i hi W => run_index_bounds f i hi W
  have A0 := hide (al_new w (.cells (f10c f) 49))
  have T0 := hide ((Touch.refl (fun _ => False) w).alloc (.cells (f10c f) 49))
  have ST : Hid (∀ n k, fwF f n (k + 1) = if okAt f n then fwF f (n + 1) k else some n) := hide fun n k => rfl
  have S0 : Hid (fwF f 0 10 = fwN f) := hide rfl
  have S1 : Hid (∀ n, fwF f n 0 = none) := hide fun n => rfl
  have OK : Hid (∀ n, okAt f n = (decide (loB f n ≤ f n) && decide (f n ≤ hiB f n))) := hide fun _ => rfl
  generalize fwN f = r at *
  generalize b20c f = C at *
  go_enter Tryz.func46, Tryz.ntmps46
  go_wp2_with fail
  generalize hA : w.heap.size = A at *
  generalize w.alloc (.cells (f10c f) 49) = w0 at *
  refine (CB _).out.mono ?_
  rintro e w1 ⟨rfl, T1⟩
  have A1 := hide (T1.at A0.out)
  have TT := hide (T0.out.tr T1)
  clear CB T1 A0 T0
  go_wp2_with fail
  go_loopw [8] (fun s wr => ∃ n : Nat, s = .int .i64 (n : Int) ∧ n ≤ 10 ∧ fwF f n (10 - n) = r ∧ Calm w1 wr) (fun s _ => 10 - (intOf s).toNat)
  case atStart => exact ⟨0, rfl, by omega, S0.out, Touch.refl _ _⟩
  case round =>
    obtain ⟨n, rfl, h10, hr, TL⟩ := hrel
    by_cases hlt : n < 10
    · have hltz : (n : Int) < 10 := by omega
      have ix := IX.out n hlt
      have hr2 := hr
      rw [show 10 - n = (10 - (n + 1)) + 1 by omega, ST.out, OK.out] at hr2
      have HR := hide hr2
      have c1 := f10_cells (TL.at A1.out) n hlt
      have hAw := lt_of_heap (TL.at A1.out)
      have hAn : ¬ wr.heap.size = A := by omega
      have TN := hide (TL.alloc (.cells #[.int .i64 (loB f n), .int .i64 (hiB f n)] 108))
      clear hr hr2 TL IX OK
      generalize loB f n = lo at *
      generalize hiB f n = hi at *
      generalize f n = x at *
      by_cases hl : lo ≤ x
      · have d1 : decide (x < lo) = false := decide_eq_false (by omega)
        by_cases hh : x ≤ hi
        · have d2 : decide (hi < x) = false := decide_eq_false (by omega)
          have HR2 : Hid (fwF f (n + 1) (10 - (n + 1)) = r) := hide (by have := HR.out; simpa [hl, hh] using this)
          clear HR hl hh
          go_wp2_with fail
          go_quiet (fail)
          rename_i nq
          go_wp2_with fail
          go_roundw
          case rel => exact ⟨n + 1, by go_num, by omega, HR2.out, TN.out.drewQ nq⟩
          case measure => simp [intOf]; omega
        · have d2 : decide (hi < x) = true := decide_eq_true (by omega)
          have HR2 : Hid (some n = r) := hide (by have := HR.out; simpa [hl, hh] using this)
          clear HR hl hh
          go_wp2_with fail
          go_quiet (fail)
          rename_i nq
          go_wp2_with fail
          go_ret2
          exact ⟨by rw [← HR2.out]; rfl, TT.out.tr (TN.out.drewQ nq)⟩
      · have d1 : decide (x < lo) = true := decide_eq_true (by omega)
        have HR2 : Hid (some n = r) := hide (by have := HR.out; simpa [hl] using this)
        clear HR hl
        go_wp2_with fail
        go_quiet (fail)
        rename_i nq
        go_wp2_with fail
        go_ret2
        exact ⟨by rw [← HR2.out]; rfl, TT.out.tr (TN.out.drewQ nq)⟩
    · have hltz : ¬ (n : Int) < 10 := by omega
      obtain rfl : n = 10 := by omega
      have HR : Hid (none = r) := hide (by rw [← hr]; rfl)
      have HTL := hide TL
      clear hr TL
      go_wp2_with fail
      go_ret2
      exact ⟨by rw [← HR.out]; rfl, TT.out.tr HTL.out⟩

set_option maxRecDepth 100000 in
theorem fieldAt_any (i : Nat) (hi : i < 10) (w : World) : Calls Tryz.prog 47 #[.int .i64 (i : Int)] w fun e w' => e = .returned (.int .i64 ((i + 1 : Nat) : Int)) ∧ w' = w := by
  go_enter Tryz.func47, Tryz.ntmps47
  go_wp2_with fail
  go_ret
  exact ⟨by show Ending.returned (.int .i64 (1 + (i : Int))) = _; rw [show ((i + 1 : Nat) : Int) = 1 + (i : Int) by omega], rfl⟩

/-- The first field that may not be, and the error. -/
def wrV : Option Nat → Value
  | none => .tuple #[.int .i64 0, .int .i64 0]
  | some i => .tuple #[.int .i64 ((i + 1 : Nat) : Int), .int .i64 4]
def chN : Option Nat → Int
  | none => 0
  | some _ => 4
theorem fwF_lt (f : Nat → Int) : ∀ (k i j : Nat), fwF f i k = some j → i ≤ j ∧ j < i + k
  | 0, i, j, h => by simp [fwF] at h
  | k + 1, i, j, h => by
    unfold fwF at h
    split at h
    · have := fwF_lt f k (i + 1) j h; omega
    · injection h with h; omega

set_option maxRecDepth 100000 in
theorem wrong_any (c : Cf) (w : World) : Calls Tryz.prog 24 #[cfv c] w fun e w' => e = .returned (wrV (fwN (fldF c))) ∧ Calm w w' := by
  have CN := fun w => hide (numbersOf_any c w)
  have CF := fun w => hide (firstWrong_any (fldF c) w)
  have T0 := hide ((Touch.refl (fun _ => False) w).alloc (.cells (cfc c) 24))
  have LT : Hid (∀ j, fwN (fldF c) = some j → j < 10) := hide fun j h => by have := fwF_lt (fldF c) 10 0 j h; omega
  generalize fldF c = F at *
  generalize fwN F = r at *
  go_enter Tryz.func24, Tryz.ntmps24
  go_wp2_with fail
  refine (CN _).out.mono ?_
  rintro e w1 ⟨rfl, T1⟩
  have HT := hide (T0.out.tr T1)
  clear T0 T1 CN
  go_wp2_with fail
  refine (CF _).out.mono ?_
  rintro e w2 ⟨rfl, T2⟩
  have HT2 := hide (HT.out.tr T2)
  clear HT T2 CF
  cases r with
  | none =>
    simp only [fwV]
    go_wp2_with fail
    go_ret2
    exact ⟨rfl, HT2.out⟩
  | some i =>
    have CA := fun w => hide (fieldAt_any i (LT.out i rfl) w)
    clear LT
    simp only [fwV]
    go_wp2_with fail
    refine (CA _).out.mono ?_
    rintro e w3 ⟨rfl, rfl⟩
    go_wp2_with fail
    go_ret2
    exact ⟨rfl, HT2.out⟩

set_option maxRecDepth 100000 in
theorem check_any (c : Cf) (w : World) : Calls Tryz.prog 15 #[cfv c] w fun e w' => e = .returned (.int .i64 (chN (fwN (fldF c)))) ∧ Calm w w' := by
  have CN := fun w => hide (wrong_any c w)
  have T0 := hide ((Touch.refl (fun _ => False) w).alloc (.cells (cfc c) 24))
  generalize fwN (fldF c) = r at *
  go_enter Tryz.func15, Tryz.ntmps15
  go_wp2_with fail
  refine (CN _).out.mono ?_
  rintro e w1 ⟨rfl, T1⟩
  have HT := hide (T0.out.tr T1)
  clear T0 T1 CN
  cases r with
  | none =>
    simp only [wrV]
    go_wp2_with fail
    go_ret
    exact ⟨rfl, HT.out⟩
  | some i =>
    simp only [wrV]
    go_wp2_with fail
    go_ret
    exact ⟨rfl, HT.out⟩

/-- A job in its block turned whole. -/
abbrev cfPut (w : World) (b : Nat) (c : Cf) : World := ((((((((((w.setCell ⟨b, 0, none⟩ (.int .i64 c.gr)).setCell ⟨b, 1, none⟩ (.int .i64 c.so)).setCell ⟨b, 2, none⟩ (.int .i64 c.ki)).setCell ⟨b, 3, none⟩ (.int .i64 c.sz)).setCell ⟨b, 4, none⟩ (.int .i64 c.sl)).setCell ⟨b, 5, none⟩ (.int .i64 c.of)).setCell ⟨b, 6, none⟩ (.int .i64 c.gp)).setCell ⟨b, 7, none⟩ (.int .i64 c.lt)).setCell ⟨b, 8, none⟩ (.int .i64 c.ea)).setCell ⟨b, 9, none⟩ (.bool c.di))
theorem cf_all {w : World} {b : Nat} {c0 : Cf} {ty : TypeId} (c : Cf) (h : w.heap[b]? = some (.cells (cfc c0) ty (0, 0))) : (cfPut w b c).heap[b]? = some (.cells (cfc c) ty (0, 0)) ∧ Touch (fun k => k = b) w (cfPut w b c) := by
  have k := (heap_setCell_row (i := 9) (heap_setCell_row (i := 8) (heap_setCell_row (i := 7) (heap_setCell_row (i := 6) (heap_setCell_row (i := 5) (heap_setCell_row (i := 4) (heap_setCell_row (i := 3) (heap_setCell_row (i := 2) (heap_setCell_row (i := 1) (heap_setCell_row (i := 0) h (.int .i64 c.gr)) (.int .i64 c.so)) (.int .i64 c.ki)) (.int .i64 c.sz)) (.int .i64 c.sl)) (.int .i64 c.of)) (.int .i64 c.gp)) (.int .i64 c.lt)) (.int .i64 c.ea)) (.bool c.di))
  exact ⟨by simpa using k, (((((((((((Touch.refl (fun k => k = b) w).setCell (p := ⟨b, 0, none⟩) (fun _ => rfl) (.int .i64 c.gr)).setCell (p := ⟨b, 1, none⟩) (fun _ => rfl) (.int .i64 c.so)).setCell (p := ⟨b, 2, none⟩) (fun _ => rfl) (.int .i64 c.ki)).setCell (p := ⟨b, 3, none⟩) (fun _ => rfl) (.int .i64 c.sz)).setCell (p := ⟨b, 4, none⟩) (fun _ => rfl) (.int .i64 c.sl)).setCell (p := ⟨b, 5, none⟩) (fun _ => rfl) (.int .i64 c.of)).setCell (p := ⟨b, 6, none⟩) (fun _ => rfl) (.int .i64 c.gp)).setCell (p := ⟨b, 7, none⟩) (fun _ => rfl) (.int .i64 c.lt)).setCell (p := ⟨b, 8, none⟩) (fun _ => rfl) (.int .i64 c.ea)).setCell (p := ⟨b, 9, none⟩) (fun _ => rfl) (.bool c.di))⟩

/-- The job that has these numbers; the zero job, if there is none. -/
def cfz : Cf := ⟨0, 0, 0, 0, 0, 0, 0, 0, 0, false⟩
def jobF (f : Nat → Int) : Cf := if (fwN f).isSome then cfz else ofF f

set_option maxRecDepth 100000 in
theorem job_any (f : Nat → Int) (w : World) : Calls Tryz.prog 32 #[.agg (f10c f)] w fun e w' => e = .returned (cfv (jobF f)) ∧ Calm w w' := by
  have CF := fun w => hide (firstWrong_any f w)
  have HJ : Hid (jobF f = if (fwN f).isSome then cfz else ofF f) := hide rfl
  have A0 := al_new w (.cells (f10c f) 49)
  have A1 := hide (al_old A0 (.cells (cfc cfz) 24))
  have A2 := al_new (w.alloc (.cells (f10c f) 49)) (.cells (cfc cfz) 24)
  rw [al_size] at A2
  replace A2 := hide A2
  have T0 := hide (((Touch.refl (fun _ => False) w).alloc (.cells (f10c f) 49)).alloc (.cells (cfc cfz) 24))
  clear A0
  generalize jobF f = J at *
  generalize fwN f = r at *
  go_enter Tryz.func32, Tryz.ntmps32
  go_wp2_with fail
  generalize hw0 : (w.alloc (.cells (f10c f) 49)).alloc (.cells (cfc cfz) 24) = w0 at *
  refine (CF _).out.mono ?_
  rintro e w1 ⟨rfl, T1⟩
  have T1 : Calm w0 w1 := by rw [← hw0]; exact T1
  have B1 := T1.at A1.out
  have B2 := T1.at A2.out
  have TT := T0.out.tr T1
  have hB : w.heap.size ≤ w.heap.size + 1 := by omega
  clear A1 A2 T0 T1 CF hw0
  obtain ⟨⟨g0, g1, g2, g3, g4, g5, g6⟩, g7, g8, g9⟩ := cf_cells B2
  simp only [cfz] at g0 g1 g2 g3 g4 g5 g6 g7 g8 g9
  have y0 := wn_frozen B2 0
  have y1 := wn_frozen B2 1
  have y2 := wn_frozen B2 2
  have y3 := wn_frozen B2 3
  have y4 := wn_frozen B2 4
  have y5 := wn_frozen B2 5
  have y6 := wn_frozen B2 6
  have y7 := wn_frozen B2 7
  have y8 := wn_frozen B2 8
  have y9 := wn_frozen B2 9
  cases r with
  | none =>
    have HJ2 : Hid (J = ofF f) := hide HJ.out
    obtain ⟨q, tq⟩ := cf_all (ofF f) B2
    have HQ := hide q
    have HT : Hid (Calm w (cfPut w1 (w.heap.size + 1) (ofF f))) := hide (TT.trans tq fun k hk e => by omega)
    have k0 := f10_cells B1 0 (by omega)
    have k1 := f10_cells B1 1 (by omega)
    have k2 := f10_cells B1 2 (by omega)
    have k3 := f10_cells B1 3 (by omega)
    have k4 := f10_cells B1 4 (by omega)
    have k5 := f10_cells B1 5 (by omega)
    have k6 := f10_cells B1 6 (by omega)
    have k7 := f10_cells B1 7 (by omega)
    have k8 := f10_cells B1 8 (by omega)
    have k9 := f10_cells B1 9 (by omega)
    clear B1 B2 TT hB HJ q tq
    simp only [fwV]
    go_wp2_with fail
    refine bodyPost_ret (results_cell_row rfl _ _ _ _ _ _ _ rfl HQ.out Tryz.underlying24 rfl (by kernel_rfl)) rfl ?_
    exact ⟨by rw [HJ2.out], HT.out⟩
  | some i =>
    have HJ2 : Hid (J = cfz) := hide HJ.out
    obtain ⟨q, tq⟩ := cf_all cfz B2
    have HQ := hide q
    have HT : Hid (Calm w (cfPut w1 (w.heap.size + 1) cfz)) := hide (TT.trans tq fun k hk e => by omega)
    clear B1 B2 TT hB HJ q tq
    simp only [fwV]
    go_wp2_with fail
    refine bodyPost_ret (results_cell_row rfl _ _ _ _ _ _ _ rfl HQ.out Tryz.underlying24 rfl (by kernel_rfl)) rfl ?_
    exact ⟨by rw [HJ2.out], HT.out⟩

end Go.Proofs.YtdcpmpbfnfjncaaGreatDoor
