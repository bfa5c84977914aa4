/- The program's Compare. A pane's line behind a text (the program's write): notions, appends, the library's AppendInt. A pane's line behind a text (the program's write; the walk). -/
import Derived.Test.YtamfcmmhmfhhkaaDoorG27
import Derived.Test.YtamfcmmhmfhhkaaDoorG8
import Derived.Test.YtamfcmmhmfhhkaaDoorG12
import Derived.Lib.BufferKept
import Derived.Test.YtamfcmmhmfhhkaaDoorG6
import Derived.Great.BuildSlice
namespace Go.Proofs.YtamfcmmhmfhhkaaDoor
open Go.RowKit

set_option maxRecDepth 100000 in
theorem isNaNK_any (a : Int) (w : World) : Calls Tryd.prog 45 #[.int .i64 a] w fun e w' => e = .returned (.bool false) ∧ w' = w := by
  go_enter Tryd.func45, Tryd.ntmps45
  go_wp2_with fail
  go_ret
  exact ⟨by simp, rfl⟩

set_option maxRecDepth 100000 in
theorem cmpK_any (a b : Int) (w : World) : Calls Tryd.prog 32 #[.int .i64 a, .int .i64 b] w fun e w' => e = .returned (.int .i64 (cmpZ a b)) ∧ w' = w := by
  have NA := hide (isNaNK_any a w)
  have NB := hide (isNaNK_any b w)
  unfold cmpZ
  rcases Int.lt_trichotomy a b with h | h | h
  · go_enter Tryd.func32, Tryd.ntmps32
    go_wp2_with fail
    refine NA.out.mono ?_
    rintro e w' ⟨rfl, hq⟩
    obtain rfl := hq.symm
    clear hq
    go_wp2_with fail
    refine NB.out.mono ?_
    rintro e w' ⟨rfl, hq⟩
    obtain rfl := hq.symm
    clear hq
    go_wp2_with fail
    go_ret
    exact ⟨by simp, rfl⟩
  · subst h
    go_enter Tryd.func32, Tryd.ntmps32
    go_wp2_with fail
    refine NA.out.mono ?_
    rintro e w' ⟨rfl, hq⟩
    obtain rfl := hq.symm
    clear hq
    go_wp2_with fail
    refine NB.out.mono ?_
    rintro e w' ⟨rfl, hq⟩
    obtain rfl := hq.symm
    clear hq
    go_wp2_with fail
    go_ret
    exact ⟨by simp, rfl⟩
  · have h' : ¬ a < b := by omega
    go_enter Tryd.func32, Tryd.ntmps32
    go_wp2_with fail
    refine NA.out.mono ?_
    rintro e w' ⟨rfl, hq⟩
    obtain rfl := hq.symm
    clear hq
    go_wp2_with fail
    refine NB.out.mono ?_
    rintro e w' ⟨rfl, hq⟩
    obtain rfl := hq.symm
    clear hq
    go_wp2_with fail
    go_ret
    exact ⟨by simp, rfl⟩

theorem cmpZ_lt {a b : Int} (h : a < b) : cmpZ a b = -1 := if_pos h
theorem cmpZ_gt {a b : Int} (h : b < a) : cmpZ a b = 1 := by unfold cmpZ; rw [if_neg (by omega), if_pos h]
theorem cmpZ_eq (a : Int) : cmpZ a a = 0 := by unfold cmpZ; rw [if_neg (by omega), if_neg (by omega)]
theorem orN_cmp : ∀ (X Y : List Int), X.length = Y.length → orN (List.zipWith cmpZ X Y) = cmpL X Y
  | [], [], _ => rfl
  | [], _ :: _, h => by simp at h
  | _ :: _, [], h => by simp at h
  | x :: X, y :: Y, h => by
    have ih := orN_cmp X Y (by simpa using h)
    rw [List.zipWith_cons_cons, orN, cmpL]
    rcases Int.lt_trichotomy x y with g | g | g
    · rw [cmpZ_lt g, if_neg (by decide), if_pos g]
    · subst g
      rw [cmpZ_eq, if_pos rfl, if_neg (by omega), if_neg (by omega), ih]
    · rw [cmpZ_gt g, if_neg (by decide), if_neg (by omega), if_pos g]
theorem orN_zero (B : List Int) : orN (0 :: B) = orN B := by rw [orN, if_pos rfl]
theorem orN_ne {x : Int} (h : x ≠ 0) (B : List Int) : orN (x :: B) = x := by rw [orN, if_neg h]
theorem orN_or (A B : List Int) : orN (orN A :: B) = orN (A ++ B) := by
  induction A with
  | nil => exact orN_zero B
  | cons x A ih =>
    by_cases h : x = 0
    · subst h
      rw [orN_zero, List.cons_append, orN_zero, ih]
    · rw [orN_ne h, List.cons_append, orN_ne h, orN_ne h]
theorem cmpP_or (p q : Pn) : cmpP p q = orN [cmpW p q, cmpZ p.d q.d, cmpZ p.n q.n, cmpZ p.t.c q.t.c, cmpZ p.t.s q.t.s, cmpZ p.t.m q.t.m, cmpZ p.t.x q.t.x] := by
  unfold cmpW
  rw [orN_or]
  have e := orN_cmp (numsC p) (numsC q) rfl
  have e2 : List.zipWith cmpZ (numsC p) (numsC q) = [cmpZ p.a q.a, cmpZ p.b q.b, cmpZ p.d q.d, cmpZ p.n q.n, cmpZ p.t.c q.t.c, cmpZ p.t.s q.t.s, cmpZ p.t.m q.t.m, cmpZ p.t.x q.t.x] := rfl
  rw [e2] at e
  show _ = orN (LM.cmpS p.k q.k :: [cmpZ p.a q.a, cmpZ p.b q.b, cmpZ p.d q.d, cmpZ p.n q.n, cmpZ p.t.c q.t.c, cmpZ p.t.s q.t.s, cmpZ p.t.m q.t.m, cmpZ p.t.x q.t.x])
  unfold cmpP kLt
  by_cases h : Op.bytesLess p.k.toList q.k.toList = true
  · have hS : LM.cmpS p.k q.k = -1 := by unfold LM.cmpS; rw [if_pos h]
    rw [hS, orN_ne (by decide), if_pos h]
  · have hb := ba_beq p.k q.k
    rw [if_neg h]
    by_cases hk : p.k = q.k
    · have hS : LM.cmpS p.k q.k = 0 := by unfold LM.cmpS; rw [if_neg h, hb, decide_eq_true hk, if_pos rfl]
      rw [hS, orN_zero, e, if_pos hk]
    · have hS : LM.cmpS p.k q.k = 1 := by unfold LM.cmpS; rw [if_neg h, hb, decide_eq_false hk, if_neg (by decide)]
      rw [hS, orN_ne (by decide), if_neg hk]
theorem cmpP_same (p : Pn) : cmpP p p = 0 := by
  unfold cmpP
  have h : kLt p.k p.k = false := by
    unfold kLt
    rw [LM.less_eq]
    exact decide_eq_false (List.lt_irrefl _)
  rw [h, if_neg (by decide), if_pos rfl, cmpL_eq]

theorem pn_eql (p q : Pn) (W : World) : (binOp .eql 29 (pnv p) (pnv q)).run Tryd.prog W = .ok (.bool (decide (p = q))) W := by
  have h := pn_ifs p q (fun b => (Result.ok (Value.bool (!b)) W : Result Value))
  simp only [Bool.not_not, Bool.not_false, Bool.not_true] at h
  rw [← h]
  go_simp

set_option maxRecDepth 100000 in
set_option maxHeartbeats 4000000 in
theorem compare_any (p q : Pn) (w : World) : Calls Tryd.prog 13 #[pnv p, pnv q] w fun e w' => e = .returned (.int .i64 (cmpP p q)) ∧ Calm w w' := by
  have S1 := al_size w (.cells (pnc p) 29)
  have A0 := al_old (al_new w (.cells (pnc p) 29)) (.cells (pnc q) 29)
  have B0 := al_new (w.alloc (.cells (pnc p) 29)) (.cells (pnc q) 29)
  rw [S1] at B0
  have HA := hide A0
  have HB := hide B0
  have T0 := hide (((Touch.refl (fun _ => False) w).alloc (.cells (pnc p) 29)).alloc (.cells (pnc q) 29))
  have EQ : Hid (∀ W : World, (binOp .eql 29 (pnv p) (pnv q)).run Tryd.prog W = .ok (.bool (decide (p = q))) W) := hide fun W => pn_eql p q W
  have CW := hide (fun W => cmpW_any p q W)
  have CD := hide (fun W => cmpK_any p.d q.d W)
  have CN := hide (fun W => cmpZ_any p.n q.n W)
  have CC := hide (fun W => cmpZ_any p.t.c q.t.c W)
  have CS := hide (fun W => cmpZ_any p.t.s q.t.s W)
  have CM := hide (fun W => cmpZ_any p.t.m q.t.m W)
  have CX := hide (fun W => cmpZ_any p.t.x q.t.x W)
  have HR := hide (cmpP_or p q)
  have HE : Hid (p = q → cmpP p q = 0) := hide (fun h => by rw [h]; exact cmpP_same q)
  clear A0 B0
  generalize cmpP p q = R at *
  generalize cmpW p q = x0 at *
  generalize cmpZ p.d q.d = x1 at *
  generalize cmpZ p.n q.n = x2 at *
  generalize cmpZ p.t.c q.t.c = x3 at *
  generalize cmpZ p.t.s q.t.s = x4 at *
  generalize cmpZ p.t.m q.t.m = x5 at *
  generalize cmpZ p.t.x q.t.x = x6 at *
  have CO := hide (fun (W : World) (g : Nat) (hm : encJ.Mem W (some ⟨g, 0, none⟩) [x0, x1, x2, x3, x4, x5, x6]) => or_any [x0, x1, x2, x3, x4, x5, x6] (some ⟨g, 0, none⟩) 7 W hm (by simp))
  rw [← HR.out] at CO
  have M0 : Hid (∀ W : World, encJ.Mem (W.alloc (.cells #[.int .i64 x0, .int .i64 x1, .int .i64 x2, .int .i64 x3, .int .i64 x4, .int .i64 x5, .int .i64 x6] 3)) (some ⟨W.heap.size, 0, none⟩) [x0, x1, x2, x3, x4, x5, x6]) := hide fun W => Rc.Mem.new W [x0, x1, x2, x3, x4, x5, x6] 3
  clear HR
  obtain ⟨⟨a0, a1, a2, a3, a4⟩, a5, a6, a7, a8⟩ := pn_cells HA.out
  obtain ⟨⟨b0, b1, b2, b3, b4⟩, b5, b6, b7, b8⟩ := pn_cells HB.out
  have eq := EQ.out
  clear EQ
  by_cases he : p = q
  · have hr := HE.out he
    rw [decide_eq_true he] at eq
    have HR := hide hr
    clear HE he hr CW CD CN CC CS CM CX CO M0
    go_enter Tryd.func13, Tryd.ntmps13
    go_wp2_with fail
    go_ret
    exact ⟨by rw [HR.out]; rfl, T0.out⟩
  rw [decide_eq_false he] at eq
  clear HE he
  go_enter Tryd.func13, Tryd.ntmps13
  go_wp2_with fail
  clear eq a0 a1 a2 a3 a4 a5 a6 a7 a8 b0 b1 b2 b3 b4 b5 b6 b7 b8
  generalize (w.alloc (.cells (pnc p) 29)).alloc (.cells (pnc q) 29) = w1 at *
  generalize w.heap.size = D at *
  refine wp_region_held (S := Calm w1) (by kernel_rfl) ?_
  have hT0 : Calm w1 { w1 with drawn := w1.drawn + 1 } := (Touch.refl _ w1).drew
  refine wpAnyH_yield 0 8 (pnv p) rfl rfl (by kernel_rfl) (by kernel_rfl) (by kernel_rfl) (fun _ _ _ h => h) (by kernel_rfl) (fun W hW => by obtain ⟨⟨c0, c1, c2, c3, c4⟩, c5, c6, c7, c8⟩ := pn_cells (hW.at HA.out); go_simp) (by assumption) rfl rfl ?_
  simp only [Act.put, List.setIfInBounds_toArray, List.set_cons_zero, List.set_cons_succ]
  refine wpAnyH_yield 1 9 (pnv q) rfl rfl (by kernel_rfl) (by kernel_rfl) (by kernel_rfl) (fun _ _ _ h => h) (by kernel_rfl) (fun W hW => by obtain ⟨⟨c0, c1, c2, c3, c4⟩, c5, c6, c7, c8⟩ := pn_cells (hW.at HB.out); go_simp) (by assumption) rfl rfl ?_
  simp only [Act.put, List.setIfInBounds_toArray, List.set_cons_zero, List.set_cons_succ]
  refine wpAnyH_yield 3 11 (.pointer (some ⟨D, 3, none⟩)) rfl rfl (by kernel_rfl) (by kernel_rfl) (by kernel_rfl) (fun _ _ _ h => h) (by kernel_rfl) (fun W hW => by go_simp) (by assumption) rfl rfl ?_
  simp only [Act.put, List.setIfInBounds_toArray, List.set_cons_zero, List.set_cons_succ]
  refine wpAnyH_yield 4 12 (.int .i64 p.d) rfl rfl (by kernel_rfl) (by kernel_rfl) (by kernel_rfl) (fun _ _ _ h => h) (by kernel_rfl) (fun W hW => by obtain ⟨⟨-, -, -, q, -⟩, -⟩ := pn_cells (hW.at HA.out); go_simp) (by assumption) rfl rfl ?_
  simp only [Act.put, List.setIfInBounds_toArray, List.set_cons_zero, List.set_cons_succ]
  refine wpAnyH_yield 5 13 (.pointer (some ⟨D + 1, 3, none⟩)) rfl rfl (by kernel_rfl) (by kernel_rfl) (by kernel_rfl) (fun _ _ _ h => h) (by kernel_rfl) (fun W hW => by go_simp) (by assumption) rfl rfl ?_
  simp only [Act.put, List.setIfInBounds_toArray, List.set_cons_zero, List.set_cons_succ]
  refine wpAnyH_yield 6 14 (.int .i64 q.d) rfl rfl (by kernel_rfl) (by kernel_rfl) (by kernel_rfl) (fun _ _ _ h => h) (by kernel_rfl) (fun W hW => by obtain ⟨⟨-, -, -, q, -⟩, -⟩ := pn_cells (hW.at HB.out); go_simp) (by assumption) rfl rfl ?_
  simp only [Act.put, List.setIfInBounds_toArray, List.set_cons_zero, List.set_cons_succ]
  refine wpAnyH_yield 8 16 (.pointer (some ⟨D, 4, none⟩)) rfl rfl (by kernel_rfl) (by kernel_rfl) (by kernel_rfl) (fun _ _ _ h => h) (by kernel_rfl) (fun W hW => by go_simp) (by assumption) rfl rfl ?_
  simp only [Act.put, List.setIfInBounds_toArray, List.set_cons_zero, List.set_cons_succ]
  refine wpAnyH_yield 9 17 (.int .i64 p.n) rfl rfl (by kernel_rfl) (by kernel_rfl) (by kernel_rfl) (fun _ _ _ h => h) (by kernel_rfl) (fun W hW => by obtain ⟨⟨-, -, -, -, q⟩, -⟩ := pn_cells (hW.at HA.out); go_simp) (by assumption) rfl rfl ?_
  simp only [Act.put, List.setIfInBounds_toArray, List.set_cons_zero, List.set_cons_succ]
  refine wpAnyH_yield 10 18 (.pointer (some ⟨D + 1, 4, none⟩)) rfl rfl (by kernel_rfl) (by kernel_rfl) (by kernel_rfl) (fun _ _ _ h => h) (by kernel_rfl) (fun W hW => by go_simp) (by assumption) rfl rfl ?_
  simp only [Act.put, List.setIfInBounds_toArray, List.set_cons_zero, List.set_cons_succ]
  refine wpAnyH_yield 11 19 (.int .i64 q.n) rfl rfl (by kernel_rfl) (by kernel_rfl) (by kernel_rfl) (fun _ _ _ h => h) (by kernel_rfl) (fun W hW => by obtain ⟨⟨-, -, -, -, q⟩, -⟩ := pn_cells (hW.at HB.out); go_simp) (by assumption) rfl rfl ?_
  simp only [Act.put, List.setIfInBounds_toArray, List.set_cons_zero, List.set_cons_succ]
  refine wpAnyH_yield 13 21 (.pointer (some ⟨D, 5, none⟩)) rfl rfl (by kernel_rfl) (by kernel_rfl) (by kernel_rfl) (fun _ _ _ h => h) (by kernel_rfl) (fun W hW => by go_simp) (by assumption) rfl rfl ?_
  simp only [Act.put, List.setIfInBounds_toArray, List.set_cons_zero, List.set_cons_succ]
  refine wpAnyH_yield 14 22 (.pointer (some ⟨D, 5, none⟩)) rfl rfl (by kernel_rfl) (by kernel_rfl) (by kernel_rfl) (fun _ _ _ h => h) (by kernel_rfl) (fun W hW => by go_simp) (by assumption) rfl rfl ?_
  simp only [Act.put, List.setIfInBounds_toArray, List.set_cons_zero, List.set_cons_succ]
  refine wpAnyH_yield 15 23 (.int .i64 p.t.c) rfl rfl (by kernel_rfl) (by kernel_rfl) (by kernel_rfl) (fun _ _ _ h => h) (by kernel_rfl) (fun W hW => by obtain ⟨-, q, -⟩ := pn_cells (hW.at HA.out); go_simp) (by assumption) rfl rfl ?_
  simp only [Act.put, List.setIfInBounds_toArray, List.set_cons_zero, List.set_cons_succ]
  refine wpAnyH_yield 16 24 (.pointer (some ⟨D + 1, 5, none⟩)) rfl rfl (by kernel_rfl) (by kernel_rfl) (by kernel_rfl) (fun _ _ _ h => h) (by kernel_rfl) (fun W hW => by go_simp) (by assumption) rfl rfl ?_
  simp only [Act.put, List.setIfInBounds_toArray, List.set_cons_zero, List.set_cons_succ]
  refine wpAnyH_yield 17 25 (.pointer (some ⟨D + 1, 5, none⟩)) rfl rfl (by kernel_rfl) (by kernel_rfl) (by kernel_rfl) (fun _ _ _ h => h) (by kernel_rfl) (fun W hW => by go_simp) (by assumption) rfl rfl ?_
  simp only [Act.put, List.setIfInBounds_toArray, List.set_cons_zero, List.set_cons_succ]
  refine wpAnyH_yield 18 26 (.int .i64 q.t.c) rfl rfl (by kernel_rfl) (by kernel_rfl) (by kernel_rfl) (fun _ _ _ h => h) (by kernel_rfl) (fun W hW => by obtain ⟨-, q, -⟩ := pn_cells (hW.at HB.out); go_simp) (by assumption) rfl rfl ?_
  simp only [Act.put, List.setIfInBounds_toArray, List.set_cons_zero, List.set_cons_succ]
  refine wpAnyH_yield 20 28 (.pointer (some ⟨D, 5, none⟩)) rfl rfl (by kernel_rfl) (by kernel_rfl) (by kernel_rfl) (fun _ _ _ h => h) (by kernel_rfl) (fun W hW => by go_simp) (by assumption) rfl rfl ?_
  simp only [Act.put, List.setIfInBounds_toArray, List.set_cons_zero, List.set_cons_succ]
  refine wpAnyH_yield 21 29 (.pointer (some ⟨D, 6, none⟩)) rfl rfl (by kernel_rfl) (by kernel_rfl) (by kernel_rfl) (fun _ _ _ h => h) (by kernel_rfl) (fun W hW => by go_simp) (by assumption) rfl rfl ?_
  simp only [Act.put, List.setIfInBounds_toArray, List.set_cons_zero, List.set_cons_succ]
  refine wpAnyH_yield 22 30 (.int .i64 p.t.s) rfl rfl (by kernel_rfl) (by kernel_rfl) (by kernel_rfl) (fun _ _ _ h => h) (by kernel_rfl) (fun W hW => by obtain ⟨-, -, q, -⟩ := pn_cells (hW.at HA.out); go_simp) (by assumption) rfl rfl ?_
  simp only [Act.put, List.setIfInBounds_toArray, List.set_cons_zero, List.set_cons_succ]
  refine wpAnyH_yield 23 31 (.pointer (some ⟨D + 1, 5, none⟩)) rfl rfl (by kernel_rfl) (by kernel_rfl) (by kernel_rfl) (fun _ _ _ h => h) (by kernel_rfl) (fun W hW => by go_simp) (by assumption) rfl rfl ?_
  simp only [Act.put, List.setIfInBounds_toArray, List.set_cons_zero, List.set_cons_succ]
  refine wpAnyH_yield 24 32 (.pointer (some ⟨D + 1, 6, none⟩)) rfl rfl (by kernel_rfl) (by kernel_rfl) (by kernel_rfl) (fun _ _ _ h => h) (by kernel_rfl) (fun W hW => by go_simp) (by assumption) rfl rfl ?_
  simp only [Act.put, List.setIfInBounds_toArray, List.set_cons_zero, List.set_cons_succ]
  refine wpAnyH_yield 25 33 (.int .i64 q.t.s) rfl rfl (by kernel_rfl) (by kernel_rfl) (by kernel_rfl) (fun _ _ _ h => h) (by kernel_rfl) (fun W hW => by obtain ⟨-, -, q, -⟩ := pn_cells (hW.at HB.out); go_simp) (by assumption) rfl rfl ?_
  simp only [Act.put, List.setIfInBounds_toArray, List.set_cons_zero, List.set_cons_succ]
  refine wpAnyH_yield 27 35 (.pointer (some ⟨D, 5, none⟩)) rfl rfl (by kernel_rfl) (by kernel_rfl) (by kernel_rfl) (fun _ _ _ h => h) (by kernel_rfl) (fun W hW => by go_simp) (by assumption) rfl rfl ?_
  simp only [Act.put, List.setIfInBounds_toArray, List.set_cons_zero, List.set_cons_succ]
  refine wpAnyH_yield 28 36 (.pointer (some ⟨D, 7, none⟩)) rfl rfl (by kernel_rfl) (by kernel_rfl) (by kernel_rfl) (fun _ _ _ h => h) (by kernel_rfl) (fun W hW => by go_simp) (by assumption) rfl rfl ?_
  simp only [Act.put, List.setIfInBounds_toArray, List.set_cons_zero, List.set_cons_succ]
  refine wpAnyH_yield 29 37 (.int .i64 p.t.m) rfl rfl (by kernel_rfl) (by kernel_rfl) (by kernel_rfl) (fun _ _ _ h => h) (by kernel_rfl) (fun W hW => by obtain ⟨-, -, -, q, -⟩ := pn_cells (hW.at HA.out); go_simp) (by assumption) rfl rfl ?_
  simp only [Act.put, List.setIfInBounds_toArray, List.set_cons_zero, List.set_cons_succ]
  refine wpAnyH_yield 30 38 (.pointer (some ⟨D + 1, 5, none⟩)) rfl rfl (by kernel_rfl) (by kernel_rfl) (by kernel_rfl) (fun _ _ _ h => h) (by kernel_rfl) (fun W hW => by go_simp) (by assumption) rfl rfl ?_
  simp only [Act.put, List.setIfInBounds_toArray, List.set_cons_zero, List.set_cons_succ]
  refine wpAnyH_yield 31 39 (.pointer (some ⟨D + 1, 7, none⟩)) rfl rfl (by kernel_rfl) (by kernel_rfl) (by kernel_rfl) (fun _ _ _ h => h) (by kernel_rfl) (fun W hW => by go_simp) (by assumption) rfl rfl ?_
  simp only [Act.put, List.setIfInBounds_toArray, List.set_cons_zero, List.set_cons_succ]
  refine wpAnyH_yield 32 40 (.int .i64 q.t.m) rfl rfl (by kernel_rfl) (by kernel_rfl) (by kernel_rfl) (fun _ _ _ h => h) (by kernel_rfl) (fun W hW => by obtain ⟨-, -, -, q, -⟩ := pn_cells (hW.at HB.out); go_simp) (by assumption) rfl rfl ?_
  simp only [Act.put, List.setIfInBounds_toArray, List.set_cons_zero, List.set_cons_succ]
  refine wpAnyH_yield 34 42 (.pointer (some ⟨D, 5, none⟩)) rfl rfl (by kernel_rfl) (by kernel_rfl) (by kernel_rfl) (fun _ _ _ h => h) (by kernel_rfl) (fun W hW => by go_simp) (by assumption) rfl rfl ?_
  simp only [Act.put, List.setIfInBounds_toArray, List.set_cons_zero, List.set_cons_succ]
  refine wpAnyH_yield 35 43 (.pointer (some ⟨D, 8, none⟩)) rfl rfl (by kernel_rfl) (by kernel_rfl) (by kernel_rfl) (fun _ _ _ h => h) (by kernel_rfl) (fun W hW => by go_simp) (by assumption) rfl rfl ?_
  simp only [Act.put, List.setIfInBounds_toArray, List.set_cons_zero, List.set_cons_succ]
  refine wpAnyH_yield 36 44 (.int .i64 p.t.x) rfl rfl (by kernel_rfl) (by kernel_rfl) (by kernel_rfl) (fun _ _ _ h => h) (by kernel_rfl) (fun W hW => by obtain ⟨-, -, -, -, q⟩ := pn_cells (hW.at HA.out); go_simp) (by assumption) rfl rfl ?_
  simp only [Act.put, List.setIfInBounds_toArray, List.set_cons_zero, List.set_cons_succ]
  refine wpAnyH_yield 37 45 (.pointer (some ⟨D + 1, 5, none⟩)) rfl rfl (by kernel_rfl) (by kernel_rfl) (by kernel_rfl) (fun _ _ _ h => h) (by kernel_rfl) (fun W hW => by go_simp) (by assumption) rfl rfl ?_
  simp only [Act.put, List.setIfInBounds_toArray, List.set_cons_zero, List.set_cons_succ]
  refine wpAnyH_yield 38 46 (.pointer (some ⟨D + 1, 8, none⟩)) rfl rfl (by kernel_rfl) (by kernel_rfl) (by kernel_rfl) (fun _ _ _ h => h) (by kernel_rfl) (fun W hW => by go_simp) (by assumption) rfl rfl ?_
  simp only [Act.put, List.setIfInBounds_toArray, List.set_cons_zero, List.set_cons_succ]
  refine wpAnyH_yield 39 47 (.int .i64 q.t.x) rfl rfl (by kernel_rfl) (by kernel_rfl) (by kernel_rfl) (fun _ _ _ h => h) (by kernel_rfl) (fun W hW => by obtain ⟨-, -, -, -, q⟩ := pn_cells (hW.at HB.out); go_simp) (by assumption) rfl rfl ?_
  simp only [Act.put, List.setIfInBounds_toArray, List.set_cons_zero, List.set_cons_succ]
  refine wpAnyH_enter 2 10 31 #[pnv p, pnv q] rfl rfl (by kernel_rfl) (by kernel_rfl) (by kernel_rfl) ?_
  refine (CW.out _).mono ?_
  rintro r wx ⟨rfl, Tx⟩
  have hT1 : Calm w1 wx := hT0.tr Tx
  refine ⟨_, rfl, hT1, ?_⟩
  simp only [Act.put, List.setIfInBounds_toArray, List.set_cons_zero, List.set_cons_succ]
  refine wpAnyH_enter 7 15 32 #[.int .i64 p.d, .int .i64 q.d] rfl rfl (by kernel_rfl) (by kernel_rfl) (by kernel_rfl) ?_
  refine (CD.out _).mono ?_
  rintro r wy ⟨rfl, hq⟩
  obtain rfl := hq.symm
  refine ⟨_, rfl, hT1, ?_⟩
  simp only [Act.put, List.setIfInBounds_toArray, List.set_cons_zero, List.set_cons_succ]
  refine wpAnyH_enter 12 20 33 #[.int .i64 p.n, .int .i64 q.n] rfl rfl (by kernel_rfl) (by kernel_rfl) (by kernel_rfl) ?_
  refine (CN.out _).mono ?_
  rintro r wy ⟨rfl, hq⟩
  obtain rfl := hq.symm
  refine ⟨_, rfl, hT1, ?_⟩
  simp only [Act.put, List.setIfInBounds_toArray, List.set_cons_zero, List.set_cons_succ]
  refine wpAnyH_enter 19 27 33 #[.int .i64 p.t.c, .int .i64 q.t.c] rfl rfl (by kernel_rfl) (by kernel_rfl) (by kernel_rfl) ?_
  refine (CC.out _).mono ?_
  rintro r wy ⟨rfl, hq⟩
  obtain rfl := hq.symm
  refine ⟨_, rfl, hT1, ?_⟩
  simp only [Act.put, List.setIfInBounds_toArray, List.set_cons_zero, List.set_cons_succ]
  refine wpAnyH_enter 26 34 33 #[.int .i64 p.t.s, .int .i64 q.t.s] rfl rfl (by kernel_rfl) (by kernel_rfl) (by kernel_rfl) ?_
  refine (CS.out _).mono ?_
  rintro r wy ⟨rfl, hq⟩
  obtain rfl := hq.symm
  refine ⟨_, rfl, hT1, ?_⟩
  simp only [Act.put, List.setIfInBounds_toArray, List.set_cons_zero, List.set_cons_succ]
  refine wpAnyH_enter 33 41 33 #[.int .i64 p.t.m, .int .i64 q.t.m] rfl rfl (by kernel_rfl) (by kernel_rfl) (by kernel_rfl) ?_
  refine (CM.out _).mono ?_
  rintro r wy ⟨rfl, hq⟩
  obtain rfl := hq.symm
  refine ⟨_, rfl, hT1, ?_⟩
  simp only [Act.put, List.setIfInBounds_toArray, List.set_cons_zero, List.set_cons_succ]
  refine wpAnyH_enter 40 48 33 #[.int .i64 p.t.x, .int .i64 q.t.x] rfl rfl (by kernel_rfl) (by kernel_rfl) (by kernel_rfl) ?_
  refine (CX.out _).mono ?_
  rintro r wy ⟨rfl, hq⟩
  obtain rfl := hq.symm
  refine ⟨_, rfl, hT1, ?_⟩
  simp only [Act.put, List.setIfInBounds_toArray, List.set_cons_zero, List.set_cons_succ]
  have M1 := M0.out wx
  have hT2 : Calm w1 (wx.alloc (.cells #[.int .i64 x0, .int .i64 x1, .int .i64 x2, .int .i64 x3, .int .i64 x4, .int .i64 x5, .int .i64 x6] 3)) := hT1.alloc _
  refine wpAnyH_value 41 49 (.slice (some ⟨wx.heap.size, 0, none⟩) 7 7) (w' := wx.alloc (.cells #[.int .i64 x0, .int .i64 x1, .int .i64 x2, .int .i64 x3, .int .i64 x4, .int .i64 x5, .int .i64 x6] 3)) rfl rfl (by kernel_rfl) (by kernel_rfl) (by go_simp) hT2 ?_
  simp only [Act.put, List.setIfInBounds_toArray, List.set_cons_zero, List.set_cons_succ]
  generalize wx.alloc (.cells #[.int .i64 x0, .int .i64 x1, .int .i64 x2, .int .i64 x3, .int .i64 x4, .int .i64 x5, .int .i64 x6] 3) = w3 at *
  refine wpAnyH_enter 42 50 30 #[.slice (some ⟨wx.heap.size, 0, none⟩) 7 7] rfl rfl (by kernel_rfl) (by kernel_rfl) (by kernel_rfl) ?_
  refine (CO.out _ _ M1).mono ?_
  rintro r w4 ⟨rfl, T4⟩
  have hT4 : Calm w1 w4 := hT2.tr T4
  refine ⟨_, rfl, hT4, ?_⟩
  simp only [Act.put, List.setIfInBounds_toArray, List.set_cons_zero, List.set_cons_succ]
  refine wpAnyH_yield 43 4 (.int .i64 R) rfl rfl (by kernel_rfl) (by kernel_rfl) (by kernel_rfl) (fun _ _ _ h => h) (by kernel_rfl) (fun W hW => by kernel_rfl) (by assumption) rfl rfl ?_
  simp only [Act.put, List.setIfInBounds_toArray, List.set_cons_zero, List.set_cons_succ]
  refine wpAnyH_done (by kernel_rfl) ?_ _
  have HF := hide (T0.out.tr hT4)
  clear hT0 hT1 hT2 T4 hT4 M1 Tx
  go_wp2_with fail
  go_ret
  exact ⟨rfl, HF.out⟩

end Go.Proofs.YtamfcmmhmfhhkaaDoor

namespace Go.Proofs.YtamfcmmhmfhhkaaDoor
open Go.RowKit

/-- Only rows of bytes above a mark have turned. -/
structure Wr (B : Nat) (w W : World) : Prop where
  below : Below B w W
  kept : Lib.OthersKept 5 none w W
theorem Wr.refl (B : Nat) (w : World) : Wr B w w := ⟨Below.refl _ _, Lib.OthersKept.refl _ _ _⟩
theorem Wr.trans {B : Nat} {a b c : World} (h : Wr B a b) (k : Wr B b c) : Wr B a c := ⟨h.below.trans k.below, h.kept.trans k.kept⟩
theorem Wr.calm {B : Nat} {w W : World} (h : Calm w W) (hB : B ≤ w.heap.size) : Wr B w W :=
  ⟨⟨h.os, h.tape, h.output, h.size, fun k hk => h.block k (by omega) (fun h => h)⟩, fun _ _ hk _ _ => h.at hk⟩
theorem Wr.row {B : Nat} {w W : World} {v : Value} {L : List Int} (ho : encB.Own 5 w B v L) (ht : Touch (fun d => v.ownBlock = some d) w W) (hB : B ≤ w.heap.size) : Wr B w W :=
  ⟨⟨ht.os, ht.tape, ht.output, ht.size, fun k hk => ht.block k (by omega) (fun hs => by have := (Rc.own_block ho hs).1; omega)⟩, fun k o hk _ hn => ht.heap hk (fun hs => by
    obtain ⟨-, cur, hc⟩ := Rc.own_block ho hs
    rw [hk] at hc
    injection hc with hc
    exact hn _ _ hc)⟩
theorem Wr.at {B : Nat} {w W : World} (h : Wr B w W) {g : Nat} {cs : Array Value} {t : TypeId} (hg : w.heap[g]? = some (.cells cs t (0, 0))) (ht : t ≠ 5) : W.heap[g]? = some (.cells cs t (0, 0)) :=
  h.kept g _ hg (fun h => (nomatch h)) (fun c fz e => by injection e with _ e; exact ht e)
theorem Wr.size {B : Nat} {w W : World} (h : Wr B w W) : w.heap.size ≤ W.heap.size := h.below.size

/-- New bytes more, and where the row lies then. -/
theorem by_appM {w : World} {base : Nat} {ao : Option Addr} {cap : Nat} {A : List Int} (M : List Int) (h : encB.Own 5 w base (.slice ao A.length cap) A) (hs : base ≤ w.heap.size) (hn : A.length + M.length ≤ 100000000000000) :
    ∃ a2 p2 w4, (Builtin.append_ #[55, 55] 55 #[.slice ao A.length cap, .slice (some ⟨w.heap.size, 0, none⟩) M.length M.length]).run Tryd.prog (w.alloc (.cells (encB.flat M).toArray 5)) = .ok (.slice a2 (A ++ M).length p2) w4 ∧
      encB.Own 5 w4 base (.slice a2 (A ++ M).length p2) (A ++ M) ∧ Touch (fun d => (Value.slice ao A.length cap).ownBlock = some d) w w4 ∧
      (∀ d, (Value.slice a2 (A ++ M).length p2).ownBlock = some d → (Value.slice ao A.length cap).ownBlock = some d ∨ w.heap.size ≤ d) := by
  obtain ⟨i0, hi, hz, hsz, hby⟩ := Rc.info_parts infoByte
  have own := Rc.Own.calm h ((Touch.refl (fun _ => False) w).alloc (.cells (encB.flat M).toArray 5))
  have hs1 := al_size w (.cells (encB.flat M).toArray 5)
  obtain ⟨a2, p2, w4, hr, ow, t2, hx⟩ := Rc.Own.appw (E := encB) (ty := 55) Tryd.underlying55 hi hz hsz hby rfl own (some ⟨w.heap.size, 0, none⟩) M.length M (Rc.Mem.new w M 5) (fun h => (nomatch h)) (by unfold maxLen; omega) (by omega) (by omega) (by omega)
  exact ⟨a2, p2, w4, hr, ow, Touch.trans (((Touch.refl (fun _ => False) w).alloc _).mono fun _ _ h => h.elim) t2 fun _ _ h => h, fun d hd => (hx d hd).imp (fun h => h) (fun h => by omega)⟩

theorem bsL_app (a b : ByteArray) : bsL (a ++ b) = bsL a ++ bsL b := by
  unfold bsL
  rw [ByteArray.data_append, Array.toList_append, List.map_append]
theorem bs_of {L : List Int} (h : ∀ x ∈ L, 0 ≤ x ∧ x < 256) : bsL (strOfNums L) = L := by
  unfold bsL
  rw [strOfNums_data, List.map_map]
  conv => rhs; rw [← List.map_id L]
  apply List.map_congr_left
  intro x hx
  obtain ⟨h0, h1⟩ := h x hx
  show ((UInt8.ofNat x.toNat).toNat : Int) = x
  rw [UInt8.toNat_ofNat']
  omega
theorem hexB_byte {n : Int} (h0 : 0 ≤ n) (h1 : n < 16) : 0 ≤ hexB n ∧ hexB n < 256 := by
  unfold hexB
  split <;> omega
theorem escL_in {b : Int} (h0 : 0 ≤ b) (h1 : b < 256) : ∀ x ∈ escL b, 0 ≤ x ∧ x < 256 := by
  unfold escL
  split
  · intro x hx; rw [List.mem_singleton] at hx; subst hx; exact ⟨h0, h1⟩
  · intro x hx
    have a := hexB_byte (n := b / 16) (by omega) (by omega)
    have c := hexB_byte (n := b % 16) (by omega) (by omega)
    simp only [List.mem_cons, List.not_mem_nil, or_false] at hx
    rcases hx with rfl | rfl | rfl | rfl
    · omega
    · omega
    · exact a
    · exact c
theorem quoA_in (s : ByteArray) : ∀ x ∈ quoA s, 0 ≤ x ∧ x < 256 := by
  intro x hx
  unfold quoA quoL at hx
  rcases List.mem_append.1 hx with hx | hx
  · rcases List.mem_cons.1 hx with rfl | hx
    · omega
    · obtain ⟨u, -, hx⟩ := List.mem_flatMap.1 hx
      exact escL_in (by omega) (by have := u.toNat_lt; omega) x hx
  · rw [List.mem_singleton] at hx; subst hx; omega
theorem bs_quo (s : ByteArray) : bsL (strOfNums (quoA s)) = quoA s := bs_of (quoA_in s)
theorem bs_bl : bsL blB = [32] := rfl

set_option maxRecDepth 100000 in
theorem appendInt_any (x : Int) (h0 : -9223372036854775808 ≤ x) (h1 : x ≤ 9223372036854775807) (A : List Int) (v : Value) (w : World) (B : Nat) (ho : encB.Own 5 w B v A) (hB : B ≤ w.heap.size) (hl : A.length ≤ 1000000000) (ht : Lib.TabBelow Tryd.prog B w "internal/strconv.uint64pow10" .u64 Lib.pow10Tab) :
    Calls Tryd.prog 41 #[v, .int .i64 x, .int .i64 10] w fun e w' => ∃ a c, e = .returned (.slice a (A ++ bsL (intB x)).length c) ∧ encB.Own 5 w' B (.slice a (A ++ bsL (intB x)).length c) (A ++ bsL (intB x)) ∧ Wr B w w' := by
  refine (Any.strconv_AppendInt_10 Tryd.laysM176 B A.length x h0 h1 v (encB.flat A) w ho hB (by omega) ht).mono ?_
  rintro e w' ⟨v', rfl, ho', hb, hk⟩
  have e1 : encB.flat (bsL (intB x)) = Lib.byteCells (Lib.itoa x) := by
    rw [bsL_flat]
    rfl
  have e2 : (bsL (intB x)).length = (Lib.itoa x).length := by
    rw [bsL_len]
    show (Lib.itoa x).toArray.size = _
    rw [List.size_toArray]
  have ho2 : encB.Own 5 w' B v' (A ++ bsL (intB x)) := by
    unfold Rc.Enc.Own
    rw [encB.flat_append, List.length_append, e1, e2]
    exact ho'
  obtain ⟨a, c, hv⟩ := Rc.own_shape ho2
  subst hv
  exact ⟨a, c, rfl, ho2, hb, hk⟩

end Go.Proofs.YtamfcmmhmfhhkaaDoor

namespace Go.Proofs.YtamfcmmhmfhhkaaDoor
open Go.RowKit

abbrev hexD : ByteArray := ⟨#[48, 49, 50, 51, 52, 53, 54, 55, 56, 57, 97, 98, 99, 100, 101, 102]⟩
theorem hexD_at (n : Nat) (h : n < 16) : ((hexD[n]'h).toNat : Int) = hexB (n : Int) := by
  rcases (by omega : n = 0 ∨ n = 1 ∨ n = 2 ∨ n = 3 ∨ n = 4 ∨ n = 5 ∨ n = 6 ∨ n = 7 ∨ n = 8 ∨ n = 9 ∨ n = 10 ∨ n = 11 ∨ n = 12 ∨ n = 13 ∨ n = 14 ∨ n = 15) with rfl | rfl | rfl | rfl | rfl | rfl | rfl | rfl | rfl | rfl | rfl | rfl | rfl | rfl | rfl | rfl <;> rfl
theorem hexD_run (n : Nat) (h : n < 16) (W : World) : (Instr.index 9 (.string hexD) (.int .u8 (n : Int))).run Tryd.prog W = .ok (.int .u8 (hexB (n : Int))) W := by
  have hs : hexD.size = 16 := rfl
  rw [run_index_string W 9 hexD .u8 (n : Int) Tryd.underlying9, dif_pos ⟨by omega, by rw [hs]; omega⟩, ← hexD_at n h]
  rfl
theorem nums_run (p : Pn) (i : Nat) (h : i < 7) (W : World) : (Instr.index 76 (.agg #[.int .i64 p.a, .int .i64 p.b, .int .i64 p.n, .int .i64 p.t.c, .int .i64 p.t.s, .int .i64 p.t.m, .int .i64 p.t.x]) (.int .i64 (i : Int))).run Tryd.prog W = .ok (.int .i64 ((numsP p).getD i 0)) W := by
  have hu := Tryd.underlying76
  rcases (by omega : i = 0 ∨ i = 1 ∨ i = 2 ∨ i = 3 ∨ i = 4 ∨ i = 5 ∨ i = 6) with rfl | rfl | rfl | rfl | rfl | rfl | rfl <;> simp [Instr.index, run_underlying hu, asIntOf, go_sem, numsP]

set_option maxRecDepth 100000 in
set_option maxHeartbeats 8000000 in
theorem write_any (p : Pn) (hm : mayP p = true) (hp : NumOk p) (A : List Int) (ao : Option Addr) (cap : Nat) (w : World) (B : Nat) (ho : encB.Own 5 w B (.slice ao A.length cap) A) (hB : B ≤ w.heap.size) (hA : A.length ≤ 100000000) (ht : Lib.TabBelow Tryd.prog B w "internal/strconv.uint64pow10" .u64 Lib.pow10Tab) (hk : Kds w) (hg : 0 < B) :
    Calls Tryd.prog 24 #[.slice ao A.length cap, pnv p] w fun e w' => ∃ a c, e = .returned (.slice a (A ++ bsL (lineB p)).length c) ∧ encB.Own 5 w' B (.slice a (A ++ bsL (lineB p)).length c) (A ++ bsL (lineB p)) ∧ Wr B w w' := by
  have hks : p.k.size ≤ 256 := by unfold mayP at hm; exact (of_decide_eq_true hm).1
  have hd := (by unfold mayP at hm; exact (of_decide_eq_true hm).2 : 1 ≤ p.d ∧ p.d ≤ 3)
  obtain ⟨j, hj⟩ : ∃ j : Nat, p.d = (j : Int) := ⟨p.d.toNat, by omega⟩
  have hj1 : 1 ≤ j ∧ j ≤ 3 := by omega
  have QS : Hid (∀ i (h : i < p.k.size), A ++ quoL p.k (i + 1) = (A ++ quoL p.k i) ++ escL ((p.k[i]'h).toNat : Int)) := hide fun i h => by rw [quoL_succ h, List.append_assoc]
  have QL : Hid (∀ i, i ≤ p.k.size → (A ++ quoL p.k i).length ≤ 100002000) := hide fun i hi => by
    rw [List.length_append]
    have := quoL_len (s := p.k) i hi
    omega
  have Q0 : Hid (A ++ quoL p.k 0 = A ++ [34]) := hide (by simp [quoL])
  have T0 : Hid (((A ++ quoL p.k p.k.size) ++ [34, 32]) ++ bsL (kdB j) = A ++ bsL (txL p 0)) := hide (by
    have e : kdB j = nameB p.d := by unfold kdB; rw [if_neg (by omega), hj]
    rw [e, txL, bsL_app, bsL_app, bs_quo, bs_bl]
    unfold quoA
    simp)
  have TS : Hid (∀ i, i < 7 → A ++ bsL (txL p (i + 1)) = ((A ++ bsL (txL p i)) ++ [32]) ++ bsL (intB ((numsP p).getD i 0))) := hide fun i _ => by
    rw [txL, bsL_app, bsL_app, bs_bl]
    simp
  have TL : Hid (∀ i, i ≤ 7 → (A ++ bsL (txL p i)).length ≤ 100002000) := hide fun i hi => by
    rw [List.length_append, bsL_len]
    have := txL_size hks hp i hi
    omega
  have TE : Hid (A ++ bsL (txL p 7) = A ++ bsL (lineB p)) := hide rfl
  have KL : Hid ((bsL (kdB j)).length ≤ 10) := hide (by
    rw [bsL_len]
    unfold kdB
    rw [if_neg (by omega)]
    have := nameB_size (j : Int)
    omega)
  have KC : Hid (∀ W, Below B w W → W.cell? ⟨0, j, none⟩ = some (.string (kdB j))) := hide fun W hW => by
    have h1 := hk j (by omega)
    unfold World.cell? at h1 ⊢
    rw [hW.block _ hg]
    exact h1
  have IX := hide (fun i (h : i < 7) W => nums_run p i h W)
  have NI := hide (fun i (h : i < 7) => hp i h)
  have CI := hide (fun x h0 h1 A' v' (W : World) ho' hB' hl' ht' => appendInt_any x h0 h1 A' v' W B ho' hB' hl' ht')
  have P0 := hide (al_new w (.cells (pnc p) 29))
  have W0 := hide (Wr.calm (B := B) ((Touch.refl (fun _ => False) w).alloc (.cells (pnc p) 29)) hB)
  have O0 := Rc.Own.calm ho ((Touch.refl (fun _ => False) w).alloc (.cells (pnc p) 29))
  have HT := hide ht
  have S0 := al_size w (.cells (pnc p) 29)
  obtain ⟨a1, p1, w1, hr1, ow1, t1, -⟩ := by_appM [34] O0 (by omega) (by simp only [List.length_cons, List.length_nil]; omega)
  rw [← Q0.out] at hr1 ow1
  have hr1' : (Builtin.append_ #[55, 55] 55 #[.slice ao A.length cap, .slice (some ⟨w.heap.size + 1, 0, none⟩) 1 1]).run Tryd.prog ((w.alloc (.cells (pnc p) 29)).alloc (.cells #[.int .u8 34] 5)) = .ok (.slice a1 (A ++ quoL p.k 0).length p1) w1 := by
    have h := hr1
    rw [S0] at h
    exact h
  have HR1 := hide hr1'
  have W1 := hide (W0.out.trans (Wr.row O0 t1 (by omega)))
  have P1 := hide ((Wr.row O0 t1 (by omega)).at P0.out (by decide))
  have H1 := hide ow1
  generalize hq : (fun i => A ++ quoL p.k i) = q at *
  have hq' : ∀ i, A ++ quoL p.k i = q i := fun i => by rw [← hq]
  generalize htx : (fun i => A ++ bsL (txL p i)) = tx at *
  have htx' : ∀ i, A ++ bsL (txL p i) = tx i := fun i => by rw [← htx]
  simp only [hq', htx'] at QS QL T0 TS TL TE H1 HR1
  clear hq hq' htx htx' hr1 hr1' ow1 t1 O0 P0 W0 Q0 hk ho hp hm ht hd
  generalize A ++ bsL (lineB p) = Z at *
  have HD : Hid (p.d = (j : Int)) := hide hj
  clear hj
  obtain ⟨⟨c0, c1, c2, c3, c4⟩, c5, c6, c7, c8⟩ := pn_cells P1.out
  have CV0 := Lib.run_convert_string_bytes (P := Tryd.prog) w1 9 55 5 p.k Tryd.underlying9 Tryd.underlying55 Tryd.underlying5
  have CW0 := Lib.bytesWorld_at_new w1 5 p.k
  have CC0 := fun i hi => Lib.bytesWorld_cell w1 5 p.k i hi
  have TW : Calm w1 (Lib.bytesWorld w1 5 p.k) := calm_below (Lib.bytesWorld_below _ _ _)
  generalize Lib.bytesWorld w1 5 p.k = w2 at *
  generalize hG : (Obj.cells (Lib.bytesCells w1 5 p.k) 5 ((Lib.bytesCells w1 5 p.k).size, (Lib.bytesCells w1 5 p.k).size + 1)) = G at *
  generalize grownCap w1 p.k.size 0 5 = cp at *
  have N1 : Hid ((Value.slice a1 (q 0).length p1).ownBlock ≠ some w1.heap.size) := hide (fun e => by
    obtain ⟨-, cur, hc⟩ := Rc.own_block H1.out e
    have := lt_of_heap hc
    omega)
  generalize w1.heap.size = g at *
  have BC : Hid (∀ W : World, W.heap[g]? = some G → ∀ i (h : i < p.k.size), W.cell? ⟨g, i, none⟩ = some (.int .u8 (((p.k[i]'h).toNat : Nat) : Int))) := hide fun W hW i h => by
    have h1 := CC0 i h
    have e : W.cell? ⟨g, i, none⟩ = w2.cell? ⟨g, i, none⟩ := by unfold World.cell?; rw [hW, CW0]
    rw [e, h1]
    congr 3
    have h' : i < p.k.data.toList.length := by rw [Array.length_toList]; exact h
    rw [List.getD_eq_getElem?_getD, List.getElem?_eq_getElem h']
    rfl
  have H2 := hide (Rc.Own.calm H1.out TW)
  have GW := hide CW0
  have W2 := hide (W1.out.trans (Wr.calm TW (by have := W1.out.size; omega)))
  have P2 := hide (TW.at P1.out)
  have Z2 : Hid (B ≤ w2.heap.size) := hide (by have := W2.out.size; omega)
  clear CC0 CW0 TW hG H1 P1
  have CV := hide CV0
  clear CV0
  have HB := hide hB
  go_enter Tryd.func24, Tryd.ntmps24
  have cv := CV.out
  go_wp2_with (at_builtin; refine Rc.wpList_appR rfl (.tmp 9) (.tmp 10) 55 55 rfl _ _ _ rfl rfl HR1.out ?_)
  clear cv CV HR1 c0 c1 c2 c3 c4 c5 c6 c7 c8 hB
  generalize w.heap.size = D at *
  go_loopw [0, 16] (fun s0 s16 wr => ∃ (i : Nat) (a : Option Addr) (c : Nat), s16 = .int .i64 (i : Int) ∧ i ≤ p.k.size ∧ s0 = .slice a (q i).length c ∧ encB.Own 5 wr B (.slice a (q i).length c) (q i) ∧ Wr B w2 wr ∧ wr.heap[g]? = some G ∧ Hid ((Value.slice a (q i).length c).ownBlock ≠ some g)) (fun _ s16 _ => p.k.size - (intOf s16).toNat)
  case atStart => exact ⟨0, _, _, rfl, by omega, rfl, H2.out, Wr.refl _ _, GW.out, N1⟩
  case round =>
    obtain ⟨i, a, c, rfl, hi, rfl, OW, TR, hg2, HN⟩ := hrel
    clear H2 GW N1
    have BW : Hid (B ≤ wr.heap.size) := hide (by have := TR.size; have := Z2.out; omega)
    by_cases hlt : i < p.k.size
    · have hltz : (i : Int) < (p.k.size : Int) := by omega
      have hs1 := QS.out i hlt
      have hl1 := QL.out i hi
      have cb := BC.out wr hg2 i hlt
      obtain ⟨b, hb⟩ : ∃ b : Nat, (p.k[i]'hlt).toNat = b := ⟨_, rfl⟩
      have hb255 : b < 256 := by rw [← hb]; exact (p.k[i]'hlt).toNat_lt
      rw [hb] at hs1 cb
      have CT := hide (fun W => itself_any (b : Int) W)
      clear QS QL BC T0 TS TL TE KL KC IX NI CI HT hb
      have APP : Hid (∀ M : List Int, q i ++ M = q (i + 1) → M.length ≤ 4 → ∀ W, Calm wr W → ∃ a4 c4 w4, (Builtin.append_ #[55, 55] 55 #[.slice a (q i).length c, .slice (some ⟨W.heap.size, 0, none⟩) M.length M.length]).run Tryd.prog (W.alloc (.cells (encB.flat M).toArray 5)) = .ok (.slice a4 (q (i + 1)).length c4) w4 ∧
          encB.Own 5 w4 B (.slice a4 (q (i + 1)).length c4) (q (i + 1)) ∧ Wr B w2 w4 ∧ w4.heap[g]? = some G ∧ Hid ((Value.slice a4 (q (i + 1)).length c4).ownBlock ≠ some g) ∧ Touch (fun d => (Value.slice a (q i).length c).ownBlock = some d) W w4) := hide fun M hM hM4 W hW => by
        have ow0 := Rc.Own.calm OW hW
        have hsz := hW.size
        obtain ⟨a4, c4, w4, hr, ow, t2, hx⟩ := by_appM M ow0 (by have := BW.out; omega) (by omega)
        rw [hM] at hr ow hx
        refine ⟨a4, c4, w4, hr, ow, (TR.trans (Wr.calm hW BW.out)).trans (Wr.row ow0 t2 (by have := BW.out; omega)), t2.heap (hW.at hg2) (fun e => HN.out e), hide (fun e => ?_), t2⟩
        rcases hx g e with h | h
        · exact HN.out h
        · have := lt_of_heap hg2
          omega
      by_cases hp : 32 ≤ b ∧ b ≤ 126 ∧ b ≠ 34 ∧ b ≠ 92
      · have hE : q i ++ [(b : Int)] = q (i + 1) := by rw [hs1]; unfold escL; rw [if_pos ⟨by omega, by omega, by omega, by omega⟩]
        have hit : itB (b : Int) = true := decide_eq_true ⟨by omega, by omega, by omega, by omega⟩
        rw [hit] at CT
        obtain ⟨a4, c4, w4, hr, ow, t3, h4, hn4, -⟩ := APP.out [(b : Int)] hE (by simp) wr (Touch.refl _ _)
        have hr' : (Builtin.append_ #[55, 55] 55 #[.slice a (q i).length c, .slice (some ⟨wr.heap.size, 0, none⟩) 1 1]).run Tryd.prog (wr.alloc (.cells #[.int .u8 (b : Int)] 5)) = .ok (.slice a4 (q (i + 1)).length c4) w4 := hr
        have HR := hide hr'
        have HO := hide ow
        have H3 := hide t3
        have H4 := hide h4
        clear hr hr' ow t3 h4 APP hE hit hp hs1 hl1 OW TR hg2 HN BW
        go_wp2_with fail
        refine (CT.out _).mono ?_
        rintro r w5 ⟨rfl, hq5⟩
        obtain rfl := hq5.symm
        clear hq5
        go_wp2_with (at_builtin; refine Rc.wpList_appR rfl (.tmp 22) (.tmp 24) 55 55 rfl _ _ _ rfl rfl HR.out ?_)
        go_roundw
        case rel => exact ⟨i + 1, a4, c4, by go_num, by omega, rfl, HO.out, H3.out, H4.out, hn4⟩
        case measure => simp [intOf]; omega
      · have hE : q i ++ [92, 120, hexB ((b : Int) / 16), hexB ((b : Int) % 16)] = q (i + 1) := by rw [hs1]; unfold escL; rw [if_neg (fun h => hp ⟨by omega, by omega, by omega, by omega⟩)]
        have hit : itB (b : Int) = false := decide_eq_false fun h => hp ⟨by omega, by omega, by omega, by omega⟩
        rw [hit] at CT
        obtain ⟨m, hm⟩ : ∃ m, b / 16 = m := ⟨_, rfl⟩
        obtain ⟨n, hn⟩ : ∃ n, b % 16 = n := ⟨_, rfl⟩
        have hm16 : m < 16 := by omega
        have hn16 : n < 16 := by omega
        have hm16z : (m : Int) < 16 := by omega
        have hn16z : (n : Int) < 16 := by omega
        have hmz : (b : Int) / 16 = (m : Int) := by omega
        have hnz0 : (b : Int) % 16 = (n : Int) := by omega
        have hnz : bits .and .u8 (b : Int) 15 = (n : Int) := (u8_and15 (b : Int) (by omega) (by omega)).trans hnz0
        rw [hmz, hnz0] at hE
        have R1 := hide (hexD_at m hm16)
        have R2 := hide (hexD_at n hn16)
        generalize hexB (m : Int) = x at *
        generalize hexB (n : Int) = y at *
        have HM := hide hmz
        have HN2 := hide hnz
        clear hm hn hmz hnz hnz0
        have HE := hide hE
        clear hE hit hp hs1 hl1 OW TR hg2 HN BW
        go_wp2_with fail
        refine (CT.out _).mono ?_
        rintro r w5 ⟨rfl, hq5⟩
        obtain rfl := hq5.symm
        clear hq5 cb
        go_wp2_with fail
        refine wp_region_held (S := Touch (fun d => (Value.slice a (q i).length c).ownBlock = some d) wr) (by kernel_rfl) ?_
        have hT0 : Touch (fun d => (Value.slice a (q i).length c).ownBlock = some d) wr { wr with drawn := wr.drawn + 1 } := (Touch.refl _ wr).drew
        have hC0 : Calm wr { wr with drawn := wr.drawn + 1 } := (Touch.refl _ wr).drew
        refine wpAnyH_yield 0 26 (.slice a (q i).length c) rfl rfl (by kernel_rfl) (by kernel_rfl) (by kernel_rfl) (fun _ _ _ h => h) (by kernel_rfl) (fun W hW => by kernel_rfl) (by assumption) rfl rfl ?_
        simp only [Act.put, List.setIfInBounds_toArray, List.set_cons_zero, List.set_cons_succ]
        refine wpAnyH_yield 1 27 (.int .u8 (b : Int)) rfl rfl (by kernel_rfl) (by kernel_rfl) (by kernel_rfl) (fun _ _ _ h => h) (by kernel_rfl) (fun W hW => by kernel_rfl) (by assumption) rfl rfl ?_
        simp only [Act.put, List.setIfInBounds_toArray, List.set_cons_zero, List.set_cons_succ]
        refine wpAnyH_yield 2 28 (.int .u8 (m : Int)) rfl rfl (by kernel_rfl) (by kernel_rfl) (by kernel_rfl) (fun _ _ _ h => h) (by kernel_rfl) (fun W hW => by have z := HM.out; go_simp) (by assumption) rfl rfl ?_
        simp only [Act.put, List.setIfInBounds_toArray, List.set_cons_zero, List.set_cons_succ]
        refine wpAnyH_yield 3 29 (.int .u8 x) rfl rfl (by kernel_rfl) (by kernel_rfl) (by kernel_rfl) (fun _ _ _ h => h) (by kernel_rfl) (fun W hW => by have z := R1.out; go_simp) (by assumption) rfl rfl ?_
        simp only [Act.put, List.setIfInBounds_toArray, List.set_cons_zero, List.set_cons_succ]
        refine wpAnyH_yield 4 30 (.int .u8 (b : Int)) rfl rfl (by kernel_rfl) (by kernel_rfl) (by kernel_rfl) (fun _ _ _ h => h) (by kernel_rfl) (fun W hW => by kernel_rfl) (by assumption) rfl rfl ?_
        simp only [Act.put, List.setIfInBounds_toArray, List.set_cons_zero, List.set_cons_succ]
        refine wpAnyH_yield 5 31 (.int .u8 (n : Int)) rfl rfl (by kernel_rfl) (by kernel_rfl) (by kernel_rfl) (fun _ _ _ h => h) (by kernel_rfl) (fun W hW => by have z := HN2.out; go_simp) (by assumption) rfl rfl ?_
        simp only [Act.put, List.setIfInBounds_toArray, List.set_cons_zero, List.set_cons_succ]
        refine wpAnyH_yield 6 32 (.int .u8 y) rfl rfl (by kernel_rfl) (by kernel_rfl) (by kernel_rfl) (fun _ _ _ h => h) (by kernel_rfl) (fun W hW => by have z := R2.out; go_simp) (by assumption) rfl rfl ?_
        simp only [Act.put, List.setIfInBounds_toArray, List.set_cons_zero, List.set_cons_succ]
        have hr0 := APP.out [92, 120, x, y] HE.out (by simp) _ hC0
        generalize ({ wr with drawn := wr.drawn + 1 } : World) = wD at *
        obtain ⟨a4, c4, w4, hr, ow, t3, h4, hn4, t4⟩ := hr0
        have hr' : (Builtin.append_ #[55, 55] 55 #[.slice a (q i).length c, .slice (some ⟨wD.heap.size, 0, none⟩) 4 4]).run Tryd.prog (wD.alloc (.cells #[.int .u8 92, .int .u8 120, .int .u8 x, .int .u8 y] 5)) = .ok (.slice a4 (q (i + 1)).length c4) w4 := hr
        have hT4 : Touch (fun d => (Value.slice a (q i).length c).ownBlock = some d) wr w4 := hT0.trans t4 (fun _ _ h => h)
        refine wpAnyH_value 7 33 (.slice (some ⟨wD.heap.size, 0, none⟩) 4 4) (w' := wD.alloc (.cells #[.int .u8 92, .int .u8 120, .int .u8 x, .int .u8 y] 5)) rfl rfl (by kernel_rfl) (by kernel_rfl) (by go_simp) (hT0.alloc _) ?_
        simp only [Act.put, List.setIfInBounds_toArray, List.set_cons_zero, List.set_cons_succ]
        refine wpAnyH_value 8 34 (.slice a4 (q (i + 1)).length c4) (w' := w4) rfl rfl (by kernel_rfl) (by kernel_rfl) (exec_apk (.tmp 26) (.tmp 33) 55 55 rfl _ _ _ rfl rfl hr') hT4 ?_
        simp only [Act.put, List.setIfInBounds_toArray, List.set_cons_zero, List.set_cons_succ]
        have HO := hide ow
        have H3 := hide t3
        have H4 := hide h4
        clear hr hr' ow t3 h4 APP t4 HE R1 R2 HM HN2
        refine wpAnyH_yield 9 0 (.slice a4 (q (i + 1)).length c4) rfl rfl (by kernel_rfl) (by kernel_rfl) (by kernel_rfl) (fun _ _ _ h => h) (by kernel_rfl) (fun W hW => by kernel_rfl) (by assumption) rfl rfl ?_
        simp only [Act.put, List.setIfInBounds_toArray, List.set_cons_zero]
        refine wpAnyH_done (by kernel_rfl) ?_ _
        clear hT0 hC0 hT4
        go_wp2_with fail
        go_roundw
        case rel => exact ⟨i + 1, a4, c4, by go_num, by omega, rfl, HO.out, H3.out, H4.out, hn4⟩
        case measure => simp [intOf]; omega
    · have hltz : ¬ (i : Int) < (p.k.size : Int) := by omega
      obtain rfl : i = p.k.size := by omega
      have hl1 := QL.out _ hi
      obtain ⟨a2, c2, w3, hr2, ow2, t2, -⟩ := by_appM [34, 32] OW BW.out (by simp only [List.length_cons, List.length_nil]; omega)
      have T3 := Wr.row OW t2 BW.out
      have Z3 : B ≤ w3.heap.size := by have := T3.size; have := BW.out; omega
      have e2 : (q p.k.size ++ [34, 32]).length = (q p.k.size).length + 2 := by simp
      obtain ⟨a3, c3, w4, hr3, ow3, t3⟩ := by_appS (kdB j) ow2 Z3 (by rw [e2]; have := KL.out; rw [bsL_len] at this; omega)
      rw [T0.out] at ow3 hr3
      have TT := (TR.trans T3).trans (Wr.row ow2 t3 Z3)
      have HR2' : (Builtin.append_ #[55, 55] 55 #[.slice a (q p.k.size).length c, .slice (some ⟨wr.heap.size, 0, none⟩) 2 2]).run Tryd.prog (wr.alloc (.cells #[.int .u8 34, .int .u8 32] 5)) = .ok (.slice a2 (q p.k.size ++ [34, 32]).length c2) w3 := hr2
      have HR2 := hide HR2'
      have HR3 := hide hr3
      have H3 := hide ow3
      have W4 := hide TT
      have P3 := hide ((TR.trans T3).at P2.out (by decide))
      have P4 := hide (TT.at P2.out (by decide))
      have K3 := hide (KC.out w3 (W2.out.trans (TR.trans T3)).below)
      have HD2 := HD.out
      have hj4 : (j : Int) < 4 := by omega
      have hj0 : (0 : Int) ≤ (j : Int) := by omega
      clear hr2 HR2' hr3 ow2 ow3 t2 t3 T3 Z3 e2 hl1 OW TR hg2 HN BW QS QL BC
      obtain ⟨⟨d0, d1, d2, d3, d4⟩, d5, d6, d7, d8⟩ := pn_cells P3.out
      obtain ⟨⟨c0, c1, c2', c3', c4⟩, c5, c6, c7, c8⟩ := pn_cells P4.out
      rw [HD2] at d3
      have k3 := K3.out
      generalize (q p.k.size ++ [34, 32]).length = l2 at *
      go_wp2_with (at_builtin; first | refine Rc.wpList_appR rfl (.tmp 36) (.tmp 37) 55 55 rfl _ _ _ rfl rfl HR2.out ?_ | refine Rc.wpList_appR rfl (.tmp 39) (.tmp 43) 55 9 rfl _ _ _ rfl rfl HR3.out ?_)
      clear k3 K3 d0 d1 d2 d3 d4 d5 d6 d7 d8 c0 c1 c2' c3' c4 c5 c6 c7 c8 HR2 HR3 P3 P4 P2 KC KL T0
      go_loopw [0, 66] (fun s0 s66 wr => ∃ (i : Nat) (a : Option Addr) (c : Nat), s66 = .int .i64 (i : Int) ∧ i ≤ 7 ∧ s0 = .slice a (tx i).length c ∧ encB.Own 5 wr B (.slice a (tx i).length c) (tx i) ∧ Wr B w2 wr) (fun _ s66 _ => 7 - (intOf s66).toNat)
      case atStart => exact ⟨0, _, _, rfl, by omega, rfl, H3.out, W4.out⟩
      case round =>
        obtain ⟨i, a, c, rfl, hi, rfl, OW, TR⟩ := hrel
        clear H3 W4
        have BW : Hid (B ≤ wr.heap.size) := hide (by have := TR.size; have := Z2.out; omega)
        by_cases hlt : i < 7
        · have hltz : (i : Int) < 7 := by omega
          have ix := IX.out i hlt wr
          have hl1 := TL.out i hi
          have hts := TS.out i hlt
          obtain ⟨n0, n1⟩ := NI.out i hlt
          obtain ⟨a2, c2, w3, hr2, ow2, t2, -⟩ := by_appM [32] OW BW.out (by simp only [List.length_cons, List.length_nil]; omega)
          have T3 := Wr.row OW t2 BW.out
          have Z3 : B ≤ w3.heap.size := by have := T3.size; have := BW.out; omega
          have e2 : (tx i ++ [32]).length = (tx i).length + 1 := by simp
          have C3 := CI.out ((numsP p).getD i 0) n0 n1 (tx i ++ [32]) (.slice a2 (tx i ++ [32]).length c2) w3 ow2 Z3 (by rw [e2]; omega) (HT.out.on (W2.out.trans (TR.trans T3)).below)
          rw [← hts] at C3
          have hr2' : (Builtin.append_ #[55, 55] 55 #[.slice a (tx i).length c, .slice (some ⟨wr.heap.size, 0, none⟩) 1 1]).run Tryd.prog (wr.alloc (.cells #[.int .u8 32] 5)) = .ok (.slice a2 (tx i ++ [32]).length c2) w3 := hr2
          have HR2 := hide hr2'
          have HC3 := hide C3
          have W3 := hide (TR.trans T3)
          clear hr2 hr2' ow2 t2 T3 Z3 e2 hl1 OW TR BW C3 hts n0 n1 IX NI TS TL TE CI HT
          generalize (numsP p).getD i 0 = x at *
          generalize (tx i ++ [32]).length = l2 at *
          go_wp2_with (at_builtin; refine Rc.wpList_appR rfl (.tmp 69) (.tmp 70) 55 55 rfl _ _ _ rfl rfl HR2.out ?_)
          refine HC3.out.mono ?_
          rintro r w5 ⟨a5, c5, rfl, o5, T5⟩
          have O5 := hide o5
          have W5 := hide (W3.out.trans T5)
          clear o5 T5 HC3 HR2 ix
          go_wp2_with fail
          go_roundw
          case rel => exact ⟨i + 1, a5, c5, by go_num, by omega, rfl, O5.out, W5.out⟩
          case measure => simp [intOf]; omega
        · have hltz : ¬ (i : Int) < 7 := by omega
          obtain rfl : i = 7 := by omega
          have HO := hide OW
          have HW := hide (W2.out.trans TR)
          clear OW TR IX NI TS TL CI HT BW
          go_wp2_with fail
          go_ret
          refine ⟨a, c, ?_, ?_, HW.out⟩
          · rw [← TE.out]; rfl
          · rw [← TE.out]; exact HO.out

end Go.Proofs.YtamfcmmhmfhhkaaDoor
