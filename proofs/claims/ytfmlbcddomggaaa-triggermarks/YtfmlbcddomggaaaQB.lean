/- The program's tests of a window: isDue, isPassed, isFull, tells. -/
import Derived.Test.YtfmlbcddomggaaaVA
import Derived.Test.YtfmlbcddomggaaaYS
import Derived.Laws.Tables
import Derived.BigQuiet
namespace Go.Proofs.Ytfmlbcddomggaaa
open Go.RowKit

/-- A window with what its panes hang on. -/
structure As where
  x : Wn
  e : Int
  f : Int
  t : Int
abbrev asc (y : As) : Array Value := #[.int .i64 y.x.a, .int .i64 y.x.b, .int .i64 y.x.h, .int .i64 y.x.t.c, .int .i64 y.x.t.s, .int .i64 y.x.t.m, .int .i64 y.x.t.x, .int .i64 y.x.n, .int .i64 y.x.p, .int .i64 y.e, .int .i64 y.f, .int .i64 y.t]
abbrev asv (y : As) : Value := .agg (asc y)
theorem as_cells {w : World} {b : Nat} {y : As} {ty : TypeId} (h : w.heap[b]? = some (.cells (asc y) ty (0, 0))) :
    (w.cell? ⟨b, 0, none⟩ = some (.int .i64 y.x.a) ∧ w.cell? ⟨b, 1, none⟩ = some (.int .i64 y.x.b) ∧ w.cell? ⟨b, 2, none⟩ = some (.int .i64 y.x.h)) ∧
    (w.cell? ⟨b, 3, none⟩ = some (.int .i64 y.x.t.c) ∧ w.cell? ⟨b, 4, none⟩ = some (.int .i64 y.x.t.s) ∧ w.cell? ⟨b, 5, none⟩ = some (.int .i64 y.x.t.m) ∧ w.cell? ⟨b, 6, none⟩ = some (.int .i64 y.x.t.x)) ∧
    (w.cell? ⟨b, 7, none⟩ = some (.int .i64 y.x.n) ∧ w.cell? ⟨b, 8, none⟩ = some (.int .i64 y.x.p) ∧ w.cell? ⟨b, 9, none⟩ = some (.int .i64 y.e) ∧ w.cell? ⟨b, 10, none⟩ = some (.int .i64 y.f) ∧ w.cell? ⟨b, 11, none⟩ = some (.int .i64 y.t)) := by simp [World.cell?, h]

/-- Is it due; has the mark come to its end just now; did enough come. -/
def dueA (y : As) : Bool := decide (y.x.b ≤ y.t)
def pasA (y : As) : Bool := decide (y.f < y.x.b) && decide (y.x.b ≤ y.t)
def fulA (y : As) : Bool := decide (¬ y.e = 0) && decide (y.e ≤ y.x.n)
def telA (d : Int) (y : As) : Bool := if d = 1 then fulA y else if d = 2 then pasA y else dueA y

set_option maxRecDepth 100000 in
theorem due_any (y : As) (w : World) : Calls Try.prog 36 #[asv y] w fun e w' => e = .returned (.bool (dueA y)) ∧ Calm w w' := by
  have T0 := hide ((Touch.refl (fun _ => False) w).alloc (.cells (asc y) 62))
  have hd : (decide (y.x.b ≤ y.t)) = dueA y := rfl
  go_enter Try.func36, Try.ntmps36
  go_wp2_with fail
  go_ret
  exact ⟨rfl, T0.out⟩

set_option maxRecDepth 100000 in
theorem full_any (y : As) (w : World) : Calls Try.prog 34 #[asv y] w fun e w' => e = .returned (.bool (fulA y)) ∧ Calm w w' := by
  have T0 := hide ((Touch.refl (fun _ => False) w).alloc (.cells (asc y) 62))
  by_cases he : y.e = 0
  · have hf : fulA y = false := by unfold fulA; simp [he]
    go_enter Try.func34, Try.ntmps34
    go_wp2_with fail
    go_ret
    exact ⟨by rw [hf]; rfl, T0.out⟩
  · have hf : fulA y = decide (y.e ≤ y.x.n) := by unfold fulA; simp [he]
    go_enter Try.func34, Try.ntmps34
    go_wp2_with fail
    go_ret
    exact ⟨by rw [hf]; show Ending.returned (.bool (y.e != 0 && decide (y.e ≤ y.x.n))) = _; simp [he], T0.out⟩

set_option maxRecDepth 100000 in
theorem pass_any (y : As) (w : World) : Calls Try.prog 35 #[asv y] w fun e w' => e = .returned (.bool (pasA y)) ∧ Calm w w' := by
  have T0 := hide ((Touch.refl (fun _ => False) w).alloc (.cells (asc y) 62))
  have CD := fun w => hide (due_any y w)
  by_cases he : y.f < y.x.b
  · have hf : Hid (pasA y = dueA y) := hide (by unfold pasA dueA; simp [he])
    have hd : decide (y.f < y.x.b) = true := decide_eq_true he
    clear he
    go_enter Try.func35, Try.ntmps35
    go_wp2_with fail
    refine (CD _).out.mono ?_
    rintro e w1 ⟨rfl, T1⟩
    have HT := hide (T0.out.tr T1)
    clear T1
    go_wp2_with fail
    go_ret
    exact ⟨by rw [hf.out]; rfl, HT.out⟩
  · have hf : Hid (pasA y = false) := hide (by unfold pasA; simp [he])
    have hd : decide (y.f < y.x.b) = false := decide_eq_false he
    clear he
    go_enter Try.func35, Try.ntmps35
    go_wp2_with fail
    go_ret
    exact ⟨by rw [hf.out]; rfl, T0.out⟩

/-- A whole row is stored; what lies there then is X. -/
theorem wpList_store_X {P : Program} {ops : Array Oper} {rest : List Oper} {o : Oper} {a : Act} {w : World} {Q : Exit → Act → World → Prop} (hgd : o.guard = none) (hdst : o.dst = none) (ty : TypeId) (x y : Operand) (ho : o.op = .store ty x y)
    (g : Nat) (cells : Array Value) (hx : a.eval x = .pointer (some ⟨g, 0, none⟩)) (hy : a.eval y = .agg cells)
    (t : TypeId) (old : Array Value) (hg : w.heap[g]? = some (.cells old t (0, 0))) (hi : (P.info? ty).map (·.size) = some cells.size)
    (hold : old.size = cells.size) (h1 : cells.all (·.oneCell') = true) (X : World) (hX : X = w.setRow g cells)
    (h : wpList P ops Q rest a X) : wpList P ops Q (o :: rest) a w :=
  wpList_store_row hgd ty x y ho g cells hx hy t old hg hi hold h1 (by rw [hdst, ← hX]; exact h)

/-- The kinds' tests. -/
abbrev tst : Array Value := #[.nilFunc, .func (.func 34) #[] #[], .func (.func 35) #[] #[], .func (.func 36) #[] #[]]

theorem tst_cells {w : World} {b : Nat} {ty : TypeId} (h : w.heap[b]? = some (.cells tst ty (0, 0))) :
    w.cell? ⟨b, 1, none⟩ = some (.func (.func 34) #[] #[]) ∧ w.cell? ⟨b, 2, none⟩ = some (.func (.func 35) #[] #[]) ∧ w.cell? ⟨b, 3, none⟩ = some (.func (.func 36) #[] #[]) := by simp [World.cell?, h]

set_option maxRecDepth 100000 in
theorem tells_1 (y : As) (w : World) : Calls Try.prog 24 #[asv y, .int .i64 1] w fun e w' => e = .returned (.bool (fulA y)) ∧ Calm w w' := by
  have CD := fun w => hide (full_any y w)
  have g3 : ((w.alloc (.cells (asc y) 62)).alloc (.cells #[.nilFunc, .nilFunc, .nilFunc, .nilFunc] 71)).heap[w.heap.size + 1]? = some (.cells #[.nilFunc, .nilFunc, .nilFunc, .nilFunc] 71 (0, 0)) := by
    have := al_new (w.alloc (.cells (asc y) 62)) (.cells #[.nilFunc, .nilFunc, .nilFunc, .nilFunc] 71)
    rwa [al_size] at this
  have g2 := al_old (al_new w (.cells (asc y) 62)) (.cells #[.nilFunc, .nilFunc, .nilFunc, .nilFunc] 71)
  have hi4 : (Try.prog.info? 71).map (·.size) = some 4 := by kernel_rfl
  obtain ⟨X, eX⟩ : ∃ X, X = ((w.alloc (.cells (asc y) 62)).alloc (.cells #[.nilFunc, .nilFunc, .nilFunc, .nilFunc] 71)).setRow (w.heap.size + 1) tst := ⟨_, rfl⟩
  have x3 : X.heap[w.heap.size + 1]? = some (.cells tst 71 (0, 0)) := by rw [eX]; exact setRow_heap _ _ _ _ _ _ g3
  have x2 : X.heap[w.heap.size]? = some (.cells (asc y) 62 (0, 0)) := by rw [eX]; exact (setRow_other _ _ _ _ (by omega)).trans g2
  have tX : Calm w X := by
    rw [eX]
    exact (((Touch.refl (fun _ => False) w).alloc _).alloc _).trans (S' := fun g => g = w.heap.size + 1) ⟨rfl, rfl, rfl, by simp, fun j _ hj => setRow_other _ _ j _ hj⟩ (fun g hg e => by omega)
  have HONE : Hid (tst.all (·.oneCell') = true) := hide (by simp [Value.oneCell'])
  have HX3 := hide x3
  have HX2 := hide x2
  have HTX := hide tX
  have HEX := hide eX
  have HG3 := hide g3
  clear x3 x2 tX eX g3 g2
  go_enter Try.func24, Try.ntmps24
  go_wp2_with (refine wpList_store_X rfl rfl 71 (.tmp 5) (.tmp 6) rfl (w.heap.size + 1) tst rfl rfl 71 _ HG3.out hi4 rfl HONE.out X HEX.out ?_)
  refine wp_region_held (S := Calm X) (by kernel_rfl) ?_
  have hT0 : Calm X { X with drawn := X.drawn + 1 } := (Touch.refl (fun _ => False) X).drew
  refine wpAnyH_yield 0 7 (.int .i64 1) rfl rfl (by kernel_rfl) (by kernel_rfl) (by kernel_rfl) (fun _ _ _ h => h) (by kernel_rfl) (fun W hW => by kernel_rfl) (by assumption) rfl rfl ?_
  simp only [Act.put, List.setIfInBounds_toArray, List.set_cons_zero, List.set_cons_succ]
  refine wpAnyH_yield 1 8 (.pointer (some ⟨w.heap.size + 1, 1, none⟩)) rfl rfl (by kernel_rfl) (by kernel_rfl) (by kernel_rfl) (fun _ _ _ h => h) (by kernel_rfl) (fun W hW => by go_simp) (by assumption) rfl rfl ?_
  simp only [Act.put, List.setIfInBounds_toArray, List.set_cons_zero, List.set_cons_succ]
  refine wpAnyH_yield 2 9 (.func (.func 34) #[] #[]) rfl rfl (by kernel_rfl) (by kernel_rfl) (by kernel_rfl) (fun _ _ _ h => h) (by kernel_rfl) (fun W hW => by obtain ⟨c1, c2, c3⟩ := tst_cells (hW.at HX3.out); go_simp) (by assumption) rfl rfl ?_
  simp only [Act.put, List.setIfInBounds_toArray, List.set_cons_zero, List.set_cons_succ]
  refine wpAnyH_yield 3 10 (asv y) rfl rfl (by kernel_rfl) (by kernel_rfl) (by kernel_rfl) (fun _ _ _ h => h) (by kernel_rfl) (fun W hW => by obtain ⟨⟨c0, c1, c2⟩, ⟨c3, c4, c5, c6⟩, c7, c8, c9, c10, c11⟩ := as_cells (hW.at HX2.out); go_simp) (by assumption) rfl rfl ?_
  simp only [Act.put, List.setIfInBounds_toArray, List.set_cons_zero, List.set_cons_succ]
  refine wpAnyH_enter 4 11 34 #[asv y] rfl rfl (by kernel_rfl) (by kernel_rfl) (by kernel_rfl) ?_
  refine ((CD _).out).mono ?_
  rintro r w2 ⟨rfl, T2⟩
  refine ⟨_, rfl, hT0.tr T2, ?_⟩
  simp only [Act.put, List.setIfInBounds_toArray, List.set_cons_zero, List.set_cons_succ]
  have h2 := hT0.tr T2
  refine wpAnyH_yield 5 4 (.bool (fulA y)) rfl rfl (by kernel_rfl) (by kernel_rfl) (by kernel_rfl) (fun _ _ _ h => h) (by kernel_rfl) (fun W hW => by kernel_rfl) (by assumption) rfl rfl ?_
  simp only [Act.put, List.setIfInBounds_toArray, List.set_cons_zero, List.set_cons_succ]
  refine wpAnyH_done (by kernel_rfl) ?_ _
  have H2 := hide (HTX.out.tr h2)
  clear hT0 h2 T2
  go_wp2_with fail
  go_ret
  exact ⟨rfl, H2.out⟩

set_option maxRecDepth 100000 in
theorem tells_2 (y : As) (w : World) : Calls Try.prog 24 #[asv y, .int .i64 2] w fun e w' => e = .returned (.bool (pasA y)) ∧ Calm w w' := by
  have CD := fun w => hide (pass_any y w)
  have g3 : ((w.alloc (.cells (asc y) 62)).alloc (.cells #[.nilFunc, .nilFunc, .nilFunc, .nilFunc] 71)).heap[w.heap.size + 1]? = some (.cells #[.nilFunc, .nilFunc, .nilFunc, .nilFunc] 71 (0, 0)) := by
    have := al_new (w.alloc (.cells (asc y) 62)) (.cells #[.nilFunc, .nilFunc, .nilFunc, .nilFunc] 71)
    rwa [al_size] at this
  have g2 := al_old (al_new w (.cells (asc y) 62)) (.cells #[.nilFunc, .nilFunc, .nilFunc, .nilFunc] 71)
  have hi4 : (Try.prog.info? 71).map (·.size) = some 4 := by kernel_rfl
  obtain ⟨X, eX⟩ : ∃ X, X = ((w.alloc (.cells (asc y) 62)).alloc (.cells #[.nilFunc, .nilFunc, .nilFunc, .nilFunc] 71)).setRow (w.heap.size + 1) tst := ⟨_, rfl⟩
  have x3 : X.heap[w.heap.size + 1]? = some (.cells tst 71 (0, 0)) := by rw [eX]; exact setRow_heap _ _ _ _ _ _ g3
  have x2 : X.heap[w.heap.size]? = some (.cells (asc y) 62 (0, 0)) := by rw [eX]; exact (setRow_other _ _ _ _ (by omega)).trans g2
  have tX : Calm w X := by
    rw [eX]
    exact (((Touch.refl (fun _ => False) w).alloc _).alloc _).trans (S' := fun g => g = w.heap.size + 1) ⟨rfl, rfl, rfl, by simp, fun j _ hj => setRow_other _ _ j _ hj⟩ (fun g hg e => by omega)
  have HONE : Hid (tst.all (·.oneCell') = true) := hide (by simp [Value.oneCell'])
  have HX3 := hide x3
  have HX2 := hide x2
  have HTX := hide tX
  have HEX := hide eX
  have HG3 := hide g3
  clear x3 x2 tX eX g3 g2
  go_enter Try.func24, Try.ntmps24
  go_wp2_with (refine wpList_store_X rfl rfl 71 (.tmp 5) (.tmp 6) rfl (w.heap.size + 1) tst rfl rfl 71 _ HG3.out hi4 rfl HONE.out X HEX.out ?_)
  refine wp_region_held (S := Calm X) (by kernel_rfl) ?_
  have hT0 : Calm X { X with drawn := X.drawn + 1 } := (Touch.refl (fun _ => False) X).drew
  refine wpAnyH_yield 0 7 (.int .i64 2) rfl rfl (by kernel_rfl) (by kernel_rfl) (by kernel_rfl) (fun _ _ _ h => h) (by kernel_rfl) (fun W hW => by kernel_rfl) (by assumption) rfl rfl ?_
  simp only [Act.put, List.setIfInBounds_toArray, List.set_cons_zero, List.set_cons_succ]
  refine wpAnyH_yield 1 8 (.pointer (some ⟨w.heap.size + 1, 2, none⟩)) rfl rfl (by kernel_rfl) (by kernel_rfl) (by kernel_rfl) (fun _ _ _ h => h) (by kernel_rfl) (fun W hW => by go_simp) (by assumption) rfl rfl ?_
  simp only [Act.put, List.setIfInBounds_toArray, List.set_cons_zero, List.set_cons_succ]
  refine wpAnyH_yield 2 9 (.func (.func 35) #[] #[]) rfl rfl (by kernel_rfl) (by kernel_rfl) (by kernel_rfl) (fun _ _ _ h => h) (by kernel_rfl) (fun W hW => by obtain ⟨c1, c2, c3⟩ := tst_cells (hW.at HX3.out); go_simp) (by assumption) rfl rfl ?_
  simp only [Act.put, List.setIfInBounds_toArray, List.set_cons_zero, List.set_cons_succ]
  refine wpAnyH_yield 3 10 (asv y) rfl rfl (by kernel_rfl) (by kernel_rfl) (by kernel_rfl) (fun _ _ _ h => h) (by kernel_rfl) (fun W hW => by obtain ⟨⟨c0, c1, c2⟩, ⟨c3, c4, c5, c6⟩, c7, c8, c9, c10, c11⟩ := as_cells (hW.at HX2.out); go_simp) (by assumption) rfl rfl ?_
  simp only [Act.put, List.setIfInBounds_toArray, List.set_cons_zero, List.set_cons_succ]
  refine wpAnyH_enter 4 11 35 #[asv y] rfl rfl (by kernel_rfl) (by kernel_rfl) (by kernel_rfl) ?_
  refine ((CD _).out).mono ?_
  rintro r w2 ⟨rfl, T2⟩
  refine ⟨_, rfl, hT0.tr T2, ?_⟩
  simp only [Act.put, List.setIfInBounds_toArray, List.set_cons_zero, List.set_cons_succ]
  have h2 := hT0.tr T2
  refine wpAnyH_yield 5 4 (.bool (pasA y)) rfl rfl (by kernel_rfl) (by kernel_rfl) (by kernel_rfl) (fun _ _ _ h => h) (by kernel_rfl) (fun W hW => by kernel_rfl) (by assumption) rfl rfl ?_
  simp only [Act.put, List.setIfInBounds_toArray, List.set_cons_zero, List.set_cons_succ]
  refine wpAnyH_done (by kernel_rfl) ?_ _
  have H2 := hide (HTX.out.tr h2)
  clear hT0 h2 T2
  go_wp2_with fail
  go_ret
  exact ⟨rfl, H2.out⟩

set_option maxRecDepth 100000 in
theorem tells_3 (y : As) (w : World) : Calls Try.prog 24 #[asv y, .int .i64 3] w fun e w' => e = .returned (.bool (dueA y)) ∧ Calm w w' := by
  have CD := fun w => hide (due_any y w)
  have g3 : ((w.alloc (.cells (asc y) 62)).alloc (.cells #[.nilFunc, .nilFunc, .nilFunc, .nilFunc] 71)).heap[w.heap.size + 1]? = some (.cells #[.nilFunc, .nilFunc, .nilFunc, .nilFunc] 71 (0, 0)) := by
    have := al_new (w.alloc (.cells (asc y) 62)) (.cells #[.nilFunc, .nilFunc, .nilFunc, .nilFunc] 71)
    rwa [al_size] at this
  have g2 := al_old (al_new w (.cells (asc y) 62)) (.cells #[.nilFunc, .nilFunc, .nilFunc, .nilFunc] 71)
  have hi4 : (Try.prog.info? 71).map (·.size) = some 4 := by kernel_rfl
  obtain ⟨X, eX⟩ : ∃ X, X = ((w.alloc (.cells (asc y) 62)).alloc (.cells #[.nilFunc, .nilFunc, .nilFunc, .nilFunc] 71)).setRow (w.heap.size + 1) tst := ⟨_, rfl⟩
  have x3 : X.heap[w.heap.size + 1]? = some (.cells tst 71 (0, 0)) := by rw [eX]; exact setRow_heap _ _ _ _ _ _ g3
  have x2 : X.heap[w.heap.size]? = some (.cells (asc y) 62 (0, 0)) := by rw [eX]; exact (setRow_other _ _ _ _ (by omega)).trans g2
  have tX : Calm w X := by
    rw [eX]
    exact (((Touch.refl (fun _ => False) w).alloc _).alloc _).trans (S' := fun g => g = w.heap.size + 1) ⟨rfl, rfl, rfl, by simp, fun j _ hj => setRow_other _ _ j _ hj⟩ (fun g hg e => by omega)
  have HONE : Hid (tst.all (·.oneCell') = true) := hide (by simp [Value.oneCell'])
  have HX3 := hide x3
  have HX2 := hide x2
  have HTX := hide tX
  have HEX := hide eX
  have HG3 := hide g3
  clear x3 x2 tX eX g3 g2
  go_enter Try.func24, Try.ntmps24
  go_wp2_with (refine wpList_store_X rfl rfl 71 (.tmp 5) (.tmp 6) rfl (w.heap.size + 1) tst rfl rfl 71 _ HG3.out hi4 rfl HONE.out X HEX.out ?_)
  refine wp_region_held (S := Calm X) (by kernel_rfl) ?_
  have hT0 : Calm X { X with drawn := X.drawn + 1 } := (Touch.refl (fun _ => False) X).drew
  refine wpAnyH_yield 0 7 (.int .i64 3) rfl rfl (by kernel_rfl) (by kernel_rfl) (by kernel_rfl) (fun _ _ _ h => h) (by kernel_rfl) (fun W hW => by kernel_rfl) (by assumption) rfl rfl ?_
  simp only [Act.put, List.setIfInBounds_toArray, List.set_cons_zero, List.set_cons_succ]
  refine wpAnyH_yield 1 8 (.pointer (some ⟨w.heap.size + 1, 3, none⟩)) rfl rfl (by kernel_rfl) (by kernel_rfl) (by kernel_rfl) (fun _ _ _ h => h) (by kernel_rfl) (fun W hW => by go_simp) (by assumption) rfl rfl ?_
  simp only [Act.put, List.setIfInBounds_toArray, List.set_cons_zero, List.set_cons_succ]
  refine wpAnyH_yield 2 9 (.func (.func 36) #[] #[]) rfl rfl (by kernel_rfl) (by kernel_rfl) (by kernel_rfl) (fun _ _ _ h => h) (by kernel_rfl) (fun W hW => by obtain ⟨c1, c2, c3⟩ := tst_cells (hW.at HX3.out); go_simp) (by assumption) rfl rfl ?_
  simp only [Act.put, List.setIfInBounds_toArray, List.set_cons_zero, List.set_cons_succ]
  refine wpAnyH_yield 3 10 (asv y) rfl rfl (by kernel_rfl) (by kernel_rfl) (by kernel_rfl) (fun _ _ _ h => h) (by kernel_rfl) (fun W hW => by obtain ⟨⟨c0, c1, c2⟩, ⟨c3, c4, c5, c6⟩, c7, c8, c9, c10, c11⟩ := as_cells (hW.at HX2.out); go_simp) (by assumption) rfl rfl ?_
  simp only [Act.put, List.setIfInBounds_toArray, List.set_cons_zero, List.set_cons_succ]
  refine wpAnyH_enter 4 11 36 #[asv y] rfl rfl (by kernel_rfl) (by kernel_rfl) (by kernel_rfl) ?_
  refine ((CD _).out).mono ?_
  rintro r w2 ⟨rfl, T2⟩
  refine ⟨_, rfl, hT0.tr T2, ?_⟩
  simp only [Act.put, List.setIfInBounds_toArray, List.set_cons_zero, List.set_cons_succ]
  have h2 := hT0.tr T2
  refine wpAnyH_yield 5 4 (.bool (dueA y)) rfl rfl (by kernel_rfl) (by kernel_rfl) (by kernel_rfl) (fun _ _ _ h => h) (by kernel_rfl) (fun W hW => by kernel_rfl) (by assumption) rfl rfl ?_
  simp only [Act.put, List.setIfInBounds_toArray, List.set_cons_zero, List.set_cons_succ]
  refine wpAnyH_done (by kernel_rfl) ?_ _
  have H2 := hide (HTX.out.tr h2)
  clear hT0 h2 T2
  go_wp2_with fail
  go_ret
  exact ⟨rfl, H2.out⟩

end Go.Proofs.Ytfmlbcddomggaaa
