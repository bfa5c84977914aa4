/- Jobs: a job's numbers, and what each is from and to (the program's numbersOf, leastSlide, bounds). -/
import Derived.Test.YtapnjofplilefaaGreatC1
import Derived.Test.YtapnjofplilefaaGreatMRw
import Derived.Laws.Tables
import Derived.Test.YtapnjofplilefaaGreatSLast
namespace Go.Proofs.YtapnjofplilefaaGreat
open Go.RowKit

set_option maxRecDepth 100000 in
theorem numbersOf_any (c : Cf) (w : World) : Calls Tryz.prog 40 #[cfv c] w fun e w' => e = .returned (.agg (f10c (fldF c))) ∧ Calm w w' := by
  cases hd : c.di with
  | true =>
    have HF : Hid (f10c (fldF c) = #[.int .i64 c.gr, .int .i64 c.so, .int .i64 c.ki, .int .i64 c.sz, .int .i64 c.sl, .int .i64 c.of, .int .i64 c.gp, .int .i64 c.lt, .int .i64 c.ea, .int .i64 1]) := hide (by show #[_, _, _, _, _, _, _, _, _, Value.int .i64 (if c.di then 1 else 0)] = _; rw [hd]; rfl)
    go_enter Tryz.func40, Tryz.ntmps40
    go_wp2_with fail
    refine bodyPost_ret (results_cell_row rfl _ _ _ _ _ _ _ rfl (al3 w _ _ _).2.1 Tryz.underlying104 rfl (by kernel_rfl)) rfl ?_
    exact ⟨by rw [HF.out], (((Touch.refl _ w).alloc _).alloc _).alloc _⟩
  | false =>
    have HF : Hid (f10c (fldF c) = #[.int .i64 c.gr, .int .i64 c.so, .int .i64 c.ki, .int .i64 c.sz, .int .i64 c.sl, .int .i64 c.of, .int .i64 c.gp, .int .i64 c.lt, .int .i64 c.ea, .int .i64 0]) := hide (by show #[_, _, _, _, _, _, _, _, _, Value.int .i64 (if c.di then 1 else 0)] = _; rw [hd]; rfl)
    go_enter Tryz.func40, Tryz.ntmps40
    go_wp2_with fail
    refine bodyPost_ret (results_cell_row rfl _ _ _ _ _ _ _ rfl (al3 w _ _ _).2.1 Tryz.underlying104 rfl (by kernel_rfl)) rfl ?_
    exact ⟨by rw [HF.out], (((Touch.refl _ w).alloc _).alloc _).alloc _⟩

/-- The least slide. -/
def lsB (x : Int) : Int := wrap64 ((wrap64 (wrap64 (x + 64) - 1)).tdiv 64)
set_option maxRecDepth 100000 in
theorem leastSlide_any (x : Int) (w : World) : Calls Tryz.prog 69 #[.int .i64 x] w fun e w' => e = .returned (.int .i64 (lsB x)) ∧ w' = w := by
  go_enter Tryz.func69, Tryz.ntmps69
  go_wp2_with fail
  go_ret
  exact ⟨rfl, rfl⟩

/-- What each number is from, and what to. -/
def loB (f : Nat → Int) : Nat → Int
  | 0 => 1
  | 1 => 1
  | 2 => 1
  | 3 => if f 2 = 3 then 0 else 1
  | 4 => if f 2 = 2 then lsB (f 3) else 0
  | 6 => if f 2 = 3 then 1 else 0
  | _ => 0
def hiB (f : Nat → Int) : Nat → Int
  | 0 => 32768
  | 1 => 64
  | 2 => 3
  | 3 => if f 2 = 3 then 0 else 1099511627776
  | 4 => if f 2 = 2 then f 3 else 0
  | 5 => if f 2 = 2 then wrap64 (f 4 - 1) else if f 2 = 3 then 0 else wrap64 (f 3 - 1)
  | 6 => if f 2 = 3 then 1099511627776 else 0
  | 7 => 1099511627776
  | 8 => 2147483647
  | _ => 1
abbrev b20c (f : Nat → Int) : Array Value := #[.int .i64 (loB f 0), .int .i64 (hiB f 0), .int .i64 (loB f 1), .int .i64 (hiB f 1), .int .i64 (loB f 2), .int .i64 (hiB f 2), .int .i64 (loB f 3), .int .i64 (hiB f 3), .int .i64 (loB f 4), .int .i64 (hiB f 4), .int .i64 (loB f 5), .int .i64 (hiB f 5), .int .i64 (loB f 6), .int .i64 (hiB f 6), .int .i64 (loB f 7), .int .i64 (hiB f 7), .int .i64 (loB f 8), .int .i64 (hiB f 8), .int .i64 (loB f 9), .int .i64 (hiB f 9)]


/-- A store of a whole array, the frame left as it is. -/
theorem wpList_store_whole {P : Program} {ops : Array Oper} {rest : List Oper} {o : Oper} {a : Act} {w : World} {Q : Exit → Act → World → Prop} (hgd : o.guard = none) (hdst : o.dst = none) (ty : TypeId) (x y : Operand) (ho : o.op = .store ty x y)
    (g : Nat) (cells : Array Value) (hx : a.eval x = .pointer (some ⟨g, 0, none⟩)) (hy : a.eval y = .agg cells)
    (t : TypeId) (old : Array Value) (hg : w.heap[g]? = some (.cells old t (0, 0))) (hi : (P.info? ty).map (·.size) = some cells.size)
    (hold : old.size = cells.size) (h1 : cells.all (·.oneCell') = true)
    (h : wpList P ops Q rest a (w.setRow g cells)) : wpList P ops Q (o :: rest) a w :=
  wpList_store_row hgd ty x y ho g cells hx hy t old hg hi hold h1 (by rw [hdst]; exact h)

theorem wpList_built {P : Program} {ops : Array Oper} {rest : List Oper} {o : Oper} {a : Act} {w : World} {Q : Exit → Act → World → Prop} (hg : o.guard = none) (t : TypeId) (parts : Array (Nat × Operand)) (ho : o.op = .build t parts) (cells : Array Value)
    (hf : P.built t (parts.map fun (i, x) => (i, a.eval x)).toList = some cells) (h : wpList P ops Q rest (a.put o.dst (.agg cells)) w) : wpList P ops Q (o :: rest) a w :=
  wpList_build hg t parts ho (by rw [hf]; rfl) (by rw [hf]; exact h)

/-- Two cells of a block turned. -/
theorem set2 {w : World} {b : Nat} {cs : Array Value} {t : TypeId} (h : w.heap[b]? = some (.cells cs t (0, 0))) (i : Nat) (u v : Value) : ((w.setCell ⟨b, i, none⟩ u).setCell ⟨b, i + 1, none⟩ v).heap[b]? = some (.cells ((cs.setIfInBounds i u).setIfInBounds (i + 1) v) t (0, 0)) := heap_setCell_row (heap_setCell_row h u) v
theorem set2_touch {w0 w : World} (h : Calm w0 w) {b : Nat} (hb : w0.heap.size ≤ b) (i j : Nat) (u v : Value) : Calm w0 ((w.setCell ⟨b, i, none⟩ u).setCell ⟨b, j, none⟩ v) :=
  (h.setCell (p := ⟨b, i, none⟩) (fun h => by have h' : b < w0.heap.size := h; omega) u).setCell (p := ⟨b, j, none⟩) (fun h => by have h' : b < w0.heap.size := h; omega) v

/-- Noughts. -/
abbrev z20 : Array Value := #[.int .i64 0, .int .i64 0, .int .i64 0, .int .i64 0, .int .i64 0, .int .i64 0, .int .i64 0, .int .i64 0, .int .i64 0, .int .i64 0, .int .i64 0, .int .i64 0, .int .i64 0, .int .i64 0, .int .i64 0, .int .i64 0, .int .i64 0, .int .i64 0, .int .i64 0, .int .i64 0]
/-- The bounds of a Tumbling job, of a Session job, of a Sliding job. -/
abbrev b20e (f : Nat → Int) : Array Value := #[.int .i64 1, .int .i64 32768, .int .i64 1, .int .i64 64, .int .i64 1, .int .i64 3, .int .i64 1, .int .i64 1099511627776, .int .i64 0, .int .i64 0, .int .i64 0, .int .i64 (wrap64 (f 3 - 1)), .int .i64 0, .int .i64 0, .int .i64 0, .int .i64 1099511627776, .int .i64 0, .int .i64 2147483647, .int .i64 0, .int .i64 1]
abbrev b20s : Array Value := #[.int .i64 1, .int .i64 32768, .int .i64 1, .int .i64 64, .int .i64 1, .int .i64 3, .int .i64 0, .int .i64 0, .int .i64 0, .int .i64 0, .int .i64 0, .int .i64 0, .int .i64 1, .int .i64 1099511627776, .int .i64 0, .int .i64 1099511627776, .int .i64 0, .int .i64 2147483647, .int .i64 0, .int .i64 1]
abbrev b20l (f : Nat → Int) : Array Value := #[.int .i64 1, .int .i64 32768, .int .i64 1, .int .i64 64, .int .i64 1, .int .i64 3, .int .i64 1, .int .i64 1099511627776, .int .i64 (lsB (f 3)), .int .i64 (f 3), .int .i64 0, .int .i64 (wrap64 (f 4 - 1)), .int .i64 0, .int .i64 0, .int .i64 0, .int .i64 1099511627776, .int .i64 0, .int .i64 2147483647, .int .i64 0, .int .i64 1]
theorem b20_e {f : Nat → Int} (h2 : ¬ f 2 = 2) (h3 : ¬ f 2 = 3) : b20c f = b20e f := by simp [loB, hiB, h2, h3]
theorem b20_s {f : Nat → Int} (h3 : f 2 = 3) : b20c f = b20s := by simp [loB, hiB, h3]
theorem b20_l {f : Nat → Int} (h3 : f 2 = 2) : b20c f = b20l f := by simp [loB, hiB, h3]

theorem b_laid (w : World) (o1 o2 : Obj) (cs zs : Array Value) (t : TypeId) : ∃ w9, (((w.alloc o1).alloc o2).alloc (.cells zs t)).setRow (w.heap.size + 1 + 1) cs = w9 ∧ w9.heap[w.heap.size]? = some o1 ∧ w9.heap[w.heap.size + 1]? = some o2 ∧ w9.heap[w.heap.size + 1 + 1]? = some (.cells cs t (0, 0)) ∧ Calm w w9 := by
  refine ⟨_, rfl, ?_, ?_, ?_, ?_⟩
  · rw [setRow_other _ _ _ _ (by omega)]; exact (al3 w o1 o2 _).1
  · rw [setRow_other _ _ _ _ (by omega)]; exact (al3 w o1 o2 _).2.1
  · exact setRow_heap _ _ _ _ _ _ (al3 w o1 o2 _).2.2
  · have t := (((Touch.refl (fun _ => False) w).alloc o1).alloc o2).alloc (.cells zs t)
    exact ⟨t.os, t.tape, t.output, by rw [size_setRow]; exact t.size, fun k hk hn => by rw [setRow_other _ _ _ _ (by omega)]; exact t.block k hk hn⟩
theorem row_calm {w0 w : World} (h : Calm w0 w) {b : Nat} (hb : w0.heap.size ≤ b) (cs : Array Value) : Calm w0 (w.setRow b cs) :=
  ⟨h.os, h.tape, h.output, by rw [size_setRow]; exact h.size, fun k hk hn => by rw [setRow_other _ _ _ _ (by omega)]; exact h.block k hk hn⟩


set_option maxRecDepth 100000 in
theorem bounds_else (f : Nat → Int) (h2 : ¬ f 2 = 2) (h3 : ¬ f 2 = 3) (w : World) : Calls Tryz.prog 60 #[.agg (f10c f)] w fun e w' => e = .returned (.agg (b20c f)) ∧ Calm w w' := by
  rw [b20_e h2 h3]
  have d2 : (f 2 == 2) = false := by simp [h2]
  have d3 : (f 2 == 3) = false := by simp [h3]
  obtain ⟨B, hB⟩ : ∃ B : Array Value, B = b20e f := ⟨_, rfl⟩
  obtain ⟨w9, e9, A1, A2, A3, T9⟩ := b_laid w (.cells (f10c f) 104) (.cells z20 132) B z20 132
  have HE := hide e9
  have HB := hide hB
  have hs : Hid (z20.size = B.size) := hide (by rw [hB]; rfl)
  have ha : Hid (B.all (·.oneCell') = true) := hide (by rw [hB]; kernel_rfl)
  have hi : Hid ((Tryz.prog.info? 132).map (·.size) = some B.size) := hide (by rw [hB]; kernel_rfl)
  have H2 := hide A2
  have H3 := hide A3
  have HT := hide T9
  have g2 := f10_cells A1 2 (by omega)
  have g3 := f10_cells A1 3 (by omega)
  rw [← hB]
  clear e9 hB A1 A2 A3 T9 h2 h3
  go_enter Tryz.func60, Tryz.ntmps60
  go_wp2_with (first | refine wpList_built rfl 132 _ rfl B (by rw [HB.out]; kernel_rfl) ?_ | (refine wpList_store_whole rfl rfl 132 (.tmp 3) (.tmp 17) rfl (w.heap.size + 1 + 1) B ?_ ?_ 132 z20 ?_ hi.out hs.out ha.out ?_; rfl; rfl; exact (al3 w _ _ _).2.2; rw [HE.out]) | (refine wpList_load_row rfl 132 (.tmp 3) rfl (w.heap.size + 1 + 1) ?_ 132 B (0, 0) _ ?_ Tryz.underlying132 rfl hi.out ?_; rfl; exact H3.out) | (refine wpList_store_whole rfl rfl 132 (.tmp 2) (.tmp 42) rfl (w.heap.size + 1) B ?_ ?_ 132 z20 ?_ hi.out hs.out ha.out ?_; rfl; rfl; exact H2.out))
  refine bodyPost_ret (results_cell_row rfl _ _ _ _ _ _ _ rfl (setRow_heap _ _ _ _ _ _ H2.out) Tryz.underlying132 rfl hi.out) rfl ?_
  exact ⟨rfl, row_calm HT.out (by omega) _⟩

theorem last3 {w : World} {b k : Nat} {ob : Obj} (h : w.heap[k]? = some ob) (hk : k ≠ b) (w' : World) (t : Touch (fun d => d = b) w w') : w'.heap[k]? = some ob := (t.block k (Array.getElem?_eq_some_iff.1 h).1 hk).trans h

set_option maxRecDepth 100000 in
theorem bounds_3 (f : Nat → Int) (h3 : f 2 = 3) (w : World) : Calls Tryz.prog 60 #[.agg (f10c f)] w fun e w' => e = .returned (.agg (b20c f)) ∧ Calm w w' := by
  rw [b20_s h3]
  obtain ⟨B, hB⟩ : ∃ B : Array Value, B = b20e f := ⟨_, rfl⟩
  obtain ⟨w9, e9, A1, A2, A3, T9⟩ := b_laid w (.cells (f10c f) 104) (.cells z20 132) B z20 132
  have HE := hide e9
  have HB := hide hB
  have hs : Hid (z20.size = B.size) := hide (by rw [hB]; rfl)
  have ha : Hid (B.all (·.oneCell') = true) := hide (by rw [hB]; kernel_rfl)
  have hi : Hid ((Tryz.prog.info? 132).map (·.size) = some B.size) := hide (by rw [hB]; kernel_rfl)
  have g2 := f10_cells A1 2 (by omega)
  have g3 := f10_cells A1 3 (by omega)
  rw [h3] at g2
  obtain ⟨C, hC⟩ : ∃ C : Array Value, C = b20s := ⟨_, rfl⟩
  have ks : Hid (z20.size = C.size) := hide (by rw [hC]; rfl)
  have ka : Hid (C.all (·.oneCell') = true) := hide (by rw [hC]; kernel_rfl)
  have ki : Hid ((Tryz.prog.info? 132).map (·.size) = some C.size) := hide (by rw [hC]; kernel_rfl)
  have q2 := set2 (set2 (set2 A3 6 (.int .i64 0) (.int .i64 0)) 10 (.int .i64 0) (.int .i64 0)) 12 (.int .i64 1) (.int .i64 1099511627776)
  have e2 : (((((B.setIfInBounds 6 (.int .i64 0)).setIfInBounds (6 + 1) (.int .i64 0)).setIfInBounds 10 (.int .i64 0)).setIfInBounds (10 + 1) (.int .i64 0)).setIfInBounds 12 (.int .i64 1)).setIfInBounds (12 + 1) (.int .i64 1099511627776) = C := by rw [hB, hC]; rfl
  rw [e2] at q2
  have t2 := set2_touch (set2_touch (set2_touch T9 (b := w.heap.size + 1 + 1) (by omega) 6 7 (.int .i64 0) (.int .i64 0)) (b := w.heap.size + 1 + 1) (by omega) 10 11 (.int .i64 0) (.int .i64 0)) (b := w.heap.size + 1 + 1) (by omega) 12 13 (.int .i64 1) (.int .i64 1099511627776)
  have tt := ((((((Touch.refl (fun k => k = w.heap.size + 1 + 1) w9).setCell (p := ⟨w.heap.size + 1 + 1, 6, none⟩) (fun _ => rfl) (.int .i64 0)).setCell (p := ⟨w.heap.size + 1 + 1, 7, none⟩) (fun _ => rfl) (.int .i64 0)).setCell (p := ⟨w.heap.size + 1 + 1, 10, none⟩) (fun _ => rfl) (.int .i64 0)).setCell (p := ⟨w.heap.size + 1 + 1, 11, none⟩) (fun _ => rfl) (.int .i64 0)).setCell (p := ⟨w.heap.size + 1 + 1, 12, none⟩) (fun _ => rfl) (.int .i64 1)).setCell (p := ⟨w.heap.size + 1 + 1, 13, none⟩) (fun _ => rfl) (.int .i64 1099511627776)
  have p2 := last3 A2 (by omega) _ tt
  have x6 : w9.cell? ⟨w.heap.size + 1 + 1, 6, none⟩ = some (.int .i64 1) := by rw [hB] at A3; simp [World.cell?, A3]
  have y6 := wn_frozen A3 6
  have x7 : w9.cell? ⟨w.heap.size + 1 + 1, 7, none⟩ = some (.int .i64 1099511627776) := by rw [hB] at A3; simp [World.cell?, A3]
  have y7 := wn_frozen A3 7
  have x10 : w9.cell? ⟨w.heap.size + 1 + 1, 10, none⟩ = some (.int .i64 0) := by rw [hB] at A3; simp [World.cell?, A3]
  have y10 := wn_frozen A3 10
  have x11 : w9.cell? ⟨w.heap.size + 1 + 1, 11, none⟩ = some (.int .i64 (wrap64 (f 3 - 1))) := by rw [hB] at A3; simp [World.cell?, A3]
  have y11 := wn_frozen A3 11
  have x12 : w9.cell? ⟨w.heap.size + 1 + 1, 12, none⟩ = some (.int .i64 0) := by rw [hB] at A3; simp [World.cell?, A3]
  have y12 := wn_frozen A3 12
  have x13 : w9.cell? ⟨w.heap.size + 1 + 1, 13, none⟩ = some (.int .i64 0) := by rw [hB] at A3; simp [World.cell?, A3]
  have y13 := wn_frozen A3 13
  have H2 := hide p2
  have H3 := hide q2
  have HT := hide t2
  rw [← hC]
  clear e9 hB hC A1 A2 A3 T9 h3 q2 p2 t2 tt e2
  go_enter Tryz.func60, Tryz.ntmps60
  go_wp2_with (first | refine wpList_built rfl 132 _ rfl B (by rw [HB.out]; kernel_rfl) ?_ | (refine wpList_store_whole rfl rfl 132 (.tmp 3) (.tmp 17) rfl (w.heap.size + 1 + 1) B ?_ ?_ 132 z20 ?_ hi.out hs.out ha.out ?_; rfl; rfl; exact (al3 w _ _ _).2.2; rw [HE.out]) | (refine wpList_load_row rfl 132 (.tmp 3) rfl (w.heap.size + 1 + 1) ?_ 132 C (0, 0) _ ?_ Tryz.underlying132 rfl ki.out ?_; rfl; exact H3.out) | (refine wpList_store_whole rfl rfl 132 (.tmp 2) (.tmp 42) rfl (w.heap.size + 1) C ?_ ?_ 132 z20 ?_ ki.out ks.out ka.out ?_; rfl; rfl; exact H2.out))
  refine bodyPost_ret (results_cell_row rfl _ _ _ _ _ _ _ rfl (setRow_heap _ _ _ _ _ _ H2.out) Tryz.underlying132 rfl ki.out) rfl ?_
  exact ⟨rfl, row_calm HT.out (by omega) _⟩

set_option maxRecDepth 100000 in
set_option maxHeartbeats 1000000 in
theorem bounds_2 (f : Nat → Int) (h3 : f 2 = 2) (w : World) : Calls Tryz.prog 60 #[.agg (f10c f)] w fun e w' => e = .returned (.agg (b20c f)) ∧ Calm w w' := by
  rw [b20_l h3]
  have CL := fun w => hide (leastSlide_any (f 3) w)
  obtain ⟨B, hB⟩ : ∃ B : Array Value, B = b20e f := ⟨_, rfl⟩
  obtain ⟨w9, e9, A1, A2, A3, T9⟩ := b_laid w (.cells (f10c f) 104) (.cells z20 132) B z20 132
  have HE := hide e9
  have HB := hide hB
  have hs : Hid (z20.size = B.size) := hide (by rw [hB]; rfl)
  have ha : Hid (B.all (·.oneCell') = true) := hide (by rw [hB]; kernel_rfl)
  have hi : Hid ((Tryz.prog.info? 132).map (·.size) = some B.size) := hide (by rw [hB]; kernel_rfl)
  have g2 := f10_cells A1 2 (by omega)
  have g3 := f10_cells A1 3 (by omega)
  rw [h3] at g2
  obtain ⟨C, hC⟩ : ∃ C : Array Value, C = b20l f := ⟨_, rfl⟩
  have ks : Hid (z20.size = C.size) := hide (by rw [hC]; rfl)
  have ka : Hid (C.all (·.oneCell') = true) := hide (by rw [hC]; kernel_rfl)
  have ki : Hid ((Tryz.prog.info? 132).map (·.size) = some C.size) := hide (by rw [hC]; kernel_rfl)
  have HA1 := hide A1
  have HA2 := hide A2
  have HA3 := hide A3
  have HT9 := hide T9
  have hc2 := hide hC
  rw [← hC]
  clear e9 hB hC A1 A2 A3 T9 h3
  go_enter Tryz.func60, Tryz.ntmps60
  go_wp2_with (first | refine wpList_built rfl 132 _ rfl B (by rw [HB.out]; kernel_rfl) ?_ | (refine wpList_store_whole rfl rfl 132 (.tmp 3) (.tmp 17) rfl (w.heap.size + 1 + 1) B ?_ ?_ 132 z20 ?_ hi.out hs.out ha.out ?_; rfl; rfl; exact (al3 w _ _ _).2.2; rw [HE.out]))
  have GZ : Hid (∀ W, Calm w9 W → W.cell? ⟨w.heap.size, 3, none⟩ = some (.int .i64 (f 3))) := hide fun W hW => f10_cells (hW.at HA1.out) 3 (by omega)
  refine wp_region_z 7 (Calm w9) (by kernel_rfl) ?_
  have hT0 : Calm w9 { w9 with drawn := w9.drawn + 1 } := (Touch.refl _ w9).drew
  refine wpAnyZ_yield 0 22 (.pointer (some ⟨w.heap.size, 3, none⟩)) [7] rfl rfl (by kernel_rfl) (by kernel_rfl) (by kernel_rfl) (by kernel_rfl) (by kernel_rfl) (fun _ _ _ h => h) (by kernel_rfl) (fun W hW => by go_simp) (by assumption) rfl rfl ?_
  simp only [Act.put, List.setIfInBounds_toArray, List.set_cons_zero, List.set_cons_succ]
  refine wpAnyZ_yield 1 23 (.int .i64 (f 3)) [7] rfl rfl (by kernel_rfl) (by kernel_rfl) (by kernel_rfl) (by kernel_rfl) (by kernel_rfl) (fun _ _ _ h => h) (by kernel_rfl) (fun W hW => by have q := GZ.out W hW; go_simp) (by assumption) rfl rfl ?_
  simp only [Act.put, List.setIfInBounds_toArray, List.set_cons_zero, List.set_cons_succ]
  refine wpAnyZ_yield 3 25 (.pointer (some ⟨w.heap.size, 3, none⟩)) [7] rfl rfl (by kernel_rfl) (by kernel_rfl) (by kernel_rfl) (by kernel_rfl) (by kernel_rfl) (fun _ _ _ h => h) (by kernel_rfl) (fun W hW => by go_simp) (by assumption) rfl rfl ?_
  simp only [Act.put, List.setIfInBounds_toArray, List.set_cons_zero, List.set_cons_succ]
  refine wpAnyZ_yield 4 26 (.int .i64 (f 3)) [7] rfl rfl (by kernel_rfl) (by kernel_rfl) (by kernel_rfl) (by kernel_rfl) (by kernel_rfl) (fun _ _ _ h => h) (by kernel_rfl) (fun W hW => by have q := GZ.out W hW; go_simp) (by assumption) rfl rfl ?_
  simp only [Act.put, List.setIfInBounds_toArray, List.set_cons_zero, List.set_cons_succ]
  refine wpAnyZ_enter 2 24 69 #[.int .i64 (f 3)] rfl rfl (by decide) (by kernel_rfl) (by kernel_rfl) (by kernel_rfl) ?_
  refine (CL _).out.mono ?_
  rintro rr w5 ⟨rfl, rfl⟩
  refine ⟨_, rfl, hT0, ?_⟩
  simp only [Act.put, List.setIfInBounds_toArray, List.set_cons_zero, List.set_cons_succ]
  refine wpAnyZ_yield 5 27 (.agg #[.int .i64 (lsB (f 3)), .int .i64 (f 3)]) [7] rfl rfl (by kernel_rfl) (by kernel_rfl) (by kernel_rfl) (by kernel_rfl) (by kernel_rfl) (fun _ _ _ h => h) (by kernel_rfl) (fun W hW => by kernel_rfl) (by assumption) rfl rfl ?_
  simp only [Act.put, List.setIfInBounds_toArray, List.set_cons_zero, List.set_cons_succ]
  refine wpAnyZ_yield 6 28 (.pointer (some ⟨w.heap.size + 1 + 1, 8, none⟩)) [7] rfl rfl (by kernel_rfl) (by kernel_rfl) (by kernel_rfl) (by kernel_rfl) (by kernel_rfl) (fun _ _ _ h => h) (by kernel_rfl) (fun W hW => by go_simp) (by assumption) rfl rfl ?_
  simp only [Act.put, List.setIfInBounds_toArray, List.set_cons_zero, List.set_cons_succ]
  refine wpAnyZ_end rfl (by kernel_rfl) (by kernel_rfl) (by kernel_rfl) ?_
  have B1 := hT0.at HA1.out
  have B2 := hT0.at HA2.out
  have B3 := hT0.at HA3.out
  have TB := HT9.out.tr hT0
  clear HE g2 g3 HA1 HA2 HA3 HT9 GZ hT0
  generalize ({ w9 with drawn := w9.drawn + 1 } : World) = w3 at *
  have q2 := set2 (set2 B3 8 (.int .i64 (lsB (f 3))) (.int .i64 (f 3))) 10 (.int .i64 0) (.int .i64 (wrap64 (f 4 - 1)))
  have e2 : (((B.setIfInBounds 8 (.int .i64 (lsB (f 3)))).setIfInBounds (8 + 1) (.int .i64 (f 3))).setIfInBounds 10 (.int .i64 0)).setIfInBounds (10 + 1) (.int .i64 (wrap64 (f 4 - 1))) = C := by rw [HB.out, hc2.out]; rfl
  rw [e2] at q2
  have t2 := set2_touch (set2_touch TB (b := w.heap.size + 1 + 1) (by omega) 8 9 (.int .i64 (lsB (f 3))) (.int .i64 (f 3))) (b := w.heap.size + 1 + 1) (by omega) 10 11 (.int .i64 0) (.int .i64 (wrap64 (f 4 - 1)))
  have tt := ((((Touch.refl (fun k => k = w.heap.size + 1 + 1) w3).setCell (p := ⟨w.heap.size + 1 + 1, 8, none⟩) (fun _ => rfl) (.int .i64 (lsB (f 3)))).setCell (p := ⟨w.heap.size + 1 + 1, 9, none⟩) (fun _ => rfl) (.int .i64 (f 3))).setCell (p := ⟨w.heap.size + 1 + 1, 10, none⟩) (fun _ => rfl) (.int .i64 0)).setCell (p := ⟨w.heap.size + 1 + 1, 11, none⟩) (fun _ => rfl) (.int .i64 (wrap64 (f 4 - 1)))
  have p2 := last3 B2 (by omega) _ tt
  have g4 := f10_cells B1 4 (by omega)
  have x8 : w3.cell? ⟨w.heap.size + 1 + 1, 8, none⟩ = some (.int .i64 0) := by rw [HB.out] at B3; simp [World.cell?, B3]
  have y8 := wn_frozen B3 8
  have x9 : w3.cell? ⟨w.heap.size + 1 + 1, 9, none⟩ = some (.int .i64 0) := by rw [HB.out] at B3; simp [World.cell?, B3]
  have y9 := wn_frozen B3 9
  have x10 : w3.cell? ⟨w.heap.size + 1 + 1, 10, none⟩ = some (.int .i64 0) := by rw [HB.out] at B3; simp [World.cell?, B3]
  have y10 := wn_frozen B3 10
  have x11 : w3.cell? ⟨w.heap.size + 1 + 1, 11, none⟩ = some (.int .i64 (wrap64 (f 3 - 1))) := by rw [HB.out] at B3; simp [World.cell?, B3]
  have y11 := wn_frozen B3 11
  have H2 := hide p2
  have H3 := hide q2
  have HT := hide t2
  clear B1 B2 B3 TB q2 e2 t2 tt p2 HB hc2
  go_wp2_with (first | (refine wpList_load_row rfl 132 (.tmp 3) rfl (w.heap.size + 1 + 1) ?_ 132 C (0, 0) _ ?_ Tryz.underlying132 rfl ki.out ?_; rfl; exact H3.out) | (refine wpList_store_whole rfl rfl 132 (.tmp 2) (.tmp 42) rfl (w.heap.size + 1) C ?_ ?_ 132 z20 ?_ ki.out ks.out ka.out ?_; rfl; rfl; exact H2.out))
  refine bodyPost_ret (results_cell_row rfl _ _ _ _ _ _ _ rfl (setRow_heap _ _ _ _ _ _ H2.out) Tryz.underlying132 rfl ki.out) rfl ?_
  exact ⟨rfl, row_calm HT.out (by omega) _⟩

theorem bounds_any (f : Nat → Int) (w : World) : Calls Tryz.prog 60 #[.agg (f10c f)] w fun e w' => e = .returned (.agg (b20c f)) ∧ Calm w w' := by
  by_cases h2 : f 2 = 2
  · exact bounds_2 f h2 w
  · by_cases h3 : f 2 = 3
    · exact bounds_3 f h3 w
    · exact bounds_else f h2 h3 w

end Go.Proofs.YtapnjofplilefaaGreat
