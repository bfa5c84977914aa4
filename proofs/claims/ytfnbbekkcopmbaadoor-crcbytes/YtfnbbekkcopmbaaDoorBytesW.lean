/- The walk of CrcBytes. -/
import Derived.Test.YtfnbbekkcopmbaaDoorBytesP
import Derived.Test.YtfnbbekkcopmbaaDoorTake
namespace Go.Proofs.YtfnbbekkcopmbaaDoor
open Go.ChangeShapes Go.WideShapes Go.ChangeAt Go.RowKit Crcx

set_option maxRecDepth 100000 in
set_option maxHeartbeats 2000000 in
theorem bytes_not (s : Nat) (hs : s < 4294967296) (bo : Option Addr) (len bc : Nat) (w : World) (ht : Tab w) (h4 : len ≠ 4) :
    Calls Tryd.prog 3 #[.int .u32 s, .slice bo len bc] w fun e w' => e = .returned (.bool true) ∧ Touch (fun _ => False) w w' := by
  have BY := hide (fun W => bytes_any s hs W)
  have RB := hide (fun W => rbytes_any s hs W)
  have hi4 : (Tryd.prog.info? 24).map (·.size) = some (four8 s).size := by kernel_rfl
  have ho4 : (four8 s).all (·.oneCell') = true := by simp [four8, Value.oneCell']
  have heq := four_same s
  have l0 : s % 256 < 256 := by omega
  have l1 : s / 256 % 256 < 256 := by omega
  have l2 : s / 65536 % 256 < 256 := by omega
  have l3 : s / 16777216 % 256 < 256 := by omega
  have FR := hide (fun g W (c : ∀ i, W.cell? ⟨g, i, none⟩ = (four8 s)[i]?) => from_four g 0 _ _ _ _ 4 W (c 0) (c 1) (c 2) (c 3) l0 l1 l2 l3)
  rw [word_of hs] at FR
  go_enter Tryd.func3, Tryd.ntmps3
  go_wp2_with fail
  refine (BY.out _).mono ?_
  rintro e w1 ⟨rfl, t1⟩
  go_wp2_with (refine wpList_store_all rfl rfl 24 (.tmp 5) (.tmp 11) rfl w1.heap.size (four8 s) rfl rfl 24 _ (heap_alloc_last w1 _) hi4 rfl ho4 ?_)
  have tw : Touch (fun _ => False) w ((w1.alloc (.cells #[.int .u8 0, .int .u8 0, .int .u8 0, .int .u8 0] 24)).setRow w1.heap.size (four8 s)) := (t1.alloc _).setRow _ (fun h => by have := t1.size; omega)
  have b2 := setRow_heap _ w1.heap.size _ (four8 s) 24 (0, 0) (heap_alloc_last w1 (.cells #[.int .u8 0, .int .u8 0, .int .u8 0, .int .u8 0] 24))
  generalize (w1.alloc (.cells #[.int .u8 0, .int .u8 0, .int .u8 0, .int .u8 0] 24)).setRow w1.heap.size (four8 s) = w2 at *
  generalize w1.heap.size = E at *
  have hh2 : Held w2 E 24 (four8 s) := ⟨b2⟩
  refine (FR.out E w2 (fun i => cell_of_row w2 E i _ _ _ b2)).mono ?_
  rintro e w3 ⟨rfl, t3⟩
  have T3 := tw.trans t3 (fun _ _ h => h)
  have hh3 := hh2.touch t3 (fun h => h)
  have ht3 := ht.touch T3 (fun h => h)
  clear t1 tw b2 hh2 t3 BY FR hi4 ho4
  have cells : ∀ W, Held W E 24 (four8 s) → W.cell? ⟨E, 0, none⟩ = some (.int .u8 ((s % 256 : Nat) : Int)) ∧ W.cell? ⟨E, 1, none⟩ = some (.int .u8 ((s / 256 % 256 : Nat) : Int)) ∧ W.cell? ⟨E, 2, none⟩ = some (.int .u8 ((s / 65536 % 256 : Nat) : Int)) ∧ W.cell? ⟨E, 3, none⟩ = some (.int .u8 ((s / 16777216 % 256 : Nat) : Int)) := fun W h =>
    ⟨cell_of_row W E 0 _ _ _ h.block, cell_of_row W E 1 _ _ _ h.block, cell_of_row W E 2 _ _ _ h.block, cell_of_row W E 3 _ _ _ h.block⟩
  have FN := hide (fun W => from_not bo len bc W h4)
  have h4' : ¬ ((len : Nat) : Int) = 4 := by omega
  go_wp2_with fail
  refine (FN.out _).mono ?_
  rintro e w4 ⟨rfl, t4⟩
  have T4 := T3.trans t4 (fun _ _ h => h)
  have hh4 := hh3.touch t4 (fun h => h)
  have ht4 := ht.touch T4 (fun h => h)
  obtain ⟨c0, c1, c2, c3⟩ := cells w4 hh4
  clear t4 hh3 T3 ht3 cells hh4
  simp only [four8] at RB heq
  generalize s % 256 = p0 at *
  generalize s / 256 % 256 = p1 at *
  generalize s / 65536 % 256 = p2 at *
  generalize s / 16777216 % 256 = p3 at *
  have HT4 := hide T4
  have HTa := hide ht4
  clear T4 ht4 FN
  go_wp2_with fail
  go_cut [41] from 22 to 41 (fun c wc => c = .bool false ∧ Touch (fun _ => False) w4 wc)
  case first =>
    go_region_held3 (fun W => W.cell? ⟨E, 0, none⟩ = some (.int .u8 (p0 : Int)) ∧ W.cell? ⟨E, 1, none⟩ = some (.int .u8 (p1 : Int)) ∧ W.cell? ⟨E, 2, none⟩ = some (.int .u8 (p2 : Int)) ∧ W.cell? ⟨E, 3, none⟩ = some (.int .u8 (p3 : Int))) (go_keep) (first | (go_at_call 7; refine (RB.out _).mono ?_; rintro r w5 ⟨rfl, t5⟩; have T5 := ((Touch.refl (fun _ => False) w4).drew).trans t5 (fun _ _ h => h); have d0 := (T5.cell (p := ⟨E, 0, none⟩) (lt_of_cell c0) (fun h => h)).trans c0; have d1 := (T5.cell (p := ⟨E, 1, none⟩) (lt_of_cell c1) (fun h => h)).trans c1; have d2 := (T5.cell (p := ⟨E, 2, none⟩) (lt_of_cell c2) (fun h => h)).trans c2; have d3 := (T5.cell (p := ⟨E, 3, none⟩) (lt_of_cell c3) (fun h => h)).trans c3))
    all_goals go_wp2_with fail
    all_goals go_meet
    all_goals (case rel => exact ⟨congrArg Value.bool (Bool.eq_false_iff.2 (fun h => h4' (by have := eq_of_beq h; omega))), T5⟩)
  case rest =>
    obtain ⟨rfl, ht8⟩ := hcut
    have HTc := hide (HTa.out.touch ht8 (fun h => h))
    have HT8 := hide ht8
    clear ht8 RB heq c0 c1 c2 c3
    go_wp2_with fail
    refine wp_region_held (S := fun _ => True) (by kernel_rfl) ?_
    have hT : True := trivial
    refine wpAnyH_yield 0 42 (.bool false) rfl rfl (by kernel_rfl) (by kernel_rfl) (by kernel_rfl) (fun _ _ _ h => h) (by kernel_rfl) (fun W hW => by kernel_rfl) (by assumption) rfl rfl ?_
    simp only [Act.put, List.setIfInBounds_toArray, List.set_cons_zero, List.set_cons_succ]
    refine wpAnyH_yield 1 43 (.bool true) rfl rfl (by kernel_rfl) (by kernel_rfl) (by kernel_rfl) (fun _ _ _ h => h) (by kernel_rfl) (fun W hW => by kernel_rfl) (by assumption) rfl rfl ?_
    simp only [Act.put, List.setIfInBounds_toArray, List.set_cons_zero, List.set_cons_succ]
    refine wpAnyH_yield 2 44 (.bool true) rfl rfl (by kernel_rfl) (by kernel_rfl) (by kernel_rfl) (fun _ _ _ h => h) (by kernel_rfl) (fun W hW => by kernel_rfl) (by assumption) rfl rfl ?_
    simp only [Act.put, List.setIfInBounds_toArray, List.set_cons_zero, List.set_cons_succ]
    refine wpAnyH_yield 3 45 (.int .u32 0) rfl rfl (by kernel_rfl) (by kernel_rfl) (by kernel_rfl) (fun _ _ _ h => h) (by kernel_rfl) (fun W hW => by kernel_rfl) (by assumption) rfl rfl ?_
    simp only [Act.put, List.setIfInBounds_toArray, List.set_cons_zero, List.set_cons_succ]
    refine wpAnyH_yield 4 46 (.bool true) rfl rfl (by kernel_rfl) (by kernel_rfl) (by kernel_rfl) (fun _ _ _ h => h) (by kernel_rfl) (fun W hW => by kernel_rfl) (by assumption) rfl rfl ?_
    simp only [Act.put, List.setIfInBounds_toArray, List.set_cons_zero, List.set_cons_succ]
    refine wpAnyH_yield 5 47 (.bool true) rfl rfl (by kernel_rfl) (by kernel_rfl) (by kernel_rfl) (fun _ _ _ h => h) (by kernel_rfl) (fun W hW => by kernel_rfl) (by assumption) rfl rfl ?_
    simp only [Act.put, List.setIfInBounds_toArray, List.set_cons_zero, List.set_cons_succ]
    refine wpAnyH_yield 6 48 (.bool true) rfl rfl (by kernel_rfl) (by kernel_rfl) (by kernel_rfl) (fun _ _ _ h => h) (by kernel_rfl) (fun W hW => by kernel_rfl) (by assumption) rfl rfl ?_
    simp only [Act.put, List.setIfInBounds_toArray, List.set_cons_zero, List.set_cons_succ]
    refine wpAnyH_skip 7 49 rfl rfl (by kernel_rfl) (by kernel_rfl) (by kernel_rfl) (fun _ _ _ h => h) (by kernel_rfl) (by assumption) rfl rfl ?_
    simp only [Act.put, List.setIfInBounds_toArray, List.set_cons_zero, List.set_cons_succ]
    refine wpAnyH_skip 8 50 rfl rfl (by kernel_rfl) (by kernel_rfl) (by kernel_rfl) (fun _ _ _ h => h) (by kernel_rfl) (by assumption) rfl rfl ?_
    simp only [Act.put, List.setIfInBounds_toArray, List.set_cons_zero, List.set_cons_succ]
    refine wpAnyH_skip 9 51 rfl rfl (by kernel_rfl) (by kernel_rfl) (by kernel_rfl) (fun _ _ _ h => h) (by kernel_rfl) (by assumption) rfl rfl ?_
    simp only [Act.put, List.setIfInBounds_toArray, List.set_cons_zero, List.set_cons_succ]
    refine wpAnyH_skip 10 52 rfl rfl (by kernel_rfl) (by kernel_rfl) (by kernel_rfl) (fun _ _ _ h => h) (by kernel_rfl) (by assumption) rfl rfl ?_
    simp only [Act.put, List.setIfInBounds_toArray, List.set_cons_zero, List.set_cons_succ]
    refine wpAnyH_skip 11 53 rfl rfl (by kernel_rfl) (by kernel_rfl) (by kernel_rfl) (fun _ _ _ h => h) (by kernel_rfl) (by assumption) rfl rfl ?_
    simp only [Act.put, List.setIfInBounds_toArray, List.set_cons_zero, List.set_cons_succ]
    refine wpAnyH_skip 12 54 rfl rfl (by kernel_rfl) (by kernel_rfl) (by kernel_rfl) (fun _ _ _ h => h) (by kernel_rfl) (by assumption) rfl rfl ?_
    simp only [Act.put, List.setIfInBounds_toArray, List.set_cons_zero, List.set_cons_succ]
    refine wpAnyH_skip 13 55 rfl rfl (by kernel_rfl) (by kernel_rfl) (by kernel_rfl) (fun _ _ _ h => h) (by kernel_rfl) (by assumption) rfl rfl ?_
    simp only [Act.put, List.setIfInBounds_toArray, List.set_cons_zero, List.set_cons_succ]
    refine wpAnyH_skip 14 56 rfl rfl (by kernel_rfl) (by kernel_rfl) (by kernel_rfl) (fun _ _ _ h => h) (by kernel_rfl) (by assumption) rfl rfl ?_
    simp only [Act.put, List.setIfInBounds_toArray, List.set_cons_zero, List.set_cons_succ]
    refine wpAnyH_skip 15 57 rfl rfl (by kernel_rfl) (by kernel_rfl) (by kernel_rfl) (fun _ _ _ h => h) (by kernel_rfl) (by assumption) rfl rfl ?_
    simp only [Act.put, List.setIfInBounds_toArray, List.set_cons_zero, List.set_cons_succ]
    refine wpAnyH_skip 16 58 rfl rfl (by kernel_rfl) (by kernel_rfl) (by kernel_rfl) (fun _ _ _ h => h) (by kernel_rfl) (by assumption) rfl rfl ?_
    simp only [Act.put, List.setIfInBounds_toArray, List.set_cons_zero, List.set_cons_succ]
    refine wpAnyH_skip 17 59 rfl rfl (by kernel_rfl) (by kernel_rfl) (by kernel_rfl) (fun _ _ _ h => h) (by kernel_rfl) (by assumption) rfl rfl ?_
    simp only [Act.put, List.setIfInBounds_toArray, List.set_cons_zero, List.set_cons_succ]
    refine wpAnyH_skip 18 60 rfl rfl (by kernel_rfl) (by kernel_rfl) (by kernel_rfl) (fun _ _ _ h => h) (by kernel_rfl) (by assumption) rfl rfl ?_
    simp only [Act.put, List.setIfInBounds_toArray, List.set_cons_zero, List.set_cons_succ]
    refine wpAnyH_skip 19 61 rfl rfl (by kernel_rfl) (by kernel_rfl) (by kernel_rfl) (fun _ _ _ h => h) (by kernel_rfl) (by assumption) rfl rfl ?_
    simp only [Act.put, List.setIfInBounds_toArray, List.set_cons_zero, List.set_cons_succ]
    refine wpAnyH_skip 20 62 rfl rfl (by kernel_rfl) (by kernel_rfl) (by kernel_rfl) (fun _ _ _ h => h) (by kernel_rfl) (by assumption) rfl rfl ?_
    simp only [Act.put, List.setIfInBounds_toArray, List.set_cons_zero, List.set_cons_succ]
    refine wpAnyH_skip 21 63 rfl rfl (by kernel_rfl) (by kernel_rfl) (by kernel_rfl) (fun _ _ _ h => h) (by kernel_rfl) (by assumption) rfl rfl ?_
    simp only [Act.put, List.setIfInBounds_toArray, List.set_cons_zero, List.set_cons_succ]
    refine wpAnyH_skip 22 64 rfl rfl (by kernel_rfl) (by kernel_rfl) (by kernel_rfl) (fun _ _ _ h => h) (by kernel_rfl) (by assumption) rfl rfl ?_
    simp only [Act.put, List.setIfInBounds_toArray, List.set_cons_zero, List.set_cons_succ]
    refine wpAnyH_skip 23 65 rfl rfl (by kernel_rfl) (by kernel_rfl) (by kernel_rfl) (fun _ _ _ h => h) (by kernel_rfl) (by assumption) rfl rfl ?_
    simp only [Act.put, List.setIfInBounds_toArray, List.set_cons_zero, List.set_cons_succ]
    refine wpAnyH_skip 24 66 rfl rfl (by kernel_rfl) (by kernel_rfl) (by kernel_rfl) (fun _ _ _ h => h) (by kernel_rfl) (by assumption) rfl rfl ?_
    simp only [Act.put, List.setIfInBounds_toArray, List.set_cons_zero, List.set_cons_succ]
    refine wpAnyH_skip 25 67 rfl rfl (by kernel_rfl) (by kernel_rfl) (by kernel_rfl) (fun _ _ _ h => h) (by kernel_rfl) (by assumption) rfl rfl ?_
    simp only [Act.put, List.setIfInBounds_toArray, List.set_cons_zero, List.set_cons_succ]
    refine wpAnyH_skip 26 68 rfl rfl (by kernel_rfl) (by kernel_rfl) (by kernel_rfl) (fun _ _ _ h => h) (by kernel_rfl) (by assumption) rfl rfl ?_
    simp only [Act.put, List.setIfInBounds_toArray, List.set_cons_zero, List.set_cons_succ]
    refine wpAnyH_skip 27 69 rfl rfl (by kernel_rfl) (by kernel_rfl) (by kernel_rfl) (fun _ _ _ h => h) (by kernel_rfl) (by assumption) rfl rfl ?_
    simp only [Act.put, List.setIfInBounds_toArray, List.set_cons_zero, List.set_cons_succ]
    refine wpAnyH_skip 28 70 rfl rfl (by kernel_rfl) (by kernel_rfl) (by kernel_rfl) (fun _ _ _ h => h) (by kernel_rfl) (by assumption) rfl rfl ?_
    simp only [Act.put, List.setIfInBounds_toArray, List.set_cons_zero, List.set_cons_succ]
    refine wpAnyH_skip 29 71 rfl rfl (by kernel_rfl) (by kernel_rfl) (by kernel_rfl) (fun _ _ _ h => h) (by kernel_rfl) (by assumption) rfl rfl ?_
    simp only [Act.put, List.setIfInBounds_toArray, List.set_cons_zero, List.set_cons_succ]
    refine wpAnyH_skip 30 72 rfl rfl (by kernel_rfl) (by kernel_rfl) (by kernel_rfl) (fun _ _ _ h => h) (by kernel_rfl) (by assumption) rfl rfl ?_
    simp only [Act.put, List.setIfInBounds_toArray, List.set_cons_zero, List.set_cons_succ]
    refine wpAnyH_skip 31 73 rfl rfl (by kernel_rfl) (by kernel_rfl) (by kernel_rfl) (fun _ _ _ h => h) (by kernel_rfl) (by assumption) rfl rfl ?_
    simp only [Act.put, List.setIfInBounds_toArray, List.set_cons_zero, List.set_cons_succ]
    refine wpAnyH_skip 32 74 rfl rfl (by kernel_rfl) (by kernel_rfl) (by kernel_rfl) (fun _ _ _ h => h) (by kernel_rfl) (by assumption) rfl rfl ?_
    simp only [Act.put, List.setIfInBounds_toArray, List.set_cons_zero, List.set_cons_succ]
    refine wpAnyH_skip 33 75 rfl rfl (by kernel_rfl) (by kernel_rfl) (by kernel_rfl) (fun _ _ _ h => h) (by kernel_rfl) (by assumption) rfl rfl ?_
    simp only [Act.put, List.setIfInBounds_toArray, List.set_cons_zero, List.set_cons_succ]
    refine wpAnyH_skip 34 76 rfl rfl (by kernel_rfl) (by kernel_rfl) (by kernel_rfl) (fun _ _ _ h => h) (by kernel_rfl) (by assumption) rfl rfl ?_
    simp only [Act.put, List.setIfInBounds_toArray, List.set_cons_zero, List.set_cons_succ]
    refine wpAnyH_skip 35 77 rfl rfl (by kernel_rfl) (by kernel_rfl) (by kernel_rfl) (fun _ _ _ h => h) (by kernel_rfl) (by assumption) rfl rfl ?_
    simp only [Act.put, List.setIfInBounds_toArray, List.set_cons_zero, List.set_cons_succ]
    refine wpAnyH_skip 36 78 rfl rfl (by kernel_rfl) (by kernel_rfl) (by kernel_rfl) (fun _ _ _ h => h) (by kernel_rfl) (by assumption) rfl rfl ?_
    simp only [Act.put, List.setIfInBounds_toArray, List.set_cons_zero, List.set_cons_succ]
    refine wpAnyH_yield 37 79 (.bool true) rfl rfl (by kernel_rfl) (by kernel_rfl) (by kernel_rfl) (fun _ _ _ h => h) (by kernel_rfl) (fun W hW => by kernel_rfl) (by assumption) rfl rfl ?_
    simp only [Act.put, List.setIfInBounds_toArray, List.set_cons_zero, List.set_cons_succ]
    refine wpAnyH_yield 38 80 (.bool true) rfl rfl (by kernel_rfl) (by kernel_rfl) (by kernel_rfl) (fun _ _ _ h => h) (by kernel_rfl) (fun W hW => by kernel_rfl) (by assumption) rfl rfl ?_
    simp only [Act.put, List.setIfInBounds_toArray, List.set_cons_zero, List.set_cons_succ]
    refine wpAnyH_enter 39 81 8 #[] rfl rfl (by kernel_rfl) (by kernel_rfl) (by kernel_rfl) ?_
    refine (works_any _ (HTc.out.touch ((Touch.refl (fun _ => False) wc).drew) (fun h => h))).mono ?_
    rintro r w6 ⟨rfl, t6⟩
    refine ⟨_, rfl, trivial, ?_⟩
    simp only [Act.put, List.setIfInBounds_toArray, List.set_cons_zero, List.set_cons_succ]
    refine wpAnyH_yield 40 82 (.bool true) rfl rfl (by kernel_rfl) (by kernel_rfl) (by kernel_rfl) (fun _ _ _ h => h) (by kernel_rfl) (fun W hW => by kernel_rfl) (by assumption) rfl rfl ?_
    simp only [Act.put, List.setIfInBounds_toArray, List.set_cons_zero, List.set_cons_succ]
    refine wpAnyH_yield 41 4 (.bool true) rfl rfl (by kernel_rfl) (by kernel_rfl) (by kernel_rfl) (fun _ _ _ h => h) (by kernel_rfl) (fun W hW => by kernel_rfl) (by assumption) rfl rfl ?_
    simp only [Act.put, List.setIfInBounds_toArray, List.set_cons_zero, List.set_cons_succ]
    refine wpAnyH_done (by kernel_rfl) ?_ _
    go_wp2_with fail
    go_ret
    exact ⟨rfl, (HT4.out.trans HT8.out (fun _ _ h => h)).trans (((Touch.refl (fun _ => False) wc).drew).trans t6 (fun _ _ h => h)) (fun _ _ h => h)⟩

theorem seg_cell {w : World} {B off : Nat} {x : Int} (h : w.cell? ⟨B, off, none⟩ = some (.int .u8 x)) : Seg w .u8 (some ⟨B, off, none⟩) [x] :=
  ⟨fun e => by simp at e, fun a ha _ => by cases ha; rfl, fun a ha j hj => by
    cases ha
    obtain rfl : j = 0 := by simpa using hj
    rw [Addr.add_lit]
    exact h⟩

set_option maxRecDepth 100000 in
set_option maxHeartbeats 2000000 in
theorem bytes_four (s : Nat) (hs : s < 4294967296) (B off n0 n1 n2 n3 bc : Nat) (w : World) (ht : Tab w) (e0 : w.cell? ⟨B, off, none⟩ = some (.int .u8 (n0 : Int))) (e1 : w.cell? ⟨B, off + 1, none⟩ = some (.int .u8 (n1 : Int))) (e2 : w.cell? ⟨B, off + 2, none⟩ = some (.int .u8 (n2 : Int))) (e3 : w.cell? ⟨B, off + 3, none⟩ = some (.int .u8 (n3 : Int)))
    (m0 : n0 < 256) (m1 : n1 < 256) (m2 : n2 < 256) (m3 : n3 < 256) (hcap : 1 ≤ bc) :
    Calls Tryd.prog 3 #[.int .u32 s, .slice (some ⟨B, off, none⟩) 4 bc] w fun e w' => e = .returned (.bool true) ∧ Touch (fun _ => False) w w' := by
  have BY := hide (fun W => bytes_any s hs W)
  have RB := hide (fun W => rbytes_any s hs W)
  have hi4 : (Tryd.prog.info? 24).map (·.size) = some (four8 s).size := by kernel_rfl
  have ho4 : (four8 s).all (·.oneCell') = true := by simp [four8, Value.oneCell']
  have heq := four_same s
  have l0 : s % 256 < 256 := by omega
  have l1 : s / 256 % 256 < 256 := by omega
  have l2 : s / 65536 % 256 < 256 := by omega
  have l3 : s / 16777216 % 256 < 256 := by omega
  have FR := hide (fun g W (c : ∀ i, W.cell? ⟨g, i, none⟩ = (four8 s)[i]?) => from_four g 0 _ _ _ _ 4 W (c 0) (c 1) (c 2) (c 3) l0 l1 l2 l3)
  rw [word_of hs] at FR
  go_enter Tryd.func3, Tryd.ntmps3
  go_wp2_with fail
  refine (BY.out _).mono ?_
  rintro e w1 ⟨rfl, t1⟩
  go_wp2_with (refine wpList_store_all rfl rfl 24 (.tmp 5) (.tmp 11) rfl w1.heap.size (four8 s) rfl rfl 24 _ (heap_alloc_last w1 _) hi4 rfl ho4 ?_)
  have tw : Touch (fun _ => False) w ((w1.alloc (.cells #[.int .u8 0, .int .u8 0, .int .u8 0, .int .u8 0] 24)).setRow w1.heap.size (four8 s)) := (t1.alloc _).setRow _ (fun h => by have := t1.size; omega)
  have b2 := setRow_heap _ w1.heap.size _ (four8 s) 24 (0, 0) (heap_alloc_last w1 (.cells #[.int .u8 0, .int .u8 0, .int .u8 0, .int .u8 0] 24))
  generalize (w1.alloc (.cells #[.int .u8 0, .int .u8 0, .int .u8 0, .int .u8 0] 24)).setRow w1.heap.size (four8 s) = w2 at *
  generalize w1.heap.size = E at *
  have hh2 : Held w2 E 24 (four8 s) := ⟨b2⟩
  refine (FR.out E w2 (fun i => cell_of_row w2 E i _ _ _ b2)).mono ?_
  rintro e w3 ⟨rfl, t3⟩
  have T3 := tw.trans t3 (fun _ _ h => h)
  have hh3 := hh2.touch t3 (fun h => h)
  have ht3 := ht.touch T3 (fun h => h)
  clear t1 tw b2 hh2 t3 BY FR hi4 ho4
  have cells : ∀ W, Held W E 24 (four8 s) → W.cell? ⟨E, 0, none⟩ = some (.int .u8 ((s % 256 : Nat) : Int)) ∧ W.cell? ⟨E, 1, none⟩ = some (.int .u8 ((s / 256 % 256 : Nat) : Int)) ∧ W.cell? ⟨E, 2, none⟩ = some (.int .u8 ((s / 65536 % 256 : Nat) : Int)) ∧ W.cell? ⟨E, 3, none⟩ = some (.int .u8 ((s / 16777216 % 256 : Nat) : Int)) := fun W h =>
    ⟨cell_of_row W E 0 _ _ _ h.block, cell_of_row W E 1 _ _ _ h.block, cell_of_row W E 2 _ _ _ h.block, cell_of_row W E 3 _ _ _ h.block⟩
  have keep : ∀ W, Touch (fun _ => False) w W → W.cell? ⟨B, off, none⟩ = some (.int .u8 (n0 : Int)) ∧ W.cell? ⟨B, off + 1, none⟩ = some (.int .u8 (n1 : Int)) ∧ W.cell? ⟨B, off + 2, none⟩ = some (.int .u8 (n2 : Int)) ∧ W.cell? ⟨B, off + 3, none⟩ = some (.int .u8 (n3 : Int)) := fun W h =>
    ⟨(h.cell (p := ⟨B, off, none⟩) (lt_of_cell e0) (fun h => h)).trans e0, (h.cell (p := ⟨B, off + 1, none⟩) (lt_of_cell e1) (fun h => h)).trans e1, (h.cell (p := ⟨B, off + 2, none⟩) (lt_of_cell e2) (fun h => h)).trans e2, (h.cell (p := ⟨B, off + 3, none⟩) (lt_of_cell e3) (fun h => h)).trans e3⟩
  have FN := hide (from_four B off n0 n1 n2 n3 bc w3 (keep _ T3).1 (keep _ T3).2.1 (keep _ T3).2.2.1 (keep _ T3).2.2.2 m0 m1 m2 m3)
  have hz : word n0 n1 n2 n3 < 4294967296 := by unfold word; omega
  have hz0 : word n0 n1 n2 n3 % 256 = n0 := by unfold word; omega
  have hz4 : four8 (word n0 n1 n2 n3) = #[.int .u8 (n0 : Int), .int .u8 (n1 : Int), .int .u8 (n2 : Int), .int .u8 (n3 : Int)] := by
    unfold four8
    rw [show word n0 n1 n2 n3 % 256 = n0 by unfold word; omega, show word n0 n1 n2 n3 / 256 % 256 = n1 by unfold word; omega, show word n0 n1 n2 n3 / 65536 % 256 = n2 by unfold word; omega, show word n0 n1 n2 n3 / 16777216 % 256 = n3 by unfold word; omega]
  have BZ := hide (fun W => bytes_any (word n0 n1 n2 n3) hz W)
  have heqz := four_same (word n0 n1 n2 n3)
  rw [hz4] at BZ heqz
  clear hz4 e0 e1 e2 e3
  generalize word n0 n1 n2 n3 = z at *
  go_wp2_with fail
  refine FN.out.mono ?_
  rintro e w4 ⟨rfl, t4⟩
  have T4 := T3.trans t4 (fun _ _ h => h)
  have hh4 := hh3.touch t4 (fun h => h)
  have ht4 := ht.touch T4 (fun h => h)
  obtain ⟨c0, c1, c2, c3⟩ := cells w4 hh4
  clear t4 hh3 T3 ht3 cells hh4
  simp only [four8] at RB heq
  generalize s % 256 = p0 at *
  generalize s / 256 % 256 = p1 at *
  generalize s / 65536 % 256 = p2 at *
  generalize s / 16777216 % 256 = p3 at *
  have HT4 := hide T4
  have HTa := hide ht4
  have HK := hide keep
  clear T4 ht4 FN keep
  go_wp2_with fail
  go_cut [41] from 22 to 41 (fun c wc => c = .bool false ∧ Touch (fun _ => False) w4 wc)
  case first =>
    go_region_held3 (fun W => W.cell? ⟨E, 0, none⟩ = some (.int .u8 (p0 : Int)) ∧ W.cell? ⟨E, 1, none⟩ = some (.int .u8 (p1 : Int)) ∧ W.cell? ⟨E, 2, none⟩ = some (.int .u8 (p2 : Int)) ∧ W.cell? ⟨E, 3, none⟩ = some (.int .u8 (p3 : Int))) (go_keep) (first | (go_at_call 7; refine (RB.out _).mono ?_; rintro r w5 ⟨rfl, t5⟩; have T5 := ((Touch.refl (fun _ => False) w4).drew).trans t5 (fun _ _ h => h); have d0 := (T5.cell (p := ⟨E, 0, none⟩) (lt_of_cell c0) (fun h => h)).trans c0; have d1 := (T5.cell (p := ⟨E, 1, none⟩) (lt_of_cell c1) (fun h => h)).trans c1; have d2 := (T5.cell (p := ⟨E, 2, none⟩) (lt_of_cell c2) (fun h => h)).trans c2; have d3 := (T5.cell (p := ⟨E, 3, none⟩) (lt_of_cell c3) (fun h => h)).trans c3))
    all_goals go_wp2_with fail
    all_goals go_meet
    all_goals (case rel => exact ⟨rfl, T5⟩)
  case rest =>
    obtain ⟨rfl, ht8⟩ := hcut
    have HTc := hide (HTa.out.touch ht8 (fun h => h))
    have HT8 := hide (HT4.out.trans ht8 (fun _ _ h => h))
    clear ht8 RB heq c0 c1 c2 c3
    have hsl : ∀ W, (Instr.slice 23 (.slice (some ⟨B, off, none⟩) 4 bc) none (some (.int .i64 1)) none).run Tryd.prog W = .ok (.slice (some ⟨B, off, none⟩) 1 bc) W := by
      intro W
      obtain ⟨i0, hi, hz0, hz1, hz2⟩ := info_parts infoU8
      have he : Tryd.prog.elem 23 = 5 := by kernel_rfl
      rw [run_slice_h W 23 (some ⟨B, off, none⟩) _ bc (by rw [he]; exact Tryd.underlying23) .i64 1 (by omega) (by omega), he]
      simp only [sizeOf, typeInfo]
      simp [hi, hz1, sliced, Addr.add_lit]
    have hcv : ∀ W, Touch (fun _ => False) wc W → (convert 23 9 (.slice (some ⟨B, off, none⟩) 1 bc)).run Tryd.prog W = .ok (.string (strOfNums [(n0 : Int)])) W := fun W h =>
      conv_seg (seg_cell (HK.out W (HT8.out.trans h (fun _ _ h => h))).1) bc
    have hz0' : (z : Int).tmod 256 = (n0 : Int) := by rw [Int.tmod_eq_emod_of_nonneg (by omega)]; omega
    have hn0 : IntKind.u8.wrap (n0 : Int) = (n0 : Int) := by rw [IntKind.wrap_u8]; omega
    go_wp2_with fail
    refine wp_region_held (S := Touch (fun _ => False) wc) (by kernel_rfl) ?_
    have hT : Touch (fun _ => False) wc { wc with drawn := wc.drawn + 1 } := (Touch.refl (fun _ => False) wc).drew
    refine wpAnyH_yield 0 42 (.bool true) rfl rfl (by kernel_rfl) (by kernel_rfl) (by kernel_rfl) (fun _ _ _ h => h) (by kernel_rfl) (fun W hW => by kernel_rfl) (by assumption) rfl rfl ?_
    simp only [Act.put, List.setIfInBounds_toArray, List.set_cons_zero, List.set_cons_succ]
    refine wpAnyH_yield 1 43 (.bool false) rfl rfl (by kernel_rfl) (by kernel_rfl) (by kernel_rfl) (fun _ _ _ h => h) (by kernel_rfl) (fun W hW => by kernel_rfl) (by assumption) rfl rfl ?_
    simp only [Act.put, List.setIfInBounds_toArray, List.set_cons_zero, List.set_cons_succ]
    refine wpAnyH_yield 2 44 (.bool false) rfl rfl (by kernel_rfl) (by kernel_rfl) (by kernel_rfl) (fun _ _ _ h => h) (by kernel_rfl) (fun W hW => by kernel_rfl) (by assumption) rfl rfl ?_
    simp only [Act.put, List.setIfInBounds_toArray, List.set_cons_zero, List.set_cons_succ]
    refine wpAnyH_skip 3 45 rfl rfl (by kernel_rfl) (by kernel_rfl) (by kernel_rfl) (fun _ _ _ h => h) (by kernel_rfl) (by assumption) rfl rfl ?_
    simp only [Act.put, List.setIfInBounds_toArray, List.set_cons_zero, List.set_cons_succ]
    refine wpAnyH_skip 4 46 rfl rfl (by kernel_rfl) (by kernel_rfl) (by kernel_rfl) (fun _ _ _ h => h) (by kernel_rfl) (by assumption) rfl rfl ?_
    simp only [Act.put, List.setIfInBounds_toArray, List.set_cons_zero, List.set_cons_succ]
    refine wpAnyH_yield 5 47 (.bool false) rfl rfl (by kernel_rfl) (by kernel_rfl) (by kernel_rfl) (fun _ _ _ h => h) (by kernel_rfl) (fun W hW => by kernel_rfl) (by assumption) rfl rfl ?_
    simp only [Act.put, List.setIfInBounds_toArray, List.set_cons_zero, List.set_cons_succ]
    refine wpAnyH_yield 6 48 (.bool false) rfl rfl (by kernel_rfl) (by kernel_rfl) (by kernel_rfl) (fun _ _ _ h => h) (by kernel_rfl) (fun W hW => by kernel_rfl) (by assumption) rfl rfl ?_
    simp only [Act.put, List.setIfInBounds_toArray, List.set_cons_zero, List.set_cons_succ]
    refine wpAnyH_yield 7 49 (.bool true) rfl rfl (by kernel_rfl) (by kernel_rfl) (by kernel_rfl) (fun _ _ _ h => h) (by kernel_rfl) (fun W hW => by kernel_rfl) (by assumption) rfl rfl ?_
    simp only [Act.put, List.setIfInBounds_toArray, List.set_cons_zero, List.set_cons_succ]
    refine wpAnyH_yield 8 50 (.bool true) rfl rfl (by kernel_rfl) (by kernel_rfl) (by kernel_rfl) (fun _ _ _ h => h) (by kernel_rfl) (fun W hW => by kernel_rfl) (by assumption) rfl rfl ?_
    simp only [Act.put, List.setIfInBounds_toArray, List.set_cons_zero, List.set_cons_succ]
    refine wpAnyH_yield 9 51 (.slice (some ⟨B, off, none⟩) 4 bc) rfl rfl (by kernel_rfl) (by kernel_rfl) (by kernel_rfl) (fun _ _ _ h => h) (by kernel_rfl) (fun W hW => by kernel_rfl) (by assumption) rfl rfl ?_
    simp only [Act.put, List.setIfInBounds_toArray, List.set_cons_zero, List.set_cons_succ]
    refine wpAnyH_yield 10 52 (.slice (some ⟨B, off, none⟩) 1 bc) rfl rfl (by kernel_rfl) (by kernel_rfl) (by kernel_rfl) (fun _ _ _ h => h) (by kernel_rfl) (fun W hW => by have h := hsl W; go_simp) (by assumption) rfl rfl ?_
    simp only [Act.put, List.setIfInBounds_toArray, List.set_cons_zero, List.set_cons_succ]
    refine wpAnyH_yield 11 53 (.string (strOfNums [(n0 : Int)])) rfl rfl (by kernel_rfl) (by kernel_rfl) (by kernel_rfl) (fun _ _ _ h => h) (by kernel_rfl) (fun W hW => by have h := hcv W hW; go_simp) (by assumption) rfl rfl ?_
    simp only [Act.put, List.setIfInBounds_toArray, List.set_cons_zero, List.set_cons_succ]
    refine wpAnyH_yield 12 54 (.int .u32 (z : Int)) rfl rfl (by kernel_rfl) (by kernel_rfl) (by kernel_rfl) (fun _ _ _ h => h) (by kernel_rfl) (fun W hW => by kernel_rfl) (by assumption) rfl rfl ?_
    simp only [Act.put, List.setIfInBounds_toArray, List.set_cons_zero, List.set_cons_succ]
    refine wpAnyH_yield 13 55 (.int .u32 (n0 : Int)) rfl rfl (by kernel_rfl) (by kernel_rfl) (by kernel_rfl) (fun _ _ _ h => h) (by kernel_rfl) (fun W hW => by go_simp) (by assumption) rfl rfl ?_
    simp only [Act.put, List.setIfInBounds_toArray, List.set_cons_zero, List.set_cons_succ]
    refine wpAnyH_yield 14 56 (.int .u8 (n0 : Int)) rfl rfl (by kernel_rfl) (by kernel_rfl) (by kernel_rfl) (fun _ _ _ h => h) (by kernel_rfl) (fun W hW => by go_simp) (by assumption) rfl rfl ?_
    simp only [Act.put, List.setIfInBounds_toArray, List.set_cons_zero, List.set_cons_succ]
    refine wpAnyH_value 15 57 (.slice (some ⟨wc.heap.size, 0, none⟩) 1 1) (w' := wc.drew.alloc (.cells #[.int .u8 (n0 : Int)] 5)) rfl rfl (by kernel_rfl) (by kernel_rfl) (by go_simp) (((Touch.refl (fun _ => False) wc).drew).alloc _) ?_
    simp only [Act.put, List.setIfInBounds_toArray, List.set_cons_zero, List.set_cons_succ]
    have hT2 : Touch (fun _ => False) wc (wc.drew.alloc (.cells #[.int .u8 (n0 : Int)] 5)) := ((Touch.refl (fun _ => False) wc).drew).alloc _
    have hc2 : (convert 23 9 (.slice (some ⟨wc.heap.size, 0, none⟩) 1 1)).run Tryd.prog (wc.drew.alloc (.cells #[.int .u8 (n0 : Int)] 5)) = .ok (.string (strOfNums [(n0 : Int)])) (wc.drew.alloc (.cells #[.int .u8 (n0 : Int)] 5)) :=
      conv_seg (seg_of (xs := [(n0 : Int)]) (heap_alloc_last wc.drew _) rfl) 1
    generalize wc.drew.alloc (.cells #[.int .u8 (n0 : Int)] 5) = w5 at *
    refine wpAnyH_value 16 58 (.string (strOfNums [(n0 : Int)])) (w' := w5) rfl rfl (by kernel_rfl) (by kernel_rfl) (by go_simp) hT2 ?_
    simp only [Act.put, List.setIfInBounds_toArray, List.set_cons_zero, List.set_cons_succ]
    refine wpAnyH_yield 17 59 (.bool true) rfl rfl (by kernel_rfl) (by kernel_rfl) (by kernel_rfl) (fun _ _ _ h => h) (by kernel_rfl) (fun W hW => by go_simp) (by assumption) rfl rfl ?_
    simp only [Act.put, List.setIfInBounds_toArray, List.set_cons_zero, List.set_cons_succ]
    refine wpAnyH_yield 18 60 (.bool true) rfl rfl (by kernel_rfl) (by kernel_rfl) (by kernel_rfl) (fun _ _ _ h => h) (by kernel_rfl) (fun W hW => by kernel_rfl) (by assumption) rfl rfl ?_
    simp only [Act.put, List.setIfInBounds_toArray, List.set_cons_zero, List.set_cons_succ]
    refine wpAnyH_yield 19 61 (.bool true) rfl rfl (by kernel_rfl) (by kernel_rfl) (by kernel_rfl) (fun _ _ _ h => h) (by kernel_rfl) (fun W hW => by kernel_rfl) (by assumption) rfl rfl ?_
    simp only [Act.put, List.setIfInBounds_toArray, List.set_cons_zero, List.set_cons_succ]
    refine wpAnyH_yield 20 62 (.int .u32 (z : Int)) rfl rfl (by kernel_rfl) (by kernel_rfl) (by kernel_rfl) (fun _ _ _ h => h) (by kernel_rfl) (fun W hW => by kernel_rfl) (by assumption) rfl rfl ?_
    simp only [Act.put, List.setIfInBounds_toArray, List.set_cons_zero, List.set_cons_succ]
    refine wpAnyH_yield 22 64 (.slice (some ⟨B, off, none⟩) 4 bc) rfl rfl (by kernel_rfl) (by kernel_rfl) (by kernel_rfl) (fun _ _ _ h => h) (by kernel_rfl) (fun W hW => by kernel_rfl) (by assumption) rfl rfl ?_
    simp only [Act.put, List.setIfInBounds_toArray, List.set_cons_zero, List.set_cons_succ]
    refine wpAnyH_yield 23 65 (.pointer (some ⟨B, off, none⟩)) rfl rfl (by kernel_rfl) (by kernel_rfl) (by kernel_rfl) (fun _ _ _ h => h) (by kernel_rfl) (fun W hW => by go_simp) (by assumption) rfl rfl ?_
    simp only [Act.put, List.setIfInBounds_toArray, List.set_cons_zero, List.set_cons_succ]
    refine wpAnyH_yield 24 66 (.int .u8 (n0 : Int)) rfl rfl (by kernel_rfl) (by kernel_rfl) (by kernel_rfl) (fun _ _ _ h => h) (by kernel_rfl) (fun W hW => by obtain ⟨k0, k1, k2, k3⟩ := HK.out W (HT8.out.trans hW (fun _ _ h => h)); go_simp) (by assumption) rfl rfl ?_
    simp only [Act.put, List.setIfInBounds_toArray, List.set_cons_zero, List.set_cons_succ]
    refine wpAnyH_yield 25 67 (.slice (some ⟨B, off, none⟩) 4 bc) rfl rfl (by kernel_rfl) (by kernel_rfl) (by kernel_rfl) (fun _ _ _ h => h) (by kernel_rfl) (fun W hW => by kernel_rfl) (by assumption) rfl rfl ?_
    simp only [Act.put, List.setIfInBounds_toArray, List.set_cons_zero, List.set_cons_succ]
    refine wpAnyH_yield 26 68 (.pointer (some ⟨B, off + 1, none⟩)) rfl rfl (by kernel_rfl) (by kernel_rfl) (by kernel_rfl) (fun _ _ _ h => h) (by kernel_rfl) (fun W hW => by go_simp) (by assumption) rfl rfl ?_
    simp only [Act.put, List.setIfInBounds_toArray, List.set_cons_zero, List.set_cons_succ]
    refine wpAnyH_yield 27 69 (.int .u8 (n1 : Int)) rfl rfl (by kernel_rfl) (by kernel_rfl) (by kernel_rfl) (fun _ _ _ h => h) (by kernel_rfl) (fun W hW => by obtain ⟨k0, k1, k2, k3⟩ := HK.out W (HT8.out.trans hW (fun _ _ h => h)); go_simp) (by assumption) rfl rfl ?_
    simp only [Act.put, List.setIfInBounds_toArray, List.set_cons_zero, List.set_cons_succ]
    refine wpAnyH_yield 28 70 (.slice (some ⟨B, off, none⟩) 4 bc) rfl rfl (by kernel_rfl) (by kernel_rfl) (by kernel_rfl) (fun _ _ _ h => h) (by kernel_rfl) (fun W hW => by kernel_rfl) (by assumption) rfl rfl ?_
    simp only [Act.put, List.setIfInBounds_toArray, List.set_cons_zero, List.set_cons_succ]
    refine wpAnyH_yield 29 71 (.pointer (some ⟨B, off + 2, none⟩)) rfl rfl (by kernel_rfl) (by kernel_rfl) (by kernel_rfl) (fun _ _ _ h => h) (by kernel_rfl) (fun W hW => by go_simp) (by assumption) rfl rfl ?_
    simp only [Act.put, List.setIfInBounds_toArray, List.set_cons_zero, List.set_cons_succ]
    refine wpAnyH_yield 30 72 (.int .u8 (n2 : Int)) rfl rfl (by kernel_rfl) (by kernel_rfl) (by kernel_rfl) (fun _ _ _ h => h) (by kernel_rfl) (fun W hW => by obtain ⟨k0, k1, k2, k3⟩ := HK.out W (HT8.out.trans hW (fun _ _ h => h)); go_simp) (by assumption) rfl rfl ?_
    simp only [Act.put, List.setIfInBounds_toArray, List.set_cons_zero, List.set_cons_succ]
    refine wpAnyH_yield 31 73 (.slice (some ⟨B, off, none⟩) 4 bc) rfl rfl (by kernel_rfl) (by kernel_rfl) (by kernel_rfl) (fun _ _ _ h => h) (by kernel_rfl) (fun W hW => by kernel_rfl) (by assumption) rfl rfl ?_
    simp only [Act.put, List.setIfInBounds_toArray, List.set_cons_zero, List.set_cons_succ]
    refine wpAnyH_yield 32 74 (.pointer (some ⟨B, off + 3, none⟩)) rfl rfl (by kernel_rfl) (by kernel_rfl) (by kernel_rfl) (fun _ _ _ h => h) (by kernel_rfl) (fun W hW => by go_simp) (by assumption) rfl rfl ?_
    simp only [Act.put, List.setIfInBounds_toArray, List.set_cons_zero, List.set_cons_succ]
    refine wpAnyH_yield 33 75 (.int .u8 (n3 : Int)) rfl rfl (by kernel_rfl) (by kernel_rfl) (by kernel_rfl) (fun _ _ _ h => h) (by kernel_rfl) (fun W hW => by obtain ⟨k0, k1, k2, k3⟩ := HK.out W (HT8.out.trans hW (fun _ _ h => h)); go_simp) (by assumption) rfl rfl ?_
    simp only [Act.put, List.setIfInBounds_toArray, List.set_cons_zero, List.set_cons_succ]
    refine wpAnyH_yield 34 76 (.agg #[.int .u8 (n0 : Int), .int .u8 (n1 : Int), .int .u8 (n2 : Int), .int .u8 (n3 : Int)]) rfl rfl (by kernel_rfl) (by kernel_rfl) (by kernel_rfl) (fun _ _ _ h => h) (by kernel_rfl) (fun W hW => by go_simp) (by assumption) rfl rfl ?_
    simp only [Act.put, List.setIfInBounds_toArray, List.set_cons_zero, List.set_cons_succ]
    refine wpAnyH_enter 21 63 5 #[.int .u32 (z : Int)] rfl rfl (by kernel_rfl) (by kernel_rfl) (by kernel_rfl) ?_
    refine (BZ.out _).mono ?_
    rintro r w6 ⟨rfl, t6⟩
    have hT6 : Touch (fun _ => False) wc w6 := hT2.trans t6 (fun _ _ h => h)
    refine ⟨_, rfl, hT6, ?_⟩
    simp only [Act.put, List.setIfInBounds_toArray, List.set_cons_zero, List.set_cons_succ]
    refine wpAnyH_yield 35 77 (.bool true) rfl rfl (by kernel_rfl) (by kernel_rfl) (by kernel_rfl) (fun _ _ _ h => h) (by kernel_rfl) (fun W hW => by have h := heqz W; go_simp) (by assumption) rfl rfl ?_
    simp only [Act.put, List.setIfInBounds_toArray, List.set_cons_zero, List.set_cons_succ]
    refine wpAnyH_yield 36 78 (.bool true) rfl rfl (by kernel_rfl) (by kernel_rfl) (by kernel_rfl) (fun _ _ _ h => h) (by kernel_rfl) (fun W hW => by kernel_rfl) (by assumption) rfl rfl ?_
    simp only [Act.put, List.setIfInBounds_toArray, List.set_cons_zero, List.set_cons_succ]
    refine wpAnyH_yield 37 79 (.bool true) rfl rfl (by kernel_rfl) (by kernel_rfl) (by kernel_rfl) (fun _ _ _ h => h) (by kernel_rfl) (fun W hW => by kernel_rfl) (by assumption) rfl rfl ?_
    simp only [Act.put, List.setIfInBounds_toArray, List.set_cons_zero, List.set_cons_succ]
    refine wpAnyH_yield 38 80 (.bool true) rfl rfl (by kernel_rfl) (by kernel_rfl) (by kernel_rfl) (fun _ _ _ h => h) (by kernel_rfl) (fun W hW => by kernel_rfl) (by assumption) rfl rfl ?_
    simp only [Act.put, List.setIfInBounds_toArray, List.set_cons_zero, List.set_cons_succ]
    refine wpAnyH_enter 39 81 8 #[] rfl rfl (by kernel_rfl) (by kernel_rfl) (by kernel_rfl) ?_
    refine (works_any _ (HTc.out.touch hT6 (fun h => h))).mono ?_
    rintro r w7 ⟨rfl, t7⟩
    have hT7 : Touch (fun _ => False) wc w7 := hT6.trans t7 (fun _ _ h => h)
    refine ⟨_, rfl, hT7, ?_⟩
    simp only [Act.put, List.setIfInBounds_toArray, List.set_cons_zero, List.set_cons_succ]
    refine wpAnyH_yield 40 82 (.bool true) rfl rfl (by kernel_rfl) (by kernel_rfl) (by kernel_rfl) (fun _ _ _ h => h) (by kernel_rfl) (fun W hW => by kernel_rfl) (by assumption) rfl rfl ?_
    simp only [Act.put, List.setIfInBounds_toArray, List.set_cons_zero, List.set_cons_succ]
    refine wpAnyH_yield 41 4 (.bool true) rfl rfl (by kernel_rfl) (by kernel_rfl) (by kernel_rfl) (fun _ _ _ h => h) (by kernel_rfl) (fun W hW => by kernel_rfl) (by assumption) rfl rfl ?_
    simp only [Act.put, List.setIfInBounds_toArray, List.set_cons_zero, List.set_cons_succ]
    refine wpAnyH_done (by kernel_rfl) ?_ _
    go_wp2_with fail
    go_ret
    exact ⟨rfl, HT8.out.trans hT7 (fun _ _ h => h)⟩

end Go.Proofs.YtfnbbekkcopmbaaDoor
