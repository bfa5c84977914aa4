/- The verifier's closed look at the program: works answers true. -/
import Derived.Test.YtmmeglpglaogeaaDoorHash
import Derived.Test.YtmmeglpglaogeaaDoorByt
import Derived.Lib.SlBytesConst
namespace Go.Proofs.YtmmeglpglaogeaaDoor
open Go.RowKit Crcx

theorem heap_alloc_old {w : World} {o : Obj} {k : Nat} (h : k < w.heap.size) : (w.alloc o).heap[k]? = w.heap[k]? := by
  exact Below.heap_alloc w o k h

theorem seg_of {w : World} {g : Nat} {k : IntKind} {xs : List Int} {t : TypeId} {fr : Nat × Nat} {c : Array Value} (h : w.heap[g]? = some (.cells c t fr)) (hc : c = (xs.map (Value.int k)).toArray) : Seg w k (some ⟨g, 0, none⟩) xs := by
  subst hc
  refine ⟨fun h => (nomatch h), fun a ha _ => (by injection ha with ha; subst ha; rfl), fun a ha j hj => ?_⟩
  injection ha with ha; subst ha
  rw [Addr.add_lit, Nat.zero_add, cell_of_row w g j _ _ _ h]
  simp [hj]

theorem segV_of {w : World} {g : Nat} {vs : List Value} {t : TypeId} {fr : Nat × Nat} {c : Array Value} (h : w.heap[g]? = some (.cells c t fr)) (hc : c = vs.toArray) : SegV w (some ⟨g, 0, none⟩) vs := by
  subst hc
  refine ⟨fun h => (nomatch h), fun a ha _ => (by injection ha with ha; subst ha; rfl), fun a ha j hj => ?_⟩
  injection ha with ha; subst ha
  rw [Addr.add_lit, Nat.zero_add, cell_of_row w g j _ _ _ h]
  simp [hj]

/-- The sum of one text that has just been laid. -/
theorem sum_lit1 (w : World) (ht : Tab w) (xs : List Int) (fr : Nat × Nat) (h8 : In8 xs) (hl : xs.length ≤ 281474976710656) (res : Nat) (hres : more 0 (nats xs) = res) :
    Calls Tryd.prog 18 #[.slice (some ⟨w.heap.size + 1, 0, none⟩) 1 1] ((w.alloc (.cells (xs.map (Value.int .u8)).toArray 5 fr)).alloc (.cells #[.slice (some ⟨w.heap.size, 0, none⟩) xs.length xs.length] 25))
      fun e w' => e = .returned (.int .u32 (res : Int)) ∧ Tab w' ∧ Touch (fun _ => False) w w' := by
  obtain ⟨o, ho⟩ : ∃ o, o = Obj.cells (xs.map (Value.int .u8)).toArray 5 fr := ⟨_, rfl⟩
  obtain ⟨o2, ho2⟩ : ∃ o, o = Obj.cells #[.slice (some ⟨w.heap.size, 0, none⟩) xs.length xs.length] 25 (0, 0) := ⟨_, rfl⟩
  rw [← ho, ← ho2]
  have T : Touch (fun _ => False) w ((w.alloc o).alloc o2) := ((Touch.refl _ _).alloc _).alloc _
  have b1 : ((w.alloc o).alloc o2).heap[w.heap.size]? = some o := by
    rw [heap_alloc_old (by simp)]; exact heap_alloc_last w _
  have b2 : ((w.alloc o).alloc o2).heap[w.heap.size + 1]? = some o2 := alloc_at (by simp)
  generalize (w.alloc o).alloc o2 = W at *
  rw [ho] at b1
  rw [ho2] at b2
  have := sum_any (some ⟨w.heap.size + 1, 0, none⟩) [⟨some ⟨w.heap.size, 0, none⟩, xs.length, xs⟩] 1 W (ht.touch T (fun h => h)) (segV_of b2 rfl) (fun t h => by simp at h; subst h; exact ⟨seg_of b1 rfl, h8, hl⟩) (by simp)
  refine this.mono ?_
  rintro e w' ⟨rfl, rfl⟩
  refine ⟨?_, ht.touch T (fun h => h), T⟩
  rw [show alls [⟨some ⟨w.heap.size, 0, none⟩, xs.length, xs⟩] = xs by simp [alls], hres]

/-- The sum of two texts that have just been laid. -/
theorem sum_lit2 (w : World) (ht : Tab w) (xs ys : List Int) (fr fr' : Nat × Nat) (h8 : In8 xs) (h8' : In8 ys) (hl : xs.length ≤ 281474976710656) (hl' : ys.length ≤ 281474976710656) (res : Nat) (hres : more 0 (nats (xs ++ ys)) = res) :
    Calls Tryd.prog 18 #[.slice (some ⟨w.heap.size + 2, 0, none⟩) 2 2] (((w.alloc (.cells (xs.map (Value.int .u8)).toArray 5 fr)).alloc (.cells (ys.map (Value.int .u8)).toArray 5 fr')).alloc (.cells #[.slice (some ⟨w.heap.size, 0, none⟩) xs.length xs.length, .slice (some ⟨w.heap.size + 1, 0, none⟩) ys.length ys.length] 25))
      fun e w' => e = .returned (.int .u32 (res : Int)) ∧ Tab w' ∧ Touch (fun _ => False) w w' := by
  obtain ⟨o, ho⟩ : ∃ o, o = Obj.cells (xs.map (Value.int .u8)).toArray 5 fr := ⟨_, rfl⟩
  obtain ⟨o1, ho1⟩ : ∃ o, o = Obj.cells (ys.map (Value.int .u8)).toArray 5 fr' := ⟨_, rfl⟩
  obtain ⟨o2, ho2⟩ : ∃ o, o = Obj.cells #[.slice (some ⟨w.heap.size, 0, none⟩) xs.length xs.length, .slice (some ⟨w.heap.size + 1, 0, none⟩) ys.length ys.length] 25 (0, 0) := ⟨_, rfl⟩
  rw [← ho, ← ho1, ← ho2]
  have T : Touch (fun _ => False) w (((w.alloc o).alloc o1).alloc o2) := (((Touch.refl _ _).alloc _).alloc _).alloc _
  have b1 : (((w.alloc o).alloc o1).alloc o2).heap[w.heap.size]? = some o := by
    rw [heap_alloc_old (by simp; omega), heap_alloc_old (by simp)]; exact heap_alloc_last w _
  have b11 : (((w.alloc o).alloc o1).alloc o2).heap[w.heap.size + 1]? = some o1 := by
    rw [heap_alloc_old (by simp)]; exact alloc_at (by simp)
  have b2 : (((w.alloc o).alloc o1).alloc o2).heap[w.heap.size + 2]? = some o2 := alloc_at (by simp)
  generalize ((w.alloc o).alloc o1).alloc o2 = W at *
  rw [ho] at b1
  rw [ho1] at b11
  rw [ho2] at b2
  have := sum_any (some ⟨w.heap.size + 2, 0, none⟩) [⟨some ⟨w.heap.size, 0, none⟩, xs.length, xs⟩, ⟨some ⟨w.heap.size + 1, 0, none⟩, ys.length, ys⟩] 2 W (ht.touch T (fun h => h)) (segV_of b2 rfl) (fun t h => by
    rcases List.mem_cons.1 h with h | h
    · subst h; exact ⟨seg_of b1 rfl, h8, hl⟩
    · simp at h; subst h; exact ⟨seg_of b11 rfl, h8', hl'⟩) (by simp)
  refine this.mono ?_
  rintro e w' ⟨rfl, rfl⟩
  refine ⟨?_, ht.touch T (fun h => h), T⟩
  rw [show alls [⟨some ⟨w.heap.size, 0, none⟩, xs.length, xs⟩, ⟨some ⟨w.heap.size + 1, 0, none⟩, ys.length, ys⟩] = xs ++ ys by simp [alls], hres]

theorem in8_dec {xs : List Int} (h : xs.all (fun x => decide (0 ≤ x) && decide (x ≤ 255)) = true) : In8 xs := by
  intro x hx
  have := List.all_eq_true.1 h x hx
  simpa using this

theorem conv_const (W : World) (C : Array Value) (n c g : Nat) (hg : g = W.heap.size) :
    (convert 25 25 (.slice (some ⟨g, 0, none⟩) n c)).run Tryd.prog (W.alloc (.cells C 5)) = .ok (.slice (some ⟨g, 0, none⟩) n c) (W.alloc (.cells C 5 (C.size, C.size + 1))) := by
  subst hg; exact Lib.run_convert_bytes_const W 25 5 C n c Tryd.underlying25 Tryd.underlying5

theorem a4 : In8 [49, 50, 51, 52] := in8_dec (by decide)
theorem a5 : In8 [53, 54, 55, 56, 57] := in8_dec (by decide)
theorem a9 : In8 [49, 50, 51, 52, 53, 54, 55, 56, 57] := in8_dec (by decide)
theorem a1 : In8 [1] := in8_dec (by decide)
theorem s9 : more 0 (nats ([49, 50, 51, 52] ++ [53, 54, 55, 56, 57])) = 3808858755 := by decide +kernel

theorem s4 : more 0 (nats [49, 50, 51, 52]) = 4131058926 := by decide +kernel
theorem s5 : more 0 (nats [53, 54, 55, 56, 57]) = 2209703384 := by decide +kernel
theorem s1 : more 0 (nats [1]) = 2685849682 := by decide +kernel
theorem s9' : more 0 (nats [49, 50, 51, 52, 53, 54, 55, 56, 57]) = 3808858755 := by decide +kernel
theorem j45 : stps (far 5) 4131058926 ^^^ 2209703384 = 3808858755 := by decide +kernel
theorem z4 : 4294967295 ^^^ stps (far 4) 4294967295 = 1214729159 := by decide +kernel

theorem from_lit (w : World) (ht : Tab w) :
    Calls Tryd.prog 19 #[.slice (some ⟨w.heap.size, 0, none⟩) 4 4] (w.alloc (.cells #[.int .u8 131, .int .u8 146, .int .u8 6, .int .u8 227] 5))
      fun e w' => e = .returned (.tuple #[.int .u32 3808858755, .bool true]) ∧ Tab w' ∧ Touch (fun _ => False) w w' := by
  obtain ⟨o, ho⟩ : ∃ o, o = Obj.cells #[.int .u8 131, .int .u8 146, .int .u8 6, .int .u8 227] 5 (0, 0) := ⟨_, rfl⟩
  rw [← ho]
  have T : Touch (fun _ => False) w (w.alloc o) := (Touch.refl _ _).alloc _
  have b1 : (w.alloc o).heap[w.heap.size]? = some o := heap_alloc_last w _
  generalize w.alloc o = W at *
  rw [ho] at b1
  have c := fun i => cell_of_row W w.heap.size i _ _ _ b1
  refine (from_four w.heap.size 0 131 146 6 227 4 W (c 0) (c 1) (c 2) (c 3) (by omega) (by omega) (by omega) (by omega)).mono ?_
  rintro e w' ⟨rfl, t⟩
  exact ⟨rfl, ht.touch (T.trans t (fun _ _ h => h)) (fun h => h), T.trans t (fun _ _ h => h)⟩

theorem more_lit1 (w : World) (ht : Tab w) :
    Calls Tryd.prog 15 #[.int .u32 0, .slice (some ⟨w.heap.size, 0, none⟩) 1 1] (w.alloc (.cells #[.int .u8 1] 5))
      fun e w' => e = .returned (.int .u32 2685849682) ∧ Tab w' ∧ Touch (fun _ => False) w w' := by
  obtain ⟨o, ho⟩ : ∃ o, o = Obj.cells #[.int .u8 1] 5 (0, 0) := ⟨_, rfl⟩
  rw [← ho]
  have T : Touch (fun _ => False) w (w.alloc o) := (Touch.refl _ _).alloc _
  have b1 : (w.alloc o).heap[w.heap.size]? = some o := heap_alloc_last w _
  generalize w.alloc o = W at *
  rw [ho] at b1
  have := more_any 0 (by omega) (some ⟨w.heap.size, 0, none⟩) [1] 1 W (ht.touch T (fun h => h)) (seg_of b1 rfl) a1 (by decide)
  rw [s1] at this
  refine this.mono ?_
  rintro e w' ⟨rfl, rfl⟩
  exact ⟨rfl, ht.touch T (fun h => h), T⟩

theorem write_lit (w : World) (ht : Tab w) (g : Nat) (h : Hs w g 0 0) :
    Calls Tryd.prog 7 #[.pointer (some ⟨g, 0, none⟩), .slice (some ⟨w.heap.size + 1, 0, none⟩) 1 1] ((w.alloc (.cells #[.int .u8 49, .int .u8 50, .int .u8 51, .int .u8 52, .int .u8 53, .int .u8 54, .int .u8 55, .int .u8 56, .int .u8 57] 5 (9, 10))).alloc (.cells #[.slice (some ⟨w.heap.size, 0, none⟩) 9 9] 25))
      fun e w' => e = .returned (.int .i64 0) ∧ Hs w' g 3808858755 9 ∧ Tab w' ∧ Touch (fun k => k = g) w w' := by
  obtain ⟨o, ho⟩ : ∃ o, o = Obj.cells #[.int .u8 49, .int .u8 50, .int .u8 51, .int .u8 52, .int .u8 53, .int .u8 54, .int .u8 55, .int .u8 56, .int .u8 57] 5 (9, 10) := ⟨_, rfl⟩
  obtain ⟨o2, ho2⟩ : ∃ o, o = Obj.cells #[.slice (some ⟨w.heap.size, 0, none⟩) 9 9] 25 (0, 0) := ⟨_, rfl⟩
  rw [← ho, ← ho2]
  have T : Touch (fun _ => False) w ((w.alloc o).alloc o2) := ((Touch.refl _ _).alloc _).alloc _
  have b1 : ((w.alloc o).alloc o2).heap[w.heap.size]? = some o := by
    rw [heap_alloc_old (by simp)]; exact heap_alloc_last w _
  have b2 : ((w.alloc o).alloc o2).heap[w.heap.size + 1]? = some o2 := alloc_at (by simp)
  generalize (w.alloc o).alloc o2 = W at *
  rw [ho] at b1
  rw [ho2] at b2
  have := write_any g 0 0 (some ⟨w.heap.size + 1, 0, none⟩) [⟨some ⟨w.heap.size, 0, none⟩, 9, [49, 50, 51, 52, 53, 54, 55, 56, 57]⟩] 1 W (by omega) (h.touch T (fun h => h)) (ht.touch T (fun h => h)) (segV_of b2 rfl) (fun t h => by simp at h; subst h; exact ⟨seg_of b1 rfl, a9, show (9 : Nat) ≤ 281474976710656 by omega⟩) (by simp) ⟨show ((9 : Nat) : Int) < 9223372036854775808 by decide⟩
  refine this.mono ?_
  rintro e w' ⟨rfl, hh, t⟩
  rw [show alls [⟨some ⟨w.heap.size, 0, none⟩, 9, [49, 50, 51, 52, 53, 54, 55, 56, 57]⟩] = [49, 50, 51, 52, 53, 54, 55, 56, 57] by simp [alls], s9'] at hh
  have t' : Touch (fun k => k = g) w w' := (T.mono (S' := fun k => k = g) (fun _ _ h => h.elim)).trans t (fun _ _ h => h)
  exact ⟨rfl, hh, ht.touch t' (fun e => h.ne_tab ht e.symm), t'⟩

set_option maxRecDepth 100000 in
theorem works_any (w : World) (ht : Tab w) : Calls Tryd.prog 14 #[] w fun e w' => e = .returned (.bool true) ∧ Touch (fun _ => False) w w' := by
  have hcv := conv_const
  have SL := hide (fun W h => sum_lit2 W h [49, 50, 51, 52] [53, 54, 55, 56, 57] (4, 5) (5, 6) a4 a5 (by decide) (by decide) _ s9)
  have SA := hide (fun W h => sum_lit1 W h [49, 50, 51, 52] (4, 5) a4 (by decide) _ s4)
  have SB := hide (fun W h => sum_lit1 W h [53, 54, 55, 56, 57] (5, 6) a5 (by decide) _ s5)
  have SC := hide (fun W h => sum_lit1 W h [1] (0, 0) a1 (by decide) _ s1)
  have JO := hide (fun W h => join_any 4131058926 2209703384 (by omega) (by omega) 5 ⟨by decide⟩ W h)
  rw [j45] at JO
  have ZE := hide (fun W h => zeros_any 4 ⟨by decide⟩ W h)
  rw [z4] at ZE
  go_enter Tryd.func14, Tryd.ntmps14
  go_wp2_with fail
  refine (SL.out w ht).mono ?_
  rintro e w1 ⟨rfl, ht1, tw1⟩
  clear SL
  go_wp2_with fail
  refine (from_lit w1 ht1).mono ?_
  rintro e w2 ⟨rfl, ht2, tw2⟩
  go_wp2_with fail
  refine (new_any w2).mono ?_
  rintro e w3 ⟨rfl, hh3, tw3⟩
  have ht3 := ht2.touch tw3 (fun h => h)
  have T3 := (tw1.trans tw2 (fun _ _ h => h)).trans tw3 (fun _ _ h => h)
  have hg : w.heap.size ≤ w2.heap.size := Nat.le_trans tw1.size tw2.size
  obtain ⟨g, hgg⟩ : ∃ g, g = w2.heap.size := ⟨_, rfl⟩
  rw [← hgg] at hh3 hg ⊢
  clear tw1 tw2 tw3 ht1 ht2 hgg
  go_wp2_with fail
  refine (write_lit w3 ht3 g hh3).mono ?_
  rintro e w4 ⟨rfl, hh4, ht4, tw4⟩
  have T4 : Touch (fun _ => False) w w4 := T3.trans tw4 (fun k hk h => by omega)
  clear T3 tw4 ht3 hh3
  go_wp2_with fail
  refine (SA.out w4 ht4).mono ?_
  rintro e w5 ⟨rfl, ht5, tw5⟩
  have hh5 := hh4.touch tw5 (fun h => h)
  have T5 := T4.trans tw5 (fun _ _ h => h)
  clear SA T4 tw5 hh4 ht4
  go_wp2_with fail
  refine (SB.out w5 ht5).mono ?_
  rintro e w6 ⟨rfl, ht6, tw6⟩
  have hh6 := hh5.touch tw6 (fun h => h)
  have T6 := T5.trans tw6 (fun _ _ h => h)
  clear SB T5 tw6 hh5 ht5
  go_wp2_with fail
  refine (JO.out w6 ht6).mono ?_
  rintro e w7 ⟨rfl, tw7⟩
  have ht7 := ht6.touch tw7 (fun h => h)
  have hh7 := hh6.touch tw7 (fun h => h)
  have T7 := T6.trans tw7 (fun _ _ h => h)
  clear JO T6 tw7 hh6 ht6
  go_wp2_with fail
  refine (ZE.out w7 ht7).mono ?_
  rintro e w8 ⟨rfl, tw8⟩
  have ht8 := ht7.touch tw8 (fun h => h)
  have hh8 := hh7.touch tw8 (fun h => h)
  have T8 := T7.trans tw8 (fun _ _ h => h)
  clear ZE T7 tw8 hh7 ht7
  go_wp2_with fail
  refine (num_any _ _).mono ?_
  rintro e w' ⟨rfl, rfl⟩
  go_wp2_with fail
  refine (hsum_any _ _ _ _ hh8).mono ?_
  rintro e w' ⟨rfl, rfl⟩
  go_wp2_with fail
  refine (hlen_any _ _ _ _ hh8).mono ?_
  rintro e w' ⟨rfl, rfl⟩
  go_wp2_with fail
  refine (more_lit1 w8 ht8).mono ?_
  rintro e w9 ⟨rfl, ht9, tw9⟩
  have T9 := T8.trans tw9 (fun _ _ h => h)
  clear T8 tw9 hh8 ht8
  go_wp2_with fail
  refine (SC.out w9 ht9).mono ?_
  rintro e w10 ⟨rfl, ht10, tw10⟩
  have T10 := T9.trans tw10 (fun _ _ h => h)
  clear SC T9 tw10 ht9 ht10
  go_wp2_with fail
  go_ret
  exact ⟨rfl, T10⟩

end Go.Proofs.YtmmeglpglaogeaaDoor
