/- The closed sentence known: forms that the document names. -/
import Derived.Test.YthhajlbnnffgnaaRd
namespace Go.Proofs.Ythhajlbnnffgnaa
open Go.RowKit

theorem Wr.touch {S : Nat → Prop} {w w' : World} {pb : Nat} {v : Value} {bs : List Int} (h : Wr w pb v bs) (ht : Touch S w w') (h1 : ¬ S pb) (h2 : ∀ g, v.ownBlock = some g → ¬ S g) : Wr w' pb v bs :=
  ⟨(ht.block pb h.lt h1).trans h.cell, h.row.touch ht h2⟩

theorem Wrote.of_touch {w w1 w' : World} {pb : Nat} {v v' : Value} (ht : Touch (fun _ => False) w w1) (h : Wrote w1 pb v w' v') : Wrote w pb v w' v' :=
  ⟨((ht.mono fun _ _ k => k.elim).trans h.touch fun _ _ k => k), by
    rcases h.fresh with e | ⟨g, e, hg⟩
    · exact .inl e
    · exact .inr ⟨g, e, Nat.le_trans ht.size hg⟩⟩

theorem Wrote.then_touch {w w1 w' : World} {pb : Nat} {v v' : Value} (h : Wrote w pb v w1 v') (ht : Touch (fun _ => False) w1 w') : Wrote w pb v w' v' :=
  ⟨h.touch.trans ht fun _ _ k => k.elim, h.fresh⟩

/-- New integers in a block of their own. -/
theorem seg_new (w : World) (k : IntKind) (xs : List Int) (e : TypeId) (n : Nat) (hn : n = w.heap.size) : Seg (w.alloc (.cells (xs.map (Value.int k)).toArray e)) k (some ⟨n, 0, none⟩) xs := by
  subst hn
  refine ⟨fun h => (nomatch h), fun a ha _ => (by injection ha with ha; subst ha; rfl), fun a ha j hj => ?_⟩
  injection ha with ha; subst ha
  rw [Addr.add_lit]
  simp [hj]

theorem n300 : numb 300 = [172, 2] := by simp [numb]
theorem nm1 : [172, 2] ++ numb (Lib.zigzag (-1)) = [172, 2, 1] := by simp [numb, Lib.zigzag]
theorem nab : [172, 2, 1] ++ (numb (ByteArray.size ⟨#[97, 98]⟩) ++ bytesOf ⟨#[97, 98]⟩) = [172, 2, 1, 2, 97, 98] := by
  rw [show ByteArray.size ⟨#[97, 98]⟩ = 2 from rfl, show bytesOf ⟨#[97, 98]⟩ = [97, 98] from rfl]; simp [numb]
theorem nris : [172, 2, 1, 2, 97, 98] ++ risb [-1, 0, 5] = [172, 2, 1, 2, 97, 98, 3, 1, 0, 4] := by
  simp [risb, risTo, risItem, numb, Lib.zigzag, List.range_succ]
theorem in64_3 : In64 [-1, 0, 5] := by
  intro i hi
  match i, hi with
  | 0, _ => decide
  | 1, _ => decide
  | 2, _ => decide
theorem up_3 : Up [-1, 0, 5] := by
  intro i hi
  match i, hi with
  | 0, _ => decide
  | 1, _ => decide
theorem not_up_2 : ¬ Up [1, 1] := fun h => by have := h 0 (by decide); revert this; decide

theorem num_any (x : Int) (w : World) : Calls Try.prog 24 #[.int .i64 x] w fun e w' => e = .returned (.int .i64 x) ∧ w = w' := by
  go_enter Try.func24, Try.ntmps24
  go_wp2
  go_ret
  exact ⟨rfl, rfl⟩

theorem in8_3 : In8 [172, 2, 128] := by
  intro x hx
  simp at hx
  omega
theorem in8_10 : In8 [172, 2, 1, 2, 97, 98, 3, 1, 0, 4] := by
  intro x hx
  simp at hx
  omega
theorem sc0 : scan (List.drop 0 [172, 2, 128]) = (300, 2, 0) := by decide
theorem sc2 : scan (List.drop 2 [172, 2, 128]) = (0, 0, 110) := by decide

theorem rnum_1 (rb : Nat) (ao : Option Addr) (cap : Nat) (w : World) (h : Rd w rb ao cap [172, 2, 128] 0) :
    Calls Try.prog 23 #[.pointer (some ⟨rb, 0, none⟩)] w fun e w' => e = .returned (.tuple #[.int .u64 300, .int .i64 0]) ∧ Rd w' rb ao cap [172, 2, 128] 2 ∧ Touch (fun k => k = rb) w w' := by
  have := number_any rb ao cap [172, 2, 128] 0 w h in8_3 (by simp)
  rw [sc0] at this
  exact this

theorem rnum_2 (rb : Nat) (ao : Option Addr) (cap : Nat) (w : World) (h : Rd w rb ao cap [172, 2, 128] 2) :
    Calls Try.prog 23 #[.pointer (some ⟨rb, 0, none⟩)] w fun e w' => e = .returned (.tuple #[.int .u64 0, .int .i64 110]) ∧ Rd w' rb ao cap [172, 2, 128] 2 ∧ Touch (fun k => k = rb) w w' := by
  have := number_any rb ao cap [172, 2, 128] 2 w h in8_3 (by simp)
  rw [sc2] at this
  exact this

set_option maxRecDepth 100000 in
set_option maxHeartbeats 1000000 in
theorem known_any (w : World) :
    Calls Try.prog 14 #[] w fun e w' => e = .returned (.bool true) ∧ Touch (fun _ => False) w w' := by
  go_enter Try.func14, Try.ntmps14
  go_wp2_with fail
  refine (newWriter_any w).mono ?_
  rintro e w1 ⟨rfl, hw1, ht1, hl1⟩
  go_wp2_with fail
  refine (newReader_any (some ⟨w1.heap.size, 0, none⟩) [172, 2, 128] 3 _ (seg_new w1 .u8 [172, 2, 128] 5 _ rfl) (by decide)).mono ?_
  rintro e w2 ⟨rb, rc, rfl, hrb, hrd, ht2⟩
  go_wp2_with fail
  have hw2 := (hw1.alloc (.cells ([172, 2, 128].map (Value.int .u8)).toArray 5)).touch ht2 (fun h => h) (fun _ _ h => h)
  have T2 : Touch (fun _ => False) w w2 := (ht1.alloc _).trans ht2 (fun _ _ h => h)
  refine (wNumber_any w.heap.size _ [] 300 w2 (by omega) hw2 (by simp)).mono ?_
  rintro e w3 ⟨rfl, v3, hw3, ho3⟩
  go_wp2_with (go_at_call 24; refine (num_any _ _).mono ?_; rintro e w' ⟨rfl, rfl⟩)
  rw [List.nil_append, n300] at hw3
  refine (wSigned_any w.heap.size _ _ (-1) _ (by omega) (by omega) (by simp) hw3).mono ?_
  rintro e w4 ⟨rfl, v4, hw4, ho4⟩
  rw [nm1] at hw4
  go_wp2_with (go_at_call 24; refine (num_any _ _).mono ?_; rintro e w' ⟨rfl, rfl⟩)
  refine (wText_any w.heap.size _ _ ⟨#[97, 98]⟩ _ (by simp [ByteArray.size]) hw4).mono ?_
  rintro e w5 ⟨rfl, v5, hw5, ho5⟩
  rw [nab] at hw5
  go_wp2_with (go_at_call 24; refine (num_any _ _).mono ?_; rintro e w' ⟨rfl, rfl⟩)
  have hne5 : v5.ownBlock ≠ some w5.heap.size := fun e => Nat.lt_irrefl _ (hw5.row.lt e)
  refine (wRising_yes w.heap.size _ _ (some ⟨w5.heap.size, 0, none⟩) [-1, 0, 5] 3 _ (seg_new w5 .i64 [-1, 0, 5] 2 _ rfl) (by simp) in64_3 up_3 (fun a ha => by injection ha with ha; subst ha; exact hne5) (hw5.alloc _)).mono ?_
  rintro e w6 ⟨rfl, v6, hw6, ho6⟩
  rw [nris] at hw6
  clear hne5
  go_wp2_with (go_at_call 24; refine (num_any _ _).mono ?_; rintro e w' ⟨rfl, rfl⟩)
  refine (wRising_no w.heap.size _ _ (some ⟨w6.heap.size, 0, none⟩) [1, 1] 2 _ (seg_new w6 .i64 [1, 1] 2 _ rfl) (by simp) not_up_2 (hw6.alloc _)).mono ?_
  rintro e w7 ⟨rfl, hw7, ht7⟩
  have O : Wrote w2 w.heap.size (.slice none 0 0) w7 v6 := ((((ho3.trans ho4).trans ho5).trans (ho6.of_alloc _)).then_touch ((Touch.refl _ _).alloc _)).then_touch ht7
  have hrd7 : Rd w7 rb _ rc [172, 2, 128] 0 := hrd.touch O.touch (fun h => by
    rcases h with h | h
    · simp at hrb; omega
    · cases h) (fun g hg h => by
    rcases h with h | h
    · simp [Value.ownBlock] at hg; omega
    · cases h)
  go_wp2_with (go_at_call 24; refine (num_any _ _).mono ?_; rintro e w' ⟨rfl, rfl⟩)
  have hrbl : rb < w2.heap.size := hrd.lt
  have hnrb : v6.ownBlock ≠ some rb := by
    rcases O.fresh with e | ⟨g, e, hg⟩
    · rw [e]; simp [Value.ownBlock]
    · rw [e]; simp; omega
  have hnpb : ¬ w.heap.size = rb := by simp at hrb; omega
  refine (rnum_1 rb _ rc w7 hrd7).mono ?_
  rintro e w8 ⟨rfl, hrd8, ht8⟩
  have hw8 := hw7.touch ht8 hnpb (fun g hg h => hnrb (by rw [hg, h]))
  go_wp2_with fail
  refine (rnum_2 rb _ rc w8 hrd8).mono ?_
  rintro e w9 ⟨rfl, hrd9, ht9⟩
  have hw9 := hw8.touch ht9 hnpb (fun g hg h => hnrb (by rw [hg, h]))
  have T9 : Touch (fun _ => False) w w9 := by
    refine ((T2.trans O.touch ?_).trans ht8 ?_).trans ht9 ?_
    · intro k hk h
      rcases h with h | h
      · omega
      · cases h
    · intro k hk h; simp at hrb; omega
    · intro k hk h; simp at hrb; omega
  clear hw1 ht1 hl1 hrd ht2 hw2 T2 hw3 ho3 hw4 ho4 hw5 ho5 hw6 ho6 hw7 ht7 O hrd7 hw8 hrd8 ht8 ht9 hnrb hnpb
  go_wp2_with (go_at_call 24; refine (num_any _ _).mono ?_; rintro e w' ⟨rfl, rfl⟩)
  refine (place_any rb _ rc _ 2 w9 hrd9).mono ?_
  rintro e w10 ⟨rfl, hq⟩
  obtain rfl := hq.symm
  go_wp2_with fail
  refine (left_any rb _ rc _ 2 w9 hrd9 (by simp)).mono ?_
  rintro e w10 ⟨rfl, nq, rfl⟩
  go_wp2_with fail
  have hwA := hw9.drewN nq
  refine (bytes_any w.heap.size _ _ _ hwA (by simp)).mono ?_
  rintro e w11 ⟨n11, c11, rfl, hr11, ht11, hl11⟩
  have hn := hr11.len
  have hw11 := hwA.touch ht11 (fun h => h) (fun _ _ h => h)
  go_wp2_with fail
  subst hn
  refine (same_any _ (some ⟨w11.heap.size, 0, none⟩) _ [172, 2, 1, 2, 97, 98, 3, 1, 0, 4] c11 10 _ ((Seg.of_row hr11).alloc _) (seg_new w11 .u8 [172, 2, 1, 2, 97, 98, 3, 1, 0, 4] 5 _ rfl) in8_10 in8_10).mono ?_
  rintro e w12 ⟨b, rfl, hb, hq⟩
  obtain rfl := hq.symm
  obtain rfl : b = true := hb.2 rfl
  clear hb hq
  go_wp2_with fail
  refine (len_any w.heap.size _ _ _ (hw11.alloc _)).mono ?_
  rintro e w13 ⟨rfl, hq⟩
  obtain rfl := hq.symm
  clear hq
  go_wp2_with fail
  go_ret
  exact ⟨rfl, ((T9.drewN nq).trans ht11 (fun _ _ h => h)).alloc _⟩

end Go.Proofs.Ythhajlbnnffgnaa
