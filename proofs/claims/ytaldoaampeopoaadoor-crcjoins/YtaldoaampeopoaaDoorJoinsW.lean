/- The walk of CrcJoins. -/
import Derived.Test.YtaldoaampeopoaaDoorLaid
import Derived.Test.YtaldoaampeopoaaDoorSums
namespace Go.Proofs.YtaldoaampeopoaaDoor
open Go.ChangeShapes Go.WideShapes Go.ChangeAt Go.RowKit Crcx

theorem nats_append (xs ys : List Int) : nats (xs ++ ys) = nats xs ++ nats ys := by unfold nats; rw [List.map_append]
theorem nats_length (xs : List Int) : (nats xs).length = xs.length := by unfold nats; rw [List.length_map]
theorem far_nat (n : Nat) : far (n : Int) = 8 * n := rfl
theorem far_add (m n : Nat) : far ((m : Int) + (n : Int)) = 8 * m + 8 * n := by
  rw [show (m : Int) + (n : Int) = ((m + n : Nat) : Int) by omega, far_nat]; omega

/-- Two texts, one behind the other. -/
theorem join_two (s : Nat) (b : List Int) : stps (far (b.length : Int)) s ^^^ more 0 (nats b) = more s (nats b) := by
  rw [more_join s, far_nat, nats_length]

theorem join_left (a b c : List Int) : stps (far (c.length : Int)) (more (more 0 (nats a)) (nats b)) ^^^ more 0 (nats c) = more 0 (nats (a ++ (b ++ c))) := by
  rw [join_two, nats_append, nats_append, more_append, more_append]

theorem join_right (a b c : List Int) : stps (far ((b.length : Int) + (c.length : Int))) (more 0 (nats a)) ^^^ more (more 0 (nats b)) (nats c) = more 0 (nats (a ++ (b ++ c))) := by
  rw [nats_append, more_append, nats_append, ← more_append 0 (nats b), more_join (more 0 (nats a)), far_add, List.length_append, nats_length, nats_length, Nat.mul_add]

theorem carry_two (s m n : Nat) : stps (far (n : Int)) (stps (far (m : Int)) s) = stps (far ((m : Int) + (n : Int))) s := by
  rw [far_nat, far_nat, far_add, stps_add]

theorem more_noughts' (n : Nat) : more 0 (nats (List.replicate n 0)) = 4294967295 ^^^ stps (far (n : Int)) 4294967295 := by
  rw [show nats (List.replicate n 0) = List.replicate n 0 by simp [nats], more_noughts, far_nat]

/-- A sum's bytes, as integers. -/
def ints4 (s : Nat) : List Int := [((s % 256 : Nat) : Int), ((s / 256 % 256 : Nat) : Int), ((s / 65536 % 256 : Nat) : Int), ((s / 16777216 % 256 : Nat) : Int)]

theorem nats_ints4 (s : Nat) : nats (ints4 s) = bytes4 s := rfl

theorem in8_ints4 (s : Nat) : In8 (ints4 s) := by
  intro x hx
  simp only [ints4, List.mem_cons, List.not_mem_nil, or_false] at hx
  rcases hx with rfl | rfl | rfl | rfl <;> omega

theorem more_end (s : Nat) (a : List Int) (hs : s < 4294967296) (h : more 0 (nats a) = s) : more 0 (nats (a ++ ints4 s)) = 1214729159 := by
  rw [nats_append, more_append, h, nats_ints4, more_bytes4 hs]

set_option maxRecDepth 100000 in
set_option maxHeartbeats 2000000 in
theorem joins_walk (a b c : Txt) (w : World) (ht : Tab w) (ha : a.Ok w) (hb : b.Ok w) (hc : c.Ok w) (la : a.xs.length ≤ 140737488351232) (lb : b.xs.length ≤ 140737488351232) (lc : c.xs.length ≤ 140737488351232) :
    Calls Tryd.prog 6 #[a.val, b.val, c.val] w fun e w' => e = .returned (.bool true) ∧ Touch (fun _ => False) w w' := by
  obtain ⟨ao, ac, xa⟩ := a
  obtain ⟨bo, bc, xb⟩ := b
  obtain ⟨co, cc, xc⟩ := c
  simp only [Txt.val]
  simp only at la lb lc
  have SA := hide (fun W h (o : Txt.Ok W ⟨ao, ac, xa⟩) => sum_row W h [⟨ao, ac, xa⟩] (fun t ht => by simp at ht; subst ht; exact o) (by simp) 1 rfl _ (congrArg (fun l => more 0 (nats l)) (show alls [⟨ao, ac, xa⟩] = xa by simp [alls])) #[.slice ao xa.length ac] rfl)
  have SB := hide (fun W h (o : Txt.Ok W ⟨bo, bc, xb⟩) => sum_row W h [⟨bo, bc, xb⟩] (fun t ht => by simp at ht; subst ht; exact o) (by simp) 1 rfl _ (congrArg (fun l => more 0 (nats l)) (show alls [⟨bo, bc, xb⟩] = xb by simp [alls])) #[.slice bo xb.length bc] rfl)
  have SC := hide (fun W h (o : Txt.Ok W ⟨co, cc, xc⟩) => sum_row W h [⟨co, cc, xc⟩] (fun t ht => by simp at ht; subst ht; exact o) (by simp) 1 rfl _ (congrArg (fun l => more 0 (nats l)) (show alls [⟨co, cc, xc⟩] = xc by simp [alls])) #[.slice co xc.length cc] rfl)
  have SW := hide (fun W h (o1 : Txt.Ok W ⟨ao, ac, xa⟩) (o2 : Txt.Ok W ⟨bo, bc, xb⟩) (o3 : Txt.Ok W ⟨co, cc, xc⟩) => sum_row W h [⟨ao, ac, xa⟩, ⟨bo, bc, xb⟩, ⟨co, cc, xc⟩] (fun t ht => by simp at ht; rcases ht with rfl | rfl | rfl <;> assumption) (by simp) 3 rfl _ (congrArg (fun l => more 0 (nats l)) (show alls [⟨ao, ac, xa⟩, ⟨bo, bc, xb⟩, ⟨co, cc, xc⟩] = xa ++ (xb ++ xc) by simp [alls])) #[.slice ao xa.length ac, .slice bo xb.length bc, .slice co xc.length cc] rfl)
  have hsl : more 0 (nats xa) < 4294967296 := more_lt (by omega) (nats_lt ha.in8)
  have htl : more 0 (nats xb) < 4294967296 := more_lt (by omega) (nats_lt hb.in8)
  have hul : more 0 (nats xc) < 4294967296 := more_lt (by omega) (nats_lt hc.in8)
  have hstl : more (more 0 (nats xa)) (nats xb) < 4294967296 := more_lt hsl (nats_lt hb.in8)
  have htul : more (more 0 (nats xb)) (nats xc) < 4294967296 := more_lt htl (nats_lt hc.in8)
  have ib : I63 (xb.length : Int) := ⟨by omega⟩
  have ic : I63 (xc.length : Int) := ⟨by omega⟩
  have ibc : I63 ((xb.length : Int) + (xc.length : Int)) := ⟨by omega⟩
  have iac : I63 ((xa.length + xc.length : Nat) : Int) := ⟨by omega⟩
  have J1 := hide (fun W h => join_any _ _ hsl htl _ ib W h)
  rw [join_two] at J1
  have J2 := hide (fun W h => join_any _ _ hstl hul _ ic W h)
  rw [join_left] at J2
  have J3 := hide (fun W h => join_any _ _ htl hul _ ic W h)
  rw [join_two] at J3
  have J4 := hide (fun W h => join_any _ _ hsl htul _ ibc W h)
  rw [join_right] at J4
  have M1 := hide (fun W h (o : Txt.Ok W ⟨bo, bc, xb⟩) => more_any _ hsl bo xb bc W h o.seg o.in8 o.len)
  have M2 := hide (fun W h (o : Txt.Ok W ⟨co, cc, xc⟩) => more_any _ hstl co xc cc W h o.seg o.in8 o.len)
  rw [show more (more (more 0 (nats xa)) (nats xb)) (nats xc) = more 0 (nats (xa ++ (xb ++ xc))) by rw [nats_append, nats_append, more_append, more_append]] at M2
  have C1 := hide (fun W h => carry_any _ hsl _ ib W h)
  have C2 := hide (fun W h => carry_any _ (stps_lt (n := far (xb.length : Int)) hsl) _ ic W h)
  rw [carry_two] at C2
  have C3 := hide (fun W h => carry_any _ hsl _ ibc W h)
  have BY := hide (fun W => bytes_any _ hsl W)
  have ZE := hide (fun W h => zeros_any _ iac W h)
  rw [← more_noughts'] at ZE
  have SN := hide (fun W h g (o : Txt.Ok W ⟨some ⟨g, 0, none⟩, xa.length + xc.length, List.replicate (xa.length + xc.length) 0⟩) => sum_row W h [⟨some ⟨g, 0, none⟩, xa.length + xc.length, List.replicate (xa.length + xc.length) 0⟩] (fun t ht => by simp at ht; subst ht; exact o) (by simp) 1 rfl _ (congrArg (fun l => more 0 (nats l)) (show alls [⟨some ⟨g, 0, none⟩, xa.length + xc.length, List.replicate (xa.length + xc.length) 0⟩] = List.replicate (xa.length + xc.length) 0 by simp [alls])) #[.slice (some ⟨g, 0, none⟩) (xa.length + xc.length) (xa.length + xc.length)] (by simp [Txt.val]))
  have hend := more_end _ xa hsl rfl
  have SE := hide (fun W h (o1 : Txt.Ok W ⟨ao, ac, xa⟩) g (o2 : Txt.Ok W ⟨some ⟨g, 0, none⟩, 4, ints4 (more 0 (nats xa))⟩) => sum_row W h [⟨ao, ac, xa⟩, ⟨some ⟨g, 0, none⟩, 4, ints4 (more 0 (nats xa))⟩] (fun t ht => by simp at ht; rcases ht with rfl | rfl <;> assumption) (by simp) 2 rfl 1214729159 (by rw [show alls [⟨ao, ac, xa⟩, ⟨some ⟨g, 0, none⟩, 4, ints4 (more 0 (nats xa))⟩] = xa ++ ints4 (more 0 (nats xa)) by simp [alls]]; exact hend) #[.slice ao xa.length ac, .slice (some ⟨g, 0, none⟩) 4 4] rfl)
  have h4 := in8_ints4 (more 0 (nats xa))
  have i4 := hide (show four8 (more 0 (nats xa)) = ((ints4 (more 0 (nats xa))).map (Value.int .u8)).toArray from rfl)
  have hi4 : (Tryd.prog.info? 39).map (·.size) = some (four8 (more 0 (nats xa))).size := by kernel_rfl
  have ho4 : (four8 (more 0 (nats xa))).all (·.oneCell') = true := by simp [four8, Value.oneCell']
  clear hsl htl hul hstl htul hend
  generalize more (more 0 (nats xa)) (nats xb) = ST at *
  generalize more (more 0 (nats xb)) (nats xc) = TU at *
  generalize more 0 (nats (xa ++ (xb ++ xc))) = WH at *
  generalize stps (far ((xb.length : Int) + (xc.length : Int))) (more 0 (nats xa)) = CC at *
  generalize stps (far (xb.length : Int)) (more 0 (nats xa)) = CB at *
  generalize more 0 (nats (List.replicate (xa.length + xc.length) 0)) = ZZ at *
  generalize more 0 (nats xa) = S at *
  generalize more 0 (nats xb) = T at *
  generalize more 0 (nats xc) = U at *
  go_enter Tryd.func6, Tryd.ntmps6
  go_wp2_with fail
  refine (SA.out _ ht ha).mono ?_
  rintro e w1 ⟨rfl, ht1, t1⟩
  have ha1 := ha.touch t1
  have hb1 := hb.touch t1
  have hc1 := hc.touch t1
  clear SA
  go_wp2_with fail
  refine (SB.out _ ht1 hb1).mono ?_
  rintro e w2 ⟨rfl, ht2, t2⟩
  have T2 := t1.trans t2 (fun _ _ h => h)
  have ha2 := ha1.touch t2
  have hb2 := hb1.touch t2
  have hc2 := hc1.touch t2
  clear SB t1 t2 ha1 hb1 hc1 ht1
  go_wp2_with fail
  refine (SC.out _ ht2 hc2).mono ?_
  rintro e w3 ⟨rfl, ht3, t3⟩
  have T3 := T2.trans t3 (fun _ _ h => h)
  have ha3 := ha2.touch t3
  have hb3 := hb2.touch t3
  have hc3 := hc2.touch t3
  clear SC T2 t3 ha2 hb2 hc2 ht2
  go_wp2_with fail
  refine (SW.out _ ht3 ha3 hb3 hc3).mono ?_
  rintro e w4 ⟨rfl, ht4, t4⟩
  have T4 := T3.trans t4 (fun _ _ h => h)
  have ha4 := ha3.touch t4
  have hb4 := hb3.touch t4
  have hc4 := hc3.touch t4
  clear SW T3 t4 ha3 hb3 hc3 ht3
  go_wp2_with fail
  refine (J1.out _ ht4).mono ?_
  rintro e w5 ⟨rfl, t5⟩
  have ht5 := ht4.touch t5 (fun h => h)
  have T5 := T4.trans t5 (fun _ _ h => h)
  clear J1 ht4 T4
  go_wp2_with fail
  refine (J2.out _ ht5).mono ?_
  rintro e w6 ⟨rfl, t6⟩
  have ht6 := ht5.touch t6 (fun h => h)
  have T6 := T5.trans t6 (fun _ _ h => h)
  clear J2 ht5 T5
  go_wp2_with fail
  refine (J3.out _ ht6).mono ?_
  rintro e w7 ⟨rfl, t7⟩
  have ht7 := ht6.touch t7 (fun h => h)
  have T7 := T6.trans t7 (fun _ _ h => h)
  clear J3 ht6 T6
  go_wp2_with fail
  refine (J4.out _ ht7).mono ?_
  rintro e w8 ⟨rfl, t8⟩
  have ht8 := ht7.touch t8 (fun h => h)
  have T8 := T7.trans t8 (fun _ _ h => h)
  have t48 := ((t5.trans t6 (fun _ _ h => h)).trans t7 (fun _ _ h => h)).trans t8 (fun _ _ h => h)
  have ha8 := ha4.touch t48
  have hb8 := hb4.touch t48
  have hc8 := hc4.touch t48
  clear J4 ht7 T7 t5 t6 t7 t8 t48 ha4 hb4 hc4
  go_wp2_with fail
  refine (M1.out _ ht8 hb8).mono ?_
  rintro e w' ⟨rfl, rfl⟩
  go_wp2_with fail
  refine (M2.out _ ht8 hc8).mono ?_
  rintro e w' ⟨rfl, rfl⟩
  go_wp2_with fail
  refine (C1.out _ ht8).mono ?_
  rintro e w9 ⟨rfl, t9⟩
  have ht9 := ht8.touch t9 (fun h => h)
  have T9 := T8.trans t9 (fun _ _ h => h)
  clear C1 M1 M2 ht8 T8 hb8 hc8
  go_wp2_with fail
  refine (C2.out _ ht9).mono ?_
  rintro e w10 ⟨rfl, t10⟩
  have ht10 := ht9.touch t10 (fun h => h)
  have T10 := T9.trans t10 (fun _ _ h => h)
  clear C2 ht9 T9
  go_wp2_with fail
  refine (C3.out _ ht10).mono ?_
  rintro e w11 ⟨rfl, t11⟩
  have ht11 := ht10.touch t11 (fun h => h)
  have T11 := T10.trans t11 (fun _ _ h => h)
  have ha11 := ha8.touch ((t9.trans t10 (fun _ _ h => h)).trans t11 (fun _ _ h => h))
  clear C3 ht10 T10 t9 t10 t11 ha8
  go_wp2_with (refine wpList_make_noughts _ rfl (.tmp 88) (.tmp 88) rfl (xa.length + xc.length) rfl rfl (by omega) (by unfold maxLen; omega) ?nx)
  case nx =>
  intro w12 hr12 t12
  have ht12 := ht11.touch t12 (fun h => h)
  have T12 := T11.trans t12 (fun _ _ h => h)
  have ha12 := ha11.touch t12
  have n12 : Txt.Ok w12 ⟨some ⟨w11.heap.size, 0, none⟩, xa.length + xc.length, List.replicate (xa.length + xc.length) 0⟩ := ⟨Seg.of_row hr12, fun x hx => by rw [List.eq_of_mem_replicate hx]; omega, by show (List.replicate (xa.length + xc.length) (0 : Int)).length ≤ _; rw [List.length_replicate]; omega⟩
  generalize w11.heap.size = G at *
  clear hr12 t12 ht11 T11 ha11
  go_wp2_with fail
  refine (BY.out _).mono ?_
  rintro e w13 ⟨rfl, t13⟩
  go_wp2_with (refine wpList_store_all rfl rfl 39 (.tmp 14) (.tmp 91) rfl w13.heap.size (four8 S) rfl rfl 39 _ (heap_alloc_last w13 _) hi4 rfl ho4 ?_)
  have T13 := T12.trans t13 (fun _ _ h => h)
  have tw : Touch (fun _ => False) w12 ((w13.alloc (.cells #[.int .u8 0, .int .u8 0, .int .u8 0, .int .u8 0] 39)).setRow w13.heap.size (four8 S)) := (t13.alloc _).setRow _ (fun h => by have := t13.size; omega)
  have b14 := setRow_heap _ w13.heap.size _ (four8 S) 39 (0, 0) (heap_alloc_last w13 (.cells #[.int .u8 0, .int .u8 0, .int .u8 0, .int .u8 0] 39))
  generalize (w13.alloc (.cells #[.int .u8 0, .int .u8 0, .int .u8 0, .int .u8 0] 39)).setRow w13.heap.size (four8 S) = w14 at *
  have o14 : Txt.Ok w14 ⟨some ⟨w13.heap.size, 0, none⟩, 4, ints4 S⟩ := ⟨seg_of b14 i4.out, h4, show (4 : Nat) ≤ 281474976710656 by omega⟩
  have ht14 := ht12.touch tw (fun h => h)
  have T14 := T12.trans tw (fun _ _ h => h)
  have ha14 := ha12.touch tw
  have n14 := n12.touch tw
  generalize w13.heap.size = E at *
  clear t13 T13 tw b14 ht12 T12 ha12 n12 BY hi4 ho4 i4 h4
  refine (ZE.out _ ht14).mono ?_
  rintro e w15 ⟨rfl, t15⟩
  have ht15 := ht14.touch t15 (fun h => h)
  have T15 := T14.trans t15 (fun _ _ h => h)
  have ha15 := ha14.touch t15
  have n15 := n14.touch t15
  have o15 := o14.touch t15
  clear t15 ht14 T14 ha14 n14 o14 ZE
  go_wp2_with fail
  refine (SN.out _ ht15 G n15).mono ?_
  rintro e w16 ⟨rfl, ht16, t16⟩
  have T16 := T15.trans t16 (fun _ _ h => h)
  have ha16 := ha15.touch t16
  have o16 := o15.touch t16
  clear t16 ht15 T15 ha15 n15 o15 SN
  go_wp2_with fail
  refine (SE.out _ ht16 ha16 E o16).mono ?_
  rintro e w17 ⟨rfl, ht17, t17⟩
  have T17 := T16.trans t17 (fun _ _ h => h)
  clear t17 ht16 T16 ha16 o16 SE
  go_wp2_with fail
  refine (works_any _ ht17).mono ?_
  rintro e w18 ⟨rfl, t18⟩
  go_wp2_with fail
  go_ret
  exact ⟨rfl, T17.trans t18 (fun _ _ h => h)⟩

end Go.Proofs.YtaldoaampeopoaaDoor
