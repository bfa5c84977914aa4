/- The verifier's works: some of the chapter's examples. -/
import Derived.Test.YtegiinnhknfjjaaICall
namespace Go.Proofs.Ytegiinnhknfjjaa.IM
open Go.RowKit

/-- cmp.Compare of whole numbers as an order. -/
theorem cmpOf : Cmp 58 #[] cmpI (fun _ => True) where
  enter := fun args w => by kernel_rfl
  calls := fun a b w _ => cmpI_any a b w
  calm := fun _ _ _ _ => trivial

set_option maxRecDepth 100000 in
theorem num_any (n : Int) (w : World) : Calls Try.prog 34 #[.int .i64 n] w fun e w' => e = .returned (.int .i64 n) ∧ w' = w := by
  go_enter Try.func34, Try.ntmps34
  go_wp2_with fail
  go_ret
  exact ⟨rfl, rfl⟩

theorem low_small {n : Nat} (h : n ≤ 10) : Low n := ⟨by omega⟩

set_option maxRecDepth 100000 in
set_option maxHeartbeats 1000000 in
theorem works_any (w : World) : Calls Try.prog 12 #[] w fun e w' => e = .returned (.bool true) ∧ Calm w w' := by
  have P1 := hide (fun W m (h : Mt W m 58 #[] []) => put_any cmpOf m 5 1 W [] h trivial (by unfold Dec; decide) (low_small (by decide)))
  have P2 := hide (fun W m (h : Mt W m 58 #[] [(5, 1)]) => put_any cmpOf m 1 2 W [(5, 1)] h trivial (by unfold Dec; decide) (low_small (by decide)))
  have P3 := hide (fun W m (h : Mt W m 58 #[] [(1, 2), (5, 1)]) => put_any cmpOf m 5 3 W [(1, 2), (5, 1)] h trivial (by unfold Dec; decide) (low_small (by decide)))
  have P4 := hide (fun W m (h : Mt W m 58 #[] [(1, 2), (5, 3)]) => place_any cmpOf m 5 W [(1, 2), (5, 3)] h trivial (by unfold Dec; decide) (low_small (by decide)))
  have P5 := hide (fun W m (h : Mt W m 58 #[] [(1, 2), (5, 3)]) => at_any 58 #[] m 0 (by decide) W [(1, 2), (5, 3)] h (low_small (by decide)))
  have P6 := hide (fun W m (h : Mt W m 58 #[] [(1, 2), (5, 3)]) => take_any cmpOf m 1 W [(1, 2), (5, 3)] h trivial (by unfold Dec; decide) (low_small (by decide)))
  have P7 := hide (fun W m (h : Mt W m 58 #[] [(5, 3)]) => len_any W m 58 #[] [(5, 3)] h)
  rw [show was (cmpI 5) [] = 0 from rfl, show (it (cmpI 5) ([] : List (Int × Int))).isSome = false from rfl, show lput (cmpI 5) 5 (1 : Int) [] = [(5, 1)] from by decide] at P1
  rw [show lput (cmpI 1) 1 (2 : Int) [(5, 1)] = [(1, 2), (5, 1)] from by decide] at P2
  rw [show was (cmpI 5) [(1, 2), (5, 1)] = 1 from by decide, show (it (cmpI 5) [((1 : Int), (2 : Int)), (5, 1)]).isSome = true from by decide, show lput (cmpI 5) 5 (3 : Int) [(1, 2), (5, 1)] = [(1, 2), (5, 3)] from by decide] at P3
  rw [show (up (cmpI 5) [((1 : Int), (2 : Int)), (5, 3)]).length = 1 from by decide, show (it (cmpI 5) [((1 : Int), (2 : Int)), (5, 3)]).isSome = true from by decide] at P4
  rw [show atV (atI [(1, 2), (5, 3)] 0) = .tuple #[.int .i64 1, .int .i64 2, .bool true] from rfl] at P5
  rw [show was (cmpI 1) [(1, 2), (5, 3)] = 2 from by decide, show (it (cmpI 1) [((1 : Int), (2 : Int)), (5, 3)]).isSome = true from by decide, show ldrop (cmpI 1) [((1 : Int), (2 : Int)), (5, 3)] = [(5, 3)] from by decide] at P6
  generalize hw2 : was (cmpI 1) [((5 : Int), (1 : Int))] = x2 at *
  generalize hi2 : (it (cmpI 1) [((5 : Int), (1 : Int))]).isSome = y2 at *
  clear hw2 hi2
  go_enter Try.func12, Try.ntmps12
  go_wp2_with fail
  refine (of_any _).mono ?_
  rintro e w1 ⟨m, rfl, h1, hm, t1⟩
  go_wp2_with fail
  refine (P1.out _ _ h1).mono ?_
  rintro e w2 ⟨rfl, h2, t2⟩
  have T2 : Calm w w2 := t1.trans t2 (fun k hk e => by omega)
  clear h1 t1 t2
  go_wp2_with fail
  refine (P2.out _ _ h2).mono ?_
  rintro e w3 ⟨rfl, h3, t3⟩
  have T3 : Calm w w3 := T2.trans t3 (fun k hk e => by omega)
  clear h2 T2 t3
  go_wp2_with fail
  refine (P3.out _ _ h3).mono ?_
  rintro e w4 ⟨rfl, h4, t4⟩
  have T4 : Calm w w4 := T3.trans t4 (fun k hk e => by omega)
  clear h3 T3 t4
  go_wp2_with fail
  refine (P4.out _ _ h4).mono ?_
  rintro e w5 ⟨rfl, t5⟩
  have h5 := h4.calm t5
  have T5 : Calm w w5 := T4.tr t5
  clear h4 T4 t5
  go_wp2_with fail
  refine (P5.out _ _ h5).mono ?_
  rintro e w6 ⟨rfl, t6⟩
  have h6 := h5.calm t6
  have T6 : Calm w w6 := T5.tr t6
  clear h5 T5 t6
  go_wp2_with fail
  refine (P6.out _ _ h6).mono ?_
  rintro e w7 ⟨rfl, h7, t7⟩
  have T7 : Calm w w7 := T6.trans t7 (fun k hk e => by omega)
  clear h6 T6 t7
  go_wp2_with fail
  refine (new_nil _).mono ?_
  rintro e w' ⟨rfl, hq⟩
  obtain rfl := hq.symm
  clear hq
  go_wp2_with fail
  refine (num_any _ _).mono ?_
  rintro e w' ⟨rfl, hq⟩
  obtain rfl := hq.symm
  clear hq
  go_wp2_with fail
  refine (P7.out _ _ h7).mono ?_
  rintro e w' ⟨rfl, hq⟩
  obtain rfl := hq.symm
  clear hq
  go_wp2_with fail
  refine (num_any _ _).mono ?_
  rintro e w' ⟨rfl, hq⟩
  obtain rfl := hq.symm
  clear hq
  go_wp2_with fail
  go_ret
  exact ⟨rfl, T7⟩

end Go.Proofs.Ytegiinnhknfjjaa.IM
