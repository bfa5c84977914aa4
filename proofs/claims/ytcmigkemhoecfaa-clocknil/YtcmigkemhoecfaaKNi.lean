/- ClockNil, walked. -/
import Derived.Test.YtcmigkemhoecfaaKZc
import Derived.Test.YtcmigkemhoecfaaKW
namespace Go.Proofs.Ytcmigkemhoecfaa
open Go.RowKit

section
variable {Pk : World → Nat → (Nat → Prop) → List Int → List Hd → Prop}

theorem sl_one (w : World) (x : Int) : encJ.Sl (w.alloc (.cells #[.int .i64 x] 2)) (some ⟨w.heap.size, 0, none⟩) 1 [x] := ⟨Rc.Mem.new w [x] 2, fun h => (nomatch h), by simp⟩
theorem of_most (I : Pki Pk) (w : World) : Calls Try.prog 9 #[.slice (some ⟨w.heap.size, 0, none⟩) 1 1] (w.alloc (.cells #[.int .i64 4611686018427387904] 2)) fun e w' => ∃ v, e = .returned (.tuple #[v, .int .i64 0]) ∧ Calm w w' := by
  refine (I.of [4611686018427387904] (some ⟨w.heap.size, 0, none⟩) 1 _ (sl_one w _) (by simp)).mono ?_
  rintro e w' (⟨h, -⟩ | ⟨-, q, h, -, t⟩)
  · exact absurd h (by decide)
  · exact ⟨_, h, ((Touch.refl _ w).alloc _).tr t⟩
theorem of_more (I : Pki Pk) (w : World) : Calls Try.prog 9 #[.slice (some ⟨w.heap.size, 0, none⟩) 1 1] (w.alloc (.cells #[.int .i64 4611686018427387905] 2)) fun e w' => e = .returned (.tuple #[.pointer none, .int .i64 2]) ∧ Calm w w' := by
  refine (I.of [4611686018427387905] (some ⟨w.heap.size, 0, none⟩) 1 _ (sl_one w _) (by simp)).mono ?_
  rintro e w' (⟨-, h, t⟩ | ⟨h, -⟩)
  · exact ⟨h, ((Touch.refl _ w).alloc _).tr t⟩
  · exact absurd h (by decide)

set_option maxRecDepth 100000 in
set_option maxHeartbeats 4000000 in
theorem nil13_walk (I : Pki Pk) (J : Pkn (.pointer none)) (Z : ∀ w : World, Pkw (w.alloc (.cells zC 69)) (cp w.heap.size)) (w : World) : Calls Try.prog 6 #[] w fun e w' => e = .returned (.bool true) ∧ Calm w w' := by
  have CN := fun x w => hide (num13_any x w)
  have C1 := hide (I.new_ok 64 w (by omega) (by omega))
  have C2 := fun w => hide (I.new_bad 65 w (by omega))
  go_enter Try.func6, Try.ntmps6
  go_wp2_with fail
  refine C1.out.mono ?_
  rintro x w1 ⟨q1, rfl, -, t1⟩
  have T1 := hide t1
  clear t1 C1
  go_wp2_with fail
  refine ((C2 _).out).mono ?_
  rintro x w2 ⟨rfl, t2⟩
  have T2 := hide (T1.out.tr t2)
  clear t2 C2 T1
  go_wp2_with fail
  refine (of_most I _).mono ?_
  rintro x w3 ⟨v3, rfl, t3⟩
  have T3 := hide (T2.out.tr t3)
  clear t3 T2
  go_wp2_with fail
  refine (of_more I _).mono ?_
  rintro x w4 ⟨rfl, t4⟩
  have T4 := hide (T3.out.tr t4)
  clear t4 T3
  go_wp2_with fail
  refine ((CN _ _).out).mono ?_
  rintro x w9 ⟨rfl, hw⟩
  subst hw
  go_wp2_with fail
  refine ((CN _ _).out).mono ?_
  rintro x w9 ⟨rfl, hw⟩
  subst hw
  go_wp2_with fail
  refine ((CN _ _).out).mono ?_
  rintro x w9 ⟨rfl, hw⟩
  subst hw
  go_wp2_with fail
  refine ((CN _ _).out).mono ?_
  rintro x w9 ⟨rfl, hw⟩
  subst hw
  go_wp2_with fail
  refine (nothing_any _ _ (J.at _)).mono ?_
  rintro x w5 ⟨rfl, t5⟩
  have T5 := hide (T4.out.tr t5)
  clear t5 T4
  go_wp2_with fail
  refine (nothing_any _ _ (Z w5)).mono ?_
  rintro x w6 ⟨rfl, t6⟩
  have T6 := hide (T5.out.tr (((Touch.refl _ w5).alloc _).tr t6))
  clear t6 T5
  go_wp2_with fail
  refine (known13_any I _).mono ?_
  rintro x w7 ⟨rfl, t7⟩
  have T7 := hide (T6.out.tr t7)
  clear t7 T6
  go_wp2_with fail
  go_ret
  exact ⟨rfl, T7.out⟩
end
end Go.Proofs.Ytcmigkemhoecfaa
