/- The law's RouteNil: the walk. -/
import Derived.Test.YtapnjofplilefaaZ3
import Derived.Test.YtapnjofplilefaaR4
namespace Go.Proofs.Ytapnjofplilefaa
open Go.RowKit

section
variable {Pk : World → Nat → (Nat → Prop) → Cf → Nat → List Int → Int → Prop}

set_option maxRecDepth 100000 in
set_option maxHeartbeats 2000000 in
theorem nothing15_any {rv : Value} {w0 : World} (R : Rpn rv w0) (hrv : ∃ a, rv = .pointer a) (x : It) (ke : ByteArray) (w : World) (hw : Calm w0 w) (hk : ke.size < 9223372036854775808) : Calls Try.prog 19 #[rv, itv x, .string ke] w fun e w' => e = .returned (.bool true) ∧ Calm w w' := by
  obtain ⟨ra, rfl⟩ := hrv
  have C1 := fun w h => hide (R.item x w h)
  have C2 : Hid (∀ mo mc w, Calm w0 w → encI.Sl w mo mc [x, x] → Calls Try.prog 11 #[.pointer ra, .slice mo 2 mc] w fun e w' => ∃ a k, e = .returned (.tuple #[.slice a 0 k, .int .i64 0, .int .i64 1]) ∧ Calm w w') := hide fun mo mc w h hs => R.items [x, x] mo mc w h hs (by simp)
  have C3 := fun w h => hide (R.worker ke w h hk)
  have C4 := fun w h => hide (R.marks w h)
  have C5 := fun w h => hide (R.water w h)
  have C6 := fun w h => hide (R.seq w h)
  have C7 := fun w h => hide (R.copy w h)
  have A0 := hide (al_new w (.cells (itc x) 52))
  have T0 := hide ((Touch.refl (fun _ => False) w).alloc (.cells (itc x) 52))
  have HW := hide hw
  clear hw hk R
  obtain ⟨c0, c1, c2, c3, c4⟩ := it_cells A0.out
  go_enter Try.func19, Try.ntmps19
  go_wp2_with fail
  generalize w.alloc (.cells (itc x) 52) = w1 at *
  generalize hB : w.heap.size = B at *
  clear hB
  refine (C1 _ (HW.out.tr T0.out)).out.mono ?_
  rintro e w2 ⟨a1, k1, rfl, T2⟩
  clear c0 c1 c2 c3 c4
  obtain ⟨c0, c1, c2, c3, c4⟩ := it_cells (T2.at A0.out)
  have S2 : Hid (encI.Sl (w2.alloc (.cells #[.int .i64 x.ki, .string x.ke, .int .i64 x.tm, .int .i64 x.va, .int .i64 x.sr, .int .i64 x.ki, .string x.ke, .int .i64 x.tm, .int .i64 x.va, .int .i64 x.sr] 52)) (some ⟨w2.heap.size, 0, none⟩) 2 [x, x]) := hide ⟨Rc.Mem.new w2 [x, x] 52, fun h => (nomatch h), by simp⟩
  have TA := hide ((T0.out.tr T2).alloc (.cells #[.int .i64 x.ki, .string x.ke, .int .i64 x.tm, .int .i64 x.va, .int .i64 x.sr, .int .i64 x.ki, .string x.ke, .int .i64 x.tm, .int .i64 x.va, .int .i64 x.sr] 52))
  clear T2 T0
  go_wp2_with fail
  refine (C2.out _ _ _ (HW.out.tr TA.out) S2.out).mono ?_
  rintro e w3 ⟨a2, k2, rfl, T3⟩
  have T3 := hide (TA.out.tr T3)
  clear c0 c1 c2 c3 c4 S2 TA
  go_wp2_with fail
  refine (C3 _ (HW.out.tr T3.out)).out.mono ?_
  rintro e w4 ⟨rfl, T4⟩
  have T4 := hide (T3.out.tr T4)
  clear T3
  go_wp2_with fail
  refine (C4 _ (HW.out.tr T4.out)).out.mono ?_
  rintro e w5 ⟨a3, k3, rfl, T5⟩
  have T5 := hide (T4.out.tr T5)
  clear T4
  go_wp2_with fail
  refine (C5 _ (HW.out.tr T5.out)).out.mono ?_
  rintro e w6 ⟨rfl, T6⟩
  have T6 := hide (T5.out.tr T6)
  clear T5
  go_wp2_with fail
  refine (C6 _ (HW.out.tr T6.out)).out.mono ?_
  rintro e w7 ⟨rfl, T7⟩
  have T7 := hide (T6.out.tr T7)
  clear T6
  go_wp2_with fail
  refine (C7 _ (HW.out.tr T7.out)).out.mono ?_
  rintro e w8 ⟨rfl, T8⟩
  have T8 := hide (T7.out.tr T8)
  clear T7
  go_wp2_with fail
  go_ret
  exact ⟨rfl, T8.out⟩

set_option maxRecDepth 100000 in
set_option maxHeartbeats 2000000 in
theorem nil15_walk (I : Rpi Pk) (N0 : ∀ w, Rpn (.pointer none) w) (Z : ∀ w : World, Rpn (cp w.heap.size) (w.alloc (.cells zC15 64))) (x : It) (ke : ByteArray) (w : World) (hk : ke.size < 9223372036854775808) : Calls Try.prog 5 #[itv x, .string ke] w fun e w' => e = .returned (.bool true) ∧ Calm w w' := by
  have KN := fun w => hide (known15_any I w)
  have C1 := fun w => hide (nothing15_any (N0 w) ⟨_, rfl⟩ x ke w (Touch.refl _ _) hk)
  have C2 := fun w => hide (nothing15_any (Z w) ⟨_, rfl⟩ x ke _ (Touch.refl _ _) hk)
  have A0 := hide (al_new w (.cells (itc x) 52))
  have T0 := hide ((Touch.refl (fun _ => False) w).alloc (.cells (itc x) 52))
  clear N0 Z hk
  obtain ⟨c0, c1, c2, c3, c4⟩ := it_cells A0.out
  go_enter Try.func5, Try.ntmps5
  go_wp2_with fail
  generalize w.alloc (.cells (itc x) 52) = w1 at *
  generalize hB : w.heap.size = B at *
  clear hB
  refine (C1 _).out.mono ?_
  rintro e w2 ⟨rfl, T2⟩
  have TT := (T0.out.tr T2).alloc (.cells zC15 64)
  have AA := it_cells (al_old (T2.at A0.out) (.cells zC15 64))
  clear c0 c1 c2 c3 c4
  obtain ⟨c0, c1, c2, c3, c4⟩ := AA
  have T3 := hide TT
  have D2 := hide (C2 w2).out
  clear TT C1 C2 T2 T0
  go_wp2_with fail
  refine D2.out.mono ?_
  rintro e w4 ⟨rfl, T4⟩
  have T4 := hide (T3.out.tr T4)
  clear T3 c0 c1 c2 c3 c4 D2
  go_wp2_with fail
  refine (KN _).out.mono ?_
  rintro e w5 ⟨rfl, T5⟩
  have T5 := hide (T4.out.tr T5)
  clear T4
  go_wp2_with fail
  go_ret
  exact ⟨rfl, T5.out⟩
end

end Go.Proofs.Ytapnjofplilefaa
