/- The law's nothing: a clock that is not there, or a zero one. -/
import Derived.Test.YtcmigkemhoecfaaKN
namespace Go.Proofs.Ytcmigkemhoecfaa
open Go.RowKit

/-- A clock that is not there, or a zero one: whatever is made behind w0. -/
structure Pkw (w0 : World) (cv : Value) : Prop where
  set : ∀ (s t : Int) (w : World), Calm w0 w → Calls Try.prog 27 #[cv, .int .i64 s, .int .i64 t] w fun e w' => e = .returned (.tuple #[.int .i64 0, .int .i64 0, .int .i64 1]) ∧ Calm w w'
  hold : ∀ (x : ByteArray) (t : Int) (w : World), Calm w0 w → Calls Try.prog 21 #[cv, .string x, .int .i64 t] w fun e w' => e = .returned (.int .i64 1) ∧ Calm w w'
  free : ∀ (x : ByteArray) (w : World), Calm w0 w → Calls Try.prog 28 #[cv, .string x] w fun e w' => e = .returned (.bool false) ∧ Calm w w'
  first : ∀ w : World, Calm w0 w → Calls Try.prog 40 #[cv] w fun e w' => e = .returned (firV []) ∧ Calm w w'
  mark : ∀ w : World, Calm w0 w → Calls Try.prog 24 #[cv] w fun e w' => e = .returned (.int .i64 0) ∧ Calm w w'
  marks : ∀ w : World, Calm w0 w → Calls Try.prog 26 #[cv] w fun e w' => ∃ a c, e = .returned (.slice a 0 c) ∧ encJ.Own 2 w' w.heap.size (.slice a 0 c) [] ∧ Calm w w'
  size : ∀ w : World, Calm w0 w → Calls Try.prog 43 #[cv] w fun e w' => e = .returned (.int .i64 0) ∧ Calm w w'
  out : ∀ w : World, Calm w0 w → Calls Try.prog 25 #[cv] w fun e w' => e = .returned (.int .i64 0) ∧ Calm w w'
  holds : ∀ w : World, Calm w0 w → Calls Try.prog 23 #[cv] w fun e w' => ∃ fv, e = .returned fv ∧ Calm w w' ∧ Tells w' fv []
  copy : ∀ w : World, Calm w0 w → Calls Try.prog 15 #[cv] w fun e w' => e = .returned (.pointer none) ∧ Calm w w'
theorem Pkn.at {cv : Value} (J : Pkn cv) (w0 : World) : Pkw w0 cv := ⟨fun x y w _ => J.set x y w, fun x y w _ => J.hold x y w, fun x w _ => J.free x w, fun w _ => J.first w, fun w _ => J.mark w, fun w _ => J.marks w, fun w _ => J.size w, fun w _ => J.out w, fun w _ => J.holds w, fun w _ => J.copy w⟩

set_option maxRecDepth 100000 in
set_option maxHeartbeats 4000000 in
theorem nothing_any (cv : Value) (w0 : World) (J0 : Pkw w0 cv) : Calls Try.prog 30 #[cv] w0 fun e w' => e = .returned (.bool true) ∧ Calm w0 w' := by
  have CN := fun x w => hide (num13_any x w)
  have J := hide J0
  have T : Hid (Calm w0 w0) := hide (Touch.refl _ _)
  have FV : firV [] = .tuple #[.string ⟨#[]⟩, .int .i64 0, .bool false] := rfl
  have CG := fun w (h : Calm w0 w) => hide (goes_any cv (.pointer none) 0 none 0 [] w (fun W hW => J0.holds W (h.tr hW)) (want_nil w) (by simp))
  clear J0
  go_enter Try.func30, Try.ntmps30
  go_wp2_with fail
  refine (J.out.set _ _ _ T.out).mono ?_
  rintro x w9 ⟨rfl, t⟩
  have T' := hide (T.out.tr t)
  clear t T
  have T := T'
  clear T'
  go_wp2_with fail
  refine (J.out.first _ T.out).mono ?_
  rw [FV]
  rintro x w9 ⟨rfl, t⟩
  have T' := hide (T.out.tr t)
  clear t T
  have T := T'
  clear T'
  go_wp2_with fail
  refine ((CN _ _).out).mono ?_
  rintro x w9 ⟨rfl, hw⟩
  subst hw
  go_wp2_with fail
  refine (J.out.hold _ _ _ T.out).mono ?_
  rintro x w9 ⟨rfl, t⟩
  have T' := hide (T.out.tr t)
  clear t T
  have T := T'
  clear T'
  go_wp2_with fail
  refine ((CN _ _).out).mono ?_
  rintro x w9 ⟨rfl, hw⟩
  subst hw
  go_wp2_with fail
  refine (J.out.free _ _ T.out).mono ?_
  rintro x w9 ⟨rfl, t⟩
  have T' := hide (T.out.tr t)
  clear t T
  have T := T'
  clear T'
  go_wp2_with fail
  refine (J.out.mark _ T.out).mono ?_
  rintro x w9 ⟨rfl, t⟩
  have T' := hide (T.out.tr t)
  clear t T
  have T := T'
  clear T'
  go_wp2_with fail
  refine (J.out.out _ T.out).mono ?_
  rintro x w9 ⟨rfl, t⟩
  have T' := hide (T.out.tr t)
  clear t T
  have T := T'
  clear T'
  go_wp2_with fail
  refine (J.out.size _ T.out).mono ?_
  rintro x w9 ⟨rfl, t⟩
  have T' := hide (T.out.tr t)
  clear t T
  have T := T'
  clear T'
  go_wp2_with fail
  refine (J.out.marks _ T.out).mono ?_
  rintro x w9 ⟨a, c, rfl, -, t⟩
  have T' := hide (T.out.tr t)
  clear t T
  have T := T'
  clear T'
  go_wp2_with fail
  refine (J.out.copy _ T.out).mono ?_
  rintro x w9 ⟨rfl, t⟩
  have T' := hide (T.out.tr t)
  clear t T
  have T := T'
  clear T'
  go_wp2_with fail
  refine ((CG _ T.out).out).mono ?_
  rintro x w9 ⟨rfl, t⟩
  have TT := hide (T.out.tr t)
  clear t T
  go_wp2_with fail
  go_ret
  exact ⟨rfl, TT.out⟩

end Go.Proofs.Ytcmigkemhoecfaa
