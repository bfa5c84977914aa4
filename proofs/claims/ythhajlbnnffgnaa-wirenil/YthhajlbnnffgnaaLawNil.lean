/- The Go law WireNil, which takes nothing, returns true and leaves all memory that was there as it was: writers and readers that are not there answer the error of nil objects, a zero reader that there is no more to read. No condition. -/
import Derived.Test.YthhajlbnnffgnaaRows
import Derived.Test.YthhajlbnnffgnaaKnown
import Derived.Test.YthhajlbnnffgnaaRsg
import Derived.ProofKit
import Derived.OpenShut
namespace Go.Proofs.Ythhajlbnnffgnaa
open Go.ChangeShapes Go.WideShapes Go.ChangeAt Go.RowKit

set_option maxRecDepth 100000 in
set_option maxHeartbeats 1000000 in
theorem reads_nil (w : World) :
    Calls Try.prog 35 #[.pointer none, .int .i64 1] w fun e w' => e = .returned (.bool true) ∧ w' = w := by
  go_enter Try.func35, Try.ntmps35
  go_wp2
  go_ret
  exact ⟨rfl, rfl⟩

theorem scan_nil : scan (List.drop 0 []) = (0, 0, 110) := rfl

set_option maxRecDepth 100000 in
set_option maxHeartbeats 1000000 in
theorem reads_zero (rb : Nat) (w : World) (h : Rd w rb none 0 [] 0) :
    Calls Try.prog 35 #[.pointer (some ⟨rb, 0, none⟩), .int .i64 110] w fun e w' => e = .returned (.bool true) ∧ Touch (fun k => k = rb) w w' := by
  have h8 : In8 [] := fun _ hx => (nomatch hx)
  go_enter Try.func35, Try.ntmps35
  go_wp2_with fail
  refine (rbyte_no rb none 0 [] 0 w h (by simp) rfl).mono ?_
  rintro e w' ⟨rfl, n1, rfl⟩
  have h1 := h.drewN n1
  go_wp2_with fail
  refine (number_eq rb none 0 [] 0 0 0 110 _ h1 h8 (by simp) scan_nil).mono ?_
  rintro e w2 ⟨rfl, h2, t2⟩
  go_wp2_with fail
  refine (signed_err rb none 0 [] 0 110 _ h2 h8 (by simp) scan_nil (by decide)).mono ?_
  rintro e w3 ⟨rfl, h3, t3⟩
  go_wp2_with fail
  refine (text_err rb none 0 [] 0 110 9 _ h3 h8 (by simp) scan_nil (by decide) (by decide)).mono ?_
  rintro e w4 ⟨rfl, t4⟩
  have h4 := h3.touch t4 (fun h => h) (fun _ _ h => h)
  go_wp2_with fail
  refine (raw_no rb none 0 [] 0 1 _ h4 (by simp) (by decide)).mono ?_
  rintro e w' ⟨rfl, n5, rfl⟩
  have h5 := h4.drewN n5
  go_wp2_with fail
  refine (fixed_no rb none 0 [] 0 _ h5 (by simp) (by decide)).mono ?_
  rintro e w' ⟨rfl, n6, rfl⟩
  have h6 : Rd (w4.drewN (n5 + n6)) rb none 0 [] 0 := h4.drewN _
  go_wp2_with fail
  refine (rising_err rb none 0 [] 0 110 9 _ h6 h8 (by simp) scan_nil (by decide) (by decide)).mono ?_
  rintro e w7 ⟨rfl, t7⟩
  have h7 := h6.touch t7 (fun h => h) (fun _ _ h => h)
  have T : Touch (fun k => k = rb) w w7 := by
    refine Touch.trans ?_ t7 (fun _ _ h => h.elim)
    refine Touch.drewN ?_ (n5 + n6)
    refine Touch.trans ?_ t4 (fun _ _ h => h.elim)
    exact (((Touch.refl _ w).drewN n1).trans t2 (fun _ _ h => h)).trans t3 (fun _ _ h => h)
  clear h h1 h2 h3 h4 h5 h6 t2 t3 t4 t7
  go_wp2_with (go_at_call 24; refine (num_any _ _).mono ?_; rintro e w' ⟨rfl, rfl⟩)
  refine (place_any rb none 0 [] 0 w7 h7).mono ?_
  rintro e w' ⟨rfl, hq⟩
  obtain rfl := hq.symm
  go_wp2_with fail
  refine (left_any rb none 0 [] 0 w7 h7 (by simp)).mono ?_
  rintro e w' ⟨rfl, n8, rfl⟩
  go_wp2_with fail
  go_ret
  exact ⟨rfl, T.drewN n8⟩

theorem zero_rd (w : World) (n : Nat) (hn : n = w.heap.size) : Rd (w.alloc (.cells #[.slice none 0 0, .int .i64 0] 75)) n none 0 [] 0 := by
  subst hn
  exact ⟨heap_alloc_new w _, Row.nil _ _ _, Nat.le_refl _⟩

set_option maxRecDepth 100000 in
set_option maxHeartbeats 1000000 in
theorem nil_any (w : World) :
    Calls Try.prog 8 #[] w fun e w' => e = .returned (.bool true) ∧ Below w.heap.size w w' := by
  go_enter Try.func8, Try.ntmps8
  go_wp2_with (first | (go_at_call_of 35 (Value.pointer none); refine (reads_nil _).mono ?_; rintro e w' ⟨rfl, hq⟩; obtain rfl := hq.symm; clear hq) | (go_at_call_of 35 (Value.int IntKind.i64 110); refine (reads_zero _ _ ?rz).mono ?_; rotate_right; rintro e w1 ⟨rfl, t1⟩) | (go_at_call 14; refine (known_any _).mono ?_; rintro e w2 ⟨rfl, t2⟩) | go_in)
  case rz => exact zero_rd _ _ (by simp)
  go_ret
  refine ⟨rfl, Touch.below ?_ (fun _ _ h => h)⟩
  refine Touch.trans ?_ t2 (fun _ _ h => h)
  refine Touch.trans ?_ t1 (fun k hk e => by omega)
  repeat (first | exact Touch.refl _ _ | refine Touch.alloc ?_ _)

theorem Try.ownNil : ownKnob Try.prog.godebug = none := by kernel_rfl

set_option maxRecDepth 100000 in
theorem nil_lifted (os : Os) (started : os.Started) (H : Type) (enc : TypeId × Value → H) :
    ReturnsInHanded {} Try.checked os 8 .any (Rows.wireNilSpec.pre6 enc Try.prog Try.f8 Rows.wireNilRow.domain false) (Rows.wireNilSpec.post enc Try.prog Try.f8 false true false false) := by
  refine returnsInHanded_of_change (C := Try.checked) Try.ownNil started (by kernel_rfl) Try.func8
    (ChangeSpec.witness6 (enc := enc) (C := Try.checked) false ⟨#[], #[], []⟩ 8 (by kernel_rfl) (by kernel_rfl) (by kernel_rfl) (by kernel_rfl)) ?_
  intro W base args ds gs before hval0 hW hcnd _
  have hW' := hW
  obtain ⟨p, q, hA0, hV, rfl, hfz, hnd⟩ := hW
  have hA : DataW.TrodAll enc Try.prog W 0 (fun _ => true) true Try.f8.params.toList args.toList ds p := hA0
  rw [Try.params8] at hA
  obtain ⟨hargs, rfl, rfl⟩ := trodAll_nil hA
  obtain rfl : args = #[] := by cases args; simp_all
  obtain ⟨rfl, rfl⟩ := trodVars_none hV
  clear hA0 hval0
  simp only [List.append_nil] at hW'
  refine (nil_any W).mono fun e W' ⟨he, hb⟩ => ?_
  subst he
  exact ⟨_, rfl, _, _, _, [], [], [], hW', (trodAll_cons_mk (shut_bool Try.underlying4 _) trodAll_mk0), trodAll_mk0, rfl, hb.frame _, fun h => by cases h⟩

theorem wireNil_holds : Rows.WireNilSaid :=
  OpenClaim.holds_of_wide 8 Try.f8 rfl rfl rfl rfl rfl rfl rfl ⟨rfl, rfl, rfl, rfl, rfl⟩ rfl rfl rfl rfl rfl (by kernel_rfl) Try.func8 (by kernel_rfl)
    (of_decide_eq_true (by kernel_rfl)) (by unfold Func.isWrapper; first | (rw [if_pos (by decide +kernel)]; kernel_rfl) | (rw [if_neg (by decide +kernel)]; exact ⟨rfl, rfl⟩))
    (fun os started H enc _ => nil_lifted os started H enc)

#print axioms wireNil_holds
end Go.Proofs.Ythhajlbnnffgnaa
