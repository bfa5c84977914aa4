/- TriggerLeft returns true for any job, windows and two numbers, and leaves them as they were: behind a mark no window is left that is over, the rest stands in its order; each window that should tells one pane, by rising End. No condition. -/
import Derived.Test.YtfmlbcddomggaaaVR
import Derived.Test.YtfmlbcddomggaaaVG
import Derived.Test.YtfmlbcddomggaaaRows
import Derived.ProofKit
import Derived.OpenShut
import Derived.SizedLaws
import Derived.ChangeMaps5
namespace Go.Proofs.Ytfmlbcddomggaaa
open Go.ChangeShapes Go.WideShapes Go.ChangeAt Go.RowKit

theorem Try.ownTriggerLeft : ownKnob Try.prog.godebug = none := by kernel_rfl
theorem Try.laidTriggerLeft : laidOutB Try.prog = true := by kernel_rfl

set_option maxRecDepth 100000 in
theorem left_lifted (os : Os) (started : os.Started) (H : Type) (enc : TypeId × Value → H) :
    ReturnsInHanded {} Try.checked os 7 .any (Rows.triggerLeftSpec.pre6 enc Try.prog Try.f7 Rows.triggerLeftRow.domain false) (Rows.triggerLeftSpec.post enc Try.prog Try.f7 false true false false) := by
  refine returnsInHanded_of_change_sized (C := Try.checked) Try.ownTriggerLeft started (by kernel_rfl) Try.func7
    (ChangeSpec.witness6 (enc := enc) (C := Try.checked) false ⟨#[], #[.agg #[.int .i64 0, .int .i64 0, .int .i64 0, .int .i64 0, .int .i64 0, .int .i64 0, .int .i64 0, .int .i64 0, .int .i64 0, .bool false], .slice none 0 0, .agg #[.int .i64 0, .int .i64 0]], []⟩ 8 (by kernel_rfl) (by kernel_rfl) (by kernel_rfl) (by kernel_rfl)) ?_
  intro W base args ds gs before hval0 hW hcnd hsz0 _
  have hval : ∀ (j : Nat) t v, Try.f7.params[j]? = some t → args[j]? = some v → Value.okWide Try.prog W .any base t v := hval0
  have hsz : (DataW.weightsEach Try.prog (Try.f7.params.toList ++ Rows.triggerLeftSpec.plain.varTypes Try.prog) (ds ++ gs)).all (· ≤ reachBytes) = true := hsz0
  have hW' := hW
  obtain ⟨p, q, hA0, hV, rfl, hfz, hnd⟩ := hW
  have hA : DataW.TrodAll enc Try.prog W 0 (fun _ => true) true Try.f7.params.toList args.toList ds p := hA0
  rw [Try.params7] at hA hval hsz
  obtain ⟨v0, vs0, d0, ds0, p0, q0, hargs, rfl, rfl, h0, r0⟩ := trodAll_cons hA
  obtain ⟨v1, vs1, d1, ds1, p1, q1, rfl, rfl, rfl, h1, r1⟩ := trodAll_cons r0
  obtain ⟨v2, vs2, d2, ds2, p2, q2, rfl, rfl, rfl, h2, r2⟩ := trodAll_cons r1
  obtain ⟨rfl, rfl, rfl⟩ := trodAll_nil r2
  obtain rfl : args = #[v0, v1, v2] := by cases args; simp_all
  obtain ⟨rfl, rfl⟩ := trodVars_none hV
  have k0 := h0
  have lt0 : ∀ x ∈ p0, x.block < W.heap.size := by obtain ⟨m, hm⟩ := k0; exact DataW.trod_lt m _ _ _ hm
  obtain ⟨t0, et0, wl0, we0⟩ := cf_arg (hval 0 24 v0 rfl rfl) h0
  subst et0
  have k1 := h1
  have lt1 : ∀ x ∈ p1, x.block < W.heap.size := by obtain ⟨m, hm⟩ := k1; exact DataW.trod_lt m _ _ _ hm
  obtain ⟨a1, len1, cap1, rfl⟩ := okWide_slice Try.underlying50 (hval 1 50 v1 rfl rfl)
  obtain ⟨so1, sc1, sl1, e1, sg1, sk1, sb1⟩ : ∃ (ao : Option Addr) (cap : Nat) (l : List Wn), Value.slice a1 len1 cap1 = .slice ao l.length cap ∧ encW.Sl W ao cap l ∧ (∀ x ∈ l, I64 x.a ∧ I64 x.b ∧ I64 x.h ∧ x.t.Ok ∧ I64 x.n ∧ I64 x.p) ∧ l.length ≤ 1954687338268 := by
    obtain ⟨fuel, hf⟩ := h1
    obtain ⟨ao, cap, l, u1, u2, u3, u4⟩ := wins_in hf (fun n hn => by
      have := List.all_eq_true.1 hsz _ (DataW.weights_mem_each (j := 1) (t := 50) rfl rfl n hn)
      simpa using this)
    exact ⟨ao, cap, l, u1, u2, u3, by omega⟩
  have k2 := h2
  have lt2 : ∀ x ∈ p2, x.block < W.heap.size := by obtain ⟨m, hm⟩ := k2; exact DataW.trod_lt m _ _ _ hm
  obtain ⟨x2, y2, et2, wx2, wy2⟩ := two_arg (hval 2 51 v2 rfl rfl) h2
  subst et2
  clear hA0 hval0 hsz hsz0
  have wk := left_walk behC onC tellC' evC markC t0 so1 sc1 sl1 x2 y2 (fun _ _ h q => Rc.Sl.calm h q) W sg1 (fun x hx => Wn.Ok.of (sk1 x hx)) (by omega) wl0 wx2 wy2
  rw [← e1] at wk
  refine wk.mono fun e W' ⟨he, ht⟩ => ?_
  subst he
  have bel := ht.below (fun _ _ h => h)
  exact ⟨_, rfl, _, _, _, [], _, [], hW', trodAll_mk1 (shut_bool Try.underlying4 _), (trodAll_cons_mk (Below.trod Try.laidTriggerLeft (by kernel_rfl) (of_decide_eq_true (by kernel_rfl)) k0 bel lt0) (trodAll_cons_mk (Below.trod Try.laidTriggerLeft (by kernel_rfl) (of_decide_eq_true (by kernel_rfl)) k1 bel lt1) (trodAll_cons_mk (Below.trod Try.laidTriggerLeft (by kernel_rfl) (of_decide_eq_true (by kernel_rfl)) k2 bel lt2) trodAll_mk0))), rfl, bel.frame _, fun h => by cases h⟩

theorem triggerLeft_holds : Rows.TriggerLeftSaid :=
  OpenClaim.holds_of_wide 7 Try.f7 rfl rfl rfl rfl rfl rfl rfl ⟨rfl, rfl, rfl, rfl, rfl⟩ rfl rfl rfl rfl rfl (by kernel_rfl) Try.func7 (by kernel_rfl)
    (of_decide_eq_true (by kernel_rfl)) (by unfold Func.isWrapper; first | (rw [if_pos (by decide +kernel)]; kernel_rfl) | (rw [if_neg (by decide +kernel)]; exact ⟨rfl, rfl⟩))
    (fun os started H enc _ => left_lifted os started H enc)

#print axioms triggerLeft_holds
end Go.Proofs.Ytfmlbcddomggaaa
