/- The verifier's look at a whole map. -/
import Derived.Test.YtegiinnhknfjjaaIStep4
namespace Go.Proofs.Ytegiinnhknfjjaa.IM
open Go.RowKit

set_option maxRecDepth 100000 in
set_option maxHeartbeats 2000000 in
theorem whole_any (m B r : Nat) (which : Int) (X : List (Int × Int)) (w : World) (h : Bt w m B r which X) (hb : X.length + 1 ≤ 8796093022208) :
    Calls Try.prog 10 #[.pointer (some ⟨m, 0, none⟩), .pointer (some ⟨r, 0, none⟩)] w fun e w' => e = .returned (.bool true) ∧ Calm w w' := by
  have BT := hide h
  have HDA := hide (fun key => h.dec key)
  have HB := hide hb
  have FEW := hide (show Few X.length from ⟨by have := HB.out; omega⟩)
  have LL : Hid ((Kd.list (ord3 which) .all X).length ≤ 8796093022208) := hide (Nat.le_trans (walk_low .all) FEW.out.le)
  have LN := hide (fun (W : World) (hW : Calm w W) => len_any W m _ _ X (BT.out.mt.calm hW))
  obtain ⟨ao, cap, rf⟩ := h.rf
  have HOW := hide rf.own
  have HPR := hide rf.prs
  have SQ := hide (fun (lbv : Array Value) => Wl.seq (cmpMade B which) m .all lbv X (fun key => HDA.out key) FEW.out)
  have LW := hide (fun (W : World) (hW : Calm w W) (lbv : Array Value) (hl : Wl W (.func (.func 66) #[] lbv) (some ⟨m, 0, none⟩) .all) (hp : Prs W ao (Kd.list (ord3 which) .all X)) => lwalk_any lbv _ (Kd.list (ord3 which) .all X) _ (fun _ _ h => h) (SQ.out lbv) ao cap 0 W (fun W' h' => ⟨hl.calm h', BT.out.mt.calm (hW.tr h'), (hW.tr h').at BT.out.ord⟩) hp LL.out)
  rw [list_all] at LW
  clear h hb rf SQ LL
  go_enter Try.func10, Try.ntmps10
  go_wp2_with fail
  refine wp_region_held (S := Calm w) (by kernel_rfl) ?_
  have hT0 : Calm w { w with drawn := w.drawn + 1 } := (Touch.refl (fun _ => False) w).drew
  refine wpAnyH_yield 0 5 (.pointer (some ⟨m, 0, none⟩)) rfl rfl (by kernel_rfl) (by kernel_rfl) (by kernel_rfl) (fun _ _ _ h => h) (by kernel_rfl) (fun W hW => by kernel_rfl) (by assumption) rfl rfl ?_
  simp only [Act.put, List.setIfInBounds_toArray, List.set_cons_zero, List.set_cons_succ]
  refine wpAnyH_yield 2 7 (.pointer (some ⟨r, 0, none⟩)) rfl rfl (by kernel_rfl) (by kernel_rfl) (by kernel_rfl) (fun _ _ _ h => h) (by kernel_rfl) (fun W hW => by kernel_rfl) (by assumption) rfl rfl ?_
  simp only [Act.put, List.setIfInBounds_toArray, List.set_cons_zero, List.set_cons_succ]
  refine wpAnyH_yield 3 8 (.pointer (some ⟨r, 0, none⟩)) rfl rfl (by kernel_rfl) (by kernel_rfl) (by kernel_rfl) (fun _ _ _ h => h) (by kernel_rfl) (fun W hW => by kernel_rfl) (by assumption) rfl rfl ?_
  simp only [Act.put, List.setIfInBounds_toArray, List.set_cons_zero, List.set_cons_succ]
  refine wpAnyH_yield 4 9 (.pointer (some ⟨r, 1, none⟩)) rfl rfl (by kernel_rfl) (by kernel_rfl) (by kernel_rfl) (fun _ _ _ h => h) (by kernel_rfl) (fun W hW => by go_simp) (by assumption) rfl rfl ?_
  simp only [Act.put, List.setIfInBounds_toArray, List.set_cons_zero, List.set_cons_succ]
  refine wpAnyH_yield 5 10 (.slice ao X.length cap) rfl rfl (by kernel_rfl) (by kernel_rfl) (by kernel_rfl) (fun _ _ _ h => h) (by kernel_rfl) (fun W hW => by obtain ⟨c0, c1⟩ := cells2 (hW.at HOW.out); go_simp) (by assumption) rfl rfl ?_
  simp only [Act.put, List.setIfInBounds_toArray, List.set_cons_zero, List.set_cons_succ]
  refine wpAnyH_yield 6 11 (.int .i64 (X.length : Int)) rfl rfl (by kernel_rfl) (by kernel_rfl) (by kernel_rfl) (fun _ _ _ h => h) (by kernel_rfl) (fun W hW => by go_simp) (by assumption) rfl rfl ?_
  simp only [Act.put, List.setIfInBounds_toArray, List.set_cons_zero, List.set_cons_succ]
  refine wpAnyH_enter 1 6 43 #[.pointer (some ⟨m, 0, none⟩)] rfl rfl (by kernel_rfl) (by kernel_rfl) (by kernel_rfl) ?_
  refine (LN.out _ hT0).mono ?_
  rintro e x1 ⟨rfl, rfl⟩
  refine ⟨_, rfl, hT0, ?_⟩
  simp only [Act.put, List.setIfInBounds_toArray, List.set_cons_zero, List.set_cons_succ]
  refine wpAnyH_yield 7 12 (.bool true) rfl rfl (by kernel_rfl) (by kernel_rfl) (by kernel_rfl) (fun _ _ _ h => h) (by kernel_rfl) (fun W hW => by go_simp) (by assumption) rfl rfl ?_
  simp only [Act.put, List.setIfInBounds_toArray, List.set_cons_zero, List.set_cons_succ]
  refine wpAnyH_yield 8 13 (.bool true) rfl rfl (by kernel_rfl) (by kernel_rfl) (by kernel_rfl) (fun _ _ _ h => h) (by kernel_rfl) (fun W hW => by kernel_rfl) (by assumption) rfl rfl ?_
  simp only [Act.put, List.setIfInBounds_toArray, List.set_cons_zero, List.set_cons_succ]
  refine wpAnyH_yield 9 14 (.pointer (some ⟨m, 0, none⟩)) rfl rfl (by kernel_rfl) (by kernel_rfl) (by kernel_rfl) (fun _ _ _ h => h) (by kernel_rfl) (fun W hW => by kernel_rfl) (by assumption) rfl rfl ?_
  simp only [Act.put, List.setIfInBounds_toArray, List.set_cons_zero, List.set_cons_succ]
  refine wpAnyH_yield 11 16 (.pointer (some ⟨r, 0, none⟩)) rfl rfl (by kernel_rfl) (by kernel_rfl) (by kernel_rfl) (fun _ _ _ h => h) (by kernel_rfl) (fun W hW => by kernel_rfl) (by assumption) rfl rfl ?_
  simp only [Act.put, List.setIfInBounds_toArray, List.set_cons_zero, List.set_cons_succ]
  refine wpAnyH_yield 12 17 (.pointer (some ⟨r, 0, none⟩)) rfl rfl (by kernel_rfl) (by kernel_rfl) (by kernel_rfl) (fun _ _ _ h => h) (by kernel_rfl) (fun W hW => by kernel_rfl) (by assumption) rfl rfl ?_
  simp only [Act.put, List.setIfInBounds_toArray, List.set_cons_zero, List.set_cons_succ]
  refine wpAnyH_yield 13 18 (.pointer (some ⟨r, 1, none⟩)) rfl rfl (by kernel_rfl) (by kernel_rfl) (by kernel_rfl) (fun _ _ _ h => h) (by kernel_rfl) (fun W hW => by go_simp) (by assumption) rfl rfl ?_
  simp only [Act.put, List.setIfInBounds_toArray, List.set_cons_zero, List.set_cons_succ]
  refine wpAnyH_yield 14 19 (.slice ao X.length cap) rfl rfl (by kernel_rfl) (by kernel_rfl) (by kernel_rfl) (fun _ _ _ h => h) (by kernel_rfl) (fun W hW => by obtain ⟨c0, c1⟩ := cells2 (hW.at HOW.out); go_simp) (by assumption) rfl rfl ?_
  simp only [Act.put, List.setIfInBounds_toArray, List.set_cons_zero, List.set_cons_succ]
  refine wpAnyH_enter 10 15 15 #[.pointer (some ⟨m, 0, none⟩)] rfl rfl (by kernel_rfl) (by kernel_rfl) (by kernel_rfl) ?_
  refine (all_any _ _).mono ?_
  rintro e x2 ⟨fv, rfl, wl2, t2⟩
  have hT2 : Calm w x2 := hT0.tr t2
  refine ⟨_, rfl, hT2, ?_⟩
  obtain ⟨lbv, rfl⟩ := wl2.shape
  simp only [Act.put, List.setIfInBounds_toArray, List.set_cons_zero, List.set_cons_succ]
  refine wpAnyH_enter 15 20 42 #[.func (.func 66) #[] lbv, .slice ao X.length cap, .int .i64 0] rfl rfl (by kernel_rfl) (by kernel_rfl) (by kernel_rfl) ?_
  refine (LW.out _ hT2 lbv wl2 (HPR.out.calm hT2)).mono ?_
  rintro e x3 ⟨rfl, t3⟩
  have hT3 : Calm w x3 := hT2.tr t3
  refine ⟨_, rfl, hT3, ?_⟩
  simp only [Act.put, List.setIfInBounds_toArray, List.set_cons_zero, List.set_cons_succ]
  refine wpAnyH_yield 16 21 (.bool true) rfl rfl (by kernel_rfl) (by kernel_rfl) (by kernel_rfl) (fun _ _ _ h => h) (by kernel_rfl) (fun W hW => by kernel_rfl) (by assumption) rfl rfl ?_
  simp only [Act.put, List.setIfInBounds_toArray, List.set_cons_zero, List.set_cons_succ]
  refine wpAnyH_yield 17 4 (.bool true) rfl rfl (by kernel_rfl) (by kernel_rfl) (by kernel_rfl) (fun _ _ _ h => h) (by kernel_rfl) (fun W hW => by kernel_rfl) (by assumption) rfl rfl ?_
  simp only [Act.put, List.setIfInBounds_toArray, List.set_cons_zero, List.set_cons_succ]
  refine wpAnyH_done (by kernel_rfl) ?_ _
  have T3 := hide hT3
  clear hT3
  go_wp2_with fail
  go_ret
  exact ⟨rfl, T3.out⟩

end Go.Proofs.Ytegiinnhknfjjaa.IM
