/- The same lists of panes, of windows are told to be so. -/
import Derived.Test.YtfmlbcddomggaaaVA
namespace Go.Proofs.Ytfmlbcddomggaaa
open Go.RowKit

set_option maxRecDepth 100000 in
set_option maxHeartbeats 2000000 in
theorem kitPanes_any (ao bo : Option Addr) (ca cb : Nat) (L : List Pn) (w : World) (ha : encP.Mem w ao L) (hb : encP.Mem w bo L) (hn : L.length ≤ 140737488355328) :
    Calls Try.prog 18 #[.slice ao L.length ca, .slice bo L.length cb] w fun e w' => e = .returned (.bool true) ∧ Calm w w' := by
  have hat : Hid (∀ k, k < L.length → ∀ W, Calm w W → ∃ b off b' off', ao = some ⟨b, off, none⟩ ∧ bo = some ⟨b', off', none⟩ ∧ pcell W b (off + k * 9) (L.getD k pn0) ∧ pcell W b' (off' + k * 9) (L.getD k pn0)) := hide fun k hk W hW => by
    obtain ⟨b, off, e, c⟩ := pn_at (Rc.Mem.calm ha hW) k hk
    obtain ⟨b', off', e', d⟩ := pn_at (Rc.Mem.calm hb hW) k hk
    exact ⟨b, off, b', off', e, e', c, d⟩
  generalize L.length = n at *
  clear ha hb
  go_enter Try.func18, Try.ntmps18
  go_wp2_with fail
  go_loopw [5] (fun i wr => ∃ k : Nat, i = .int .i64 k ∧ k ≤ n ∧ Calm w wr) (fun i _ => n - (intOf i).toNat)
  case atStart => exact ⟨0, rfl, Nat.zero_le _, Touch.refl _ _⟩
  case round =>
    obtain ⟨k, rfl, hk, T0⟩ := hrel
    by_cases hlt : k < n
    · obtain ⟨b, off, b', off', rfl, rfl, -⟩ := hat.out k hlt w (Touch.refl _ _)
      have K : Hid (∀ W, Calm w W → pcell W b (off + k * 9) (L.getD k pn0) ∧ pcell W b' (off' + k * 9) (L.getD k pn0)) := hide fun W hW => by
        obtain ⟨_, _, _, _, e1, e2, h⟩ := hat.out k hlt W hW
        injection e1 with e1
        injection e1 with e3 e4
        injection e2 with e2
        injection e2 with e5 e6
        subst e3 e4 e5 e6
        exact h
      generalize L.getD k pn0 = x at *
      have hki : (k : Int) < (n : Int) := by omega
      have H0 := hide T0
      clear T0 hat
      go_wp2_with fail
      refine wp_region_held (S := Calm w) (by kernel_rfl) ?_
      have hT0 : Calm w { wr with drawn := wr.drawn + 1 } := H0.out.drew
      refine wpAnyH_yield 0 17 (.slice (some ⟨b, off, none⟩) n ca) rfl rfl (by kernel_rfl) (by kernel_rfl) (by kernel_rfl) (fun _ _ _ h => h) (by kernel_rfl) (fun W hW => by kernel_rfl) (by assumption) rfl rfl ?_
      simp only [Act.put, List.setIfInBounds_toArray, List.set_cons_zero, List.set_cons_succ]
      refine wpAnyH_yield 1 18 (.int .i64 (k : Int)) rfl rfl (by kernel_rfl) (by kernel_rfl) (by kernel_rfl) (fun _ _ _ h => h) (by kernel_rfl) (fun W hW => by kernel_rfl) (by assumption) rfl rfl ?_
      simp only [Act.put, List.setIfInBounds_toArray, List.set_cons_zero, List.set_cons_succ]
      refine wpAnyH_yield 2 19 (.pointer (some ⟨b, off + k * 9, none⟩)) rfl rfl (by kernel_rfl) (by kernel_rfl) (by kernel_rfl) (fun _ _ _ h => h) (by kernel_rfl) (fun W hW => by go_simp) (by assumption) rfl rfl ?_
      simp only [Act.put, List.setIfInBounds_toArray, List.set_cons_zero, List.set_cons_succ]
      refine wpAnyH_yield 3 20 (pnv x) rfl rfl (by kernel_rfl) (by kernel_rfl) (by kernel_rfl) (fun _ _ _ h => h) (by kernel_rfl) (fun W hW => by obtain ⟨⟨⟨c0, c1, c2, c3, c4⟩, c5, c6, c7, c8⟩, -⟩ := K.out W hW; go_simp) (by assumption) rfl rfl ?_
      simp only [Act.put, List.setIfInBounds_toArray, List.set_cons_zero, List.set_cons_succ]
      refine wpAnyH_yield 4 21 (.slice (some ⟨b', off', none⟩) n cb) rfl rfl (by kernel_rfl) (by kernel_rfl) (by kernel_rfl) (fun _ _ _ h => h) (by kernel_rfl) (fun W hW => by kernel_rfl) (by assumption) rfl rfl ?_
      simp only [Act.put, List.setIfInBounds_toArray, List.set_cons_zero, List.set_cons_succ]
      refine wpAnyH_yield 5 22 (.int .i64 (k : Int)) rfl rfl (by kernel_rfl) (by kernel_rfl) (by kernel_rfl) (fun _ _ _ h => h) (by kernel_rfl) (fun W hW => by kernel_rfl) (by assumption) rfl rfl ?_
      simp only [Act.put, List.setIfInBounds_toArray, List.set_cons_zero, List.set_cons_succ]
      refine wpAnyH_yield 6 23 (.pointer (some ⟨b', off' + k * 9, none⟩)) rfl rfl (by kernel_rfl) (by kernel_rfl) (by kernel_rfl) (fun _ _ _ h => h) (by kernel_rfl) (fun W hW => by go_simp) (by assumption) rfl rfl ?_
      simp only [Act.put, List.setIfInBounds_toArray, List.set_cons_zero, List.set_cons_succ]
      refine wpAnyH_yield 7 24 (pnv x) rfl rfl (by kernel_rfl) (by kernel_rfl) (by kernel_rfl) (fun _ _ _ h => h) (by kernel_rfl) (fun W hW => by obtain ⟨-, ⟨⟨c0, c1, c2, c3, c4⟩, c5, c6, c7, c8⟩⟩ := K.out W hW; go_simp) (by assumption) rfl rfl ?_
      simp only [Act.put, List.setIfInBounds_toArray, List.set_cons_zero, List.set_cons_succ]
      refine wpAnyH_yield 8 25 (.bool false) rfl rfl (by kernel_rfl) (by kernel_rfl) (by kernel_rfl) (fun _ _ _ h => h) (by kernel_rfl) (fun W hW => by go_simp) (by assumption) rfl rfl ?_
      simp only [Act.put, List.setIfInBounds_toArray, List.set_cons_zero, List.set_cons_succ]
      refine wpAnyH_done (by kernel_rfl) ?_ _
      have H1 := hide hT0
      clear hT0 H0
      go_wp2_with fail
      go_roundw
      case rel => exact ⟨k + 1, by go_num, by omega, H1.out⟩
      case measure => simp [intOf]; omega
    · have e : k = n := by omega
      subst e
      have HT := hide T0
      clear T0
      go_wp2_with fail
      go_ret
      exact ⟨rfl, HT.out⟩

set_option maxRecDepth 100000 in
set_option maxHeartbeats 2000000 in
theorem kitWins_any (ao bo : Option Addr) (ca cb : Nat) (L : List Wn) (w : World) (ha : encW.Mem w ao L) (hb : encW.Mem w bo L) (hn : L.length ≤ 140737488355328) :
    Calls Try.prog 22 #[.slice ao L.length ca, .slice bo L.length cb] w fun e w' => e = .returned (.bool true) ∧ Calm w w' := by
  have hat : Hid (∀ k, k < L.length → ∀ W, Calm w W → ∃ b off b' off', ao = some ⟨b, off, none⟩ ∧ bo = some ⟨b', off', none⟩ ∧ wcell W b (off + k * 9) (L.getD k wn0) ∧ wcell W b' (off' + k * 9) (L.getD k wn0)) := hide fun k hk W hW => by
    obtain ⟨b, off, e, c⟩ := wn_at (Rc.Mem.calm ha hW) k hk
    obtain ⟨b', off', e', d⟩ := wn_at (Rc.Mem.calm hb hW) k hk
    exact ⟨b, off, b', off', e, e', c, d⟩
  generalize L.length = n at *
  clear ha hb
  go_enter Try.func22, Try.ntmps22
  go_wp2_with fail
  go_loopw [5] (fun i wr => ∃ k : Nat, i = .int .i64 k ∧ k ≤ n ∧ Calm w wr) (fun i _ => n - (intOf i).toNat)
  case atStart => exact ⟨0, rfl, Nat.zero_le _, Touch.refl _ _⟩
  case round =>
    obtain ⟨k, rfl, hk, T0⟩ := hrel
    by_cases hlt : k < n
    · obtain ⟨b, off, b', off', rfl, rfl, -⟩ := hat.out k hlt w (Touch.refl _ _)
      have K : Hid (∀ W, Calm w W → wcell W b (off + k * 9) (L.getD k wn0) ∧ wcell W b' (off' + k * 9) (L.getD k wn0)) := hide fun W hW => by
        obtain ⟨_, _, _, _, e1, e2, h⟩ := hat.out k hlt W hW
        injection e1 with e1
        injection e1 with e3 e4
        injection e2 with e2
        injection e2 with e5 e6
        subst e3 e4 e5 e6
        exact h
      generalize L.getD k wn0 = x at *
      have hki : (k : Int) < (n : Int) := by omega
      have H0 := hide T0
      clear T0 hat
      go_wp2_with fail
      refine wp_region_held (S := Calm w) (by kernel_rfl) ?_
      have hT0 : Calm w { wr with drawn := wr.drawn + 1 } := H0.out.drew
      refine wpAnyH_yield 0 17 (.slice (some ⟨b, off, none⟩) n ca) rfl rfl (by kernel_rfl) (by kernel_rfl) (by kernel_rfl) (fun _ _ _ h => h) (by kernel_rfl) (fun W hW => by kernel_rfl) (by assumption) rfl rfl ?_
      simp only [Act.put, List.setIfInBounds_toArray, List.set_cons_zero, List.set_cons_succ]
      refine wpAnyH_yield 1 18 (.int .i64 (k : Int)) rfl rfl (by kernel_rfl) (by kernel_rfl) (by kernel_rfl) (fun _ _ _ h => h) (by kernel_rfl) (fun W hW => by kernel_rfl) (by assumption) rfl rfl ?_
      simp only [Act.put, List.setIfInBounds_toArray, List.set_cons_zero, List.set_cons_succ]
      refine wpAnyH_yield 2 19 (.pointer (some ⟨b, off + k * 9, none⟩)) rfl rfl (by kernel_rfl) (by kernel_rfl) (by kernel_rfl) (fun _ _ _ h => h) (by kernel_rfl) (fun W hW => by go_simp) (by assumption) rfl rfl ?_
      simp only [Act.put, List.setIfInBounds_toArray, List.set_cons_zero, List.set_cons_succ]
      refine wpAnyH_yield 3 20 (wnv x) rfl rfl (by kernel_rfl) (by kernel_rfl) (by kernel_rfl) (fun _ _ _ h => h) (by kernel_rfl) (fun W hW => by obtain ⟨⟨⟨c0, c1, c2⟩, ⟨c3, c4, c5, c6⟩, c7, c8⟩, -⟩ := K.out W hW; go_simp) (by assumption) rfl rfl ?_
      simp only [Act.put, List.setIfInBounds_toArray, List.set_cons_zero, List.set_cons_succ]
      refine wpAnyH_yield 4 21 (.slice (some ⟨b', off', none⟩) n cb) rfl rfl (by kernel_rfl) (by kernel_rfl) (by kernel_rfl) (fun _ _ _ h => h) (by kernel_rfl) (fun W hW => by kernel_rfl) (by assumption) rfl rfl ?_
      simp only [Act.put, List.setIfInBounds_toArray, List.set_cons_zero, List.set_cons_succ]
      refine wpAnyH_yield 5 22 (.int .i64 (k : Int)) rfl rfl (by kernel_rfl) (by kernel_rfl) (by kernel_rfl) (fun _ _ _ h => h) (by kernel_rfl) (fun W hW => by kernel_rfl) (by assumption) rfl rfl ?_
      simp only [Act.put, List.setIfInBounds_toArray, List.set_cons_zero, List.set_cons_succ]
      refine wpAnyH_yield 6 23 (.pointer (some ⟨b', off' + k * 9, none⟩)) rfl rfl (by kernel_rfl) (by kernel_rfl) (by kernel_rfl) (fun _ _ _ h => h) (by kernel_rfl) (fun W hW => by go_simp) (by assumption) rfl rfl ?_
      simp only [Act.put, List.setIfInBounds_toArray, List.set_cons_zero, List.set_cons_succ]
      refine wpAnyH_yield 7 24 (wnv x) rfl rfl (by kernel_rfl) (by kernel_rfl) (by kernel_rfl) (fun _ _ _ h => h) (by kernel_rfl) (fun W hW => by obtain ⟨-, ⟨⟨c0, c1, c2⟩, ⟨c3, c4, c5, c6⟩, c7, c8⟩⟩ := K.out W hW; go_simp) (by assumption) rfl rfl ?_
      simp only [Act.put, List.setIfInBounds_toArray, List.set_cons_zero, List.set_cons_succ]
      refine wpAnyH_yield 8 25 (.bool false) rfl rfl (by kernel_rfl) (by kernel_rfl) (by kernel_rfl) (fun _ _ _ h => h) (by kernel_rfl) (fun W hW => by go_simp) (by assumption) rfl rfl ?_
      simp only [Act.put, List.setIfInBounds_toArray, List.set_cons_zero, List.set_cons_succ]
      refine wpAnyH_done (by kernel_rfl) ?_ _
      have H1 := hide hT0
      clear hT0 H0
      go_wp2_with fail
      go_roundw
      case rel => exact ⟨k + 1, by go_num, by omega, H1.out⟩
      case measure => simp [intOf]; omega
    · have e : k = n := by omega
      subst e
      have HT := hide T0
      clear T0
      go_wp2_with fail
      go_ret
      exact ⟨rfl, HT.out⟩

end Go.Proofs.Ytfmlbcddomggaaa
