/- The kit's: keys' states that are the same are told to be so; kept (Wins, Key, mark, KeptKey). -/
import Derived.Test.YtjambfncemlenaaDoorCK
namespace Go.Proofs.YtjambfncemlenaaDoor
open Go.RowKit

set_option maxRecDepth 100000 in
set_option maxHeartbeats 2000000 in
theorem kitWins_any (ao bo : Option Addr) (ca cb : Nat) (L : List Wn) (w : World) (ha : encW.Mem w ao L) (hb : encW.Mem w bo L) (hn : L.length ≤ 140737488355328) :
    Calls Tryd.prog 71 #[.slice ao L.length ca, .slice bo L.length cb] w fun e w' => e = .returned (.bool true) ∧ Calm w w' := by
  have hat : Hid (∀ k, k < L.length → ∀ W, Calm w W → ∃ b off b' off', ao = some ⟨b, off, none⟩ ∧ bo = some ⟨b', off', none⟩ ∧ wcell W b (off + k * 9) (L.getD k wn0) ∧ wcell W b' (off' + k * 9) (L.getD k wn0)) := hide fun k hk W hW => by
    obtain ⟨b, off, e, c⟩ := wn_at (Rc.Mem.calm ha hW) k hk
    obtain ⟨b', off', e', d⟩ := wn_at (Rc.Mem.calm hb hW) k hk
    exact ⟨b, off, b', off', e, e', c, d⟩
  generalize L.length = n at *
  clear ha hb
  go_enter Tryd.func71, Tryd.ntmps71
  go_wp2_with fail
  go_loopw [5] (fun i wr => ∃ k : Nat, i = .int .i64 k ∧ k ≤ n ∧ Calm w wr) (fun i _ => n - (intOf i).toNat)
  case atStart => exact ⟨0, rfl, Nat.zero_le _, Touch.refl _ _⟩
  case round =>
    obtain ⟨k, rfl, hk, T0⟩ := hrel
    by_cases hlt : k < n
    · obtain ⟨b, off, b', off', rfl, rfl, -⟩ := hat.out k hlt w (Touch.refl _ _)
      have K : Hid (∀ W, Calm w W → wcell W b (off + k * 9) (L.getD k wn0) ∧ wcell W b' (off' + k * 9) (L.getD k wn0)) := hide fun W hW => by
        obtain ⟨_, _, _, _, e1, e2, h⟩ := hat.out k hlt W hW
        injection e1 with e1
        injection e1 with e3 e4
        injection e2 with e2
        injection e2 with e5 e6
        subst e3 e4 e5 e6
        exact h
      generalize L.getD k wn0 = x at *
      have hki : (k : Int) < (n : Int) := by omega
      have H0 := hide T0
      clear T0 hat
      go_wp2_with fail
      refine wp_region_held (S := Calm w) (by kernel_rfl) ?_
      have hT0 : Calm w { wr with drawn := wr.drawn + 1 } := H0.out.drew
      refine wpAnyH_yield 0 17 (.slice (some ⟨b, off, none⟩) n ca) rfl rfl (by kernel_rfl) (by kernel_rfl) (by kernel_rfl) (fun _ _ _ h => h) (by kernel_rfl) (fun W hW => by kernel_rfl) (by assumption) rfl rfl ?_
      simp only [Act.put, List.setIfInBounds_toArray, List.set_cons_zero, List.set_cons_succ]
      refine wpAnyH_yield 1 18 (.int .i64 (k : Int)) rfl rfl (by kernel_rfl) (by kernel_rfl) (by kernel_rfl) (fun _ _ _ h => h) (by kernel_rfl) (fun W hW => by kernel_rfl) (by assumption) rfl rfl ?_
      simp only [Act.put, List.setIfInBounds_toArray, List.set_cons_zero, List.set_cons_succ]
      refine wpAnyH_yield 2 19 (.pointer (some ⟨b, off + k * 9, none⟩)) rfl rfl (by kernel_rfl) (by kernel_rfl) (by kernel_rfl) (fun _ _ _ h => h) (by kernel_rfl) (fun W hW => by go_simp) (by assumption) rfl rfl ?_
      simp only [Act.put, List.setIfInBounds_toArray, List.set_cons_zero, List.set_cons_succ]
      refine wpAnyH_yield 3 20 (wnv x) rfl rfl (by kernel_rfl) (by kernel_rfl) (by kernel_rfl) (fun _ _ _ h => h) (by kernel_rfl) (fun W hW => by obtain ⟨⟨⟨c0, c1, c2⟩, ⟨c3, c4, c5, c6⟩, c7, c8⟩, -⟩ := K.out W hW; go_simp) (by assumption) rfl rfl ?_
      simp only [Act.put, List.setIfInBounds_toArray, List.set_cons_zero, List.set_cons_succ]
      refine wpAnyH_yield 4 21 (.slice (some ⟨b', off', none⟩) n cb) rfl rfl (by kernel_rfl) (by kernel_rfl) (by kernel_rfl) (fun _ _ _ h => h) (by kernel_rfl) (fun W hW => by kernel_rfl) (by assumption) rfl rfl ?_
      simp only [Act.put, List.setIfInBounds_toArray, List.set_cons_zero, List.set_cons_succ]
      refine wpAnyH_yield 5 22 (.int .i64 (k : Int)) rfl rfl (by kernel_rfl) (by kernel_rfl) (by kernel_rfl) (fun _ _ _ h => h) (by kernel_rfl) (fun W hW => by kernel_rfl) (by assumption) rfl rfl ?_
      simp only [Act.put, List.setIfInBounds_toArray, List.set_cons_zero, List.set_cons_succ]
      refine wpAnyH_yield 6 23 (.pointer (some ⟨b', off' + k * 9, none⟩)) rfl rfl (by kernel_rfl) (by kernel_rfl) (by kernel_rfl) (fun _ _ _ h => h) (by kernel_rfl) (fun W hW => by go_simp) (by assumption) rfl rfl ?_
      simp only [Act.put, List.setIfInBounds_toArray, List.set_cons_zero, List.set_cons_succ]
      refine wpAnyH_yield 7 24 (wnv x) rfl rfl (by kernel_rfl) (by kernel_rfl) (by kernel_rfl) (fun _ _ _ h => h) (by kernel_rfl) (fun W hW => by obtain ⟨-, ⟨c0, c1, c2⟩, ⟨c3, c4, c5, c6⟩, c7, c8⟩ := K.out W hW; go_simp) (by assumption) rfl rfl ?_
      simp only [Act.put, List.setIfInBounds_toArray, List.set_cons_zero, List.set_cons_succ]
      refine wpAnyH_yield 8 25 (.bool false) rfl rfl (by kernel_rfl) (by kernel_rfl) (by kernel_rfl) (fun _ _ _ h => h) (by kernel_rfl) (fun W hW => by go_simp) (by assumption) rfl rfl ?_
      simp only [Act.put, List.setIfInBounds_toArray, List.set_cons_zero, List.set_cons_succ]
      refine wpAnyH_done (by kernel_rfl) ?_ _
      have H1 := hide hT0
      clear hT0 H0
      go_wp2_with fail
      go_roundw
      case rel => exact ⟨k + 1, by go_num, by omega, H1.out⟩
      case measure => simp [intOf]; omega
    · have e : k = n := by omega
      subst e
      have HT := hide T0
      clear T0
      go_wp2_with fail
      go_ret
      exact ⟨rfl, HT.out⟩

set_option maxRecDepth 100000 in
theorem kitKey_any (k : Ks) (ao bo : Option Addr) (ca cb : Nat) (w : World) (ha : encW.Mem w ao k.wi) (hb : encW.Mem w bo k.wi) (hn : k.wi.length ≤ 140737488355328) :
    Calls Tryd.prog 51 #[.agg (ksc k ao ca), .agg (ksc k bo cb)] w fun e w' => e = .returned (.bool true) ∧ Calm w w' := by
  have CW : Hid (∀ W, Calm w W → Calls Tryd.prog 71 #[.slice ao k.wi.length ca, .slice bo k.wi.length cb] W fun e w' => e = .returned (.bool true) ∧ Calm W w') := hide fun W hW => kitWins_any ao bo ca cb k.wi W (Rc.Mem.calm ha hW) (Rc.Mem.calm hb hW) hn
  have T0 := hide (((Touch.refl (fun _ => False) w).alloc (.cells (ksc k ao ca) 55)).alloc (.cells (ksc k bo cb) 55))
  clear ha hb
  go_enter Tryd.func51, Tryd.ntmps51
  go_wp2_with fail
  refine (CW.out _ T0.out).mono ?_
  rintro e w1 ⟨rfl, T1⟩
  have HT := hide (T0.out.tr T1)
  clear T1 T0 CW
  go_wp2_with fail
  go_ret
  exact ⟨rfl, HT.out⟩

/-- A window that stands behind others. -/
abbrev mkW (i : Nat) : Wn := ⟨0, 0, -77, ⟨0, 0, 0, 0⟩, (i : Int), 0⟩
set_option maxRecDepth 100000 in
theorem mark_any (i : Nat) (w : World) : Calls Tryd.prog 47 #[.int .i64 (i : Int)] w fun e w' => e = .returned (wnv (mkW i)) ∧ Calm w w' := by
  have T0 := hide ((Touch.refl (fun _ => False) w).alloc (.cells (wnc (mkW i)) 92))
  have A0 := hide (al_new w (.cells (wnc (mkW i)) 92))
  go_enter Tryd.func47, Tryd.ntmps47
  go_wp2_with fail
  refine bodyPost_ret (results_cell_row rfl _ _ _ _ _ _ _ rfl A0.out Tryd.underlying92 rfl (by kernel_rfl)) rfl ?_
  exact ⟨rfl, T0.out⟩

end Go.Proofs.YtjambfncemlenaaDoor
