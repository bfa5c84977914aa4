/- The program's balanced, with. -/
import Derived.Test.YtegiinnhknfjjaaITurn
namespace Go.Proofs.Ytegiinnhknfjjaa.IM
open Go.RowKit

theorem thrice_wrap {n : Nat} (h : Low n) : wrap64 (3 * ((n + 1 : Nat) : Int)) = ((3 * (n + 1) : Nat) : Int) := by have := h.le; unfold wrap64; omega

theorem ne_of_heavy {α : Type} {L : List α} {m : Nat} (h : 3 * (m + 1) < L.length + 1) : L ≠ [] := by intro e; subst e; simp at h

theorem index2 (p q : Value) (w : World) : (Instr.index 103 (.agg #[p, q]) (.int .i64 0)).run Try.prog w = .ok p w ∧ (Instr.index 103 (.agg #[p, q]) (.int .i64 1)).run Try.prog w = .ok q w := by
  have h := Try.underlying103
  constructor <;> simp [Instr.index, run_underlying h, asIntOf, go_sem]

set_option maxRecDepth 100000 in
set_option maxHeartbeats 1000000 in
theorem balanced_any (b : Nat) (k : Int) (v : Int) (x y p q : Option Addr) (L R : List (Int × Int)) (w : World) (hn : Nd w b k v x y) (hp : TL w (.pointer p) L) (hq : TL w (.pointer q) R) (low : Low (L.length + 1 + R.length)) :
    Calls Try.prog 77 #[.pointer (some ⟨b, 0, none⟩), .agg #[.pointer p, .pointer q]] w fun e w' => ∃ b', e = .returned (.pointer (some ⟨b', 0, none⟩)) ∧ TL w' (.pointer (some ⟨b', 0, none⟩)) (L ++ (k, v) :: R) ∧ Calm w w' := by
  have OV := hide (fun (W : World) (h : Calm w W) => over_any b k v x y p q L R W (hn.calm h) (hp.calm h) (hq.calm h) low)
  have WP := hide (fun (W : World) (h : Calm w W) => weight_any (.pointer p) L W (hp.calm h) (low_of low (by omega)))
  have WQ := hide (fun (W : World) (h : Calm w W) => weight_any (.pointer q) R W (hq.calm h) (low_of low (by omega)))
  have T0 := hide (fun (W : World) (h : Calm w W) (hne : L ≠ []) => turned0_any b k v x y p q L R W (hn.calm h) (hp.calm h) (hq.calm h) hne low)
  have T1 := hide (fun (W : World) (h : Calm w W) (hne : R ≠ []) => turned1_any b k v x y q p R L W (hn.calm h) (hq.calm h) (hp.calm h) hne (low_of low (by omega)))
  have tp := thrice_wrap (n := L.length) (low_of low (by omega))
  have tq := thrice_wrap (n := R.length) (low_of low (by omega))
  have hd0 : (wrap64 (3 * ((R.length + 1 : Nat) : Int)) < ((L.length + 1 : Nat) : Int) ∧ L ≠ []) ∨ ¬ wrap64 (3 * ((R.length + 1 : Nat) : Int)) < ((L.length + 1 : Nat) : Int) := by
    rw [tq]
    rcases Nat.lt_or_ge (3 * (R.length + 1)) (L.length + 1) with h | h
    · exact .inl ⟨by omega, ne_of_heavy h⟩
    · exact .inr (by omega)
  have hd1 : (wrap64 (3 * ((L.length + 1 : Nat) : Int)) < ((R.length + 1 : Nat) : Int) ∧ R ≠ []) ∨ ¬ wrap64 (3 * ((L.length + 1 : Nat) : Int)) < ((R.length + 1 : Nat) : Int) := by
    rw [tp]
    rcases Nat.lt_or_ge (3 * (L.length + 1)) (R.length + 1) with h | h
    · exact .inl ⟨by omega, ne_of_heavy h⟩
    · exact .inr (by omega)
  clear tp tq hn hp hq low
  generalize ((L.length + 1 : Nat) : Int) = m0 at *
  generalize ((R.length + 1 : Nat) : Int) = m1 at *
  have HD0 := hide hd0
  have HD1 := hide hd1
  clear hd0 hd1
  have T := hide ((Touch.refl (fun _ => False) w).alloc (.cells #[.pointer p, .pointer q] 103))
  have HA : Hid ((w.alloc (.cells #[.pointer p, .pointer q] 103)).heap[w.heap.size]? = some (.cells #[.pointer p, .pointer q] 103 (0, 0))) := hide (heap_alloc_last w _)
  go_enter Try.func77, Try.ntmps77
  go_wp2_with fail
  generalize w.alloc (.cells #[.pointer p, .pointer q] 103) = w0 at *
  go_loopw [8] (fun i wr => ∃ s : Nat, i = .int .i64 (s : Int) ∧ s ≤ 2 ∧ Calm w0 wr) (fun i _ => 2 - (intOf i).toNat)
  case atStart => exact ⟨0, rfl, by omega, Touch.refl _ _⟩
  case round =>
    obtain ⟨s, rfl, hs, tr⟩ := hrel
    have h012 : s = 0 ∨ s = 1 ∨ s = 2 := by omega
    clear hs
    rcases h012 with rfl | rfl | rfl
    · have hx := (index2 (.pointer p) (.pointer q) wr).1
      go_wp2_with fail
      clear hx
      refine wp_region_held (S := Calm wr) (by kernel_rfl) ?_
      have hT0 : Calm wr { wr with drawn := wr.drawn + 1 } := (Touch.refl (fun _ => False) wr).drew
      refine wpAnyH_yield 0 12 (.pointer p) rfl rfl (by kernel_rfl) (by kernel_rfl) (by kernel_rfl) (fun _ _ _ h => h) (by kernel_rfl) (fun W hW => by kernel_rfl) (by assumption) rfl rfl ?_
      simp only [Act.put, List.setIfInBounds_toArray, List.set_cons_zero, List.set_cons_succ]
      refine wpAnyH_yield 2 14 (.int .i64 0) rfl rfl (by kernel_rfl) (by kernel_rfl) (by kernel_rfl) (fun _ _ _ h => h) (by kernel_rfl) (fun W hW => by kernel_rfl) (by assumption) rfl rfl ?_
      simp only [Act.put, List.setIfInBounds_toArray, List.set_cons_zero, List.set_cons_succ]
      refine wpAnyH_yield 3 15 (.int .i64 1) rfl rfl (by kernel_rfl) (by kernel_rfl) (by kernel_rfl) (fun _ _ _ h => h) (by kernel_rfl) (fun W hW => by kernel_rfl) (by assumption) rfl rfl ?_
      simp only [Act.put, List.setIfInBounds_toArray, List.set_cons_zero, List.set_cons_succ]
      refine wpAnyH_yield 4 16 (.pointer (some ⟨w.heap.size, 1, none⟩)) rfl rfl (by kernel_rfl) (by kernel_rfl) (by kernel_rfl) (fun _ _ _ h => h) (by kernel_rfl) (fun W hW => by go_simp) (by assumption) rfl rfl ?_
      simp only [Act.put, List.setIfInBounds_toArray, List.set_cons_zero, List.set_cons_succ]
      refine wpAnyH_yield 5 17 (.pointer q) rfl rfl (by kernel_rfl) (by kernel_rfl) (by kernel_rfl) (fun _ _ _ h => h) (by kernel_rfl) (fun W hW => by obtain ⟨c0, c1⟩ := cells2 (hW.at (tr.at HA.out)); go_simp) (by assumption) rfl rfl ?_
      simp only [Act.put, List.setIfInBounds_toArray, List.set_cons_zero, List.set_cons_succ]
      refine wpAnyH_enter 1 13 85 #[.pointer p] rfl rfl (by kernel_rfl) (by kernel_rfl) (by kernel_rfl) ?_
      refine (WP.out _ ((T.out.tr tr).tr hT0)).mono ?_
      rintro r _ ⟨rfl, rfl⟩
      refine ⟨_, rfl, hT0, ?_⟩
      simp only [Act.put, List.setIfInBounds_toArray, List.set_cons_zero, List.set_cons_succ]
      refine wpAnyH_enter 6 18 85 #[.pointer q] rfl rfl (by kernel_rfl) (by kernel_rfl) (by kernel_rfl) ?_
      refine (WQ.out _ ((T.out.tr tr).tr hT0)).mono ?_
      rintro r _ ⟨rfl, rfl⟩
      refine ⟨_, rfl, hT0, ?_⟩
      simp only [Act.put, List.setIfInBounds_toArray, List.set_cons_zero, List.set_cons_succ]
      refine wpAnyH_yield 7 19 (.int .i64 (wrap64 (3 * m1))) rfl rfl (by kernel_rfl) (by kernel_rfl) (by kernel_rfl) (fun _ _ _ h => h) (by kernel_rfl) (fun W hW => by go_simp; rw [wrapEq]) (by assumption) rfl rfl ?_
      simp only [Act.put, List.setIfInBounds_toArray, List.set_cons_zero, List.set_cons_succ]
      refine wpAnyH_yield 8 20 (.bool (decide (wrap64 (3 * m1) < m0))) rfl rfl (by kernel_rfl) (by kernel_rfl) (by kernel_rfl) (fun _ _ _ h => h) (by kernel_rfl) (fun W hW => by go_simp) (by assumption) rfl rfl ?_
      simp only [Act.put, List.setIfInBounds_toArray, List.set_cons_zero, List.set_cons_succ]
      refine wpAnyH_done (by kernel_rfl) ?_ _
      have tr1 := tr.tr hT0
      generalize ({ wr with drawn := wr.drawn + 1 } : World) = w1 at *
      clear hT0 tr
      obtain ⟨c0, c1⟩ := cells2 (tr1.at HA.out)
      rcases HD0.out with ⟨hc, hne⟩ | hc
      · go_wp2_with fail
        refine (T0.out _ (T.out.tr tr1) hne).mono ?_
        rintro e w2 ⟨b2, rfl, tl2, t2⟩
        go_wp2_with fail
        go_ret
        exact ⟨_, rfl, tl2, (T.out.tr tr1).tr t2⟩
      · go_wp2_with fail
        go_roundw
        case rel => exact ⟨1, rfl, by omega, tr1⟩
        case measure => simp [intOf]
    · have hx := (index2 (.pointer p) (.pointer q) wr).2
      go_wp2_with fail
      clear hx
      refine wp_region_held (S := Calm wr) (by kernel_rfl) ?_
      have hT0 : Calm wr { wr with drawn := wr.drawn + 1 } := (Touch.refl (fun _ => False) wr).drew
      refine wpAnyH_yield 0 12 (.pointer q) rfl rfl (by kernel_rfl) (by kernel_rfl) (by kernel_rfl) (fun _ _ _ h => h) (by kernel_rfl) (fun W hW => by kernel_rfl) (by assumption) rfl rfl ?_
      simp only [Act.put, List.setIfInBounds_toArray, List.set_cons_zero, List.set_cons_succ]
      refine wpAnyH_yield 2 14 (.int .i64 1) rfl rfl (by kernel_rfl) (by kernel_rfl) (by kernel_rfl) (fun _ _ _ h => h) (by kernel_rfl) (fun W hW => by kernel_rfl) (by assumption) rfl rfl ?_
      simp only [Act.put, List.setIfInBounds_toArray, List.set_cons_zero, List.set_cons_succ]
      refine wpAnyH_yield 3 15 (.int .i64 0) rfl rfl (by kernel_rfl) (by kernel_rfl) (by kernel_rfl) (fun _ _ _ h => h) (by kernel_rfl) (fun W hW => by kernel_rfl) (by assumption) rfl rfl ?_
      simp only [Act.put, List.setIfInBounds_toArray, List.set_cons_zero, List.set_cons_succ]
      refine wpAnyH_yield 4 16 (.pointer (some ⟨w.heap.size, 0, none⟩)) rfl rfl (by kernel_rfl) (by kernel_rfl) (by kernel_rfl) (fun _ _ _ h => h) (by kernel_rfl) (fun W hW => by go_simp) (by assumption) rfl rfl ?_
      simp only [Act.put, List.setIfInBounds_toArray, List.set_cons_zero, List.set_cons_succ]
      refine wpAnyH_yield 5 17 (.pointer p) rfl rfl (by kernel_rfl) (by kernel_rfl) (by kernel_rfl) (fun _ _ _ h => h) (by kernel_rfl) (fun W hW => by obtain ⟨c0, c1⟩ := cells2 (hW.at (tr.at HA.out)); go_simp) (by assumption) rfl rfl ?_
      simp only [Act.put, List.setIfInBounds_toArray, List.set_cons_zero, List.set_cons_succ]
      refine wpAnyH_enter 1 13 85 #[.pointer q] rfl rfl (by kernel_rfl) (by kernel_rfl) (by kernel_rfl) ?_
      refine (WQ.out _ ((T.out.tr tr).tr hT0)).mono ?_
      rintro r _ ⟨rfl, rfl⟩
      refine ⟨_, rfl, hT0, ?_⟩
      simp only [Act.put, List.setIfInBounds_toArray, List.set_cons_zero, List.set_cons_succ]
      refine wpAnyH_enter 6 18 85 #[.pointer p] rfl rfl (by kernel_rfl) (by kernel_rfl) (by kernel_rfl) ?_
      refine (WP.out _ ((T.out.tr tr).tr hT0)).mono ?_
      rintro r _ ⟨rfl, rfl⟩
      refine ⟨_, rfl, hT0, ?_⟩
      simp only [Act.put, List.setIfInBounds_toArray, List.set_cons_zero, List.set_cons_succ]
      refine wpAnyH_yield 7 19 (.int .i64 (wrap64 (3 * m0))) rfl rfl (by kernel_rfl) (by kernel_rfl) (by kernel_rfl) (fun _ _ _ h => h) (by kernel_rfl) (fun W hW => by go_simp; rw [wrapEq]) (by assumption) rfl rfl ?_
      simp only [Act.put, List.setIfInBounds_toArray, List.set_cons_zero, List.set_cons_succ]
      refine wpAnyH_yield 8 20 (.bool (decide (wrap64 (3 * m0) < m1))) rfl rfl (by kernel_rfl) (by kernel_rfl) (by kernel_rfl) (fun _ _ _ h => h) (by kernel_rfl) (fun W hW => by go_simp) (by assumption) rfl rfl ?_
      simp only [Act.put, List.setIfInBounds_toArray, List.set_cons_zero, List.set_cons_succ]
      refine wpAnyH_done (by kernel_rfl) ?_ _
      have tr1 := tr.tr hT0
      generalize ({ wr with drawn := wr.drawn + 1 } : World) = w1 at *
      clear hT0 tr
      obtain ⟨c0, c1⟩ := cells2 (tr1.at HA.out)
      rcases HD1.out with ⟨hc, hne⟩ | hc
      · go_wp2_with fail
        refine (T1.out _ (T.out.tr tr1) hne).mono ?_
        rintro e w2 ⟨b2, rfl, tl2, t2⟩
        go_wp2_with fail
        go_ret
        exact ⟨_, rfl, tl2, (T.out.tr tr1).tr t2⟩
      · go_wp2_with fail
        go_roundw
        case rel => exact ⟨2, rfl, by omega, tr1⟩
        case measure => simp [intOf]
    · obtain ⟨c0, c1⟩ := cells2 (tr.at HA.out)
      go_wp2_with fail
      refine (OV.out _ (T.out.tr tr)).mono ?_
      rintro e w2 ⟨b2, rfl, tl2, -, t2⟩
      go_wp2_with fail
      go_ret
      exact ⟨_, rfl, tl2, (T.out.tr tr).tr t2⟩

end Go.Proofs.Ytegiinnhknfjjaa.IM
