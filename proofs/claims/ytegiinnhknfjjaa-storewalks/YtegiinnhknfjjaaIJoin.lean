/- The program's joined. -/
import Derived.Test.YtegiinnhknfjjaaIWith
namespace Go.Proofs.Ytegiinnhknfjjaa.IM
open Go.RowKit

set_option maxRecDepth 100000 in
set_option maxHeartbeats 1000000 in
theorem joined_any (p q : Option Addr) (L R : List (Int × Int)) (w : World) (hp : TL w (.pointer p) L) (hq : TL w (.pointer q) R) (low : Low (L.length + R.length)) :
    Calls Try.prog 76 #[.agg #[.pointer p, .pointer q]] w fun e w' => ∃ r, e = .returned (.pointer r) ∧ TL w' (.pointer r) (L ++ R) ∧ Calm w w' := by
  have SP := hide (fun (W : World) (h : Calm w W) => size_any (.pointer p) L W (hp.calm h))
  have SQ := hide (fun (W : World) (h : Calm w W) => size_any (.pointer q) R W (hq.calm h))
  have C1 := hide (fun (hne : L ≠ []) (W : World) (h : Calm w W) => cut1_any hp hne (low_of low (by omega)) W h)
  have C0 := hide (fun (hne : R ≠ []) (W : World) (h : Calm w W) => cut0_any hq hne (low_of low (by omega)) W h)
  have HP := hide hp
  have HQ := hide hq
  have LOW := hide low
  have T := hide ((Touch.refl (fun _ => False) w).alloc (.cells #[.pointer p, .pointer q] 103))
  have HA0 : Hid ((w.alloc (.cells #[.pointer p, .pointer q] 103)).heap[w.heap.size]? = some (.cells #[.pointer p, .pointer q] 103 (0, 0))) := hide (heap_alloc_last w _)
  have hcase : (L.length < R.length) ∨ (¬ L.length < R.length ∧ L = []) ∨ (¬ L.length < R.length ∧ L ≠ []) := by
    rcases Nat.lt_or_ge L.length R.length with h | h
    · exact .inl h
    · by_cases he : L = []
      · exact .inr (.inl ⟨by omega, he⟩)
      · exact .inr (.inr ⟨by omega, he⟩)
  clear low hp hq
  go_enter Try.func76, Try.ntmps76
  go_wp2_with fail
  generalize w.alloc (.cells #[.pointer p, .pointer q] 103) = w0 at *
  have hlt : ∀ l r : Nat, ((l : Int) < (r : Int)) ↔ l < r := fun l r => by omega
  generalize hll : L.length = l at *
  generalize hrr : R.length = r at *
  refine wp_region_held (S := Calm w0) (by kernel_rfl) ?_
  have hT0 : Calm w0 { w0 with drawn := w0.drawn + 1 } := (Touch.refl (fun _ => False) w0).drew
  refine wpAnyH_yield 0 6 (.pointer (some ⟨w.heap.size, 1, none⟩)) rfl rfl (by kernel_rfl) (by kernel_rfl) (by kernel_rfl) (fun _ _ _ h => h) (by kernel_rfl) (fun W hW => by go_simp) (by assumption) rfl rfl ?_
  simp only [Act.put, List.setIfInBounds_toArray, List.set_cons_zero, List.set_cons_succ]
  refine wpAnyH_yield 1 7 (.pointer q) rfl rfl (by kernel_rfl) (by kernel_rfl) (by kernel_rfl) (fun _ _ _ h => h) (by kernel_rfl) (fun W hW => by obtain ⟨c0, c1⟩ := cells2 (hW.at HA0.out); go_simp) (by assumption) rfl rfl ?_
  simp only [Act.put, List.setIfInBounds_toArray, List.set_cons_zero, List.set_cons_succ]
  refine wpAnyH_yield 3 9 (.pointer (some ⟨w.heap.size, 0, none⟩)) rfl rfl (by kernel_rfl) (by kernel_rfl) (by kernel_rfl) (fun _ _ _ h => h) (by kernel_rfl) (fun W hW => by go_simp) (by assumption) rfl rfl ?_
  simp only [Act.put, List.setIfInBounds_toArray, List.set_cons_zero, List.set_cons_succ]
  refine wpAnyH_yield 4 10 (.pointer p) rfl rfl (by kernel_rfl) (by kernel_rfl) (by kernel_rfl) (fun _ _ _ h => h) (by kernel_rfl) (fun W hW => by obtain ⟨c0, c1⟩ := cells2 (hW.at HA0.out); go_simp) (by assumption) rfl rfl ?_
  simp only [Act.put, List.setIfInBounds_toArray, List.set_cons_zero, List.set_cons_succ]
  refine wpAnyH_enter 2 8 64 #[.pointer q] rfl rfl (by kernel_rfl) (by kernel_rfl) (by kernel_rfl) ?_
  refine (SQ.out _ (T.out.tr hT0)).mono ?_
  rintro r _ ⟨rfl, rfl⟩
  refine ⟨_, rfl, hT0, ?_⟩
  simp only [Act.put, List.setIfInBounds_toArray, List.set_cons_zero, List.set_cons_succ]
  refine wpAnyH_enter 5 11 64 #[.pointer p] rfl rfl (by kernel_rfl) (by kernel_rfl) (by kernel_rfl) ?_
  refine (SP.out _ (T.out.tr hT0)).mono ?_
  rintro r _ ⟨rfl, rfl⟩
  refine ⟨_, rfl, hT0, ?_⟩
  simp only [Act.put, List.setIfInBounds_toArray, List.set_cons_zero, List.set_cons_succ]
  refine wpAnyH_yield 6 12 (.bool (decide ((l : Int) < (r : Int)))) rfl rfl (by kernel_rfl) (by kernel_rfl) (by kernel_rfl) (fun _ _ _ h => h) (by kernel_rfl) (fun W hW => by clear hlt; go_simp) (by assumption) rfl rfl ?_
  simp only [Act.put, List.setIfInBounds_toArray, List.set_cons_zero, List.set_cons_succ]
  refine wpAnyH_done (by kernel_rfl) ?_ _
  have T1 := hide (T.out.tr hT0)
  have HA := hide (hT0.at HA0.out)
  generalize ({ w0 with drawn := w0.drawn + 1 } : World) = w1 at *
  clear hT0 T HA0
  obtain ⟨c0, c1⟩ := cells2 HA.out
  rcases hcase with hc | ⟨hc, he⟩ | ⟨hc, hne⟩
  · have hc' := (hlt l r).2 hc
    have hne : R ≠ [] := by intro e; subst e; simp at hrr; omega
    have CU := hide (C0.out hne w1 T1.out)
    obtain ⟨bq, rfl⟩ := HQ.out.some_of hne
    have HLL := hide hll
    clear hc hlt hll
    go_wp2_with fail
    refine CU.out.mono ?_
    rintro e w2 ⟨b', k', v', x', y', r', A, rfl, hX, n2, tl2, t2⟩
    have hA : A.length + 1 = r := by rw [← hrr, hX]; rfl
    obtain ⟨d0, d1⟩ := cells2 (t2.at HA.out)
    clear c0 c1 hrr
    have HX := hide hX
    clear hX
    go_wp2_with fail
    refine (pair1_any _ _ _).mono ?_
    rintro e w3 ⟨rfl, t3⟩
    have t13 := T1.out.tr (t2.tr t3)
    have OV := over_any b' k' v' x' y' p r' L A w3 (n2.calm t3) (HP.out.calm t13) (tl2.calm t3) (low_of LOW.out (by have := HLL.out; omega))
    go_wp2_with fail
    refine OV.mono ?_
    clear OV
    rintro e w4 ⟨b4, rfl, tl4, -, t4⟩
    go_wp2_with fail
    go_ret
    exact ⟨_, rfl, by rw [HX.out]; exact tl4, t13.tr t4⟩
  · subst he
    have hr0 : R = [] := by
      apply List.eq_nil_of_length_eq_zero
      simp at hll
      omega
    subst hr0
    have hc' := fun h => hc ((hlt l r).1 h)
    have hpn := HP.out.none_of
    injection hpn with hpn
    subst hpn
    clear hc hlt hll hrr
    go_wp2_with fail
    go_ret
    exact ⟨_, rfl, .nil, T1.out⟩
  · have hc' := fun h => hc ((hlt l r).1 h)
    have CU := hide (C1.out hne w1 T1.out)
    obtain ⟨bp, rfl⟩ := HP.out.some_of hne
    have HRR := hide hrr
    clear hc hlt hrr
    go_wp2_with fail
    refine CU.out.mono ?_
    rintro e w2 ⟨b', k', v', x', y', r', A, rfl, hX, n2, tl2, t2⟩
    have hA : A.length + 1 = l := by rw [← hll, hX]; simp
    obtain ⟨d0, d1⟩ := cells2 (t2.at HA.out)
    clear c0 c1 hll
    have HX := hide hX
    clear hX
    go_wp2_with fail
    refine (pair0_any _ _ _).mono ?_
    rintro e w3 ⟨rfl, t3⟩
    have t13 := T1.out.tr (t2.tr t3)
    have OV := over_any b' k' v' x' y' r' q A R w3 (n2.calm t3) (tl2.calm t3) (HQ.out.calm t13) (low_of LOW.out (by have := HRR.out; omega))
    go_wp2_with fail
    refine OV.mono ?_
    clear OV
    rintro e w4 ⟨b4, rfl, tl4, -, t4⟩
    go_wp2_with fail
    go_ret
    exact ⟨_, rfl, by rw [HX.out]; simpa using tl4, t13.tr t4⟩

end Go.Proofs.Ytegiinnhknfjjaa.IM
