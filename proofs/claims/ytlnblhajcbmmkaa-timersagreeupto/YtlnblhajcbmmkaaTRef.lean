/- The document's lists. -/
import Derived.Test.YtlnblhajcbmmkaaTEq
namespace Go.Proofs.Ytlnblhajcbmmkaa
open Go.RowKit

/-- How many come ahead of t. -/
def leadT (t : Tm) (L : List Tm) : Nat := (L.takeWhile fun x => decide (cmpT x t < 0)).length

theorem leadT_le (t : Tm) (L : List Tm) : leadT t L ≤ L.length := (List.takeWhile_sublist _).length_le

theorem leadT_lt {t : Tm} : ∀ {L : List Tm} {k : Nat}, k < leadT t L → cmpT (nth L k) t < 0
  | [], k, h => by simp [leadT] at h
  | x :: L, k, h => by
    unfold leadT at h
    rw [List.takeWhile_cons] at h
    by_cases hx : cmpT x t < 0
    · simp only [hx, decide_true, if_true, List.length_cons] at h
      cases k with
      | zero => exact hx
      | succ k =>
        have := leadT_lt (t := t) (L := L) (k := k) (by unfold leadT; omega)
        simpa [nth] using this
    · simp [hx] at h

theorem leadT_at {t : Tm} : ∀ {L : List Tm}, leadT t L < L.length → ¬ cmpT (nth L (leadT t L)) t < 0
  | [], h => by simp at h
  | x :: L, h => by
    by_cases hx : cmpT x t < 0
    · have e : leadT t (x :: L) = leadT t L + 1 := by unfold leadT; rw [List.takeWhile_cons]; simp [hx]
      rw [e] at h ⊢
      have := leadT_at (t := t) (L := L) (by simpa using h)
      simpa [nth] using this
    · have e : leadT t (x :: L) = 0 := by unfold leadT; rw [List.takeWhile_cons]; simp [hx]
      rw [e]
      exact hx

/-- A place that is passed by all ahead of it and holds at none is leadT. -/
theorem leadT_eq {t : Tm} {L : List Tm} {k : Nat} (hk : k ≤ leadT t L) (hn : k = L.length ∨ ¬ cmpT (nth L k) t < 0) : leadT t L = k := by
  rcases Nat.lt_or_ge k (leadT t L) with h | h
  · rcases hn with hn | hn
    · have := leadT_le t L; omega
    · exact absurd (leadT_lt h) hn
  · omega

set_option maxRecDepth 100000 in
set_option maxHeartbeats 2000000 in
theorem place_any (ao : Option Addr) (cap : Nat) (l : List Tm) (t : Tm) (w : World) (h : Tms w ao l) (hb : l.length < 4611686018427387904) :
    Calls Try.prog 25 #[.slice ao l.length cap, tv t] w fun e w' => e = .returned (.int .i64 (leadT t l : Int)) ∧ Calm w w' := by
  have H := hide h
  have HB := hide hb
  clear h hb
  obtain ⟨L, hL⟩ : ∃ L, l.length = L := ⟨_, rfl⟩
  have HL := hide hL
  rw [hL]
  clear hL
  go_enter Try.func25, Try.ntmps25
  go_wp2_with fail
  have HA := hide (heap_alloc_last w (.cells (tc t) 35))
  have TA : Hid (Calm w (w.alloc (.cells (tc t) 35))) := hide ((Touch.refl _ _).alloc _)
  generalize w.heap.size = A at *
  go_loopw [5] (fun v wr => ∃ k : Nat, v = .int .i64 (k : Int) ∧ k ≤ leadT t l ∧ wr.heap[A]? = some (.cells (tc t) 35 (0, 0)) ∧ Calm w wr) (fun v _ => L - (intOf v).toNat)
  case atStart => exact ⟨0, rfl, Nat.zero_le _, HA.out, TA.out⟩
  case round =>
    clear HA TA
    obtain ⟨k, rfl, hk, ha, tr⟩ := hrel
    have HK := hide hk
    have HA1 := hide ha
    have T1 := hide tr
    have HKL : Hid (k ≤ L) := hide (by have := leadT_le t l; have := HL.out; omega)
    rename World => V
    clear hk ha tr
    by_cases hlt : k < L
    · obtain ⟨b, off, e, c0, c1, c2, c3⟩ := (H.out.calm T1.out) k (by rw [HL.out]; exact hlt)
      subst e
      have enk : l[k]'(by rw [HL.out]; exact hlt) = nth l k := (nth_eq _).symm
      rw [enk] at c0 c1 c2 c3
      have hki : (k : Int) < (L : Int) := by omega
      have hkw : wrap64 ((k : Int) + 1) = ((k + 1 : Nat) : Int) := by have := HB.out; have := HL.out; unfold wrap64; omega
      generalize hx : nth l k = x at *
      have HX := hide hx
      have CE : Hid (∀ W, Calm V W → W.cell? ⟨b, off + k * 4, none⟩ = some (.int .i64 x.at_) ∧ W.cell? ⟨b, off + k * 4 + 1, none⟩ = some (.string x.key) ∧ W.cell? ⟨b, off + k * 4 + 2, none⟩ = some (.int .i64 x.start) ∧ W.cell? ⟨b, off + k * 4 + 3, none⟩ = some (.int .i64 x.stop)) := hide (fun W hW => by
        have g : ∀ {o : Nat} {v : Value}, V.cell? ⟨b, o, none⟩ = some v → W.cell? ⟨b, o, none⟩ = some v := fun {o v} h => (hW.cell (p := ⟨b, o, none⟩) (lt_of_cell h) (fun h => h)).trans h
        exact ⟨g c0, g c1, g c2, g c3⟩)
      clear c0 c1 c2 c3 enk hx
      go_wp2_with fail
      by_cases hcp : cmpT x t < 0
      · have HCP : Hid (k + 1 ≤ leadT t l) := hide (by
          rcases Nat.lt_or_ge k (leadT t l) with h | h
          · omega
          · exfalso
            have e : leadT t l = k := by have := HK.out; omega
            exact leadT_at (L := l) (t := t) (by rw [e, HL.out]; exact hlt) (by rw [e, HX.out]; exact hcp))
        refine wp_only ?_
        refine wp_region_held (S := Calm V) (by kernel_rfl) ?_
        have hT0 : Calm V { V with drawn := V.drawn + 1 } := (Touch.refl (fun _ => False) V).drew
        refine wpAnyH_yield 0 6 (.int .i64 (k : Int)) rfl rfl (by kernel_rfl) (by kernel_rfl) (by kernel_rfl) (fun _ _ _ h => h) (by kernel_rfl) (fun W hW => by kernel_rfl) (by assumption) rfl rfl ?_
        simp only [Act.put, List.setIfInBounds_toArray, List.set_cons_zero, List.set_cons_succ]
        refine wpAnyH_yield 1 7 (.slice (some ⟨b, off, none⟩) L cap) rfl rfl (by kernel_rfl) (by kernel_rfl) (by kernel_rfl) (fun _ _ _ h => h) (by kernel_rfl) (fun W hW => by kernel_rfl) (by assumption) rfl rfl ?_
        simp only [Act.put, List.setIfInBounds_toArray, List.set_cons_zero, List.set_cons_succ]
        refine wpAnyH_yield 2 8 (.int .i64 (L : Int)) rfl rfl (by kernel_rfl) (by kernel_rfl) (by kernel_rfl) (fun _ _ _ h => h) (by kernel_rfl) (fun W hW => by kernel_rfl) (by assumption) rfl rfl ?_
        simp only [Act.put, List.setIfInBounds_toArray, List.set_cons_zero, List.set_cons_succ]
        refine wpAnyH_yield 3 9 (.bool true) rfl rfl (by kernel_rfl) (by kernel_rfl) (by kernel_rfl) (fun _ _ _ h => h) (by kernel_rfl) (fun W hW => by go_simp) (by assumption) rfl rfl ?_
        simp only [Act.put, List.setIfInBounds_toArray, List.set_cons_zero, List.set_cons_succ]
        refine wpAnyH_yield 4 10 (.bool true) rfl rfl (by kernel_rfl) (by kernel_rfl) (by kernel_rfl) (fun _ _ _ h => h) (by kernel_rfl) (fun W hW => by kernel_rfl) (by assumption) rfl rfl ?_
        simp only [Act.put, List.setIfInBounds_toArray, List.set_cons_zero, List.set_cons_succ]
        refine wpAnyH_yield 5 11 (.slice (some ⟨b, off, none⟩) L cap) rfl rfl (by kernel_rfl) (by kernel_rfl) (by kernel_rfl) (fun _ _ _ h => h) (by kernel_rfl) (fun W hW => by kernel_rfl) (by assumption) rfl rfl ?_
        simp only [Act.put, List.setIfInBounds_toArray, List.set_cons_zero, List.set_cons_succ]
        refine wpAnyH_yield 6 12 (.int .i64 (k : Int)) rfl rfl (by kernel_rfl) (by kernel_rfl) (by kernel_rfl) (fun _ _ _ h => h) (by kernel_rfl) (fun W hW => by kernel_rfl) (by assumption) rfl rfl ?_
        simp only [Act.put, List.setIfInBounds_toArray, List.set_cons_zero, List.set_cons_succ]
        refine wpAnyH_yield 7 13 (.pointer (some ⟨b, off + k * 4, none⟩)) rfl rfl (by kernel_rfl) (by kernel_rfl) (by kernel_rfl) (fun _ _ _ h => h) (by kernel_rfl) (fun W hW => by go_simp) (by assumption) rfl rfl ?_
        simp only [Act.put, List.setIfInBounds_toArray, List.set_cons_zero, List.set_cons_succ]
        refine wpAnyH_yield 8 14 (tv x) rfl rfl (by kernel_rfl) (by kernel_rfl) (by kernel_rfl) (fun _ _ _ h => h) (by kernel_rfl) (fun W hW => by obtain ⟨c0, c1, c2, c3⟩ := CE.out W hW; go_simp) (by assumption) rfl rfl ?_
        simp only [Act.put, List.setIfInBounds_toArray, List.set_cons_zero, List.set_cons_succ]
        refine wpAnyH_yield 9 15 (tv t) rfl rfl (by kernel_rfl) (by kernel_rfl) (by kernel_rfl) (fun _ _ _ h => h) (by kernel_rfl) (fun W hW => by obtain ⟨⟨c0, c1, c2, c3⟩, -⟩ := cells4 (hW.at HA1.out); go_simp) (by assumption) rfl rfl ?_
        simp only [Act.put, List.setIfInBounds_toArray, List.set_cons_zero, List.set_cons_succ]
        refine wpAnyH_enter 10 16 17 #[tv x, tv t] rfl rfl (by kernel_rfl) (by kernel_rfl) (by kernel_rfl) ?_
        refine (rcompare_any _ _ _).mono ?_
        rintro e y ⟨rfl, hy⟩
        have ty : Calm V y := by rw [hy]; exact (hT0.alloc _).alloc _
        refine ⟨_, rfl, ty, ?_⟩
        simp only [Act.put, List.setIfInBounds_toArray, List.set_cons_zero, List.set_cons_succ]
        refine wpAnyH_yield 11 17 (.bool true) rfl rfl (by kernel_rfl) (by kernel_rfl) (by kernel_rfl) (fun _ _ _ h => h) (by kernel_rfl) (fun W hW => by go_simp) (by assumption) rfl rfl ?_
        simp only [Act.put, List.setIfInBounds_toArray, List.set_cons_zero, List.set_cons_succ]
        refine wpAnyH_yield 12 18 (.bool true) rfl rfl (by kernel_rfl) (by kernel_rfl) (by kernel_rfl) (fun _ _ _ h => h) (by kernel_rfl) (fun W hW => by kernel_rfl) (by assumption) rfl rfl ?_
        simp only [Act.put, List.setIfInBounds_toArray, List.set_cons_zero, List.set_cons_succ]
        refine wpAnyH_done (by kernel_rfl) ?_ _
        rw [onlyN_normal]
        have A9 := hide (ty.at HA1.out)
        have T9 := hide (T1.out.tr ty)
        clear hT0 hy ty
        go_wp2_with fail
        go_roundw
        case rel => exact ⟨k + 1, by rw [hkw], HCP.out, A9.out, T9.out⟩
        case measure => rw [hkw]; simp [intOf]; omega
      · have HRE : Hid (leadT t l = k) := hide (leadT_eq HK.out (.inr (by rw [HX.out]; exact hcp)))
        refine wp_only ?_
        refine wp_region_held (S := Calm V) (by kernel_rfl) ?_
        have hT0 : Calm V { V with drawn := V.drawn + 1 } := (Touch.refl (fun _ => False) V).drew
        refine wpAnyH_yield 0 6 (.int .i64 (k : Int)) rfl rfl (by kernel_rfl) (by kernel_rfl) (by kernel_rfl) (fun _ _ _ h => h) (by kernel_rfl) (fun W hW => by kernel_rfl) (by assumption) rfl rfl ?_
        simp only [Act.put, List.setIfInBounds_toArray, List.set_cons_zero, List.set_cons_succ]
        refine wpAnyH_yield 1 7 (.slice (some ⟨b, off, none⟩) L cap) rfl rfl (by kernel_rfl) (by kernel_rfl) (by kernel_rfl) (fun _ _ _ h => h) (by kernel_rfl) (fun W hW => by kernel_rfl) (by assumption) rfl rfl ?_
        simp only [Act.put, List.setIfInBounds_toArray, List.set_cons_zero, List.set_cons_succ]
        refine wpAnyH_yield 2 8 (.int .i64 (L : Int)) rfl rfl (by kernel_rfl) (by kernel_rfl) (by kernel_rfl) (fun _ _ _ h => h) (by kernel_rfl) (fun W hW => by kernel_rfl) (by assumption) rfl rfl ?_
        simp only [Act.put, List.setIfInBounds_toArray, List.set_cons_zero, List.set_cons_succ]
        refine wpAnyH_yield 3 9 (.bool true) rfl rfl (by kernel_rfl) (by kernel_rfl) (by kernel_rfl) (fun _ _ _ h => h) (by kernel_rfl) (fun W hW => by go_simp) (by assumption) rfl rfl ?_
        simp only [Act.put, List.setIfInBounds_toArray, List.set_cons_zero, List.set_cons_succ]
        refine wpAnyH_yield 4 10 (.bool true) rfl rfl (by kernel_rfl) (by kernel_rfl) (by kernel_rfl) (fun _ _ _ h => h) (by kernel_rfl) (fun W hW => by kernel_rfl) (by assumption) rfl rfl ?_
        simp only [Act.put, List.setIfInBounds_toArray, List.set_cons_zero, List.set_cons_succ]
        refine wpAnyH_yield 5 11 (.slice (some ⟨b, off, none⟩) L cap) rfl rfl (by kernel_rfl) (by kernel_rfl) (by kernel_rfl) (fun _ _ _ h => h) (by kernel_rfl) (fun W hW => by kernel_rfl) (by assumption) rfl rfl ?_
        simp only [Act.put, List.setIfInBounds_toArray, List.set_cons_zero, List.set_cons_succ]
        refine wpAnyH_yield 6 12 (.int .i64 (k : Int)) rfl rfl (by kernel_rfl) (by kernel_rfl) (by kernel_rfl) (fun _ _ _ h => h) (by kernel_rfl) (fun W hW => by kernel_rfl) (by assumption) rfl rfl ?_
        simp only [Act.put, List.setIfInBounds_toArray, List.set_cons_zero, List.set_cons_succ]
        refine wpAnyH_yield 7 13 (.pointer (some ⟨b, off + k * 4, none⟩)) rfl rfl (by kernel_rfl) (by kernel_rfl) (by kernel_rfl) (fun _ _ _ h => h) (by kernel_rfl) (fun W hW => by go_simp) (by assumption) rfl rfl ?_
        simp only [Act.put, List.setIfInBounds_toArray, List.set_cons_zero, List.set_cons_succ]
        refine wpAnyH_yield 8 14 (tv x) rfl rfl (by kernel_rfl) (by kernel_rfl) (by kernel_rfl) (fun _ _ _ h => h) (by kernel_rfl) (fun W hW => by obtain ⟨c0, c1, c2, c3⟩ := CE.out W hW; go_simp) (by assumption) rfl rfl ?_
        simp only [Act.put, List.setIfInBounds_toArray, List.set_cons_zero, List.set_cons_succ]
        refine wpAnyH_yield 9 15 (tv t) rfl rfl (by kernel_rfl) (by kernel_rfl) (by kernel_rfl) (fun _ _ _ h => h) (by kernel_rfl) (fun W hW => by obtain ⟨⟨c0, c1, c2, c3⟩, -⟩ := cells4 (hW.at HA1.out); go_simp) (by assumption) rfl rfl ?_
        simp only [Act.put, List.setIfInBounds_toArray, List.set_cons_zero, List.set_cons_succ]
        refine wpAnyH_enter 10 16 17 #[tv x, tv t] rfl rfl (by kernel_rfl) (by kernel_rfl) (by kernel_rfl) ?_
        refine (rcompare_any _ _ _).mono ?_
        rintro e y ⟨rfl, hy⟩
        have ty : Calm V y := by rw [hy]; exact (hT0.alloc _).alloc _
        refine ⟨_, rfl, ty, ?_⟩
        simp only [Act.put, List.setIfInBounds_toArray, List.set_cons_zero, List.set_cons_succ]
        refine wpAnyH_yield 11 17 (.bool false) rfl rfl (by kernel_rfl) (by kernel_rfl) (by kernel_rfl) (fun _ _ _ h => h) (by kernel_rfl) (fun W hW => by go_simp) (by assumption) rfl rfl ?_
        simp only [Act.put, List.setIfInBounds_toArray, List.set_cons_zero, List.set_cons_succ]
        refine wpAnyH_yield 12 18 (.bool false) rfl rfl (by kernel_rfl) (by kernel_rfl) (by kernel_rfl) (fun _ _ _ h => h) (by kernel_rfl) (fun W hW => by kernel_rfl) (by assumption) rfl rfl ?_
        simp only [Act.put, List.setIfInBounds_toArray, List.set_cons_zero, List.set_cons_succ]
        refine wpAnyH_done (by kernel_rfl) ?_ _
        rw [onlyN_normal]
        have A9 := hide (ty.at HA1.out)
        have T9 := hide (T1.out.tr ty)
        clear hT0 hy ty
        go_wp2_with fail
        go_ret
        exact ⟨by rw [HRE.out]; rfl, T9.out⟩
    · have hki : ¬ (k : Int) < (L : Int) := by omega
      have HRE : Hid (leadT t l = k) := hide (leadT_eq HK.out (.inl (by have := HKL.out; have := HL.out; omega)))
      go_wp2_with fail
      refine wp_only ?_
      refine wp_region_held (S := Calm V) (by kernel_rfl) ?_
      have hT0 : Calm V { V with drawn := V.drawn + 1 } := (Touch.refl (fun _ => False) V).drew
      refine wpAnyH_yield 0 6 (.int .i64 (k : Int)) rfl rfl (by kernel_rfl) (by kernel_rfl) (by kernel_rfl) (fun _ _ _ h => h) (by kernel_rfl) (fun W hW => by kernel_rfl) (by assumption) rfl rfl ?_
      simp only [Act.put, List.setIfInBounds_toArray, List.set_cons_zero, List.set_cons_succ]
      refine wpAnyH_yield 1 7 (.slice ao L cap) rfl rfl (by kernel_rfl) (by kernel_rfl) (by kernel_rfl) (fun _ _ _ h => h) (by kernel_rfl) (fun W hW => by kernel_rfl) (by assumption) rfl rfl ?_
      simp only [Act.put, List.setIfInBounds_toArray, List.set_cons_zero, List.set_cons_succ]
      refine wpAnyH_yield 2 8 (.int .i64 (L : Int)) rfl rfl (by kernel_rfl) (by kernel_rfl) (by kernel_rfl) (fun _ _ _ h => h) (by kernel_rfl) (fun W hW => by kernel_rfl) (by assumption) rfl rfl ?_
      simp only [Act.put, List.setIfInBounds_toArray, List.set_cons_zero, List.set_cons_succ]
      refine wpAnyH_yield 3 9 (.bool false) rfl rfl (by kernel_rfl) (by kernel_rfl) (by kernel_rfl) (fun _ _ _ h => h) (by kernel_rfl) (fun W hW => by go_simp) (by assumption) rfl rfl ?_
      simp only [Act.put, List.setIfInBounds_toArray, List.set_cons_zero, List.set_cons_succ]
      refine wpAnyH_yield 4 10 (.bool false) rfl rfl (by kernel_rfl) (by kernel_rfl) (by kernel_rfl) (fun _ _ _ h => h) (by kernel_rfl) (fun W hW => by kernel_rfl) (by assumption) rfl rfl ?_
      simp only [Act.put, List.setIfInBounds_toArray, List.set_cons_zero, List.set_cons_succ]
      refine wpAnyH_skip 5 11 rfl rfl (by kernel_rfl) (by kernel_rfl) (by kernel_rfl) (fun _ _ _ h => h) (by kernel_rfl) (by assumption) rfl rfl ?_
      simp only [Act.put, List.setIfInBounds_toArray, List.set_cons_zero, List.set_cons_succ]
      refine wpAnyH_skip 6 12 rfl rfl (by kernel_rfl) (by kernel_rfl) (by kernel_rfl) (fun _ _ _ h => h) (by kernel_rfl) (by assumption) rfl rfl ?_
      simp only [Act.put, List.setIfInBounds_toArray, List.set_cons_zero, List.set_cons_succ]
      refine wpAnyH_skip 7 13 rfl rfl (by kernel_rfl) (by kernel_rfl) (by kernel_rfl) (fun _ _ _ h => h) (by kernel_rfl) (by assumption) rfl rfl ?_
      simp only [Act.put, List.setIfInBounds_toArray, List.set_cons_zero, List.set_cons_succ]
      refine wpAnyH_skip 8 14 rfl rfl (by kernel_rfl) (by kernel_rfl) (by kernel_rfl) (fun _ _ _ h => h) (by kernel_rfl) (by assumption) rfl rfl ?_
      simp only [Act.put, List.setIfInBounds_toArray, List.set_cons_zero, List.set_cons_succ]
      refine wpAnyH_skip 9 15 rfl rfl (by kernel_rfl) (by kernel_rfl) (by kernel_rfl) (fun _ _ _ h => h) (by kernel_rfl) (by assumption) rfl rfl ?_
      simp only [Act.put, List.setIfInBounds_toArray, List.set_cons_zero, List.set_cons_succ]
      refine wpAnyH_skip 10 16 rfl rfl (by kernel_rfl) (by kernel_rfl) (by kernel_rfl) (fun _ _ _ h => h) (by kernel_rfl) (by assumption) rfl rfl ?_
      simp only [Act.put, List.setIfInBounds_toArray, List.set_cons_zero, List.set_cons_succ]
      refine wpAnyH_skip 11 17 rfl rfl (by kernel_rfl) (by kernel_rfl) (by kernel_rfl) (fun _ _ _ h => h) (by kernel_rfl) (by assumption) rfl rfl ?_
      simp only [Act.put, List.setIfInBounds_toArray, List.set_cons_zero, List.set_cons_succ]
      refine wpAnyH_yield 12 18 (.bool false) rfl rfl (by kernel_rfl) (by kernel_rfl) (by kernel_rfl) (fun _ _ _ h => h) (by kernel_rfl) (fun W hW => by kernel_rfl) (by assumption) rfl rfl ?_
      simp only [Act.put, List.setIfInBounds_toArray, List.set_cons_zero, List.set_cons_succ]
      refine wpAnyH_done (by kernel_rfl) ?_ _
      rw [onlyN_normal]
      have T9 := hide (T1.out.tr hT0)
      clear hT0
      go_wp2_with fail
      go_ret
      exact ⟨by rw [HRE.out]; rfl, T9.out⟩

end Go.Proofs.Ytlnblhajcbmmkaa
