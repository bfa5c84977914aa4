/- The document's lists. The document's Has and Set. The document's Set. The document's Drop, Due and Same. The document's Due and Same. -/
import Derived.Test.YtlnblhajcbmmkaaTEq
namespace Go.Proofs.Ytlnblhajcbmmkaa
open Go.RowKit

/-- How many come ahead of t. -/
def leadT (t : Tm) (L : List Tm) : Nat := (L.takeWhile fun x => decide (cmpT x t < 0)).length

theorem leadT_le (t : Tm) (L : List Tm) : leadT t L ≤ L.length := (List.takeWhile_sublist _).length_le

theorem leadT_lt {t : Tm} : ∀ {L : List Tm} {k : Nat}, k < leadT t L → cmpT (nth L k) t < 0
  | [], k, h => by simp [leadT] at h
  | x :: L, k, h => by
    unfold leadT at h
    rw [List.takeWhile_cons] at h
    by_cases hx : cmpT x t < 0
    · simp only [hx, decide_true, if_true, List.length_cons] at h
      cases k with
      | zero => exact hx
      | succ k =>
        have := leadT_lt (t := t) (L := L) (k := k) (by unfold leadT; omega)
        simpa [nth] using this
    · simp [hx] at h

theorem leadT_at {t : Tm} : ∀ {L : List Tm}, leadT t L < L.length → ¬ cmpT (nth L (leadT t L)) t < 0
  | [], h => by simp at h
  | x :: L, h => by
    by_cases hx : cmpT x t < 0
    · have e : leadT t (x :: L) = leadT t L + 1 := by unfold leadT; rw [List.takeWhile_cons]; simp [hx]
      rw [e] at h ⊢
      have := leadT_at (t := t) (L := L) (by simpa using h)
      simpa [nth] using this
    · have e : leadT t (x :: L) = 0 := by unfold leadT; rw [List.takeWhile_cons]; simp [hx]
      rw [e]
      exact hx

/-- A place that is passed by all ahead of it and holds at none is leadT. -/
theorem leadT_eq {t : Tm} {L : List Tm} {k : Nat} (hk : k ≤ leadT t L) (hn : k = L.length ∨ ¬ cmpT (nth L k) t < 0) : leadT t L = k := by
  rcases Nat.lt_or_ge k (leadT t L) with h | h
  · rcases hn with hn | hn
    · have := leadT_le t L; omega
    · exact absurd (leadT_lt h) hn
  · omega

set_option maxRecDepth 100000 in
set_option maxHeartbeats 2000000 in
theorem place_any (ao : Option Addr) (cap : Nat) (l : List Tm) (t : Tm) (w : World) (h : Tms w ao l) (hb : l.length < 4611686018427387904) :
    Calls Try.prog 25 #[.slice ao l.length cap, tv t] w fun e w' => e = .returned (.int .i64 (leadT t l : Int)) ∧ Calm w w' := by
  have H := hide h
  have HB := hide hb
  clear h hb
  obtain ⟨L, hL⟩ : ∃ L, l.length = L := ⟨_, rfl⟩
  have HL := hide hL
  rw [hL]
  clear hL
  go_enter Try.func25, Try.ntmps25
  go_wp2_with fail
  have HA := hide (heap_alloc_last w (.cells (tc t) 35))
  have TA : Hid (Calm w (w.alloc (.cells (tc t) 35))) := hide ((Touch.refl _ _).alloc _)
  generalize w.heap.size = A at *
  go_loopw [5] (fun v wr => ∃ k : Nat, v = .int .i64 (k : Int) ∧ k ≤ leadT t l ∧ wr.heap[A]? = some (.cells (tc t) 35 (0, 0)) ∧ Calm w wr) (fun v _ => L - (intOf v).toNat)
  case atStart => exact ⟨0, rfl, Nat.zero_le _, HA.out, TA.out⟩
  case round =>
    clear HA TA
    obtain ⟨k, rfl, hk, ha, tr⟩ := hrel
    have HK := hide hk
    have HA1 := hide ha
    have T1 := hide tr
    have HKL : Hid (k ≤ L) := hide (by have := leadT_le t l; have := HL.out; omega)
    rename World => V
    clear hk ha tr
    by_cases hlt : k < L
    · obtain ⟨b, off, e, c0, c1, c2, c3⟩ := (H.out.calm T1.out) k (by rw [HL.out]; exact hlt)
      subst e
      have enk : l[k]'(by rw [HL.out]; exact hlt) = nth l k := (nth_eq _).symm
      rw [enk] at c0 c1 c2 c3
      have hki : (k : Int) < (L : Int) := by omega
      have hkw : wrap64 ((k : Int) + 1) = ((k + 1 : Nat) : Int) := by have := HB.out; have := HL.out; unfold wrap64; omega
      generalize hx : nth l k = x at *
      have HX := hide hx
      have CE : Hid (∀ W, Calm V W → W.cell? ⟨b, off + k * 4, none⟩ = some (.int .i64 x.at_) ∧ W.cell? ⟨b, off + k * 4 + 1, none⟩ = some (.string x.key) ∧ W.cell? ⟨b, off + k * 4 + 2, none⟩ = some (.int .i64 x.start) ∧ W.cell? ⟨b, off + k * 4 + 3, none⟩ = some (.int .i64 x.stop)) := hide (fun W hW => by
        have g : ∀ {o : Nat} {v : Value}, V.cell? ⟨b, o, none⟩ = some v → W.cell? ⟨b, o, none⟩ = some v := fun {o v} h => (hW.cell (p := ⟨b, o, none⟩) (lt_of_cell h) (fun h => h)).trans h
        exact ⟨g c0, g c1, g c2, g c3⟩)
      clear c0 c1 c2 c3 enk hx
      go_wp2_with fail
      by_cases hcp : cmpT x t < 0
      · have HCP : Hid (k + 1 ≤ leadT t l) := hide (by
          rcases Nat.lt_or_ge k (leadT t l) with h | h
          · omega
          · exfalso
            have e : leadT t l = k := by have := HK.out; omega
            exact leadT_at (L := l) (t := t) (by rw [e, HL.out]; exact hlt) (by rw [e, HX.out]; exact hcp))
        refine wp_only ?_
        refine wp_region_held (S := Calm V) (by kernel_rfl) ?_
        have hT0 : Calm V { V with drawn := V.drawn + 1 } := (Touch.refl (fun _ => False) V).drew
        refine wpAnyH_yield 0 6 (.int .i64 (k : Int)) rfl rfl (by kernel_rfl) (by kernel_rfl) (by kernel_rfl) (fun _ _ _ h => h) (by kernel_rfl) (fun W hW => by kernel_rfl) (by assumption) rfl rfl ?_
        simp only [Act.put, List.setIfInBounds_toArray, List.set_cons_zero, List.set_cons_succ]
        refine wpAnyH_yield 1 7 (.slice (some ⟨b, off, none⟩) L cap) rfl rfl (by kernel_rfl) (by kernel_rfl) (by kernel_rfl) (fun _ _ _ h => h) (by kernel_rfl) (fun W hW => by kernel_rfl) (by assumption) rfl rfl ?_
        simp only [Act.put, List.setIfInBounds_toArray, List.set_cons_zero, List.set_cons_succ]
        refine wpAnyH_yield 2 8 (.int .i64 (L : Int)) rfl rfl (by kernel_rfl) (by kernel_rfl) (by kernel_rfl) (fun _ _ _ h => h) (by kernel_rfl) (fun W hW => by kernel_rfl) (by assumption) rfl rfl ?_
        simp only [Act.put, List.setIfInBounds_toArray, List.set_cons_zero, List.set_cons_succ]
        refine wpAnyH_yield 3 9 (.bool true) rfl rfl (by kernel_rfl) (by kernel_rfl) (by kernel_rfl) (fun _ _ _ h => h) (by kernel_rfl) (fun W hW => by go_simp) (by assumption) rfl rfl ?_
        simp only [Act.put, List.setIfInBounds_toArray, List.set_cons_zero, List.set_cons_succ]
        refine wpAnyH_yield 4 10 (.bool true) rfl rfl (by kernel_rfl) (by kernel_rfl) (by kernel_rfl) (fun _ _ _ h => h) (by kernel_rfl) (fun W hW => by kernel_rfl) (by assumption) rfl rfl ?_
        simp only [Act.put, List.setIfInBounds_toArray, List.set_cons_zero, List.set_cons_succ]
        refine wpAnyH_yield 5 11 (.slice (some ⟨b, off, none⟩) L cap) rfl rfl (by kernel_rfl) (by kernel_rfl) (by kernel_rfl) (fun _ _ _ h => h) (by kernel_rfl) (fun W hW => by kernel_rfl) (by assumption) rfl rfl ?_
        simp only [Act.put, List.setIfInBounds_toArray, List.set_cons_zero, List.set_cons_succ]
        refine wpAnyH_yield 6 12 (.int .i64 (k : Int)) rfl rfl (by kernel_rfl) (by kernel_rfl) (by kernel_rfl) (fun _ _ _ h => h) (by kernel_rfl) (fun W hW => by kernel_rfl) (by assumption) rfl rfl ?_
        simp only [Act.put, List.setIfInBounds_toArray, List.set_cons_zero, List.set_cons_succ]
        refine wpAnyH_yield 7 13 (.pointer (some ⟨b, off + k * 4, none⟩)) rfl rfl (by kernel_rfl) (by kernel_rfl) (by kernel_rfl) (fun _ _ _ h => h) (by kernel_rfl) (fun W hW => by go_simp) (by assumption) rfl rfl ?_
        simp only [Act.put, List.setIfInBounds_toArray, List.set_cons_zero, List.set_cons_succ]
        refine wpAnyH_yield 8 14 (tv x) rfl rfl (by kernel_rfl) (by kernel_rfl) (by kernel_rfl) (fun _ _ _ h => h) (by kernel_rfl) (fun W hW => by obtain ⟨c0, c1, c2, c3⟩ := CE.out W hW; go_simp) (by assumption) rfl rfl ?_
        simp only [Act.put, List.setIfInBounds_toArray, List.set_cons_zero, List.set_cons_succ]
        refine wpAnyH_yield 9 15 (tv t) rfl rfl (by kernel_rfl) (by kernel_rfl) (by kernel_rfl) (fun _ _ _ h => h) (by kernel_rfl) (fun W hW => by obtain ⟨⟨c0, c1, c2, c3⟩, -⟩ := cells4 (hW.at HA1.out); go_simp) (by assumption) rfl rfl ?_
        simp only [Act.put, List.setIfInBounds_toArray, List.set_cons_zero, List.set_cons_succ]
        refine wpAnyH_enter 10 16 17 #[tv x, tv t] rfl rfl (by kernel_rfl) (by kernel_rfl) (by kernel_rfl) ?_
        refine (rcompare_any _ _ _).mono ?_
        rintro e y ⟨rfl, hy⟩
        have ty : Calm V y := by rw [hy]; exact (hT0.alloc _).alloc _
        refine ⟨_, rfl, ty, ?_⟩
        simp only [Act.put, List.setIfInBounds_toArray, List.set_cons_zero, List.set_cons_succ]
        refine wpAnyH_yield 11 17 (.bool true) rfl rfl (by kernel_rfl) (by kernel_rfl) (by kernel_rfl) (fun _ _ _ h => h) (by kernel_rfl) (fun W hW => by go_simp) (by assumption) rfl rfl ?_
        simp only [Act.put, List.setIfInBounds_toArray, List.set_cons_zero, List.set_cons_succ]
        refine wpAnyH_yield 12 18 (.bool true) rfl rfl (by kernel_rfl) (by kernel_rfl) (by kernel_rfl) (fun _ _ _ h => h) (by kernel_rfl) (fun W hW => by kernel_rfl) (by assumption) rfl rfl ?_
        simp only [Act.put, List.setIfInBounds_toArray, List.set_cons_zero, List.set_cons_succ]
        refine wpAnyH_done (by kernel_rfl) ?_ _
        rw [onlyN_normal]
        have A9 := hide (ty.at HA1.out)
        have T9 := hide (T1.out.tr ty)
        clear hT0 hy ty
        go_wp2_with fail
        go_roundw
        case rel => exact ⟨k + 1, by rw [hkw], HCP.out, A9.out, T9.out⟩
        case measure => rw [hkw]; simp [intOf]; omega
      · have HRE : Hid (leadT t l = k) := hide (leadT_eq HK.out (.inr (by rw [HX.out]; exact hcp)))
        refine wp_only ?_
        refine wp_region_held (S := Calm V) (by kernel_rfl) ?_
        have hT0 : Calm V { V with drawn := V.drawn + 1 } := (Touch.refl (fun _ => False) V).drew
        refine wpAnyH_yield 0 6 (.int .i64 (k : Int)) rfl rfl (by kernel_rfl) (by kernel_rfl) (by kernel_rfl) (fun _ _ _ h => h) (by kernel_rfl) (fun W hW => by kernel_rfl) (by assumption) rfl rfl ?_
        simp only [Act.put, List.setIfInBounds_toArray, List.set_cons_zero, List.set_cons_succ]
        refine wpAnyH_yield 1 7 (.slice (some ⟨b, off, none⟩) L cap) rfl rfl (by kernel_rfl) (by kernel_rfl) (by kernel_rfl) (fun _ _ _ h => h) (by kernel_rfl) (fun W hW => by kernel_rfl) (by assumption) rfl rfl ?_
        simp only [Act.put, List.setIfInBounds_toArray, List.set_cons_zero, List.set_cons_succ]
        refine wpAnyH_yield 2 8 (.int .i64 (L : Int)) rfl rfl (by kernel_rfl) (by kernel_rfl) (by kernel_rfl) (fun _ _ _ h => h) (by kernel_rfl) (fun W hW => by kernel_rfl) (by assumption) rfl rfl ?_
        simp only [Act.put, List.setIfInBounds_toArray, List.set_cons_zero, List.set_cons_succ]
        refine wpAnyH_yield 3 9 (.bool true) rfl rfl (by kernel_rfl) (by kernel_rfl) (by kernel_rfl) (fun _ _ _ h => h) (by kernel_rfl) (fun W hW => by go_simp) (by assumption) rfl rfl ?_
        simp only [Act.put, List.setIfInBounds_toArray, List.set_cons_zero, List.set_cons_succ]
        refine wpAnyH_yield 4 10 (.bool true) rfl rfl (by kernel_rfl) (by kernel_rfl) (by kernel_rfl) (fun _ _ _ h => h) (by kernel_rfl) (fun W hW => by kernel_rfl) (by assumption) rfl rfl ?_
        simp only [Act.put, List.setIfInBounds_toArray, List.set_cons_zero, List.set_cons_succ]
        refine wpAnyH_yield 5 11 (.slice (some ⟨b, off, none⟩) L cap) rfl rfl (by kernel_rfl) (by kernel_rfl) (by kernel_rfl) (fun _ _ _ h => h) (by kernel_rfl) (fun W hW => by kernel_rfl) (by assumption) rfl rfl ?_
        simp only [Act.put, List.setIfInBounds_toArray, List.set_cons_zero, List.set_cons_succ]
        refine wpAnyH_yield 6 12 (.int .i64 (k : Int)) rfl rfl (by kernel_rfl) (by kernel_rfl) (by kernel_rfl) (fun _ _ _ h => h) (by kernel_rfl) (fun W hW => by kernel_rfl) (by assumption) rfl rfl ?_
        simp only [Act.put, List.setIfInBounds_toArray, List.set_cons_zero, List.set_cons_succ]
        refine wpAnyH_yield 7 13 (.pointer (some ⟨b, off + k * 4, none⟩)) rfl rfl (by kernel_rfl) (by kernel_rfl) (by kernel_rfl) (fun _ _ _ h => h) (by kernel_rfl) (fun W hW => by go_simp) (by assumption) rfl rfl ?_
        simp only [Act.put, List.setIfInBounds_toArray, List.set_cons_zero, List.set_cons_succ]
        refine wpAnyH_yield 8 14 (tv x) rfl rfl (by kernel_rfl) (by kernel_rfl) (by kernel_rfl) (fun _ _ _ h => h) (by kernel_rfl) (fun W hW => by obtain ⟨c0, c1, c2, c3⟩ := CE.out W hW; go_simp) (by assumption) rfl rfl ?_
        simp only [Act.put, List.setIfInBounds_toArray, List.set_cons_zero, List.set_cons_succ]
        refine wpAnyH_yield 9 15 (tv t) rfl rfl (by kernel_rfl) (by kernel_rfl) (by kernel_rfl) (fun _ _ _ h => h) (by kernel_rfl) (fun W hW => by obtain ⟨⟨c0, c1, c2, c3⟩, -⟩ := cells4 (hW.at HA1.out); go_simp) (by assumption) rfl rfl ?_
        simp only [Act.put, List.setIfInBounds_toArray, List.set_cons_zero, List.set_cons_succ]
        refine wpAnyH_enter 10 16 17 #[tv x, tv t] rfl rfl (by kernel_rfl) (by kernel_rfl) (by kernel_rfl) ?_
        refine (rcompare_any _ _ _).mono ?_
        rintro e y ⟨rfl, hy⟩
        have ty : Calm V y := by rw [hy]; exact (hT0.alloc _).alloc _
        refine ⟨_, rfl, ty, ?_⟩
        simp only [Act.put, List.setIfInBounds_toArray, List.set_cons_zero, List.set_cons_succ]
        refine wpAnyH_yield 11 17 (.bool false) rfl rfl (by kernel_rfl) (by kernel_rfl) (by kernel_rfl) (fun _ _ _ h => h) (by kernel_rfl) (fun W hW => by go_simp) (by assumption) rfl rfl ?_
        simp only [Act.put, List.setIfInBounds_toArray, List.set_cons_zero, List.set_cons_succ]
        refine wpAnyH_yield 12 18 (.bool false) rfl rfl (by kernel_rfl) (by kernel_rfl) (by kernel_rfl) (fun _ _ _ h => h) (by kernel_rfl) (fun W hW => by kernel_rfl) (by assumption) rfl rfl ?_
        simp only [Act.put, List.setIfInBounds_toArray, List.set_cons_zero, List.set_cons_succ]
        refine wpAnyH_done (by kernel_rfl) ?_ _
        rw [onlyN_normal]
        have A9 := hide (ty.at HA1.out)
        have T9 := hide (T1.out.tr ty)
        clear hT0 hy ty
        go_wp2_with fail
        go_ret
        exact ⟨by rw [HRE.out]; rfl, T9.out⟩
    · have hki : ¬ (k : Int) < (L : Int) := by omega
      have HRE : Hid (leadT t l = k) := hide (leadT_eq HK.out (.inl (by have := HKL.out; have := HL.out; omega)))
      go_wp2_with fail
      refine wp_only ?_
      refine wp_region_held (S := Calm V) (by kernel_rfl) ?_
      have hT0 : Calm V { V with drawn := V.drawn + 1 } := (Touch.refl (fun _ => False) V).drew
      refine wpAnyH_yield 0 6 (.int .i64 (k : Int)) rfl rfl (by kernel_rfl) (by kernel_rfl) (by kernel_rfl) (fun _ _ _ h => h) (by kernel_rfl) (fun W hW => by kernel_rfl) (by assumption) rfl rfl ?_
      simp only [Act.put, List.setIfInBounds_toArray, List.set_cons_zero, List.set_cons_succ]
      refine wpAnyH_yield 1 7 (.slice ao L cap) rfl rfl (by kernel_rfl) (by kernel_rfl) (by kernel_rfl) (fun _ _ _ h => h) (by kernel_rfl) (fun W hW => by kernel_rfl) (by assumption) rfl rfl ?_
      simp only [Act.put, List.setIfInBounds_toArray, List.set_cons_zero, List.set_cons_succ]
      refine wpAnyH_yield 2 8 (.int .i64 (L : Int)) rfl rfl (by kernel_rfl) (by kernel_rfl) (by kernel_rfl) (fun _ _ _ h => h) (by kernel_rfl) (fun W hW => by kernel_rfl) (by assumption) rfl rfl ?_
      simp only [Act.put, List.setIfInBounds_toArray, List.set_cons_zero, List.set_cons_succ]
      refine wpAnyH_yield 3 9 (.bool false) rfl rfl (by kernel_rfl) (by kernel_rfl) (by kernel_rfl) (fun _ _ _ h => h) (by kernel_rfl) (fun W hW => by go_simp) (by assumption) rfl rfl ?_
      simp only [Act.put, List.setIfInBounds_toArray, List.set_cons_zero, List.set_cons_succ]
      refine wpAnyH_yield 4 10 (.bool false) rfl rfl (by kernel_rfl) (by kernel_rfl) (by kernel_rfl) (fun _ _ _ h => h) (by kernel_rfl) (fun W hW => by kernel_rfl) (by assumption) rfl rfl ?_
      simp only [Act.put, List.setIfInBounds_toArray, List.set_cons_zero, List.set_cons_succ]
      refine wpAnyH_skip 5 11 rfl rfl (by kernel_rfl) (by kernel_rfl) (by kernel_rfl) (fun _ _ _ h => h) (by kernel_rfl) (by assumption) rfl rfl ?_
      simp only [Act.put, List.setIfInBounds_toArray, List.set_cons_zero, List.set_cons_succ]
      refine wpAnyH_skip 6 12 rfl rfl (by kernel_rfl) (by kernel_rfl) (by kernel_rfl) (fun _ _ _ h => h) (by kernel_rfl) (by assumption) rfl rfl ?_
      simp only [Act.put, List.setIfInBounds_toArray, List.set_cons_zero, List.set_cons_succ]
      refine wpAnyH_skip 7 13 rfl rfl (by kernel_rfl) (by kernel_rfl) (by kernel_rfl) (fun _ _ _ h => h) (by kernel_rfl) (by assumption) rfl rfl ?_
      simp only [Act.put, List.setIfInBounds_toArray, List.set_cons_zero, List.set_cons_succ]
      refine wpAnyH_skip 8 14 rfl rfl (by kernel_rfl) (by kernel_rfl) (by kernel_rfl) (fun _ _ _ h => h) (by kernel_rfl) (by assumption) rfl rfl ?_
      simp only [Act.put, List.setIfInBounds_toArray, List.set_cons_zero, List.set_cons_succ]
      refine wpAnyH_skip 9 15 rfl rfl (by kernel_rfl) (by kernel_rfl) (by kernel_rfl) (fun _ _ _ h => h) (by kernel_rfl) (by assumption) rfl rfl ?_
      simp only [Act.put, List.setIfInBounds_toArray, List.set_cons_zero, List.set_cons_succ]
      refine wpAnyH_skip 10 16 rfl rfl (by kernel_rfl) (by kernel_rfl) (by kernel_rfl) (fun _ _ _ h => h) (by kernel_rfl) (by assumption) rfl rfl ?_
      simp only [Act.put, List.setIfInBounds_toArray, List.set_cons_zero, List.set_cons_succ]
      refine wpAnyH_skip 11 17 rfl rfl (by kernel_rfl) (by kernel_rfl) (by kernel_rfl) (fun _ _ _ h => h) (by kernel_rfl) (by assumption) rfl rfl ?_
      simp only [Act.put, List.setIfInBounds_toArray, List.set_cons_zero, List.set_cons_succ]
      refine wpAnyH_yield 12 18 (.bool false) rfl rfl (by kernel_rfl) (by kernel_rfl) (by kernel_rfl) (fun _ _ _ h => h) (by kernel_rfl) (fun W hW => by kernel_rfl) (by assumption) rfl rfl ?_
      simp only [Act.put, List.setIfInBounds_toArray, List.set_cons_zero, List.set_cons_succ]
      refine wpAnyH_done (by kernel_rfl) ?_ _
      rw [onlyN_normal]
      have T9 := hide (T1.out.tr hT0)
      clear hT0
      go_wp2_with fail
      go_ret
      exact ⟨by rw [HRE.out]; rfl, T9.out⟩

end Go.Proofs.Ytlnblhajcbmmkaa

namespace Go.Proofs.Ytlnblhajcbmmkaa
open Go.RowKit

/-- What rises. -/
abbrev Srt (L : List Tm) : Prop := L.Pairwise fun a b => cmpT a b < 0

theorem Srt.lt {L : List Tm} (h : Srt L) {i j : Nat} (hij : i < j) (hj : j < L.length) : cmpT (nth L i) (nth L j) < 0 := by
  rw [nth_eq (by omega), nth_eq hj]
  exact List.pairwise_iff_getElem.1 h i j (by omega) hj hij

theorem Srt.nodup {L : List Tm} (h : Srt L) : L.Nodup := List.Pairwise.imp (fun {a b} hab e => by rw [e, cmpT_eq.2 rfl] at hab; omega) h

/-- Where t is there it is at leadT. -/
theorem Srt.lead {L : List Tm} (h : Srt L) {t : Tm} (ht : t ∈ L) : leadT t L < L.length ∧ nth L (leadT t L) = t := by
  obtain ⟨i, hi, e⟩ := mem_nth.1 ht
  have : leadT t L = i := by
    refine leadT_eq (Nat.le_of_not_lt fun hlt => ?_) (.inr ?_)
    · have h1 := leadT_at (t := t) (L := L) (by omega)
      have h2 := h.lt hlt hi
      rw [e] at h2
      exact h1 h2
    · rw [e, cmpT_eq.2 rfl]; omega
  rw [this]
  exact ⟨hi, e⟩

theorem Srt.has {L : List Tm} (h : Srt L) (t : Tm) : (decide (leadT t L < L.length) && decide (nth L (leadT t L) = t)) = decide (t ∈ L) := by
  by_cases ht : t ∈ L
  · obtain ⟨h1, h2⟩ := h.lead ht
    simp [ht, h1, h2]
  · by_cases h1 : leadT t L < L.length
    · have h2 : ¬ nth L (leadT t L) = t := fun e => ht (e ▸ mem_nth.2 ⟨_, h1, rfl⟩)
      simp [ht, h2]
    · simp [ht, h1]

set_option maxRecDepth 100000 in
set_option maxHeartbeats 2000000 in
theorem rhas_any (ao : Option Addr) (cap : Nat) (l : List Tm) (t : Tm) (w : World) (h : Tms w ao l) (hs : Srt l) (hb : l.length < 4611686018427387904) :
    Calls Try.prog 24 #[.slice ao l.length cap, tv t] w fun e w' => e = .returned (.bool (decide (t ∈ l))) ∧ Calm w w' := by
  have tA : Calm w (w.alloc (.cells (tc t) 35)) := (Touch.refl _ _).alloc _
  have PL := hide (place_any ao cap l t _ (h.calm tA) hb)
  have H := hide h
  have HH := hide (hs.has t)
  have TA := hide tA
  have HA := hide (heap_alloc_last w (.cells (tc t) 35))
  obtain ⟨⟨c0, c1, c2, c3⟩, -⟩ := cells4 HA.out
  clear h hs hb tA
  obtain ⟨L, hL⟩ : ∃ L, l.length = L := ⟨_, rfl⟩
  have HL := hide hL
  rw [hL] at PL HH ⊢
  clear hL
  generalize decide (t ∈ l) = res at *
  generalize hk : leadT t l = k at *
  clear hk
  go_enter Try.func24, Try.ntmps24
  go_wp2_with fail
  refine PL.out.mono ?_
  rintro e V ⟨rfl, t1⟩
  have HA1 := hide (t1.at HA.out)
  have T1 := hide (TA.out.tr t1)
  clear t1 c0 c1 c2 c3 HA
  go_wp2_with fail
  generalize w.heap.size = A at *
  by_cases hlt : k < L
  · obtain ⟨b, off, e, c0, c1, c2, c3⟩ := (H.out.calm T1.out) k (by rw [HL.out]; exact hlt)
    subst e
    have enk : l[k]'(by rw [HL.out]; exact hlt) = nth l k := (nth_eq _).symm
    rw [enk] at c0 c1 c2 c3
    have hki : (k : Int) < (L : Int) := by omega
    have HRE : Hid (decide (nth l k = t) = res) := hide (by have := HH.out; simpa [hlt] using this)
    generalize nth l k = x at *
    have CE : Hid (∀ W, Calm V W → W.cell? ⟨b, off + k * 4, none⟩ = some (.int .i64 x.at_) ∧ W.cell? ⟨b, off + k * 4 + 1, none⟩ = some (.string x.key) ∧ W.cell? ⟨b, off + k * 4 + 2, none⟩ = some (.int .i64 x.start) ∧ W.cell? ⟨b, off + k * 4 + 3, none⟩ = some (.int .i64 x.stop)) := hide (fun W hW => by
      have g : ∀ {o : Nat} {v : Value}, V.cell? ⟨b, o, none⟩ = some v → W.cell? ⟨b, o, none⟩ = some v := fun {o v} h => (hW.cell (p := ⟨b, o, none⟩) (lt_of_cell h) (fun h => h)).trans h
      exact ⟨g c0, g c1, g c2, g c3⟩)
    clear c0 c1 c2 c3 enk
    refine wp_only ?_
    refine wp_region_held (S := Calm V) (by kernel_rfl) ?_
    have hT0 : Calm V { V with drawn := V.drawn + 1 } := (Touch.refl (fun _ => False) V).drew
    refine wpAnyH_yield 0 9 (.int .i64 (k : Int)) rfl rfl (by kernel_rfl) (by kernel_rfl) (by kernel_rfl) (fun _ _ _ h => h) (by kernel_rfl) (fun W hW => by kernel_rfl) (by assumption) rfl rfl ?_
    simp only [Act.put, List.setIfInBounds_toArray, List.set_cons_zero, List.set_cons_succ]
    refine wpAnyH_yield 1 10 (.slice (some ⟨b, off, none⟩) L cap) rfl rfl (by kernel_rfl) (by kernel_rfl) (by kernel_rfl) (fun _ _ _ h => h) (by kernel_rfl) (fun W hW => by kernel_rfl) (by assumption) rfl rfl ?_
    simp only [Act.put, List.setIfInBounds_toArray, List.set_cons_zero, List.set_cons_succ]
    refine wpAnyH_yield 2 11 (.int .i64 (L : Int)) rfl rfl (by kernel_rfl) (by kernel_rfl) (by kernel_rfl) (fun _ _ _ h => h) (by kernel_rfl) (fun W hW => by kernel_rfl) (by assumption) rfl rfl ?_
    simp only [Act.put, List.setIfInBounds_toArray, List.set_cons_zero, List.set_cons_succ]
    refine wpAnyH_yield 3 12 (.bool true) rfl rfl (by kernel_rfl) (by kernel_rfl) (by kernel_rfl) (fun _ _ _ h => h) (by kernel_rfl) (fun W hW => by go_simp) (by assumption) rfl rfl ?_
    simp only [Act.put, List.setIfInBounds_toArray, List.set_cons_zero, List.set_cons_succ]
    refine wpAnyH_yield 4 13 (.bool true) rfl rfl (by kernel_rfl) (by kernel_rfl) (by kernel_rfl) (fun _ _ _ h => h) (by kernel_rfl) (fun W hW => by kernel_rfl) (by assumption) rfl rfl ?_
    simp only [Act.put, List.setIfInBounds_toArray, List.set_cons_zero, List.set_cons_succ]
    refine wpAnyH_yield 5 14 (.slice (some ⟨b, off, none⟩) L cap) rfl rfl (by kernel_rfl) (by kernel_rfl) (by kernel_rfl) (fun _ _ _ h => h) (by kernel_rfl) (fun W hW => by kernel_rfl) (by assumption) rfl rfl ?_
    simp only [Act.put, List.setIfInBounds_toArray, List.set_cons_zero, List.set_cons_succ]
    refine wpAnyH_yield 6 15 (.int .i64 (k : Int)) rfl rfl (by kernel_rfl) (by kernel_rfl) (by kernel_rfl) (fun _ _ _ h => h) (by kernel_rfl) (fun W hW => by kernel_rfl) (by assumption) rfl rfl ?_
    simp only [Act.put, List.setIfInBounds_toArray, List.set_cons_zero, List.set_cons_succ]
    refine wpAnyH_yield 7 16 (.pointer (some ⟨b, off + k * 4, none⟩)) rfl rfl (by kernel_rfl) (by kernel_rfl) (by kernel_rfl) (fun _ _ _ h => h) (by kernel_rfl) (fun W hW => by go_simp) (by assumption) rfl rfl ?_
    simp only [Act.put, List.setIfInBounds_toArray, List.set_cons_zero, List.set_cons_succ]
    refine wpAnyH_yield 8 17 (tv x) rfl rfl (by kernel_rfl) (by kernel_rfl) (by kernel_rfl) (fun _ _ _ h => h) (by kernel_rfl) (fun W hW => by obtain ⟨c0, c1, c2, c3⟩ := CE.out W hW; go_simp) (by assumption) rfl rfl ?_
    simp only [Act.put, List.setIfInBounds_toArray, List.set_cons_zero, List.set_cons_succ]
    refine wpAnyH_yield 9 18 (tv t) rfl rfl (by kernel_rfl) (by kernel_rfl) (by kernel_rfl) (fun _ _ _ h => h) (by kernel_rfl) (fun W hW => by obtain ⟨⟨c0, c1, c2, c3⟩, -⟩ := cells4 (hW.at HA1.out); go_simp) (by assumption) rfl rfl ?_
    simp only [Act.put, List.setIfInBounds_toArray, List.set_cons_zero, List.set_cons_succ]
    refine wpAnyH_yield 10 19 (.bool res) rfl rfl (by kernel_rfl) (by kernel_rfl) (by kernel_rfl) (fun _ _ _ h => h) (by kernel_rfl) (fun W hW => exec_bin rfl (by kernel_rfl) (by have he := eql_tm x t W; rw [HRE.out] at he; exact he)) (by assumption) rfl rfl ?_
    simp only [Act.put, List.setIfInBounds_toArray, List.set_cons_zero, List.set_cons_succ]
    refine wpAnyH_yield 11 20 (.bool res) rfl rfl (by kernel_rfl) (by kernel_rfl) (by kernel_rfl) (fun _ _ _ h => h) (by kernel_rfl) (fun W hW => by kernel_rfl) (by assumption) rfl rfl ?_
    simp only [Act.put, List.setIfInBounds_toArray, List.set_cons_zero, List.set_cons_succ]
    refine wpAnyH_yield 12 4 (.bool res) rfl rfl (by kernel_rfl) (by kernel_rfl) (by kernel_rfl) (fun _ _ _ h => h) (by kernel_rfl) (fun W hW => by kernel_rfl) (by assumption) rfl rfl ?_
    simp only [Act.put, List.setIfInBounds_toArray, List.set_cons_zero, List.set_cons_succ]
    refine wpAnyH_done (by kernel_rfl) ?_ _
    rw [onlyN_normal]
    have T9 := hide (T1.out.tr hT0)
    clear hT0
    go_wp2_with fail
    go_ret
    exact ⟨rfl, T9.out⟩
  · have hki : ¬ (k : Int) < (L : Int) := by omega
    have HRE : Hid (res = false) := hide (by have := HH.out; simp [hlt] at this; exact this)
    refine wp_only ?_
    refine wp_region_held (S := Calm V) (by kernel_rfl) ?_
    have hT0 : Calm V { V with drawn := V.drawn + 1 } := (Touch.refl (fun _ => False) V).drew
    refine wpAnyH_yield 0 9 (.int .i64 (k : Int)) rfl rfl (by kernel_rfl) (by kernel_rfl) (by kernel_rfl) (fun _ _ _ h => h) (by kernel_rfl) (fun W hW => by kernel_rfl) (by assumption) rfl rfl ?_
    simp only [Act.put, List.setIfInBounds_toArray, List.set_cons_zero, List.set_cons_succ]
    refine wpAnyH_yield 1 10 (.slice ao L cap) rfl rfl (by kernel_rfl) (by kernel_rfl) (by kernel_rfl) (fun _ _ _ h => h) (by kernel_rfl) (fun W hW => by kernel_rfl) (by assumption) rfl rfl ?_
    simp only [Act.put, List.setIfInBounds_toArray, List.set_cons_zero, List.set_cons_succ]
    refine wpAnyH_yield 2 11 (.int .i64 (L : Int)) rfl rfl (by kernel_rfl) (by kernel_rfl) (by kernel_rfl) (fun _ _ _ h => h) (by kernel_rfl) (fun W hW => by kernel_rfl) (by assumption) rfl rfl ?_
    simp only [Act.put, List.setIfInBounds_toArray, List.set_cons_zero, List.set_cons_succ]
    refine wpAnyH_yield 3 12 (.bool false) rfl rfl (by kernel_rfl) (by kernel_rfl) (by kernel_rfl) (fun _ _ _ h => h) (by kernel_rfl) (fun W hW => by go_simp) (by assumption) rfl rfl ?_
    simp only [Act.put, List.setIfInBounds_toArray, List.set_cons_zero, List.set_cons_succ]
    refine wpAnyH_yield 4 13 (.bool false) rfl rfl (by kernel_rfl) (by kernel_rfl) (by kernel_rfl) (fun _ _ _ h => h) (by kernel_rfl) (fun W hW => by kernel_rfl) (by assumption) rfl rfl ?_
    simp only [Act.put, List.setIfInBounds_toArray, List.set_cons_zero, List.set_cons_succ]
    refine wpAnyH_skip 5 14 rfl rfl (by kernel_rfl) (by kernel_rfl) (by kernel_rfl) (fun _ _ _ h => h) (by kernel_rfl) (by assumption) rfl rfl ?_
    simp only [Act.put, List.setIfInBounds_toArray, List.set_cons_zero, List.set_cons_succ]
    refine wpAnyH_skip 6 15 rfl rfl (by kernel_rfl) (by kernel_rfl) (by kernel_rfl) (fun _ _ _ h => h) (by kernel_rfl) (by assumption) rfl rfl ?_
    simp only [Act.put, List.setIfInBounds_toArray, List.set_cons_zero, List.set_cons_succ]
    refine wpAnyH_skip 7 16 rfl rfl (by kernel_rfl) (by kernel_rfl) (by kernel_rfl) (fun _ _ _ h => h) (by kernel_rfl) (by assumption) rfl rfl ?_
    simp only [Act.put, List.setIfInBounds_toArray, List.set_cons_zero, List.set_cons_succ]
    refine wpAnyH_skip 8 17 rfl rfl (by kernel_rfl) (by kernel_rfl) (by kernel_rfl) (fun _ _ _ h => h) (by kernel_rfl) (by assumption) rfl rfl ?_
    simp only [Act.put, List.setIfInBounds_toArray, List.set_cons_zero, List.set_cons_succ]
    refine wpAnyH_skip 9 18 rfl rfl (by kernel_rfl) (by kernel_rfl) (by kernel_rfl) (fun _ _ _ h => h) (by kernel_rfl) (by assumption) rfl rfl ?_
    simp only [Act.put, List.setIfInBounds_toArray, List.set_cons_zero, List.set_cons_succ]
    refine wpAnyH_skip 10 19 rfl rfl (by kernel_rfl) (by kernel_rfl) (by kernel_rfl) (fun _ _ _ h => h) (by kernel_rfl) (by assumption) rfl rfl ?_
    simp only [Act.put, List.setIfInBounds_toArray, List.set_cons_zero, List.set_cons_succ]
    refine wpAnyH_yield 11 20 (.bool false) rfl rfl (by kernel_rfl) (by kernel_rfl) (by kernel_rfl) (fun _ _ _ h => h) (by kernel_rfl) (fun W hW => by kernel_rfl) (by assumption) rfl rfl ?_
    simp only [Act.put, List.setIfInBounds_toArray, List.set_cons_zero, List.set_cons_succ]
    refine wpAnyH_yield 12 4 (.bool false) rfl rfl (by kernel_rfl) (by kernel_rfl) (by kernel_rfl) (fun _ _ _ h => h) (by kernel_rfl) (fun W hW => by kernel_rfl) (by assumption) rfl rfl ?_
    simp only [Act.put, List.setIfInBounds_toArray, List.set_cons_zero, List.set_cons_succ]
    refine wpAnyH_done (by kernel_rfl) ?_ _
    rw [onlyN_normal]
    have T9 := hide (T1.out.tr hT0)
    clear hT0
    go_wp2_with fail
    go_ret
    exact ⟨by rw [HRE.out]; rfl, T9.out⟩

end Go.Proofs.Ytlnblhajcbmmkaa

namespace Go.Proofs.Ytlnblhajcbmmkaa
open Go.RowKit

/-- A list of the document's in memory. -/
structure Rl (w : World) (ao : Option Addr) (cap : Nat) (L : List Tm) : Prop where
  tms : Tms w ao L
  spot : ∀ a, ao = some a → a.spot = none
  nil : ao = none → cap = 0
  cap : L.length ≤ cap ∧ cap ≤ maxLen

theorem Rl.calm {w w' : World} {ao : Option Addr} {cap : Nat} {L : List Tm} (h : Rl w ao cap L) (ht : Calm w w') : Rl w' ao cap L := ⟨h.tms.calm ht, h.spot, h.nil, h.cap⟩
theorem Rl.none (w : World) : Rl w none 0 [] := ⟨Tms.nil _ _, fun _ h => (nomatch h), fun _ => rfl, Nat.le_refl _, Nat.zero_le _⟩

theorem OwnT.rl {w : World} {base n cap : Nat} {ao : Option Addr} {L : List Tm} (h : OwnT w base (.slice ao n cap) L) : Rl w ao cap L ∧ ∀ a, ao = some a → base ≤ a.block := by
  obtain ⟨_, h2, h3, h4, h5, h6⟩ := h.prs
  exact ⟨⟨h2, fun a ha => (h3 a ha).1, h6, h4, h5⟩, fun a ha => (h3 a ha).2.2.1⟩

theorem tslice_from {w : World} {ao : Option Addr} {cap k : Nat} {L : List Tm} (h : Rl w ao cap L) (hk : k ≤ L.length) :
    ∃ so sc, (∀ W, (Instr.slice 22 (.slice ao L.length cap) (some (.int .i64 (k : Nat))) none none).run Try.prog W = .ok (.slice so (L.length - k) sc) W) ∧ Tms w so (L.drop k) ∧ (so = none → sc = 0) := by
  obtain ⟨i, hi, hz, hs, hby⟩ := info_parts2 infoTimer
  have hc := h.cap.1
  have he : Try.prog.elem 22 = 35 := by kernel_rfl
  refine ⟨if cap = k then ao else ao.map fun x => x.add (k * 4), cap - k, fun W => ?_, ?_, ?_⟩
  · rw [run_slice_l W 22 ao L.length cap (by rw [he]; exact Try.underlying22) .i64 (k : Nat) (by omega) (by omega), he]
    simp only [sizeOf, typeInfo]
    simp [hi, hs, sliced]
  · by_cases hck : cap = k
    · rw [if_pos hck, List.drop_of_length_le (by omega)]; exact Tms.nil _ _
    · rw [if_neg hck]; exact h.tms.drop k
  · intro h'
    by_cases hck : cap = k
    · omega
    · rw [if_neg hck] at h'
      have := h.nil (by simpa using h')
      omega

/-- The list with a timer more. -/
def setT (t : Tm) (L : List Tm) : List Tm := if t ∈ L then L else L.take (leadT t L) ++ [t] ++ L.drop (leadT t L)

theorem setT_mem (t : Tm) (L : List Tm) (x : Tm) : x ∈ setT t L ↔ x ∈ L ∨ x = t := by
  unfold setT
  by_cases ht : t ∈ L
  · rw [if_pos ht]
    exact ⟨.inl, fun h => h.elim id (fun e => e ▸ ht)⟩
  · rw [if_neg ht, List.mem_append, List.mem_append, List.mem_singleton]
    have e : x ∈ L ↔ x ∈ L.take (leadT t L) ∨ x ∈ L.drop (leadT t L) := by rw [← List.mem_append, List.take_append_drop]
    rw [e]
    constructor
    · rintro ((h | h) | h)
      · exact .inl (.inl h)
      · exact .inr h
      · exact .inl (.inr h)
    · rintro ((h | h) | h)
      · exact .inl (.inl h)
      · exact .inr h
      · exact .inl (.inr h)

theorem nth_drop (L : List Tm) (k i : Nat) : nth (L.drop k) i = nth L (k + i) := by simp [nth, List.getElem?_drop]
theorem nth_take {L : List Tm} {k i : Nat} (h : i < k) : nth (L.take k) i = nth L i := by simp [nth, h]

theorem Srt.set {L : List Tm} (h : Srt L) (t : Tm) : Srt (setT t L) := by
  unfold setT
  by_cases ht : t ∈ L
  · rw [if_pos ht]; exact h
  · rw [if_neg ht]
    have hlo : ∀ x ∈ L.take (leadT t L), cmpT x t < 0 := fun x hx => by
      obtain ⟨i, hi, e⟩ := mem_nth.1 hx
      rw [List.length_take] at hi
      rw [← e, nth_take (by omega)]
      exact leadT_lt (by omega)
    have hhi : ∀ x ∈ L.drop (leadT t L), cmpT t x < 0 := fun x hx => by
      obtain ⟨i, hi, e⟩ := mem_nth.1 hx
      rw [List.length_drop] at hi
      rw [nth_drop] at e
      have hl : leadT t L < L.length := by omega
      have h1 : cmpT t (nth L (leadT t L)) < 0 := cgt (leadT_at hl) (fun e2 => ht (e2 ▸ mem_nth.2 ⟨_, hl, rfl⟩))
      rw [← e]
      by_cases h0 : i = 0
      · subst h0; exact h1
      · exact clt h1 (h.lt (by omega) (by omega))
    have hd : Srt (L.take (leadT t L)) := List.Pairwise.sublist (List.take_sublist _ _) h
    have hu : Srt (L.drop (leadT t L)) := List.Pairwise.sublist (List.drop_sublist _ _) h
    refine List.pairwise_append.2 ⟨List.pairwise_append.2 ⟨hd, List.pairwise_singleton _ _, fun a ha b hb => by rw [List.mem_singleton.1 hb]; exact hlo a ha⟩, hu, fun a ha b hb => ?_⟩
    rcases List.mem_append.1 ha with ha | ha
    · exact clt (hlo a ha) (hhi b hb)
    · rw [List.mem_singleton.1 ha]; exact hhi b hb

/-- What the document's calls that answer a list do. -/
def ListR (w : World) (ao : Option Addr) (l L : List Tm) (e : Ending) (w' : World) : Prop :=
  ∃ ao' cap', e = .returned (.slice ao' L.length cap') ∧ Rl w' ao' cap' L ∧ (∀ a, ao' = some a → (ao = some a ∧ L = l) ∨ w.heap.size ≤ a.block) ∧ Calm w w'

set_option maxRecDepth 100000 in
set_option maxHeartbeats 2000000 in
theorem rset_any (ao : Option Addr) (cap : Nat) (l : List Tm) (t : Tm) (w : World) (h : Rl w ao cap l) (hs : Srt l) (hb : l.length < 3518437208790) :
    Calls Try.prog 10 #[.slice ao l.length cap, tv t] w (ListR w ao l (setT t l)) := by
  have tA : Calm w (w.alloc (.cells (tc t) 35)) := (Touch.refl _ _).alloc _
  have HS := hide (rhas_any ao cap l t _ (h.tms.calm tA) hs (by omega))
  have PL := hide (fun W (hW : Calm w W) => place_any ao cap l t W (h.tms.calm hW) (by omega))
  have H := hide h
  have TA := hide tA
  have HA := hide (heap_alloc_last w (.cells (tc t) 35))
  have HB := hide hb
  have HK := hide (leadT_le t l)
  obtain ⟨⟨c0, c1, c2, c3⟩, -⟩ := cells4 HA.out
  clear h hs hb tA
  by_cases ht : t ∈ l
  · have hd : decide (t ∈ l) = true := decide_eq_true ht
    have hset : setT t l = l := by unfold setT; rw [if_pos ht]
    rw [hd] at HS
    rw [hset]
    clear hset hd ht
    generalize hL : l.length = L at *
    have HL := hide hL
    clear hL
    go_enter Try.func10, Try.ntmps10
    go_wp2_with fail
    refine HS.out.mono ?_
    rintro e w2 ⟨rfl, t2⟩
    have T2 := hide (TA.out.tr t2)
    clear t2 c0 c1 c2 c3
    go_wp2_with fail
    go_ret
    exact ⟨ao, cap, by rw [HL.out]; rfl, H.out.calm T2.out, fun a ha => .inl ⟨ha, rfl⟩, T2.out⟩
  · have hd : decide (t ∈ l) = false := decide_eq_false ht
    have hset : setT t l = l.take (leadT t l) ++ [t] ++ l.drop (leadT t l) := by unfold setT; rw [if_neg ht]
    rw [hd] at HS
    rw [hset]
    obtain ⟨so, sc, hsf, pf, nf⟩ := tslice_from H.out HK.out
    have SF := hide hsf
    have PF := hide pf
    have NF := hide nf
    have ST := hide (fun W => tslice_to (ao := ao) (cap := cap) (k := leadT t l) (n := l.length) H.out.spot (by have := HK.out; have := H.out.cap.1; omega) W)
    have PT := hide (H.out.tms.take (leadT t l))
    have HTL : Hid ((l.take (leadT t l)).length = leadT t l) := hide (by rw [List.length_take]; have := HK.out; omega)
    have HDL : Hid ((l.drop (leadT t l)).length = l.length - leadT t l) := hide List.length_drop
    clear hset hd ht hsf pf nf
    generalize l.take (leadT t l) = lt at *
    generalize l.drop (leadT t l) = ld at *
    generalize leadT t l = k at *
    generalize hL : l.length = L at *
    have HL := hide hL
    clear hL
    obtain ⟨M, hM⟩ : ∃ M, L - k = M := ⟨_, rfl⟩
    have HMM := hide hM
    rw [hM] at SF HDL
    clear hM
    go_enter Try.func10, Try.ntmps10
    go_wp2_with fail
    refine HS.out.mono ?_
    rintro e w2 ⟨rfl, t2⟩
    have T2 := hide (TA.out.tr t2)
    have A2 := hide (t2.at HA.out)
    obtain ⟨⟨d0, d1, d2, d3⟩, -⟩ := cells4 A2.out
    clear t2 c0 c1 c2 c3 HA
    go_wp2_with fail
    refine (PL.out _ T2.out).mono ?_
    rintro e w3 ⟨rfl, t3⟩
    have T3 := hide (T2.out.tr t3)
    have A3 := hide (t3.at A2.out)
    have sl3 := ST.out w3
    have P3 := hide (PT.out.calm T3.out)
    have HS3 := hide T3.out.size
    have HB3 : Hid (([] : List Tm).length + lt.length ≤ 3518437208800) := hide (by have := HTL.out; have := HK.out; have := HB.out; simp; omega)
    clear t3 d0 d1 d2 d3 A2 T2
    go_wp2_with (at_builtin; refine wpList_tapp rfl (.tmp 14) (.tmp 17) rfl w.heap.size _ [] rfl (World.ownsRow_nil _ _ _ _) ao k cap lt HTL.out rfl P3.out H.out.nil HB3.out HS3.out ?ny)
    case ny =>
      intro ao4 cap4 w4 ow4 t4
      have T4 : Hid (Calm w w4) := hide (T3.out.trans t4 (fun g hg hs => by simp [Value.ownBlock] at hs))
      have A4 := hide (t4.heap A3.out (fun hs => by simp [Value.ownBlock] at hs))
      have OW4 : Hid (OwnT w4 w.heap.size (.slice ao4 k cap4) lt) := hide (by simpa [HTL.out] using ow4)
      obtain ⟨⟨d0, d1, d2, d3⟩, -⟩ := cells4 A4.out
      have e4 : lt.length = k := HTL.out
      clear ow4 t4 sl3 A3 T3
      rw [e4]
      have tB : Calm w4 (w4.alloc (.cells (tc t) 35)) := (Touch.refl _ _).alloc _
      have O5 := hide (OW4.out.calm tB)
      have P5 := hide (tms_one w4 t)
      have HS5 := hide (Nat.le_trans T4.out.size tB.size)
      have HB5 : Hid (lt.length + [t].length ≤ 3518437208800) := hide (by have := HTL.out; have := HK.out; have := HB.out; simp; omega)
      have TB := hide (T4.out.tr tB)
      clear tB e4
      go_wp2_with (at_builtin; refine wpList_tapp rfl (.tmp 19) (.tmp 21) rfl w.heap.size _ lt rfl O5.out (some ⟨w4.heap.size, 0, none⟩) 1 1 [t] rfl rfl P5.out (fun h => (nomatch h)) HB5.out HS5.out ?nz)
      case nz =>
        intro ao6 cap6 w6 ow6 t6
        have T6 : Hid (Calm w w6) := hide (TB.out.trans t6 (fun g hg hs => by have := (own_block O5.out hs).1; omega))
        have e6 : (lt ++ [t]).length = lt.length + 1 := by simp
        have OW6 : Hid (OwnT w6 w.heap.size (.slice ao6 (lt.length + 1) cap6) (lt ++ [t])) := hide (by first | exact ow6 | (rw [e6] at ow6; exact ow6))
        have sl6 := SF.out w6
        have P6 := hide (PF.out.calm T6.out)
        have HB6 : Hid ((lt ++ [t]).length + ld.length ≤ 3518437208800) := hide (by have := HTL.out; have := HK.out; have := HB.out; have := HDL.out; have := HMM.out; rw [e6]; omega)
        obtain ⟨N1, hN1⟩ : ∃ N1, lt.length + 1 = N1 := ⟨_, rfl⟩
        rw [hN1] at OW6
        try rw [e6]
        rw [hN1]
        clear ow6 t6 d0 d1 d2 d3 e6 hN1
        go_wp2_with (at_builtin; refine wpList_tapp rfl (.tmp 23) (.tmp 26) rfl w.heap.size _ (lt ++ [t]) rfl OW6.out so M sc ld HDL.out rfl P6.out NF.out HB6.out T6.out.size ?nx)
        case nx =>
          intro ao8 cap8 w8 ow8 t8
          have T8 : Hid (Calm w w8) := hide (T6.out.trans t8 (fun g hg hs => by have := (own_block OW6.out hs).1; omega))
          have e8 : (lt ++ [t] ++ ld).length = (lt ++ ([t] ++ ld)).length := by simp
          obtain ⟨N2, hN2⟩ : ∃ N2, (lt ++ [t] ++ ld).length = N2 := ⟨_, rfl⟩
          have OW8 : Hid (OwnT w8 w.heap.size (.slice ao8 N2 cap8) (lt ++ [t] ++ ld)) := hide (by rw [← hN2]; simpa using ow8)
          have HN2 := hide hN2
          have hN3 : lt.length + (ld.length + 1) = N2 := by rw [← hN2]; simp
          try simp only [List.length_append, List.length_cons, List.length_nil, Nat.zero_add] at hN2 ⊢
          try rw [hN3]
          try rw [hN2]
          clear ow8 t8 hN2 hN3 e8 sl6
          go_wp2_with fail
          go_ret
          refine ⟨ao8, cap8, ?_, OW8.out.rl.1, fun a ha => .inr (OW8.out.rl.2 a ha), T8.out⟩
          rw [HN2.out]
          rfl

end Go.Proofs.Ytlnblhajcbmmkaa

namespace Go.Proofs.Ytlnblhajcbmmkaa
open Go.RowKit

/-- The list without a timer. -/
def dropT (t : Tm) (L : List Tm) : List Tm := L.filter fun x => !decide (x = t)

theorem dropT_mem (t : Tm) (L : List Tm) (x : Tm) : x ∈ dropT t L ↔ x ∈ L ∧ x ≠ t := by unfold dropT; simp
theorem Srt.drop {L : List Tm} (h : Srt L) (t : Tm) : Srt (dropT t L) := List.Pairwise.sublist List.filter_sublist h

theorem dropT_take {t : Tm} {L : List Tm} {k : Nat} (hk : k < L.length) : dropT t (L.take (k + 1)) = if nth L k = t then dropT t (L.take k) else dropT t (L.take k) ++ [nth L k] := by
  unfold dropT
  rw [List.take_succ_eq_append_getElem hk, List.filter_append, nth_eq hk]
  by_cases e : L[k] = t
  · simp [e]
  · simp [e]

theorem dropT_len (t : Tm) (L : List Tm) (k : Nat) : (dropT t (L.take k)).length ≤ k := by
  unfold dropT
  have h1 := List.length_filter_le (fun x => !decide (x = t)) (L.take k)
  rw [List.length_take] at h1
  omega

set_option maxRecDepth 100000 in
set_option maxHeartbeats 2000000 in
theorem rdrop_any (ao : Option Addr) (cap : Nat) (l : List Tm) (t : Tm) (w : World) (h : Rl w ao cap l) (hb : l.length < 3518437208790) :
    Calls Try.prog 26 #[.slice ao l.length cap, tv t] w (ListR w ao l (dropT t l)) := by
  have H := hide h
  have HB := hide hb
  have HA := hide (heap_alloc_last w (.cells (tc t) 35))
  have TA : Hid (Calm w (w.alloc (.cells (tc t) 35))) := hide ((Touch.refl _ _).alloc _)
  obtain ⟨L, hL⟩ : ∃ L, l.length = L := ⟨_, rfl⟩
  have HL := hide hL
  rw [hL]
  clear h hb hL
  go_enter Try.func26, Try.ntmps26
  go_wp2_with fail
  generalize hAA : w.heap.size = A at *
  have HAA := hide hAA
  clear hAA
  go_loopw [5, 6] (fun u v wr => ∃ (k : Nat) (ao1 : Option Addr) (cap1 : Nat), v = .int .i64 (k : Int) ∧ u = .slice ao1 (dropT t (l.take k)).length cap1 ∧ k ≤ L ∧ OwnT wr (A + 1) (.slice ao1 (dropT t (l.take k)).length cap1) (dropT t (l.take k)) ∧ wr.heap[A]? = some (.cells (tc t) 35 (0, 0)) ∧ Calm w wr) (fun _ v _ => L - (intOf v).toNat)
  case atStart => exact ⟨0, none, 0, rfl, by simp [dropT], Nat.zero_le _, by simp only [List.take_zero, dropT, List.filter_nil, List.length_nil]; exact World.ownsRow_nil _ _ _ _, HA.out, TA.out⟩
  case round =>
    clear HA TA
    obtain ⟨k, ao1, cap1, rfl, rfl, hk, ow, ha, tr⟩ := hrel
    have OW := hide ow
    have HA1 := hide ha
    have T1 := hide tr
    rename World => V
    have HDK := hide (dropT_len t l k)
    clear ow ha tr
    by_cases hlt : k < L
    · obtain ⟨b, off, e, c0, c1, c2, c3⟩ := (H.out.tms.calm T1.out) k (by rw [HL.out]; exact hlt)
      subst e
      have enk : l[k]'(by rw [HL.out]; exact hlt) = nth l k := (nth_eq _).symm
      rw [enk] at c0 c1 c2 c3
      have hki : (k : Int) < (L : Int) := by omega
      have hkw : wrap64 ((k : Int) + 1) = ((k + 1 : Nat) : Int) := by have := HB.out; have := HL.out; unfold wrap64; omega
      have HST := hide (dropT_take (t := t) (L := l) (k := k) (by rw [HL.out]; exact hlt))
      generalize nth l k = x at *
      have CE : Hid (∀ W, Calm V W → W.cell? ⟨b, off + k * 4, none⟩ = some (.int .i64 x.at_) ∧ W.cell? ⟨b, off + k * 4 + 1, none⟩ = some (.string x.key) ∧ W.cell? ⟨b, off + k * 4 + 2, none⟩ = some (.int .i64 x.start) ∧ W.cell? ⟨b, off + k * 4 + 3, none⟩ = some (.int .i64 x.stop)) := hide (fun W hW => by
        have g : ∀ {o : Nat} {v : Value}, V.cell? ⟨b, o, none⟩ = some v → W.cell? ⟨b, o, none⟩ = some v := fun {o v} h => (hW.cell (p := ⟨b, o, none⟩) (lt_of_cell h) (fun h => h)).trans h
        exact ⟨g c0, g c1, g c2, g c3⟩)
      clear c0 c1 c2 c3 enk
      obtain ⟨DL, hDL⟩ : ∃ DL, (dropT t (l.take k)).length = DL := ⟨_, rfl⟩
      have HDL := hide hDL
      rw [hDL] at OW ⊢
      clear hDL
      go_wp2_with fail
      by_cases hx : x = t
      · have HNE : Hid ((!decide (x = t)) = false) := hide (by simp [hx])
        have HS2 : Hid (dropT t (l.take (k + 1)) = dropT t (l.take k)) := hide (by rw [HST.out, if_pos hx])
        refine wp_only ?_
        refine wp_region_held (S := Calm V) (by kernel_rfl) ?_
        have hT0 : Calm V { V with drawn := V.drawn + 1 } := (Touch.refl (fun _ => False) V).drew
        refine wpAnyH_yield 0 13 (.slice (some ⟨b, off, none⟩) L cap) rfl rfl (by kernel_rfl) (by kernel_rfl) (by kernel_rfl) (fun _ _ _ h => h) (by kernel_rfl) (fun W hW => by kernel_rfl) (by assumption) rfl rfl ?_
        simp only [Act.put, List.setIfInBounds_toArray, List.set_cons_zero, List.set_cons_succ]
        refine wpAnyH_yield 1 14 (.int .i64 (k : Int)) rfl rfl (by kernel_rfl) (by kernel_rfl) (by kernel_rfl) (fun _ _ _ h => h) (by kernel_rfl) (fun W hW => by kernel_rfl) (by assumption) rfl rfl ?_
        simp only [Act.put, List.setIfInBounds_toArray, List.set_cons_zero, List.set_cons_succ]
        refine wpAnyH_yield 2 15 (.pointer (some ⟨b, off + k * 4, none⟩)) rfl rfl (by kernel_rfl) (by kernel_rfl) (by kernel_rfl) (fun _ _ _ h => h) (by kernel_rfl) (fun W hW => by go_simp) (by assumption) rfl rfl ?_
        simp only [Act.put, List.setIfInBounds_toArray, List.set_cons_zero, List.set_cons_succ]
        refine wpAnyH_yield 3 16 (tv x) rfl rfl (by kernel_rfl) (by kernel_rfl) (by kernel_rfl) (fun _ _ _ h => h) (by kernel_rfl) (fun W hW => by obtain ⟨c0, c1, c2, c3⟩ := CE.out W hW; go_simp) (by assumption) rfl rfl ?_
        simp only [Act.put, List.setIfInBounds_toArray, List.set_cons_zero, List.set_cons_succ]
        refine wpAnyH_yield 4 17 (tv t) rfl rfl (by kernel_rfl) (by kernel_rfl) (by kernel_rfl) (fun _ _ _ h => h) (by kernel_rfl) (fun W hW => by obtain ⟨⟨c0, c1, c2, c3⟩, -⟩ := cells4 (hW.at HA1.out); go_simp) (by assumption) rfl rfl ?_
        simp only [Act.put, List.setIfInBounds_toArray, List.set_cons_zero, List.set_cons_succ]
        refine wpAnyH_yield 5 18 (.bool false) rfl rfl (by kernel_rfl) (by kernel_rfl) (by kernel_rfl) (fun _ _ _ h => h) (by kernel_rfl) (fun W hW => exec_bin rfl (by kernel_rfl) (by have he := neq_tm x t W; rw [HNE.out] at he; exact he)) (by assumption) rfl rfl ?_
        simp only [Act.put, List.setIfInBounds_toArray, List.set_cons_zero, List.set_cons_succ]
        refine wpAnyH_done (by kernel_rfl) ?_ _
        rw [onlyN_normal]
        generalize ({ V with drawn := V.drawn + 1 } : World) = V2 at *
        have A9 := hide (hT0.at HA1.out)
        have T9 := hide (T1.out.tr hT0)
        have O9 := hide (OW.out.calm hT0)
        clear hT0
        go_wp2_with fail
        go_roundw
        case rel => exact ⟨k + 1, ao1, cap1, by rw [hkw], by rw [HS2.out, HDL.out], hlt, by rw [HS2.out, HDL.out]; exact O9.out, A9.out, T9.out⟩
        case measure => rw [hkw]; simp [intOf]; omega
      · have HNE : Hid ((!decide (x = t)) = true) := hide (by simp [hx])
        have HS2 : Hid (dropT t (l.take (k + 1)) = dropT t (l.take k) ++ [x]) := hide (by rw [HST.out, if_neg hx])
        refine wp_only ?_
        refine wp_region_held (S := Calm V) (by kernel_rfl) ?_
        have hT0 : Calm V { V with drawn := V.drawn + 1 } := (Touch.refl (fun _ => False) V).drew
        refine wpAnyH_yield 0 13 (.slice (some ⟨b, off, none⟩) L cap) rfl rfl (by kernel_rfl) (by kernel_rfl) (by kernel_rfl) (fun _ _ _ h => h) (by kernel_rfl) (fun W hW => by kernel_rfl) (by assumption) rfl rfl ?_
        simp only [Act.put, List.setIfInBounds_toArray, List.set_cons_zero, List.set_cons_succ]
        refine wpAnyH_yield 1 14 (.int .i64 (k : Int)) rfl rfl (by kernel_rfl) (by kernel_rfl) (by kernel_rfl) (fun _ _ _ h => h) (by kernel_rfl) (fun W hW => by kernel_rfl) (by assumption) rfl rfl ?_
        simp only [Act.put, List.setIfInBounds_toArray, List.set_cons_zero, List.set_cons_succ]
        refine wpAnyH_yield 2 15 (.pointer (some ⟨b, off + k * 4, none⟩)) rfl rfl (by kernel_rfl) (by kernel_rfl) (by kernel_rfl) (fun _ _ _ h => h) (by kernel_rfl) (fun W hW => by go_simp) (by assumption) rfl rfl ?_
        simp only [Act.put, List.setIfInBounds_toArray, List.set_cons_zero, List.set_cons_succ]
        refine wpAnyH_yield 3 16 (tv x) rfl rfl (by kernel_rfl) (by kernel_rfl) (by kernel_rfl) (fun _ _ _ h => h) (by kernel_rfl) (fun W hW => by obtain ⟨c0, c1, c2, c3⟩ := CE.out W hW; go_simp) (by assumption) rfl rfl ?_
        simp only [Act.put, List.setIfInBounds_toArray, List.set_cons_zero, List.set_cons_succ]
        refine wpAnyH_yield 4 17 (tv t) rfl rfl (by kernel_rfl) (by kernel_rfl) (by kernel_rfl) (fun _ _ _ h => h) (by kernel_rfl) (fun W hW => by obtain ⟨⟨c0, c1, c2, c3⟩, -⟩ := cells4 (hW.at HA1.out); go_simp) (by assumption) rfl rfl ?_
        simp only [Act.put, List.setIfInBounds_toArray, List.set_cons_zero, List.set_cons_succ]
        refine wpAnyH_yield 5 18 (.bool true) rfl rfl (by kernel_rfl) (by kernel_rfl) (by kernel_rfl) (fun _ _ _ h => h) (by kernel_rfl) (fun W hW => exec_bin rfl (by kernel_rfl) (by have he := neq_tm x t W; rw [HNE.out] at he; exact he)) (by assumption) rfl rfl ?_
        simp only [Act.put, List.setIfInBounds_toArray, List.set_cons_zero, List.set_cons_succ]
        refine wpAnyH_done (by kernel_rfl) ?_ _
        rw [onlyN_normal]
        generalize ({ V with drawn := V.drawn + 1 } : World) = V2 at *
        have A9 := hide (hT0.at HA1.out)
        have T9 := hide (T1.out.tr hT0)
        have tB : Calm V2 (V2.alloc (.cells (tc x) 35)) := (Touch.refl _ _).alloc _
        have O9 := hide ((OW.out.calm hT0).calm tB)
        have P9 := hide (tms_one V2 x)
        have TB := hide (T9.out.tr tB)
        have AB := hide (tB.at A9.out)
        have HBD : Hid ((dropT t (l.take k)).length + [x].length ≤ 3518437208800) := hide (by have := HDK.out; have := HB.out; have := HL.out; simp; omega)
        obtain ⟨c0, c1, c2, c3⟩ := CE.out V2 hT0
        clear hT0 tB CE
        go_wp2_with (at_builtin; refine wpList_tapp rfl (.tmp 19) (.tmp 24) rfl (A + 1) _ (dropT t (l.take k)) rfl O9.out (some ⟨V2.heap.size, 0, none⟩) 1 1 [x] rfl rfl P9.out (fun h => (nomatch h)) HBD.out (lt_of_heap AB.out) ?ny)
        case ny =>
          intro ao4 cap4 w4 ow4 t4
          have T4 : Hid (Calm w w4) := hide (TB.out.trans t4 (fun g hg hs => by have := (own_block O9.out hs).1; have := HAA.out; omega))
          have A4 := hide (t4.heap AB.out (fun hs => by have := (own_block O9.out hs).1; omega))
          have OW4 : Hid (OwnT w4 (A + 1) (.slice ao4 (dropT t (l.take (k + 1))).length cap4) (dropT t (l.take (k + 1)))) := hide (by rw [HS2.out]; simpa using ow4)
          have hN : (dropT t (l.take k)).length + 1 = (dropT t (l.take (k + 1))).length := by rw [HS2.out]; simp
          clear ow4 t4 c0 c1 c2 c3
          try rw [hN]
          generalize hn4 : (dropT t (l.take (k + 1))).length = N4 at *
          have HN4 := hide hn4
          clear hN hn4
          go_wp2_with fail
          go_roundw
          case rel => exact ⟨k + 1, ao4, cap4, by rw [hkw], by rw [HN4.out], hlt, by rw [HN4.out]; exact OW4.out, A4.out, T4.out⟩
          case measure => rw [hkw]; simp [intOf]; omega
    · have e : k = L := by omega
      subst e
      have et : l.take k = l := List.take_of_length_le (by rw [HL.out]; exact Nat.le_refl _)
      rw [et] at OW ⊢
      have hki : ¬ (k : Int) < (k : Int) := by omega
      clear hlt hk et
      generalize hdl : (dropT t l).length = DL at *
      have HDL := hide hdl
      clear hdl
      go_wp2_with fail
      go_ret
      refine ⟨ao1, cap1, by rw [HDL.out]; rfl, OW.out.rl.1, fun a ha => .inr (by have := OW.out.rl.2 a ha; have := HAA.out; omega), T1.out⟩

end Go.Proofs.Ytlnblhajcbmmkaa

namespace Go.Proofs.Ytlnblhajcbmmkaa
open Go.RowKit

/-- How many at the beginning. -/
def tw (p : Tm → Bool) (L : List Tm) : Nat := (L.takeWhile p).length

theorem tw_le (p : Tm → Bool) (L : List Tm) : tw p L ≤ L.length := (List.takeWhile_sublist _).length_le

theorem tw_lt {p : Tm → Bool} : ∀ {L : List Tm} {k : Nat}, k < tw p L → p (nth L k) = true
  | [], k, h => by simp [tw] at h
  | x :: L, k, h => by
    unfold tw at h
    rw [List.takeWhile_cons] at h
    by_cases hx : p x = true
    · simp only [hx, if_true, List.length_cons] at h
      cases k with
      | zero => exact hx
      | succ k =>
        have := tw_lt (p := p) (L := L) (k := k) (by unfold tw; omega)
        simpa [nth] using this
    · simp [hx] at h

theorem tw_at {p : Tm → Bool} : ∀ {L : List Tm}, tw p L < L.length → ¬ p (nth L (tw p L)) = true
  | [], h => by simp at h
  | x :: L, h => by
    by_cases hx : p x = true
    · have e : tw p (x :: L) = tw p L + 1 := by unfold tw; rw [List.takeWhile_cons]; simp [hx]
      rw [e] at h ⊢
      have := tw_at (p := p) (L := L) (by simpa using h)
      simpa [nth] using this
    · have e : tw p (x :: L) = 0 := by unfold tw; rw [List.takeWhile_cons]; simp [hx]
      rw [e]
      exact hx

theorem tw_eq {p : Tm → Bool} {L : List Tm} {k : Nat} (hk : k ≤ tw p L) (hn : k = L.length ∨ ¬ p (nth L k) = true) : tw p L = k := by
  rcases Nat.lt_or_ge k (tw p L) with h | h
  · rcases hn with hn | hn
    · have := tw_le p L; omega
    · exact absurd (tw_lt h) hn
  · omega

/-- How many are due. -/
def dueT (u : Int) (L : List Tm) : Nat := tw (fun x => decide (x.at_ ≤ u)) L

set_option maxRecDepth 100000 in
set_option maxHeartbeats 1000000 in
theorem rdue_any (ao : Option Addr) (cap : Nat) (l : List Tm) (u : Int) (w : World) (h : Tms w ao l) (hb : l.length < 4611686018427387904) :
    Calls Try.prog 28 #[.slice ao l.length cap, .int .i64 u] w fun e w' => e = .returned (.int .i64 (dueT u l : Int)) ∧ w' = w := by
  have H := hide h
  have HB := hide hb
  obtain ⟨L, hL⟩ : ∃ L, l.length = L := ⟨_, rfl⟩
  have HL := hide hL
  rw [hL]
  clear h hb hL
  go_enter Try.func28, Try.ntmps28
  go_wp2_with fail
  go_loopw [5] (fun v wr => ∃ k : Nat, v = .int .i64 (k : Int) ∧ k ≤ dueT u l ∧ wr = w) (fun v _ => L - (intOf v).toNat)
  case atStart => exact ⟨0, rfl, Nat.zero_le _, rfl⟩
  case round =>
    obtain ⟨k, rfl, hk, rfl⟩ := hrel
    have HK := hide hk
    have HKL : Hid (k ≤ L) := hide (by have := tw_le (fun x => decide (x.at_ ≤ u)) l; have := HL.out; unfold dueT at hk; omega)
    clear hk
    by_cases hlt : k < L
    · obtain ⟨b, off, e, c0, -⟩ := H.out k (by rw [HL.out]; exact hlt)
      subst e
      have enk : l[k]'(by rw [HL.out]; exact hlt) = nth l k := (nth_eq _).symm
      rw [enk] at c0
      have hki : (k : Int) < (L : Int) := by omega
      have hkw : wrap64 ((k : Int) + 1) = ((k + 1 : Nat) : Int) := by have := HB.out; have := HL.out; unfold wrap64; omega
      by_cases hu : (nth l k).at_ ≤ u
      · have HCP : Hid (k + 1 ≤ dueT u l) := hide (by
          unfold dueT
          rcases Nat.lt_or_ge k (tw (fun x => decide (x.at_ ≤ u)) l) with h | h
          · omega
          · exfalso
            have e : tw (fun x => decide (x.at_ ≤ u)) l = k := by have := HK.out; unfold dueT at this; omega
            exact tw_at (p := fun x => decide (x.at_ ≤ u)) (L := l) (by rw [e, HL.out]; exact hlt) (by rw [e]; simp [hu]))
        clear enk
        generalize (nth l k).at_ = xa at *
        go_wp2_with fail
        go_roundw
        case rel => exact ⟨k + 1, by rw [hkw], HCP.out, trivial⟩
        case measure => rw [hkw]; simp [intOf]; omega
      · have HRE : Hid (dueT u l = k) := hide (tw_eq HK.out (.inr (by simp; omega)))
        clear enk
        generalize (nth l k).at_ = xa at *
        go_wp2_with fail
        go_ret
        exact ⟨by rw [HRE.out]; rfl, rfl⟩
    · have hki : ¬ (k : Int) < (L : Int) := by omega
      have HRE : Hid (dueT u l = k) := hide (tw_eq HK.out (.inl (by have := HKL.out; have := HL.out; omega)))
      go_wp2_with fail
      go_ret
      exact ⟨by rw [HRE.out]; rfl, rfl⟩

set_option maxRecDepth 100000 in
set_option maxHeartbeats 1000000 in
theorem same_any (ao ao2 : Option Addr) (cap cap2 : Nat) (l : List Tm) (w : World) (h : Tms w ao l) (h2 : Tms w ao2 l) (hb : l.length < 4611686018427387904) :
    Calls Try.prog 9 #[.slice ao l.length cap, .slice ao2 l.length cap2] w fun e w' => e = .returned (.bool true) ∧ Calm w w' := by
  have H := hide h
  have H2 := hide h2
  have HB := hide hb
  obtain ⟨L, hL⟩ : ∃ L, l.length = L := ⟨_, rfl⟩
  have HL := hide hL
  rw [hL]
  clear h h2 hb hL
  go_enter Try.func9, Try.ntmps9
  go_wp2_with fail
  go_loopw [5] (fun v wr => ∃ k : Nat, v = .int .i64 (k : Int) ∧ k ≤ L ∧ Calm w wr) (fun v _ => L - (intOf v).toNat)
  case atStart => exact ⟨0, rfl, Nat.zero_le _, Touch.refl _ _⟩
  case round =>
    obtain ⟨k, rfl, hk, tr⟩ := hrel
    have T1 := hide tr
    rename World => V
    clear tr
    by_cases hlt : k < L
    · obtain ⟨b, off, e, c0, c1, c2, c3⟩ := (H.out.calm T1.out) k (by rw [HL.out]; exact hlt)
      obtain ⟨b2, off2, e2, d0, d1, d2, d3⟩ := (H2.out.calm T1.out) k (by rw [HL.out]; exact hlt)
      subst e e2
      have hki : (k : Int) < (L : Int) := by omega
      have hkw : wrap64 ((k : Int) + 1) = ((k + 1 : Nat) : Int) := by have := HB.out; have := HL.out; unfold wrap64; omega
      generalize l[k]'(by rw [HL.out]; exact hlt) = x at *
      have CE : Hid (∀ W, Calm V W → W.cell? ⟨b, off + k * 4, none⟩ = some (.int .i64 x.at_) ∧ W.cell? ⟨b, off + k * 4 + 1, none⟩ = some (.string x.key) ∧ W.cell? ⟨b, off + k * 4 + 2, none⟩ = some (.int .i64 x.start) ∧ W.cell? ⟨b, off + k * 4 + 3, none⟩ = some (.int .i64 x.stop)) := hide (fun W hW => by
        have g : ∀ {o : Nat} {v : Value}, V.cell? ⟨b, o, none⟩ = some v → W.cell? ⟨b, o, none⟩ = some v := fun {o v} h => (hW.cell (p := ⟨b, o, none⟩) (lt_of_cell h) (fun h => h)).trans h
        exact ⟨g c0, g c1, g c2, g c3⟩)
      have CE2 : Hid (∀ W, Calm V W → W.cell? ⟨b2, off2 + k * 4, none⟩ = some (.int .i64 x.at_) ∧ W.cell? ⟨b2, off2 + k * 4 + 1, none⟩ = some (.string x.key) ∧ W.cell? ⟨b2, off2 + k * 4 + 2, none⟩ = some (.int .i64 x.start) ∧ W.cell? ⟨b2, off2 + k * 4 + 3, none⟩ = some (.int .i64 x.stop)) := hide (fun W hW => by
        have g : ∀ {o : Nat} {v : Value}, V.cell? ⟨b2, o, none⟩ = some v → W.cell? ⟨b2, o, none⟩ = some v := fun {o v} h => (hW.cell (p := ⟨b2, o, none⟩) (lt_of_cell h) (fun h => h)).trans h
        exact ⟨g d0, g d1, g d2, g d3⟩)
      clear c0 c1 c2 c3 d0 d1 d2 d3
      go_wp2_with fail
      refine wp_only ?_
      refine wp_region_held (S := Calm V) (by kernel_rfl) ?_
      have hT0 : Calm V { V with drawn := V.drawn + 1 } := (Touch.refl (fun _ => False) V).drew
      refine wpAnyH_yield 0 17 (.slice (some ⟨b, off, none⟩) L cap) rfl rfl (by kernel_rfl) (by kernel_rfl) (by kernel_rfl) (fun _ _ _ h => h) (by kernel_rfl) (fun W hW => by kernel_rfl) (by assumption) rfl rfl ?_
      simp only [Act.put, List.setIfInBounds_toArray, List.set_cons_zero, List.set_cons_succ]
      refine wpAnyH_yield 1 18 (.int .i64 (k : Int)) rfl rfl (by kernel_rfl) (by kernel_rfl) (by kernel_rfl) (fun _ _ _ h => h) (by kernel_rfl) (fun W hW => by kernel_rfl) (by assumption) rfl rfl ?_
      simp only [Act.put, List.setIfInBounds_toArray, List.set_cons_zero, List.set_cons_succ]
      refine wpAnyH_yield 2 19 (.pointer (some ⟨b, off + k * 4, none⟩)) rfl rfl (by kernel_rfl) (by kernel_rfl) (by kernel_rfl) (fun _ _ _ h => h) (by kernel_rfl) (fun W hW => by go_simp) (by assumption) rfl rfl ?_
      simp only [Act.put, List.setIfInBounds_toArray, List.set_cons_zero, List.set_cons_succ]
      refine wpAnyH_yield 3 20 (tv x) rfl rfl (by kernel_rfl) (by kernel_rfl) (by kernel_rfl) (fun _ _ _ h => h) (by kernel_rfl) (fun W hW => by obtain ⟨c0, c1, c2, c3⟩ := CE.out W hW; go_simp) (by assumption) rfl rfl ?_
      simp only [Act.put, List.setIfInBounds_toArray, List.set_cons_zero, List.set_cons_succ]
      refine wpAnyH_yield 4 21 (.slice (some ⟨b2, off2, none⟩) L cap2) rfl rfl (by kernel_rfl) (by kernel_rfl) (by kernel_rfl) (fun _ _ _ h => h) (by kernel_rfl) (fun W hW => by kernel_rfl) (by assumption) rfl rfl ?_
      simp only [Act.put, List.setIfInBounds_toArray, List.set_cons_zero, List.set_cons_succ]
      refine wpAnyH_yield 5 22 (.int .i64 (k : Int)) rfl rfl (by kernel_rfl) (by kernel_rfl) (by kernel_rfl) (fun _ _ _ h => h) (by kernel_rfl) (fun W hW => by kernel_rfl) (by assumption) rfl rfl ?_
      simp only [Act.put, List.setIfInBounds_toArray, List.set_cons_zero, List.set_cons_succ]
      refine wpAnyH_yield 6 23 (.pointer (some ⟨b2, off2 + k * 4, none⟩)) rfl rfl (by kernel_rfl) (by kernel_rfl) (by kernel_rfl) (fun _ _ _ h => h) (by kernel_rfl) (fun W hW => by go_simp) (by assumption) rfl rfl ?_
      simp only [Act.put, List.setIfInBounds_toArray, List.set_cons_zero, List.set_cons_succ]
      refine wpAnyH_yield 7 24 (tv x) rfl rfl (by kernel_rfl) (by kernel_rfl) (by kernel_rfl) (fun _ _ _ h => h) (by kernel_rfl) (fun W hW => by obtain ⟨c0, c1, c2, c3⟩ := CE2.out W hW; go_simp) (by assumption) rfl rfl ?_
      simp only [Act.put, List.setIfInBounds_toArray, List.set_cons_zero, List.set_cons_succ]
      refine wpAnyH_yield 8 25 (.bool false) rfl rfl (by kernel_rfl) (by kernel_rfl) (by kernel_rfl) (fun _ _ _ h => h) (by kernel_rfl) (fun W hW => exec_bin rfl (by kernel_rfl) (by have he := neq_tm x x W; rw [decide_eq_true rfl] at he; exact he)) (by assumption) rfl rfl ?_
      simp only [Act.put, List.setIfInBounds_toArray, List.set_cons_zero, List.set_cons_succ]
      refine wpAnyH_done (by kernel_rfl) ?_ _
      rw [onlyN_normal]
      have T9 := hide (T1.out.tr hT0)
      clear hT0
      go_wp2_with fail
      go_roundw
      case rel => exact ⟨k + 1, by rw [hkw], hlt, T9.out⟩
      case measure => rw [hkw]; simp [intOf]; omega
    · have hki : ¬ (k : Int) < (L : Int) := by omega
      go_wp2_with fail
      go_ret
      exact ⟨rfl, T1.out⟩

end Go.Proofs.Ytlnblhajcbmmkaa
