/- The document's Has and Set. -/
import Derived.Test.YtlnblhajcbmmkaaTRef
namespace Go.Proofs.Ytlnblhajcbmmkaa
open Go.RowKit

/-- What rises. -/
abbrev Srt (L : List Tm) : Prop := L.Pairwise fun a b => cmpT a b < 0

theorem Srt.lt {L : List Tm} (h : Srt L) {i j : Nat} (hij : i < j) (hj : j < L.length) : cmpT (nth L i) (nth L j) < 0 := by
  rw [nth_eq (by omega), nth_eq hj]
  exact List.pairwise_iff_getElem.1 h i j (by omega) hj hij

theorem Srt.nodup {L : List Tm} (h : Srt L) : L.Nodup := List.Pairwise.imp (fun {a b} hab e => by rw [e, cmpT_eq.2 rfl] at hab; omega) h

/-- Where t is there it is at leadT. -/
theorem Srt.lead {L : List Tm} (h : Srt L) {t : Tm} (ht : t ∈ L) : leadT t L < L.length ∧ nth L (leadT t L) = t := by
  obtain ⟨i, hi, e⟩ := mem_nth.1 ht
  have : leadT t L = i := by
    refine leadT_eq (Nat.le_of_not_lt fun hlt => ?_) (.inr ?_)
    · have h1 := leadT_at (t := t) (L := L) (by omega)
      have h2 := h.lt hlt hi
      rw [e] at h2
      exact h1 h2
    · rw [e, cmpT_eq.2 rfl]; omega
  rw [this]
  exact ⟨hi, e⟩

theorem Srt.has {L : List Tm} (h : Srt L) (t : Tm) : (decide (leadT t L < L.length) && decide (nth L (leadT t L) = t)) = decide (t ∈ L) := by
  by_cases ht : t ∈ L
  · obtain ⟨h1, h2⟩ := h.lead ht
    simp [ht, h1, h2]
  · by_cases h1 : leadT t L < L.length
    · have h2 : ¬ nth L (leadT t L) = t := fun e => ht (e ▸ mem_nth.2 ⟨_, h1, rfl⟩)
      simp [ht, h2]
    · simp [ht, h1]

set_option maxRecDepth 100000 in
set_option maxHeartbeats 2000000 in
theorem rhas_any (ao : Option Addr) (cap : Nat) (l : List Tm) (t : Tm) (w : World) (h : Tms w ao l) (hs : Srt l) (hb : l.length < 4611686018427387904) :
    Calls Try.prog 24 #[.slice ao l.length cap, tv t] w fun e w' => e = .returned (.bool (decide (t ∈ l))) ∧ Calm w w' := by
  have tA : Calm w (w.alloc (.cells (tc t) 35)) := (Touch.refl _ _).alloc _
  have PL := hide (place_any ao cap l t _ (h.calm tA) hb)
  have H := hide h
  have HH := hide (hs.has t)
  have TA := hide tA
  have HA := hide (heap_alloc_last w (.cells (tc t) 35))
  obtain ⟨⟨c0, c1, c2, c3⟩, -⟩ := cells4 HA.out
  clear h hs hb tA
  obtain ⟨L, hL⟩ : ∃ L, l.length = L := ⟨_, rfl⟩
  have HL := hide hL
  rw [hL] at PL HH ⊢
  clear hL
  generalize decide (t ∈ l) = res at *
  generalize hk : leadT t l = k at *
  clear hk
  go_enter Try.func24, Try.ntmps24
  go_wp2_with fail
  refine PL.out.mono ?_
  rintro e V ⟨rfl, t1⟩
  have HA1 := hide (t1.at HA.out)
  have T1 := hide (TA.out.tr t1)
  clear t1 c0 c1 c2 c3 HA
  go_wp2_with fail
  generalize w.heap.size = A at *
  by_cases hlt : k < L
  · obtain ⟨b, off, e, c0, c1, c2, c3⟩ := (H.out.calm T1.out) k (by rw [HL.out]; exact hlt)
    subst e
    have enk : l[k]'(by rw [HL.out]; exact hlt) = nth l k := (nth_eq _).symm
    rw [enk] at c0 c1 c2 c3
    have hki : (k : Int) < (L : Int) := by omega
    have HRE : Hid (decide (nth l k = t) = res) := hide (by have := HH.out; simpa [hlt] using this)
    generalize nth l k = x at *
    have CE : Hid (∀ W, Calm V W → W.cell? ⟨b, off + k * 4, none⟩ = some (.int .i64 x.at_) ∧ W.cell? ⟨b, off + k * 4 + 1, none⟩ = some (.string x.key) ∧ W.cell? ⟨b, off + k * 4 + 2, none⟩ = some (.int .i64 x.start) ∧ W.cell? ⟨b, off + k * 4 + 3, none⟩ = some (.int .i64 x.stop)) := hide (fun W hW => by
      have g : ∀ {o : Nat} {v : Value}, V.cell? ⟨b, o, none⟩ = some v → W.cell? ⟨b, o, none⟩ = some v := fun {o v} h => (hW.cell (p := ⟨b, o, none⟩) (lt_of_cell h) (fun h => h)).trans h
      exact ⟨g c0, g c1, g c2, g c3⟩)
    clear c0 c1 c2 c3 enk
    refine wp_only ?_
    refine wp_region_held (S := Calm V) (by kernel_rfl) ?_
    have hT0 : Calm V { V with drawn := V.drawn + 1 } := (Touch.refl (fun _ => False) V).drew
    refine wpAnyH_yield 0 9 (.int .i64 (k : Int)) rfl rfl (by kernel_rfl) (by kernel_rfl) (by kernel_rfl) (fun _ _ _ h => h) (by kernel_rfl) (fun W hW => by kernel_rfl) (by assumption) rfl rfl ?_
    simp only [Act.put, List.setIfInBounds_toArray, List.set_cons_zero, List.set_cons_succ]
    refine wpAnyH_yield 1 10 (.slice (some ⟨b, off, none⟩) L cap) rfl rfl (by kernel_rfl) (by kernel_rfl) (by kernel_rfl) (fun _ _ _ h => h) (by kernel_rfl) (fun W hW => by kernel_rfl) (by assumption) rfl rfl ?_
    simp only [Act.put, List.setIfInBounds_toArray, List.set_cons_zero, List.set_cons_succ]
    refine wpAnyH_yield 2 11 (.int .i64 (L : Int)) rfl rfl (by kernel_rfl) (by kernel_rfl) (by kernel_rfl) (fun _ _ _ h => h) (by kernel_rfl) (fun W hW => by kernel_rfl) (by assumption) rfl rfl ?_
    simp only [Act.put, List.setIfInBounds_toArray, List.set_cons_zero, List.set_cons_succ]
    refine wpAnyH_yield 3 12 (.bool true) rfl rfl (by kernel_rfl) (by kernel_rfl) (by kernel_rfl) (fun _ _ _ h => h) (by kernel_rfl) (fun W hW => by go_simp) (by assumption) rfl rfl ?_
    simp only [Act.put, List.setIfInBounds_toArray, List.set_cons_zero, List.set_cons_succ]
    refine wpAnyH_yield 4 13 (.bool true) rfl rfl (by kernel_rfl) (by kernel_rfl) (by kernel_rfl) (fun _ _ _ h => h) (by kernel_rfl) (fun W hW => by kernel_rfl) (by assumption) rfl rfl ?_
    simp only [Act.put, List.setIfInBounds_toArray, List.set_cons_zero, List.set_cons_succ]
    refine wpAnyH_yield 5 14 (.slice (some ⟨b, off, none⟩) L cap) rfl rfl (by kernel_rfl) (by kernel_rfl) (by kernel_rfl) (fun _ _ _ h => h) (by kernel_rfl) (fun W hW => by kernel_rfl) (by assumption) rfl rfl ?_
    simp only [Act.put, List.setIfInBounds_toArray, List.set_cons_zero, List.set_cons_succ]
    refine wpAnyH_yield 6 15 (.int .i64 (k : Int)) rfl rfl (by kernel_rfl) (by kernel_rfl) (by kernel_rfl) (fun _ _ _ h => h) (by kernel_rfl) (fun W hW => by kernel_rfl) (by assumption) rfl rfl ?_
    simp only [Act.put, List.setIfInBounds_toArray, List.set_cons_zero, List.set_cons_succ]
    refine wpAnyH_yield 7 16 (.pointer (some ⟨b, off + k * 4, none⟩)) rfl rfl (by kernel_rfl) (by kernel_rfl) (by kernel_rfl) (fun _ _ _ h => h) (by kernel_rfl) (fun W hW => by go_simp) (by assumption) rfl rfl ?_
    simp only [Act.put, List.setIfInBounds_toArray, List.set_cons_zero, List.set_cons_succ]
    refine wpAnyH_yield 8 17 (tv x) rfl rfl (by kernel_rfl) (by kernel_rfl) (by kernel_rfl) (fun _ _ _ h => h) (by kernel_rfl) (fun W hW => by obtain ⟨c0, c1, c2, c3⟩ := CE.out W hW; go_simp) (by assumption) rfl rfl ?_
    simp only [Act.put, List.setIfInBounds_toArray, List.set_cons_zero, List.set_cons_succ]
    refine wpAnyH_yield 9 18 (tv t) rfl rfl (by kernel_rfl) (by kernel_rfl) (by kernel_rfl) (fun _ _ _ h => h) (by kernel_rfl) (fun W hW => by obtain ⟨⟨c0, c1, c2, c3⟩, -⟩ := cells4 (hW.at HA1.out); go_simp) (by assumption) rfl rfl ?_
    simp only [Act.put, List.setIfInBounds_toArray, List.set_cons_zero, List.set_cons_succ]
    refine wpAnyH_yield 10 19 (.bool res) rfl rfl (by kernel_rfl) (by kernel_rfl) (by kernel_rfl) (fun _ _ _ h => h) (by kernel_rfl) (fun W hW => exec_bin rfl (by kernel_rfl) (by have he := eql_tm x t W; rw [HRE.out] at he; exact he)) (by assumption) rfl rfl ?_
    simp only [Act.put, List.setIfInBounds_toArray, List.set_cons_zero, List.set_cons_succ]
    refine wpAnyH_yield 11 20 (.bool res) rfl rfl (by kernel_rfl) (by kernel_rfl) (by kernel_rfl) (fun _ _ _ h => h) (by kernel_rfl) (fun W hW => by kernel_rfl) (by assumption) rfl rfl ?_
    simp only [Act.put, List.setIfInBounds_toArray, List.set_cons_zero, List.set_cons_succ]
    refine wpAnyH_yield 12 4 (.bool res) rfl rfl (by kernel_rfl) (by kernel_rfl) (by kernel_rfl) (fun _ _ _ h => h) (by kernel_rfl) (fun W hW => by kernel_rfl) (by assumption) rfl rfl ?_
    simp only [Act.put, List.setIfInBounds_toArray, List.set_cons_zero, List.set_cons_succ]
    refine wpAnyH_done (by kernel_rfl) ?_ _
    rw [onlyN_normal]
    have T9 := hide (T1.out.tr hT0)
    clear hT0
    go_wp2_with fail
    go_ret
    exact ⟨rfl, T9.out⟩
  · have hki : ¬ (k : Int) < (L : Int) := by omega
    have HRE : Hid (res = false) := hide (by have := HH.out; simp [hlt] at this; exact this)
    refine wp_only ?_
    refine wp_region_held (S := Calm V) (by kernel_rfl) ?_
    have hT0 : Calm V { V with drawn := V.drawn + 1 } := (Touch.refl (fun _ => False) V).drew
    refine wpAnyH_yield 0 9 (.int .i64 (k : Int)) rfl rfl (by kernel_rfl) (by kernel_rfl) (by kernel_rfl) (fun _ _ _ h => h) (by kernel_rfl) (fun W hW => by kernel_rfl) (by assumption) rfl rfl ?_
    simp only [Act.put, List.setIfInBounds_toArray, List.set_cons_zero, List.set_cons_succ]
    refine wpAnyH_yield 1 10 (.slice ao L cap) rfl rfl (by kernel_rfl) (by kernel_rfl) (by kernel_rfl) (fun _ _ _ h => h) (by kernel_rfl) (fun W hW => by kernel_rfl) (by assumption) rfl rfl ?_
    simp only [Act.put, List.setIfInBounds_toArray, List.set_cons_zero, List.set_cons_succ]
    refine wpAnyH_yield 2 11 (.int .i64 (L : Int)) rfl rfl (by kernel_rfl) (by kernel_rfl) (by kernel_rfl) (fun _ _ _ h => h) (by kernel_rfl) (fun W hW => by kernel_rfl) (by assumption) rfl rfl ?_
    simp only [Act.put, List.setIfInBounds_toArray, List.set_cons_zero, List.set_cons_succ]
    refine wpAnyH_yield 3 12 (.bool false) rfl rfl (by kernel_rfl) (by kernel_rfl) (by kernel_rfl) (fun _ _ _ h => h) (by kernel_rfl) (fun W hW => by go_simp) (by assumption) rfl rfl ?_
    simp only [Act.put, List.setIfInBounds_toArray, List.set_cons_zero, List.set_cons_succ]
    refine wpAnyH_yield 4 13 (.bool false) rfl rfl (by kernel_rfl) (by kernel_rfl) (by kernel_rfl) (fun _ _ _ h => h) (by kernel_rfl) (fun W hW => by kernel_rfl) (by assumption) rfl rfl ?_
    simp only [Act.put, List.setIfInBounds_toArray, List.set_cons_zero, List.set_cons_succ]
    refine wpAnyH_skip 5 14 rfl rfl (by kernel_rfl) (by kernel_rfl) (by kernel_rfl) (fun _ _ _ h => h) (by kernel_rfl) (by assumption) rfl rfl ?_
    simp only [Act.put, List.setIfInBounds_toArray, List.set_cons_zero, List.set_cons_succ]
    refine wpAnyH_skip 6 15 rfl rfl (by kernel_rfl) (by kernel_rfl) (by kernel_rfl) (fun _ _ _ h => h) (by kernel_rfl) (by assumption) rfl rfl ?_
    simp only [Act.put, List.setIfInBounds_toArray, List.set_cons_zero, List.set_cons_succ]
    refine wpAnyH_skip 7 16 rfl rfl (by kernel_rfl) (by kernel_rfl) (by kernel_rfl) (fun _ _ _ h => h) (by kernel_rfl) (by assumption) rfl rfl ?_
    simp only [Act.put, List.setIfInBounds_toArray, List.set_cons_zero, List.set_cons_succ]
    refine wpAnyH_skip 8 17 rfl rfl (by kernel_rfl) (by kernel_rfl) (by kernel_rfl) (fun _ _ _ h => h) (by kernel_rfl) (by assumption) rfl rfl ?_
    simp only [Act.put, List.setIfInBounds_toArray, List.set_cons_zero, List.set_cons_succ]
    refine wpAnyH_skip 9 18 rfl rfl (by kernel_rfl) (by kernel_rfl) (by kernel_rfl) (fun _ _ _ h => h) (by kernel_rfl) (by assumption) rfl rfl ?_
    simp only [Act.put, List.setIfInBounds_toArray, List.set_cons_zero, List.set_cons_succ]
    refine wpAnyH_skip 10 19 rfl rfl (by kernel_rfl) (by kernel_rfl) (by kernel_rfl) (fun _ _ _ h => h) (by kernel_rfl) (by assumption) rfl rfl ?_
    simp only [Act.put, List.setIfInBounds_toArray, List.set_cons_zero, List.set_cons_succ]
    refine wpAnyH_yield 11 20 (.bool false) rfl rfl (by kernel_rfl) (by kernel_rfl) (by kernel_rfl) (fun _ _ _ h => h) (by kernel_rfl) (fun W hW => by kernel_rfl) (by assumption) rfl rfl ?_
    simp only [Act.put, List.setIfInBounds_toArray, List.set_cons_zero, List.set_cons_succ]
    refine wpAnyH_yield 12 4 (.bool false) rfl rfl (by kernel_rfl) (by kernel_rfl) (by kernel_rfl) (fun _ _ _ h => h) (by kernel_rfl) (fun W hW => by kernel_rfl) (by assumption) rfl rfl ?_
    simp only [Act.put, List.setIfInBounds_toArray, List.set_cons_zero, List.set_cons_succ]
    refine wpAnyH_done (by kernel_rfl) ?_ _
    rw [onlyN_normal]
    have T9 := hide (T1.out.tr hT0)
    clear hT0
    go_wp2_with fail
    go_ret
    exact ⟨by rw [HRE.out]; rfl, T9.out⟩

end Go.Proofs.Ytlnblhajcbmmkaa
