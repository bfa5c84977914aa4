/- A timer rises. -/
import Derived.Test.YtlnblhajcbmmkaaTLay
import Derived.Test.YtlnblhajcbmmkaaTHole
namespace Go.Proofs.Ytlnblhajcbmmkaa
open Go.RowKit

/-- What rise and sink do. -/
def UpR (w : World) (q base g cap mb L : Nat) (V0 : List Tm) (e : Ending) (w' : World) : Prop :=
  (∃ v, e = .returned v) ∧ ∃ V f', Qm w' q base (some ⟨g, 0, none⟩) cap mb V V.length f' ∧ Heap V f' ∧ (∀ x, x ∈ V ↔ x ∈ V0) ∧ V.length = L ∧ Touch (fun x => x = g ∨ x = mb) w w'

theorem half (p : Nat) : ((p - 1 : Nat) : Int).tdiv 2 = (((p - 1) / 2 : Nat) : Int) := by rw [Int.tdiv_eq_ediv_of_nonneg (by omega)]; omega

set_option maxRecDepth 100000 in
set_option maxHeartbeats 2000000 in
theorem rise_any (q base g cap mb n L p0 : Nat) (R : List Tm) (f : Tm → Option Nat) (t : Tm) (b : Bool) (V0 : List Tm) (w : World) (h : Qm w q base (some ⟨g, 0, none⟩) cap mb R n f) (ho : Hole V0 t b R p0 f) (hr : Rord (R.set p0 t) p0) (hc : n + (if b then 0 else 1) = L) (hl : R.length = L) (hL : L < 4611686018427387904) (gt : Good t) :
    Calls Try.prog 47 #[.pointer (some ⟨q, 0, none⟩), .int .i64 (p0 : Int), tv t] w (UpR w q base g cap mb L V0) := by
  have HQ := hide h
  have HO0 := hide ho
  have HR0 := hide hr
  have HC := hide hc
  have HL0 := hide hl
  have HB := hide hL
  have GT := hide gt
  have HNM : Hid (n < maxLen) := hide (by unfold maxLen; split at hc <;> omega)
  clear h ho hr hc hl hL gt
  go_enter Try.func47, Try.ntmps47
  go_wp2_with fail
  obtain ⟨A, eA⟩ : ∃ A, A = w.heap.size := ⟨_, rfl⟩
  obtain ⟨w0, ew0⟩ : ∃ w0, w0 = w.alloc (.cells #[.int .i64 t.at_, .string t.key, .int .i64 t.start, .int .i64 t.stop] 35) := ⟨_, rfl⟩
  have tA : Calm w w0 := by rw [ew0]; exact (Touch.refl _ _).alloc _
  have HA : Hid (w0.heap[A]? = some (.cells (tc t) 35 (0, 0))) := hide (by rw [ew0, eA]; exact heap_alloc_last w _)
  have HQ0 := hide (HQ.out.calm tA)
  have TA := hide tA
  have HAG : Hid (¬ (A = g ∨ A = mb)) := hide (by have := HQ.out.apart; have := (this.2.2.2 _ rfl).2.2.1; simp at this; omega)
  rw [← eA, ← ew0]
  clear tA eA ew0
  go_loopw [1] (fun v wr => ∃ (p : Nat) (R1 : List Tm) (f1 : Tm → Option Nat), v = .int .i64 (p : Int) ∧ Hole V0 t b R1 p f1 ∧ Rord (R1.set p t) p ∧ R1.length = L ∧ Qm wr q base (some ⟨g, 0, none⟩) cap mb R1 n f1 ∧ wr.heap[A]? = some (.cells (tc t) 35 (0, 0)) ∧ Touch (fun x => x = g ∨ x = mb) w wr) (fun v _ => (intOf v).toNat)
  case atStart => exact ⟨p0, R, f, rfl, HO0.out, HR0.out, HL0.out, HQ0.out, HA.out, TA.out.mono (fun _ _ h => h.elim)⟩
  case round =>
    clear HQ0 HA TA HQ HO0 HR0 HL0
    obtain ⟨p, R1, f1, rfl, ho, hr, hl, q1, ha, t1⟩ := hrel
    have HO := hide ho
    have HRO := hide hr
    have HL := hide hl
    have Q1 := hide q1
    have HA1 := hide ha
    have T1 := hide t1
    have HB1 : Hid (R1.length < 9223372036854775808) := hide (by have := HB.out; omega)
    have hpl : p < L := by rw [← hl]; exact ho.lt
    by_cases hp0 : p = 0
    · subst hp0
      clear ho hr hl q1 ha t1
      have LY := hide (lay_any q base g cap mb 0 n R1 f1 t)
      have FI := hide (HO.out.fill (by exact rise_done HRO.out (.inl rfl)))
      have c0 := (cells4 HA1.out).1
      obtain ⟨c0, c1, c2, c3⟩ := c0
      go_wp2_with fail
      refine (LY.out _ Q1.out HO.out.lt GT.out HNM.out HB1.out).mono ?_
      rintro e w9 ⟨⟨v9, rfl⟩, q9, t9⟩
      have hn9 : (if (f1 t).isSome = true then n else n + 1) = (R1.set 0 t).length := by rw [HO.out.own, List.length_set, HL.out]; have := HC.out; cases b <;> simp at this ⊢ <;> omega
      rw [hn9] at q9
      have RES : Hid (∃ V f', Qm w9 q base (some ⟨g, 0, none⟩) cap mb V V.length f' ∧ Heap V f' ∧ (∀ x, x ∈ V ↔ x ∈ V0) ∧ V.length = L ∧ Touch (fun x => x = g ∨ x = mb) w w9) := hide ⟨_, _, q9, FI.out, HO.out.mem, by rw [List.length_set, HL.out], T1.out.trans t9 (fun _ _ h => h)⟩
      clear hn9 q9 t9 c0 c1 c2 c3
      go_wp2_with fail
      go_end0
      exact ⟨⟨_, rfl⟩, RES.out⟩
    · have hpp : (0 : Int) < (p : Int) := by omega
      have hsub : wrap64 ((p : Int) - 1) = ((p - 1 : Nat) : Int) := by have := HB.out; unfold wrap64; omega
      have hquo := half p
      have hq1 : (p - 1) / 2 < R1.length := by omega
      have HQ1 := hide hq1
      have HQP : Hid ((p - 1) / 2 ≠ p) := hide (by omega)
      have hqi : (((p - 1) / 2 : Nat) : Int) < (L : Int) := by omega
      have HLE : Hid ((p - 1) / 2 < p) := hide (by omega)
      have HP0 := hide hp0
      clear ho hr hl q1 ha t1 hq1 hpl hp0
      generalize hqq : (p - 1) / 2 = a at *
      have HQQ := hide hqq
      have hwa : wrap64 ((a : Nat) : Int) = (a : Int) := by have := HB.out; unfold wrap64; omega
      clear hqq
      go_wp2_with fail
      rw [hwa]
      clear hsub hquo hpp hwa
      rename World => V
      by_cases hlt : cmpT (nth R1 a) t < 0
      · refine wp_only ?_
        refine wp_region_held (S := Calm V) (by kernel_rfl) ?_
        have hT0 : Calm V { V with drawn := V.drawn + 1 } := (Touch.refl (fun _ => False) V).drew
        refine wpAnyH_yield 0 12 (.pointer (some ⟨q, 0, none⟩)) rfl rfl (by kernel_rfl) (by kernel_rfl) (by kernel_rfl) (fun _ _ _ h => h) (by kernel_rfl) (fun W hW => by kernel_rfl) (by assumption) rfl rfl ?_
        simp only [Act.put, List.setIfInBounds_toArray, List.set_cons_zero, List.set_cons_succ]
        refine wpAnyH_yield 1 13 (.pointer (some ⟨q, 0, none⟩)) rfl rfl (by kernel_rfl) (by kernel_rfl) (by kernel_rfl) (fun _ _ _ h => h) (by kernel_rfl) (fun W hW => by kernel_rfl) (by assumption) rfl rfl ?_
        simp only [Act.put, List.setIfInBounds_toArray, List.set_cons_zero, List.set_cons_succ]
        refine wpAnyH_yield 2 14 (.pointer (some ⟨q, 0, none⟩)) rfl rfl (by kernel_rfl) (by kernel_rfl) (by kernel_rfl) (fun _ _ _ h => h) (by kernel_rfl) (fun W hW => by go_simp) (by assumption) rfl rfl ?_
        simp only [Act.put, List.setIfInBounds_toArray, List.set_cons_zero, List.set_cons_succ]
        refine wpAnyH_yield 3 15 (.slice (some ⟨g, 0, none⟩) L cap) rfl rfl (by kernel_rfl) (by kernel_rfl) (by kernel_rfl) (fun _ _ _ h => h) (by kernel_rfl) (fun W hW => by obtain ⟨c0, c1⟩ := (Q1.out.calm hW).cells; rw [HL.out] at c0; go_simp) (by assumption) rfl rfl ?_
        simp only [Act.put, List.setIfInBounds_toArray, List.set_cons_zero, List.set_cons_succ]
        refine wpAnyH_yield 4 16 (.int .i64 (a : Int)) rfl rfl (by kernel_rfl) (by kernel_rfl) (by kernel_rfl) (fun _ _ _ h => h) (by kernel_rfl) (fun W hW => by kernel_rfl) (by assumption) rfl rfl ?_
        simp only [Act.put, List.setIfInBounds_toArray, List.set_cons_zero, List.set_cons_succ]
        refine wpAnyH_yield 5 17 (.pointer (some ⟨g, a * 4, none⟩)) rfl rfl (by kernel_rfl) (by kernel_rfl) (by kernel_rfl) (fun _ _ _ h => h) (by kernel_rfl) (fun W hW => by go_simp) (by assumption) rfl rfl ?_
        simp only [Act.put, List.setIfInBounds_toArray, List.set_cons_zero, List.set_cons_succ]
        refine wpAnyH_yield 6 18 (tv (nth R1 a)) rfl rfl (by kernel_rfl) (by kernel_rfl) (by kernel_rfl) (fun _ _ _ h => h) (by kernel_rfl) (fun W hW => by obtain ⟨c0, c1, c2, c3⟩ := (Q1.out.calm hW).at_ HQ1.out; go_simp) (by assumption) rfl rfl ?_
        simp only [Act.put, List.setIfInBounds_toArray, List.set_cons_zero, List.set_cons_succ]
        refine wpAnyH_yield 7 19 (tv t) rfl rfl (by kernel_rfl) (by kernel_rfl) (by kernel_rfl) (fun _ _ _ h => h) (by kernel_rfl) (fun W hW => by obtain ⟨⟨c0, c1, c2, c3⟩, -⟩ := cells4 (hW.at HA1.out); go_simp) (by assumption) rfl rfl ?_
        simp only [Act.put, List.setIfInBounds_toArray, List.set_cons_zero, List.set_cons_succ]
        refine wpAnyH_enter 8 20 16 #[tv (nth R1 a), tv t] rfl rfl (by kernel_rfl) (by kernel_rfl) (by kernel_rfl) ?_
        refine (compareT_any _ _ _).mono ?_
        rintro e y ⟨rfl, hy⟩
        have ty : Calm V y := by rw [hy]; exact (hT0.alloc _).alloc _
        refine ⟨_, rfl, ty, ?_⟩
        simp only [Act.put, List.setIfInBounds_toArray, List.set_cons_zero, List.set_cons_succ]
        refine wpAnyH_yield 9 21 (.bool true) rfl rfl (by kernel_rfl) (by kernel_rfl) (by kernel_rfl) (fun _ _ _ h => h) (by kernel_rfl) (fun W hW => by go_simp) (by assumption) rfl rfl ?_
        simp only [Act.put, List.setIfInBounds_toArray, List.set_cons_zero, List.set_cons_succ]
        refine wpAnyH_done (by kernel_rfl) ?_ _
        rw [onlyN_normal]
        have Q1' := hide (Q1.out.calm ty)
        have HA1' := hide (ty.at HA1.out)
        have T1' : Hid (Touch (fun x => x = g ∨ x = mb) w y) := hide (T1.out.trans (ty.mono (fun _ _ h => h.elim)) (fun _ _ h => h))
        have HLT : Hid (p = 0 ∨ cmpT (nth (R1.set p t) ((p - 1) / 2)) (nth (R1.set p t) p) < 0) := hide (.inr (by rw [HQQ.out, nth_set_other HQP.out, nth_set_same HO.out.lt]; exact hlt))
        clear hT0 ty hy hlt Q1 HA1 T1 hqi
        have Q1 := hide Q1'.out
        have HA1 := hide HA1'.out
        have T1 := hide T1'.out
        clear Q1' HA1' T1'
        have LY := hide (lay_any q base g cap mb p n R1 f1 t)
        have FI := hide (HO.out.fill (by exact rise_done HRO.out HLT.out))
        have c0 := (cells4 HA1.out).1
        obtain ⟨c0, c1, c2, c3⟩ := c0
        go_wp2_with fail
        refine (LY.out _ Q1.out HO.out.lt GT.out HNM.out HB1.out).mono ?_
        rintro e w9 ⟨⟨v9, rfl⟩, q9, t9⟩
        have hn9 : (if (f1 t).isSome = true then n else n + 1) = (R1.set p t).length := by rw [HO.out.own, List.length_set, HL.out]; have := HC.out; cases b <;> simp at this ⊢ <;> omega
        rw [hn9] at q9
        have RES : Hid (∃ V f', Qm w9 q base (some ⟨g, 0, none⟩) cap mb V V.length f' ∧ Heap V f' ∧ (∀ x, x ∈ V ↔ x ∈ V0) ∧ V.length = L ∧ Touch (fun x => x = g ∨ x = mb) w w9) := hide ⟨_, _, q9, FI.out, HO.out.mem, by rw [List.length_set, HL.out], T1.out.trans t9 (fun _ _ h => h)⟩
        clear hn9 q9 t9 c0 c1 c2 c3
        go_wp2_with fail
        go_end0
        exact ⟨⟨_, rfl⟩, RES.out⟩
      · refine wp_only ?_
        refine wp_region_held (S := Calm V) (by kernel_rfl) ?_
        have hT0 : Calm V { V with drawn := V.drawn + 1 } := (Touch.refl (fun _ => False) V).drew
        refine wpAnyH_yield 0 12 (.pointer (some ⟨q, 0, none⟩)) rfl rfl (by kernel_rfl) (by kernel_rfl) (by kernel_rfl) (fun _ _ _ h => h) (by kernel_rfl) (fun W hW => by kernel_rfl) (by assumption) rfl rfl ?_
        simp only [Act.put, List.setIfInBounds_toArray, List.set_cons_zero, List.set_cons_succ]
        refine wpAnyH_yield 1 13 (.pointer (some ⟨q, 0, none⟩)) rfl rfl (by kernel_rfl) (by kernel_rfl) (by kernel_rfl) (fun _ _ _ h => h) (by kernel_rfl) (fun W hW => by kernel_rfl) (by assumption) rfl rfl ?_
        simp only [Act.put, List.setIfInBounds_toArray, List.set_cons_zero, List.set_cons_succ]
        refine wpAnyH_yield 2 14 (.pointer (some ⟨q, 0, none⟩)) rfl rfl (by kernel_rfl) (by kernel_rfl) (by kernel_rfl) (fun _ _ _ h => h) (by kernel_rfl) (fun W hW => by go_simp) (by assumption) rfl rfl ?_
        simp only [Act.put, List.setIfInBounds_toArray, List.set_cons_zero, List.set_cons_succ]
        refine wpAnyH_yield 3 15 (.slice (some ⟨g, 0, none⟩) L cap) rfl rfl (by kernel_rfl) (by kernel_rfl) (by kernel_rfl) (fun _ _ _ h => h) (by kernel_rfl) (fun W hW => by obtain ⟨c0, c1⟩ := (Q1.out.calm hW).cells; rw [HL.out] at c0; go_simp) (by assumption) rfl rfl ?_
        simp only [Act.put, List.setIfInBounds_toArray, List.set_cons_zero, List.set_cons_succ]
        refine wpAnyH_yield 4 16 (.int .i64 (a : Int)) rfl rfl (by kernel_rfl) (by kernel_rfl) (by kernel_rfl) (fun _ _ _ h => h) (by kernel_rfl) (fun W hW => by kernel_rfl) (by assumption) rfl rfl ?_
        simp only [Act.put, List.setIfInBounds_toArray, List.set_cons_zero, List.set_cons_succ]
        refine wpAnyH_yield 5 17 (.pointer (some ⟨g, a * 4, none⟩)) rfl rfl (by kernel_rfl) (by kernel_rfl) (by kernel_rfl) (fun _ _ _ h => h) (by kernel_rfl) (fun W hW => by go_simp) (by assumption) rfl rfl ?_
        simp only [Act.put, List.setIfInBounds_toArray, List.set_cons_zero, List.set_cons_succ]
        refine wpAnyH_yield 6 18 (tv (nth R1 a)) rfl rfl (by kernel_rfl) (by kernel_rfl) (by kernel_rfl) (fun _ _ _ h => h) (by kernel_rfl) (fun W hW => by obtain ⟨c0, c1, c2, c3⟩ := (Q1.out.calm hW).at_ HQ1.out; go_simp) (by assumption) rfl rfl ?_
        simp only [Act.put, List.setIfInBounds_toArray, List.set_cons_zero, List.set_cons_succ]
        refine wpAnyH_yield 7 19 (tv t) rfl rfl (by kernel_rfl) (by kernel_rfl) (by kernel_rfl) (fun _ _ _ h => h) (by kernel_rfl) (fun W hW => by obtain ⟨⟨c0, c1, c2, c3⟩, -⟩ := cells4 (hW.at HA1.out); go_simp) (by assumption) rfl rfl ?_
        simp only [Act.put, List.setIfInBounds_toArray, List.set_cons_zero, List.set_cons_succ]
        refine wpAnyH_enter 8 20 16 #[tv (nth R1 a), tv t] rfl rfl (by kernel_rfl) (by kernel_rfl) (by kernel_rfl) ?_
        refine (compareT_any _ _ _).mono ?_
        rintro e y ⟨rfl, hy⟩
        have ty : Calm V y := by rw [hy]; exact (hT0.alloc _).alloc _
        refine ⟨_, rfl, ty, ?_⟩
        simp only [Act.put, List.setIfInBounds_toArray, List.set_cons_zero, List.set_cons_succ]
        refine wpAnyH_yield 9 21 (.bool false) rfl rfl (by kernel_rfl) (by kernel_rfl) (by kernel_rfl) (fun _ _ _ h => h) (by kernel_rfl) (fun W hW => by go_simp) (by assumption) rfl rfl ?_
        simp only [Act.put, List.setIfInBounds_toArray, List.set_cons_zero, List.set_cons_succ]
        refine wpAnyH_done (by kernel_rfl) ?_ _
        rw [onlyN_normal]
        have Q2 := hide (Q1.out.calm ty)
        have HA2 := hide (ty.at HA1.out)
        have T2 : Hid (Touch (fun x => x = g ∨ x = mb) w y) := hide (T1.out.trans (ty.mono (fun _ _ h => h.elim)) (fun _ _ h => h))
        obtain ⟨hs, hsm⟩ := HO.out.step HQ1.out HQP.out
        have HST := hide hs
        have HSM := hide hsm
        have HGT : Hid (cmpT t (nth R1 a) < 0) := hide (cgt hlt (HO.out.ne HQ1.out HQP.out))
        have HRS : Hid (Rord ((R1.set p (nth R1 a)).set a t) a) := hide (by
          have := rise_step HO.out.lt (by have := HP0.out; omega) HRO.out (by rw [HQQ.out]; exact HGT.out)
          rw [HQQ.out] at this; exact this)
        have HGD : Hid (Good (nth R1 a)) := hide (Q1.out.good _ (mem_nth.2 ⟨a, HQ1.out, rfl⟩))
        have LY := hide (lay_any q base g cap mb p n R1 f1 (nth R1 a))
        obtain ⟨c0, c1⟩ := Q2.out.cells
        rw [HL.out] at c0
        obtain ⟨d0, d1, d2, d3⟩ := Q2.out.at_ HQ1.out
        clear hT0 ty hy hlt Q1 HA1 T1 hs hsm
        go_wp2_with fail
        refine (LY.out _ Q2.out HO.out.lt HGD.out HNM.out HB1.out).mono ?_
        rintro e w9 ⟨⟨v9, rfl⟩, q9, t9⟩
        rw [if_pos HSM.out] at q9
        have Q9 := hide q9
        have HA9 := hide (t9.heap HA2.out HAG.out)
        have T9 := hide (T2.out.trans t9 (fun _ _ h => h))
        clear q9 t9 c0 c1 d0 d1 d2 d3 Q2 HA2 T2 LY
        go_wp2_with fail
        go_roundw
        case rel => exact ⟨a, _, _, rfl, HST.out, HRS.out, by rw [List.length_set]; exact HL.out, Q9.out, HA9.out, T9.out⟩
        case measure => have := HLE.out; simp [intOf]; omega

end Go.Proofs.Ytlnblhajcbmmkaa
