/- A timer sinks. -/
import Derived.Test.YtlnblhajcbmmkaaTBel
import Derived.Test.YtlnblhajcbmmkaaGScope
namespace Go.Proofs.Ytlnblhajcbmmkaa
open Go.RowKit

theorem fb_spec {V0 R : List Tm} {t : Tm} {b : Bool} {p : Nat} {f : Tm → Option Nat} (h : Hole V0 t b R p f) :
    (fb R p = R.length ∧ ∀ c, 0 < c → c < R.length → (c - 1) / 2 = p → False) ∨ (fb R p < R.length ∧ p < fb R p ∧ (fb R p - 1) / 2 = p ∧ ∀ c, 0 < c → c < R.length → (c - 1) / 2 = p → c ≠ fb R p → cmpT (nth R (fb R p)) (nth R c) < 0) := by
  unfold fb
  by_cases h1 : R.length ≤ 2 * p + 1
  · rw [if_pos h1]
    exact .inl ⟨rfl, fun c hc hl e => by omega⟩
  · rw [if_neg h1]
    by_cases h2 : 2 * p + 2 < R.length ∧ cmpT (nth R (2 * p + 2)) (nth R (2 * p + 1)) < 0
    · rw [if_pos h2]
      refine .inr ⟨h2.1, by omega, by omega, fun c hc hl e hn => ?_⟩
      have : c = 2 * p + 1 := by omega
      rw [this]; exact h2.2
    · rw [if_neg h2]
      refine .inr ⟨by omega, by omega, by omega, fun c hc hl e hn => ?_⟩
      have hc2 : c = 2 * p + 2 := by omega
      rw [hc2] at hl ⊢
      exact cgt (fun h3 => h2 ⟨hl, h3⟩) (h.apart hl (by omega) (by omega) (by omega) (by omega))

set_option maxRecDepth 100000 in
set_option maxHeartbeats 2000000 in
theorem sink_any (q base g cap mb n L p0 : Nat) (R : List Tm) (f : Tm → Option Nat) (t : Tm) (b : Bool) (V0 : List Tm) (w : World) (h : Qm w q base (some ⟨g, 0, none⟩) cap mb R n f) (ho : Hole V0 t b R p0 f) (hr : Sord (R.set p0 t) p0) (hc : n + (if b then 0 else 1) = L) (hl : R.length = L) (hL : L < 4611686018427387904) (gt : Good t) :
    Calls Try.prog 46 #[.pointer (some ⟨q, 0, none⟩), .int .i64 (p0 : Int), tv t] w (UpR w q base g cap mb L V0) := by
  have HQ := hide h
  have HO0 := hide ho
  have HR0 := hide hr
  have HC := hide hc
  have HL0 := hide hl
  have HB := hide hL
  have GT := hide gt
  have HNM : Hid (n < maxLen) := hide (by unfold maxLen; split at hc <;> omega)
  clear h ho hr hc hl hL gt
  go_enter Try.func46, Try.ntmps46
  go_wp2_with fail
  obtain ⟨A, eA⟩ : ∃ A, A = w.heap.size := ⟨_, rfl⟩
  obtain ⟨w0, ew0⟩ : ∃ w0, w0 = w.alloc (.cells #[.int .i64 t.at_, .string t.key, .int .i64 t.start, .int .i64 t.stop] 35) := ⟨_, rfl⟩
  have tA : Calm w w0 := by rw [ew0]; exact (Touch.refl _ _).alloc _
  have HA : Hid (w0.heap[A]? = some (.cells (tc t) 35 (0, 0))) := hide (by rw [ew0, eA]; exact heap_alloc_last w _)
  have HQ0 := hide (HQ.out.calm tA)
  have TA := hide tA
  have HAG : Hid (¬ (A = g ∨ A = mb)) := hide (by have := HQ.out.apart; have := (this.2.2.2 _ rfl).2.2.1; simp at this; omega)
  rw [← eA, ← ew0]
  clear tA eA ew0
  refine wp_scope_straight ?_
  go_wp2_with fail
  refine wp_label ?_
  go_wp2_with fail
  go_loopw [1] (fun v wr => ∃ (p : Nat) (R1 : List Tm) (f1 : Tm → Option Nat), v = .int .i64 (p : Int) ∧ Hole V0 t b R1 p f1 ∧ Sord (R1.set p t) p ∧ R1.length = L ∧ Qm wr q base (some ⟨g, 0, none⟩) cap mb R1 n f1 ∧ wr.heap[A]? = some (.cells (tc t) 35 (0, 0)) ∧ Touch (fun x => x = g ∨ x = mb) w wr) (fun v _ => L - (intOf v).toNat)
  case atStart => exact ⟨p0, R, f, rfl, HO0.out, HR0.out, HL0.out, HQ0.out, HA.out, TA.out.mono (fun _ _ h => h.elim)⟩
  case round =>
    clear HQ0 HA TA HQ HO0 HR0 HL0
    obtain ⟨p, R1, f1, rfl, ho, hr, hl, q1, ha, t1⟩ := hrel
    have HO := hide ho
    have HSO := hide hr
    have HL := hide hl
    have HPL : Hid (p < L) := hide (by rw [← hl]; exact ho.lt)
    have BE := hide (below_any q base g cap mb n L p R1 f1 wr q1 HPL.out hl HB.out)
    have FS := hide (fb_spec ho)
    have HB1 : Hid (R1.length < 9223372036854775808) := hide (by have := HB.out; omega)
    have Q0 := hide q1
    have A0 := hide ha
    have T0 := hide t1
    clear ho hr hl q1 ha t1
    generalize hfb : fb R1 p = a at *
    clear hfb
    go_wp2_with fail
    refine BE.out.mono ?_
    rintro e V ⟨rfl, tV⟩
    have Q1 := hide (Q0.out.calm tV)
    have HA1 := hide (tV.at A0.out)
    have T1 : Hid (Touch (fun x => x = g ∨ x = mb) w V) := hide (T0.out.trans (tV.mono (fun _ _ h => h.elim)) (fun _ _ h => h))
    clear Q0 A0 T0 tV BE
    obtain ⟨c0, c1⟩ := Q1.out.cells
    rw [HL.out] at c0
    rcases FS.out with ⟨fe, fc⟩ | ⟨fl, fp, fe, fc⟩
    · have e : L = a := (fe.trans HL.out).symm
      subst e
      have HRO : Hid (Rord (R1.set p t) p) := hide (sink_done HSO.out (fun c hc hl e => (fc c hc (by simpa using hl) e).elim))
      clear fe fc FS
      have RI := hide (rise_any q base g cap mb n L p R1 f1 t b V0 V Q1.out HO.out HRO.out HC.out HL.out HB.out GT.out)
      obtain ⟨⟨c0, c1, c2, c3⟩, -⟩ := cells4 HA1.out
      go_wp2_with fail
      refine RI.out.mono ?_
      rintro e w9 ⟨⟨v9, rfl⟩, V9, f9, q9, h9, m9, l9, t9⟩
      have RES : Hid (∃ V f', Qm w9 q base (some ⟨g, 0, none⟩) cap mb V V.length f' ∧ Heap V f' ∧ (∀ x, x ∈ V ↔ x ∈ V0) ∧ V.length = L ∧ Touch (fun x => x = g ∨ x = mb) w w9) := hide ⟨V9, f9, q9, h9, m9, l9, T1.out.trans t9 (fun _ _ h => h)⟩
      clear q9 h9 m9 l9 t9 c0 c1 c2 c3
      go_wp2_with fail
      rw [Exit.noGoto_normal]
      go_end0
      exact ⟨⟨_, rfl⟩, RES.out⟩
    · have hne : ((a : Int) == (L : Int)) = false := by rw [beq_eq_false_iff_ne]; have := HL.out; omega
      have hai : (a : Int) < (L : Int) := by have := HL.out; omega
      have HQ1 := hide fl
      have HFP := hide fp
      have HQP : Hid (a ≠ p) := hide (by omega)
      have HFC := hide fc
      have HFE := hide fe
      have hneN : ¬ a = L := by have := HL.out; omega
      clear fl fp fe fc FS
      go_wp2_with fail
      clear c0 c1 hne hneN
      by_cases hlt : cmpT t (nth R1 a) < 0
      · refine wp_only ?_
        refine wp_region_held (S := Calm V) (by kernel_rfl) ?_
        have hT0 : Calm V { V with drawn := V.drawn + 1 } := (Touch.refl (fun _ => False) V).drew
        refine wpAnyH_yield 0 19 (tv t) rfl rfl (by kernel_rfl) (by kernel_rfl) (by kernel_rfl) (fun _ _ _ h => h) (by kernel_rfl) (fun W hW => by obtain ⟨⟨c0, c1, c2, c3⟩, -⟩ := cells4 (hW.at HA1.out); go_simp) (by assumption) rfl rfl ?_
        simp only [Act.put, List.setIfInBounds_toArray, List.set_cons_zero, List.set_cons_succ]
        refine wpAnyH_yield 1 20 (.pointer (some ⟨q, 0, none⟩)) rfl rfl (by kernel_rfl) (by kernel_rfl) (by kernel_rfl) (fun _ _ _ h => h) (by kernel_rfl) (fun W hW => by kernel_rfl) (by assumption) rfl rfl ?_
        simp only [Act.put, List.setIfInBounds_toArray, List.set_cons_zero, List.set_cons_succ]
        refine wpAnyH_yield 2 21 (.pointer (some ⟨q, 0, none⟩)) rfl rfl (by kernel_rfl) (by kernel_rfl) (by kernel_rfl) (fun _ _ _ h => h) (by kernel_rfl) (fun W hW => by kernel_rfl) (by assumption) rfl rfl ?_
        simp only [Act.put, List.setIfInBounds_toArray, List.set_cons_zero, List.set_cons_succ]
        refine wpAnyH_yield 3 22 (.pointer (some ⟨q, 0, none⟩)) rfl rfl (by kernel_rfl) (by kernel_rfl) (by kernel_rfl) (fun _ _ _ h => h) (by kernel_rfl) (fun W hW => by go_simp) (by assumption) rfl rfl ?_
        simp only [Act.put, List.setIfInBounds_toArray, List.set_cons_zero, List.set_cons_succ]
        refine wpAnyH_yield 4 23 (.slice (some ⟨g, 0, none⟩) L cap) rfl rfl (by kernel_rfl) (by kernel_rfl) (by kernel_rfl) (fun _ _ _ h => h) (by kernel_rfl) (fun W hW => by obtain ⟨c0, c1⟩ := (Q1.out.calm hW).cells; rw [HL.out] at c0; go_simp) (by assumption) rfl rfl ?_
        simp only [Act.put, List.setIfInBounds_toArray, List.set_cons_zero, List.set_cons_succ]
        refine wpAnyH_yield 5 24 (.int .i64 (a : Int)) rfl rfl (by kernel_rfl) (by kernel_rfl) (by kernel_rfl) (fun _ _ _ h => h) (by kernel_rfl) (fun W hW => by kernel_rfl) (by assumption) rfl rfl ?_
        simp only [Act.put, List.setIfInBounds_toArray, List.set_cons_zero, List.set_cons_succ]
        refine wpAnyH_yield 6 25 (.pointer (some ⟨g, a * 4, none⟩)) rfl rfl (by kernel_rfl) (by kernel_rfl) (by kernel_rfl) (fun _ _ _ h => h) (by kernel_rfl) (fun W hW => by go_simp) (by assumption) rfl rfl ?_
        simp only [Act.put, List.setIfInBounds_toArray, List.set_cons_zero, List.set_cons_succ]
        refine wpAnyH_yield 7 26 (tv (nth R1 a)) rfl rfl (by kernel_rfl) (by kernel_rfl) (by kernel_rfl) (fun _ _ _ h => h) (by kernel_rfl) (fun W hW => by obtain ⟨c0, c1, c2, c3⟩ := (Q1.out.calm hW).at_ HQ1.out; go_simp) (by assumption) rfl rfl ?_
        simp only [Act.put, List.setIfInBounds_toArray, List.set_cons_zero, List.set_cons_succ]
        refine wpAnyH_enter 8 27 16 #[tv t, tv (nth R1 a)] rfl rfl (by kernel_rfl) (by kernel_rfl) (by kernel_rfl) ?_
        refine (compareT_any _ _ _).mono ?_
        rintro e y ⟨rfl, hy⟩
        have ty : Calm V y := by rw [hy]; exact (hT0.alloc _).alloc _
        refine ⟨_, rfl, ty, ?_⟩
        simp only [Act.put, List.setIfInBounds_toArray, List.set_cons_zero, List.set_cons_succ]
        refine wpAnyH_yield 9 28 (.bool true) rfl rfl (by kernel_rfl) (by kernel_rfl) (by kernel_rfl) (fun _ _ _ h => h) (by kernel_rfl) (fun W hW => by go_simp) (by assumption) rfl rfl ?_
        simp only [Act.put, List.setIfInBounds_toArray, List.set_cons_zero, List.set_cons_succ]
        refine wpAnyH_yield 10 18 (.bool true) rfl rfl (by kernel_rfl) (by kernel_rfl) (by kernel_rfl) (fun _ _ _ h => h) (by kernel_rfl) (fun W hW => by kernel_rfl) (by assumption) rfl rfl ?_
        simp only [Act.put, List.setIfInBounds_toArray, List.set_cons_zero, List.set_cons_succ]
        refine wpAnyH_done (by kernel_rfl) ?_ _
        rw [onlyN_normal]
        have Q1' := hide (Q1.out.calm ty)
        have HA1' := hide (ty.at HA1.out)
        have T1' : Hid (Touch (fun x => x = g ∨ x = mb) w y) := hide (T1.out.trans (ty.mono (fun _ _ h => h.elim)) (fun _ _ h => h))
        have HRO : Hid (Rord (R1.set p t) p) := hide (sink_done HSO.out (fun c hc hl e => by
          rw [List.length_set] at hl
          rw [nth_set_same HO.out.lt, nth_set_other (by omega)]
          by_cases ca : c = a
          · rw [ca]; exact hlt
          · exact clt hlt (HFC.out c hc hl e ca)))
        clear hT0 ty hy hlt Q1 HA1 T1 hai
        have Q1 := hide Q1'.out
        have HA1 := hide HA1'.out
        have T1 := hide T1'.out
        clear Q1' HA1' T1'
        have RI := hide (rise_any q base g cap mb n L p R1 f1 t b V0 y Q1.out HO.out HRO.out HC.out HL.out HB.out GT.out)
        obtain ⟨⟨c0, c1, c2, c3⟩, -⟩ := cells4 HA1.out
        go_wp2_with fail
        refine RI.out.mono ?_
        rintro e w9 ⟨⟨v9, rfl⟩, V9, f9, q9, h9, m9, l9, t9⟩
        have RES : Hid (∃ V f', Qm w9 q base (some ⟨g, 0, none⟩) cap mb V V.length f' ∧ Heap V f' ∧ (∀ x, x ∈ V ↔ x ∈ V0) ∧ V.length = L ∧ Touch (fun x => x = g ∨ x = mb) w w9) := hide ⟨V9, f9, q9, h9, m9, l9, T1.out.trans t9 (fun _ _ h => h)⟩
        clear q9 h9 m9 l9 t9 c0 c1 c2 c3
        go_wp2_with fail
        rw [Exit.noGoto_normal]
        go_end0
        exact ⟨⟨_, rfl⟩, RES.out⟩
      · refine wp_only ?_
        refine wp_region_held (S := Calm V) (by kernel_rfl) ?_
        have hT0 : Calm V { V with drawn := V.drawn + 1 } := (Touch.refl (fun _ => False) V).drew
        refine wpAnyH_yield 0 19 (tv t) rfl rfl (by kernel_rfl) (by kernel_rfl) (by kernel_rfl) (fun _ _ _ h => h) (by kernel_rfl) (fun W hW => by obtain ⟨⟨c0, c1, c2, c3⟩, -⟩ := cells4 (hW.at HA1.out); go_simp) (by assumption) rfl rfl ?_
        simp only [Act.put, List.setIfInBounds_toArray, List.set_cons_zero, List.set_cons_succ]
        refine wpAnyH_yield 1 20 (.pointer (some ⟨q, 0, none⟩)) rfl rfl (by kernel_rfl) (by kernel_rfl) (by kernel_rfl) (fun _ _ _ h => h) (by kernel_rfl) (fun W hW => by kernel_rfl) (by assumption) rfl rfl ?_
        simp only [Act.put, List.setIfInBounds_toArray, List.set_cons_zero, List.set_cons_succ]
        refine wpAnyH_yield 2 21 (.pointer (some ⟨q, 0, none⟩)) rfl rfl (by kernel_rfl) (by kernel_rfl) (by kernel_rfl) (fun _ _ _ h => h) (by kernel_rfl) (fun W hW => by kernel_rfl) (by assumption) rfl rfl ?_
        simp only [Act.put, List.setIfInBounds_toArray, List.set_cons_zero, List.set_cons_succ]
        refine wpAnyH_yield 3 22 (.pointer (some ⟨q, 0, none⟩)) rfl rfl (by kernel_rfl) (by kernel_rfl) (by kernel_rfl) (fun _ _ _ h => h) (by kernel_rfl) (fun W hW => by go_simp) (by assumption) rfl rfl ?_
        simp only [Act.put, List.setIfInBounds_toArray, List.set_cons_zero, List.set_cons_succ]
        refine wpAnyH_yield 4 23 (.slice (some ⟨g, 0, none⟩) L cap) rfl rfl (by kernel_rfl) (by kernel_rfl) (by kernel_rfl) (fun _ _ _ h => h) (by kernel_rfl) (fun W hW => by obtain ⟨c0, c1⟩ := (Q1.out.calm hW).cells; rw [HL.out] at c0; go_simp) (by assumption) rfl rfl ?_
        simp only [Act.put, List.setIfInBounds_toArray, List.set_cons_zero, List.set_cons_succ]
        refine wpAnyH_yield 5 24 (.int .i64 (a : Int)) rfl rfl (by kernel_rfl) (by kernel_rfl) (by kernel_rfl) (fun _ _ _ h => h) (by kernel_rfl) (fun W hW => by kernel_rfl) (by assumption) rfl rfl ?_
        simp only [Act.put, List.setIfInBounds_toArray, List.set_cons_zero, List.set_cons_succ]
        refine wpAnyH_yield 6 25 (.pointer (some ⟨g, a * 4, none⟩)) rfl rfl (by kernel_rfl) (by kernel_rfl) (by kernel_rfl) (fun _ _ _ h => h) (by kernel_rfl) (fun W hW => by go_simp) (by assumption) rfl rfl ?_
        simp only [Act.put, List.setIfInBounds_toArray, List.set_cons_zero, List.set_cons_succ]
        refine wpAnyH_yield 7 26 (tv (nth R1 a)) rfl rfl (by kernel_rfl) (by kernel_rfl) (by kernel_rfl) (fun _ _ _ h => h) (by kernel_rfl) (fun W hW => by obtain ⟨c0, c1, c2, c3⟩ := (Q1.out.calm hW).at_ HQ1.out; go_simp) (by assumption) rfl rfl ?_
        simp only [Act.put, List.setIfInBounds_toArray, List.set_cons_zero, List.set_cons_succ]
        refine wpAnyH_enter 8 27 16 #[tv t, tv (nth R1 a)] rfl rfl (by kernel_rfl) (by kernel_rfl) (by kernel_rfl) ?_
        refine (compareT_any _ _ _).mono ?_
        rintro e y ⟨rfl, hy⟩
        have ty : Calm V y := by rw [hy]; exact (hT0.alloc _).alloc _
        refine ⟨_, rfl, ty, ?_⟩
        simp only [Act.put, List.setIfInBounds_toArray, List.set_cons_zero, List.set_cons_succ]
        refine wpAnyH_yield 9 28 (.bool false) rfl rfl (by kernel_rfl) (by kernel_rfl) (by kernel_rfl) (fun _ _ _ h => h) (by kernel_rfl) (fun W hW => by go_simp) (by assumption) rfl rfl ?_
        simp only [Act.put, List.setIfInBounds_toArray, List.set_cons_zero, List.set_cons_succ]
        refine wpAnyH_yield 10 18 (.bool false) rfl rfl (by kernel_rfl) (by kernel_rfl) (by kernel_rfl) (fun _ _ _ h => h) (by kernel_rfl) (fun W hW => by kernel_rfl) (by assumption) rfl rfl ?_
        simp only [Act.put, List.setIfInBounds_toArray, List.set_cons_zero, List.set_cons_succ]
        refine wpAnyH_done (by kernel_rfl) ?_ _
        rw [onlyN_normal]
        have Q2 := hide (Q1.out.calm ty)
        have HA2 := hide (ty.at HA1.out)
        have T2 : Hid (Touch (fun x => x = g ∨ x = mb) w y) := hide (T1.out.trans (ty.mono (fun _ _ h => h.elim)) (fun _ _ h => h))
        obtain ⟨hs, hsm⟩ := HO.out.step HQ1.out HQP.out
        have HST := hide hs
        have HSM := hide hsm
        have HRS : Hid (Sord ((R1.set p (nth R1 a)).set a t) a) := hide (sink_step HO.out.lt HQ1.out (by have := HFP.out; omega) HFE.out HSO.out HFC.out)
        have HGD : Hid (Good (nth R1 a)) := hide (Q1.out.good _ (mem_nth.2 ⟨a, HQ1.out, rfl⟩))
        have LY := hide (lay_any q base g cap mb p n R1 f1 (nth R1 a))
        obtain ⟨c0, c1⟩ := Q2.out.cells
        rw [HL.out] at c0
        obtain ⟨d0, d1, d2, d3⟩ := Q2.out.at_ HQ1.out
        clear hT0 ty hy hlt Q1 HA1 T1 hs hsm
        go_wp2_with fail
        refine (LY.out _ Q2.out HO.out.lt HGD.out HNM.out HB1.out).mono ?_
        rintro e w9 ⟨⟨v9, rfl⟩, q9, t9⟩
        rw [if_pos HSM.out] at q9
        have Q9 := hide q9
        have HA9 := hide (t9.heap HA2.out HAG.out)
        have T9 := hide (T2.out.trans t9 (fun _ _ h => h))
        clear q9 t9 c0 c1 d0 d1 d2 d3 Q2 HA2 T2 LY
        go_wp2_with fail
        go_roundw
        case rel => exact ⟨a, _, _, rfl, HST.out, HRS.out, by rw [List.length_set]; exact HL.out, Q9.out, HA9.out, T9.out⟩
        case measure => have := HFP.out; have := HPL.out; simp [intOf]; omega

end Go.Proofs.Ytlnblhajcbmmkaa
