/- A timer is laid at a place. -/
import Derived.Test.YtlnblhajcbmmkaaTQm
namespace Go.Proofs.Ytlnblhajcbmmkaa
open Go.RowKit

/-- What lay does. -/
def LayR (w : World) (q base g cap mb p n : Nat) (R : List Tm) (f : Tm → Option Nat) (t : Tm) (e : Ending) (w' : World) : Prop :=
  (∃ v, e = .returned v) ∧ Qm w' q base (some ⟨g, 0, none⟩) cap mb (R.set p t) (if (f t).isSome then n else n + 1) (putf f t p) ∧ Touch (fun x => x = g ∨ x = mb) w w'

set_option maxRecDepth 100000 in
set_option maxHeartbeats 1000000 in
theorem lay_any (q base g cap mb p n : Nat) (R : List Tm) (f : Tm → Option Nat) (t : Tm) (w : World) (h : Qm w q base (some ⟨g, 0, none⟩) cap mb R n f) (hp : p < R.length) (gt : Good t) (hn : n < maxLen) (hR : R.length < 9223372036854775808) :
    Calls Try.prog 62 #[.pointer (some ⟨q, 0, none⟩), .int .i64 (p : Int), tv t] w (LayR w q base g cap mb p n R f t) := by
  have HQ := hide h
  have GT := hide gt
  have HP := hide hp
  have HN := hide hn
  have HR := hide hR
  have hpi : (p : Int) < (R.length : Int) := by omega
  have hqs := lt_of_heap h.own
  have hgs := (h.apart.2.2.2 _ rfl).2.2.1
  clear h gt hp hn hR
  generalize hL : R.length = L at *
  have HL := hide hL
  have HPR : Hid (p < R.length) := hide (by have := HP.out; omega)
  clear hL
  go_enter Try.func62, Try.ntmps62
  go_wp2_with fail
  obtain ⟨A, eA⟩ : ∃ A, A = w.heap.size := ⟨_, rfl⟩
  obtain ⟨w0, ew0⟩ : ∃ w0, w0 = w.alloc (.cells #[.int .i64 t.at_, .string t.key, .int .i64 t.start, .int .i64 t.stop] 35) := ⟨_, rfl⟩
  have tA : Calm w w0 := by rw [ew0]; exact (Touch.refl _ _).alloc _
  have HA : Hid (w0.heap[A]? = some (.cells (tc t) 35 (0, 0))) := hide (by rw [ew0, eA]; exact heap_alloc_last w _)
  have HQ0 := hide (HQ.out.calm tA)
  have TA := hide tA
  have HAG : Hid (A ≠ g ∧ A ≠ mb ∧ A ≠ q) := hide (by have := HQ.out.apart; omega)
  rw [← eA, ← ew0]
  clear tA eA ew0 hqs hgs
  refine wp_only ?_
  refine wp_region_z 7 (Calm w0) (by kernel_rfl) ?_
  have hT0 : Calm w0 { w0 with drawn := w0.drawn + 1 } := (Touch.refl (fun _ => False) w0).drew
  refine wpAnyZ_yield 0 6 (.pointer (some ⟨q, 0, none⟩)) [1,2,3,6,7] rfl rfl (by kernel_rfl) (by kernel_rfl) (by kernel_rfl) (by kernel_rfl) (by kernel_rfl) (fun _ _ _ h => h) (by kernel_rfl) (fun W hW => by kernel_rfl) (by assumption) rfl rfl ?_
  simp only [Act.put, List.setIfInBounds_toArray, List.set_cons_zero, List.set_cons_succ]
  refine wpAnyZ_yield 1 7 (.pointer (some ⟨q, 0, none⟩)) [2,3,6,7] rfl rfl (by kernel_rfl) (by kernel_rfl) (by kernel_rfl) (by kernel_rfl) (by kernel_rfl) (fun _ _ _ h => h) (by kernel_rfl) (fun W hW => by kernel_rfl) (by assumption) rfl rfl ?_
  simp only [Act.put, List.setIfInBounds_toArray, List.set_cons_zero, List.set_cons_succ]
  refine wpAnyZ_yield 2 8 (.pointer (some ⟨q, 0, none⟩)) [3,6,7] rfl rfl (by kernel_rfl) (by kernel_rfl) (by kernel_rfl) (by kernel_rfl) (by kernel_rfl) (fun _ _ _ h => h) (by kernel_rfl) (fun W hW => by go_simp) (by assumption) rfl rfl ?_
  simp only [Act.put, List.setIfInBounds_toArray, List.set_cons_zero, List.set_cons_succ]
  refine wpAnyZ_yield 3 9 (.slice (some ⟨g, 0, none⟩) L cap) [6,7] rfl rfl (by kernel_rfl) (by kernel_rfl) (by kernel_rfl) (by kernel_rfl) (by kernel_rfl) (fun _ _ _ h => h) (by kernel_rfl) (fun W hW => by obtain ⟨c0, c1⟩ := (HQ0.out.calm hW).cells; rw [HL.out] at c0; go_simp) (by assumption) rfl rfl ?_
  simp only [Act.put, List.setIfInBounds_toArray, List.set_cons_zero, List.set_cons_succ]
  refine wpAnyZ_yield 4 10 (.int .i64 (p : Int)) [6,7] rfl rfl (by kernel_rfl) (by kernel_rfl) (by kernel_rfl) (by kernel_rfl) (by kernel_rfl) (fun _ _ _ h => h) (by kernel_rfl) (fun W hW => by kernel_rfl) (by assumption) rfl rfl ?_
  simp only [Act.put, List.setIfInBounds_toArray, List.set_cons_zero, List.set_cons_succ]
  refine wpAnyZ_yield 5 11 (tv t) [7] rfl rfl (by kernel_rfl) (by kernel_rfl) (by kernel_rfl) (by kernel_rfl) (by kernel_rfl) (fun _ _ _ h => h) (by kernel_rfl) (fun W hW => by obtain ⟨⟨c0, c1, c2, c3⟩, -⟩ := cells4 (hW.at HA.out); go_simp) (by assumption) rfl rfl ?_
  simp only [Act.put, List.setIfInBounds_toArray, List.set_cons_zero, List.set_cons_succ]
  refine wpAnyZ_yield 6 12 (.pointer (some ⟨g, p * 4, none⟩)) [7] rfl rfl (by kernel_rfl) (by kernel_rfl) (by kernel_rfl) (by kernel_rfl) (by kernel_rfl) (fun _ _ _ h => h) (by kernel_rfl) (fun W hW => by go_simp) (by assumption) rfl rfl ?_
  simp only [Act.put, List.setIfInBounds_toArray, List.set_cons_zero, List.set_cons_succ]
  refine wpAnyZ_end rfl (by kernel_rfl) (by kernel_rfl) (by kernel_rfl) ?_
  generalize ({ w0 with drawn := w0.drawn + 1 } : World) = w1 at *
  have Q1 := HQ0.out.calm hT0
  have A1 := hT0.at HA.out
  obtain ⟨c0, c1, c2, c3⟩ := Q1.at_ HPR.out
  obtain ⟨_, _, _, cs, hcs⟩ := Q1.row.prs.2.2.1 _ rfl
  have f0 : ∀ o, w1.frozen? ⟨g, o, none⟩ = false := fun o => by simp [World.frozen?, hcs]
  have z0 := f0 (p * 4)
  have z1 := f0 (p * 4 + 1)
  have z2 := f0 (p * 4 + 2)
  have z3 := f0 (p * 4 + 3)
  obtain ⟨ow, ts⟩ := Q1.row.set HPR.out t rfl
  have Q2 : Hid (Qm ((((w1.setCell ⟨g, p * 4, none⟩ (.int .i64 t.at_)).setCell ⟨g, p * 4 + 1, none⟩ (.string t.key)).setCell ⟨g, p * 4 + 2, none⟩ (.int .i64 t.start)).setCell ⟨g, p * 4 + 3, none⟩ (.int .i64 t.stop)) q base (some ⟨g, 0, none⟩) cap mb (R.set p t) n f) := hide ⟨by rw [List.length_set]; exact ts.heap Q1.own (fun e => (Q1.apart.2.2.2 _ rfl).2.2.2.1 e.symm), by rw [List.length_set]; exact ow, Q1.map.touch ts (fun e => (Q1.apart.2.2.2 _ rfl).2.2.2.2 e.symm), fun x hx => by
    rcases List.mem_or_eq_of_mem_set hx with hx | hx
    · exact Q1.good x hx
    · rw [hx]; exact GT.out⟩
  have A2 := hide (ts.heap A1 HAG.out.1)
  have T2 := hide ((TA.out.tr hT0).mono (S' := fun x => x = g) (fun _ _ h => h.elim) |>.trans ts (fun _ _ h => h))
  clear Q1 A1 hcs ow ts f0 HQ0 HA hT0 TA
  unfold Oper.wp
  go_simp
  rw [onlyN_normal]
  generalize (((w1.setCell ⟨g, p * 4, none⟩ (.int .i64 t.at_)).setCell ⟨g, p * 4 + 1, none⟩ (.string t.key)).setCell ⟨g, p * 4 + 2, none⟩ (.int .i64 t.start)).setCell ⟨g, p * 4 + 3, none⟩ (.int .i64 t.stop) = w2 at *
  clear c0 c1 c2 c3 z0 z1 z2 z3
  go_wp2_with fail
  refine wp_only ?_
  refine wp_region_z 6 (Calm w2) (by kernel_rfl) ?_
  have hT0 : Calm w2 { w2 with drawn := w2.drawn + 1 } := (Touch.refl (fun _ => False) w2).drew
  refine wpAnyZ_yield 0 13 (.pointer (some ⟨q, 0, none⟩)) [1,2,3,6] rfl rfl (by kernel_rfl) (by kernel_rfl) (by kernel_rfl) (by kernel_rfl) (by kernel_rfl) (fun _ _ _ h => h) (by kernel_rfl) (fun W hW => by kernel_rfl) (by assumption) rfl rfl ?_
  simp only [Act.put, List.setIfInBounds_toArray, List.set_cons_zero, List.set_cons_succ]
  refine wpAnyZ_yield 1 14 (.pointer (some ⟨q, 0, none⟩)) [2,3,6] rfl rfl (by kernel_rfl) (by kernel_rfl) (by kernel_rfl) (by kernel_rfl) (by kernel_rfl) (fun _ _ _ h => h) (by kernel_rfl) (fun W hW => by kernel_rfl) (by assumption) rfl rfl ?_
  simp only [Act.put, List.setIfInBounds_toArray, List.set_cons_zero, List.set_cons_succ]
  refine wpAnyZ_yield 2 15 (.pointer (some ⟨q, 1, none⟩)) [3,6] rfl rfl (by kernel_rfl) (by kernel_rfl) (by kernel_rfl) (by kernel_rfl) (by kernel_rfl) (fun _ _ _ h => h) (by kernel_rfl) (fun W hW => by go_simp) (by assumption) rfl rfl ?_
  simp only [Act.put, List.setIfInBounds_toArray, List.set_cons_zero, List.set_cons_succ]
  refine wpAnyZ_yield 3 16 (.map (some mb)) [6] rfl rfl (by kernel_rfl) (by kernel_rfl) (by kernel_rfl) (by kernel_rfl) (by kernel_rfl) (fun _ _ _ h => h) (by kernel_rfl) (fun W hW => by obtain ⟨c0, c1⟩ := (Q2.out.calm hW).cells; go_simp) (by assumption) rfl rfl ?_
  simp only [Act.put, List.setIfInBounds_toArray, List.set_cons_zero, List.set_cons_succ]
  refine wpAnyZ_yield 4 17 (tv t) [6] rfl rfl (by kernel_rfl) (by kernel_rfl) (by kernel_rfl) (by kernel_rfl) (by kernel_rfl) (fun _ _ _ h => h) (by kernel_rfl) (fun W hW => by obtain ⟨⟨c0, c1, c2, c3⟩, -⟩ := cells4 (hW.at A2.out); go_simp) (by assumption) rfl rfl ?_
  simp only [Act.put, List.setIfInBounds_toArray, List.set_cons_zero, List.set_cons_succ]
  refine wpAnyZ_yield 5 18 (.int .i64 (p : Int)) [6] rfl rfl (by kernel_rfl) (by kernel_rfl) (by kernel_rfl) (by kernel_rfl) (by kernel_rfl) (fun _ _ _ h => h) (by kernel_rfl) (fun W hW => by kernel_rfl) (by assumption) rfl rfl ?_
  simp only [Act.put, List.setIfInBounds_toArray, List.set_cons_zero, List.set_cons_succ]
  refine wpAnyZ_end rfl (by kernel_rfl) (by kernel_rfl) (by kernel_rfl) ?_
  generalize ({ w2 with drawn := w2.drawn + 1 } : World) = w3 at *
  have Q3 := Q2.out.calm hT0
  obtain ⟨w4, hr, m4, t4⟩ := Q3.map.put GT.out (p := p) (by have := HP.out; have := HR.out; have := HL.out; omega) HN.out
  have Q4 : Hid (Qm w4 q base (some ⟨g, 0, none⟩) cap mb (R.set p t) (if (f t).isSome then n else n + 1) (putf f t p)) := hide ⟨t4.heap Q3.own (fun e => Q3.apart.2.2.1 e), Q3.row.touch t4 (fun x hx e => by simp [Value.ownBlock] at hx; exact (Q3.apart.2.2.2 _ rfl).2.2.2.2 (hx.trans e)), m4, Q3.good⟩
  have T4 : Hid (Touch (fun x => x = g ∨ x = mb) w w4) := hide ((((T2.out.trans (hT0.mono (fun _ _ h => h.elim)) (fun _ _ h => h)).mono (fun _ _ h => .inl h))).trans t4 (fun _ _ h => .inr h))
  clear Q3 m4 t4 hT0 Q2 A2 T2
  unfold Oper.wp
  go_simp
  rw [onlyN_normal]
  go_wp2_with fail
  go_end0
  exact ⟨⟨_, rfl⟩, Q4.out, T4.out⟩

end Go.Proofs.Ytlnblhajcbmmkaa
