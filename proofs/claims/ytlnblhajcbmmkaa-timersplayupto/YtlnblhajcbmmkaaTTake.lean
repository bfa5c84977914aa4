/- A timer is taken out. -/
import Derived.Test.YtlnblhajcbmmkaaTPut
import Derived.Deep.Cut
namespace Go.Proofs.Ytlnblhajcbmmkaa
open Go.RowKit

theorem tslice_to {ao : Option Addr} {cap k n : Nat} (hr : ∀ a, ao = some a → a.spot = none) (hk : k ≤ cap) (W : World) :
    (Instr.slice 22 (.slice ao n cap) none (some (.int .i64 (k : Nat))) none).run Try.prog W = .ok (.slice ao k cap) W := by
  obtain ⟨i, hi, hz, hs, hby⟩ := info_parts2 infoTimer
  have he : Try.prog.elem 22 = 35 := by kernel_rfl
  rw [run_slice_h W 22 ao n cap (by rw [he]; exact Try.underlying22) .i64 (k : Nat) (by omega) (by omega), he]
  simp only [sizeOf, typeInfo]
  have hm : (ao.map fun x => x.add 0) = ao := by
    cases ao with
    | none => rfl
    | some a =>
      have := hr a rfl
      obtain ⟨b, o, sp⟩ := a
      simp only at this
      subst this
      simp [Addr.add_lit]
  simp [hi, hs, sliced, hm]

set_option maxRecDepth 100000 in
set_option maxHeartbeats 2000000 in
theorem take_any (q : Nat) (F : Nat → Prop) (V : List Tm) (p : Nat) (w : World) (h : Tq w q F V) (hp : p < V.length) (hb : V.length < 3518437208790) :
    Calls Try.prog 38 #[.pointer (some ⟨q, 0, none⟩), .int .i64 (p : Int)] w fun e w' => e = .returned (tv (nth V p)) ∧ (∃ V', Tq w' q F V' ∧ ∀ x, x ∈ V' ↔ x ∈ V ∧ x ≠ nth V p) ∧ Touch F w w' := by
  obtain ⟨ao, cap, mb, f, qm, hpp, fq, fm, fr⟩ := h.ex
  obtain ⟨g, eg⟩ := qm.shape (by omega)
  subst eg
  have HLT := hide h.lt
  have HQ := hide qm
  have HH := hide hpp
  have HF := hide (show F q ∧ F mb ∧ F g from ⟨fq, fm, fr _ rfl⟩)
  have HB := hide hb
  have HP := hide hp
  obtain ⟨m, hm⟩ : ∃ m, V.length = m + 1 := ⟨V.length - 1, by omega⟩
  obtain ⟨L, hL⟩ : ∃ L, V.length = L := ⟨_, rfl⟩
  have HM := hide hm
  have HL := hide hL
  have hqs := lt_of_heap qm.own
  have hgs := (qm.apart.2.2.2 _ rfl).2.2.1
  have hsub : wrap64 ((L : Int) - 1) = (m : Int) := by unfold wrap64; omega
  have hpl : (p : Int) < (L : Int) := by omega
  have hml : (m : Int) < (L : Int) := by omega
  obtain ⟨c0, c1⟩ := qm.cells
  rw [hL] at c0
  obtain ⟨d0, d1, d2, d3⟩ := qm.at_ hp
  obtain ⟨e0, e1, e2, e3⟩ := qm.at_ (p := m) (by omega)
  clear h qm hpp fq fm fr hp hb hm hL
  simp only at hgs
  go_enter Try.func38, Try.ntmps38
  go_upto_region 4 with fail
  rw [hsub]
  obtain ⟨B4, e4⟩ : ∃ B4, B4 = w.heap.size := ⟨_, rfl⟩
  obtain ⟨T5, e5⟩ : ∃ T5, T5 = w.heap.size + 1 := ⟨_, rfl⟩
  obtain ⟨T7, e7⟩ : ∃ T7, T7 = w.heap.size + 1 + 1 := ⟨_, rfl⟩
  obtain ⟨w3, ew3⟩ : ∃ w3, w3 = ((w.alloc (.cells #[.int .i64 0, .string { data := #[] }, .int .i64 0, .int .i64 0] 35)).alloc (.cells (tc (nth V p)) 35)).alloc (.cells (tc (nth V m)) 35) := ⟨_, rfl⟩
  have t3 : Calm w w3 := by rw [ew3]; exact (((Touch.refl _ _).alloc _).alloc _).alloc _
  have nw : ∀ (U : World) (o : Obj) (n : Nat), n = U.heap.size → (U.alloc o).heap[n]? = some o := fun U o n e => by rw [e]; exact World.alloc_heap_new U o
  have kp : ∀ (U : World) (o o' : Obj) (n : Nat), U.heap[n]? = some o → (U.alloc o').heap[n]? = some o := fun U o o' n h => (Below.heap_alloc U o' n (lt_of_heap h)).trans h
  have b3 : w3.heap[B4]? = some (.cells #[.int .i64 0, .string { data := #[] }, .int .i64 0, .int .i64 0] 35 (0, 0)) := by rw [ew3]; exact kp _ _ _ _ (kp _ _ _ _ (nw _ _ _ e4))
  have s3 : w3.heap[T5]? = some (.cells (tc (nth V p)) 35 (0, 0)) := by rw [ew3]; exact kp _ _ _ _ (nw _ _ _ (by rw [e5]; simp))
  have l3 : w3.heap[T7]? = some (.cells (tc (nth V m)) 35 (0, 0)) := by rw [ew3]; exact nw _ _ _ (by rw [e7]; simp)
  have HB4 : Hid (w.heap.size ≤ B4 ∧ w.heap.size ≤ T5 ∧ w.heap.size ≤ T7) := hide (by omega)
  have T3 := hide t3
  have Q3 := hide (HQ.out.calm t3)
  rw [← e7, ← e5, ← e4, ← ew3]
  clear e4 e5 e7 ew3 nw kp t3 c0 c1 d0 d1 d2 d3 e0 e1 e2 e3 hqs hgs hsub hpl
  obtain ⟨c0, c1⟩ := Q3.out.cells
  rw [HL.out] at c0
  obtain ⟨e0, e1, e2, e3⟩ := Q3.out.at_ (p := m) (by have := HM.out; omega)
  obtain ⟨_, _, _, cs, hcs⟩ := Q3.out.row.prs.2.2.1 _ rfl
  have f0 : ∀ o, w3.frozen? ⟨g, o, none⟩ = false := fun o => by simp [World.frozen?, hcs]
  have z0 := f0 (m * 4)
  have z1 := f0 (m * 4 + 1)
  have z2 := f0 (m * 4 + 2)
  have z3 := f0 (m * 4 + 3)
  obtain ⟨w4, ew4⟩ : ∃ w4, w4 = ((((w3.setCell ⟨g, m * 4, none⟩ (.int .i64 0)).setCell ⟨g, m * 4 + 1, none⟩ (.string { data := #[] })).setCell ⟨g, m * 4 + 2, none⟩ (.int .i64 0)).setCell ⟨g, m * 4 + 3, none⟩ (.int .i64 0)) := ⟨_, rfl⟩
  obtain ⟨ow, ts⟩ := Q3.out.row.set (p := m) (by have := HM.out; omega) tm0 (w' := w4) ew4
  have HFR : Hid (∀ x, w.heap.size ≤ x → ¬ x = g ∧ ¬ x = q ∧ ¬ x = mb) := hide (fun x hx => by have h1 := HLT.out _ HF.out.1; have h2 := HLT.out _ HF.out.2.1; have h3 := HLT.out _ HF.out.2.2; omega)
  have B4' := hide (ts.heap b3 (HFR.out _ HB4.out.1).1)
  have S4 := hide (ts.heap s3 (HFR.out _ HB4.out.2.1).1)
  have L4 := hide (ts.heap l3 (HFR.out _ HB4.out.2.2).1)
  have O4 := hide (ts.heap Q3.out.own (fun e => (Q3.out.apart.2.2.2 _ rfl).2.2.2.1 e.symm))
  have M4 := hide (Q3.out.map.touch ts (fun e => (Q3.out.apart.2.2.2 _ rfl).2.2.2.2 e.symm))
  have W4 := hide ow
  have T4 : Hid (Touch F w w4) := hide ((T3.out.mono (fun _ _ h => h.elim)).trans ts (fun x _ e => by rw [e]; exact HF.out.2.2))
  clear b3 s3 l3 hcs f0 ow ts Q3 T3
  go_upto_region 5 with fail
  clear c0 c1 e0 e1 e2 e3 z0 z1 z2 z3
  rw [← ew4]
  clear ew4
  have HAP := hide HQ.out.apart
  obtain ⟨c0, c1⟩ := cells2 O4.out
  rw [HL.out] at c0
  have fq : w4.frozen? ⟨q, 0, none⟩ = false := by have := O4.out; simp [World.frozen?, this]
  have hmc : m ≤ cap := by have := HQ.out.row.prs.2.2.2.1; have := HM.out; omega
  have hsl := tslice_to (ao := some ⟨g, 0, none⟩) (cap := cap) (k := m) (n := L) (fun a ha => by injection ha with ha; subst ha; rfl) hmc w4
  have ts : Touch (fun x => x = q) w4 (w4.setCell ⟨q, 0, none⟩ (.slice (some ⟨g, 0, none⟩) m cap)) := (Touch.refl (fun x => x = q) w4).setCell (p := ⟨q, 0, none⟩) (fun _ => rfl) _
  have hgq : ¬ g = q := (HAP.out.2.2.2 _ rfl).2.2.2.1
  have hmq : ¬ mb = q := fun e => HAP.out.2.2.1 e.symm
  have etk : (V.set m tm0).take m = V.take m := by rw [List.take_set, List.set_eq_of_length_le (by rw [List.length_take]; omega)]
  have hlm : (V.take m).length = m := by rw [List.length_take]; have := HM.out; omega
  have Q5 : Hid (Qm (w4.setCell ⟨q, 0, none⟩ (.slice (some ⟨g, 0, none⟩) m cap)) q 0 (some ⟨g, 0, none⟩) cap mb (V.take m) V.length f) := hide ⟨by
      rw [hlm]
      have := heap_setCell_row (i := 0) O4.out (.slice (some ⟨g, 0, none⟩) m cap); simpa using this, by
      rw [hlm, ← etk]
      exact (OwnT.cut W4.out (by rw [List.length_set]; have := HM.out; omega) (by simp)).touch ts (fun x hx e => by simp [Value.ownBlock] at hx; exact hgq (hx.trans e)), M4.out.touch ts hmq, fun x hx => HQ.out.good x (List.mem_of_mem_take hx)⟩
  have B5 := hide (ts.heap B4'.out (HFR.out _ HB4.out.1).2.1)
  have S5 := hide (ts.heap S4.out (HFR.out _ HB4.out.2.1).2.1)
  have L5 := hide (ts.heap L4.out (HFR.out _ HB4.out.2.2).2.1)
  have T5' := hide (T4.out.trans ts (fun x _ e => by rw [e]; exact HF.out.1))
  have HLM := hide hlm
  clear ts etk hlm hgq hmq W4 M4 B4' S4 L4 O4 T4
  go_upto_region 6 with fail
  clear c0 c1 fq hsl hmc
  generalize w4.setCell ⟨q, 0, none⟩ (.slice (some ⟨g, 0, none⟩) m cap) = w5 at *
  refine wp_only ?_
  refine wp_region_z 5 (Calm w5) (by kernel_rfl) ?_
  have hT0 : Calm w5 { w5 with drawn := w5.drawn + 1 } := (Touch.refl (fun _ => False) w5).drew
  refine wpAnyZ_yield 0 44 (.pointer (some ⟨q, 0, none⟩)) [1,2,3,5] rfl rfl (by kernel_rfl) (by kernel_rfl) (by kernel_rfl) (by kernel_rfl) (by kernel_rfl) (fun _ _ _ h => h) (by kernel_rfl) (fun W hW => by kernel_rfl) (by assumption) rfl rfl ?_
  simp only [Act.put, List.setIfInBounds_toArray, List.set_cons_zero, List.set_cons_succ]
  refine wpAnyZ_yield 1 45 (.pointer (some ⟨q, 0, none⟩)) [2,3,5] rfl rfl (by kernel_rfl) (by kernel_rfl) (by kernel_rfl) (by kernel_rfl) (by kernel_rfl) (fun _ _ _ h => h) (by kernel_rfl) (fun W hW => by kernel_rfl) (by assumption) rfl rfl ?_
  simp only [Act.put, List.setIfInBounds_toArray, List.set_cons_zero, List.set_cons_succ]
  refine wpAnyZ_yield 2 46 (.pointer (some ⟨q, 1, none⟩)) [3,5] rfl rfl (by kernel_rfl) (by kernel_rfl) (by kernel_rfl) (by kernel_rfl) (by kernel_rfl) (fun _ _ _ h => h) (by kernel_rfl) (fun W hW => by go_simp) (by assumption) rfl rfl ?_
  simp only [Act.put, List.setIfInBounds_toArray, List.set_cons_zero, List.set_cons_succ]
  refine wpAnyZ_yield 3 47 (.map (some mb)) [5] rfl rfl (by kernel_rfl) (by kernel_rfl) (by kernel_rfl) (by kernel_rfl) (by kernel_rfl) (fun _ _ _ h => h) (by kernel_rfl) (fun W hW => by obtain ⟨c0, c1⟩ := (Q5.out.calm hW).cells; go_simp) (by assumption) rfl rfl ?_
  simp only [Act.put, List.setIfInBounds_toArray, List.set_cons_zero, List.set_cons_succ]
  refine wpAnyZ_yield 4 48 (tv (nth V p)) [5] rfl rfl (by kernel_rfl) (by kernel_rfl) (by kernel_rfl) (by kernel_rfl) (by kernel_rfl) (fun _ _ _ h => h) (by kernel_rfl) (fun W hW => by obtain ⟨⟨c0, c1, c2, c3⟩, -⟩ := cells4 (hW.at S5.out); go_simp) (by assumption) rfl rfl ?_
  simp only [Act.put, List.setIfInBounds_toArray, List.set_cons_zero, List.set_cons_succ]
  refine wpAnyZ_end rfl (by kernel_rfl) (by kernel_rfl) (by kernel_rfl) ?_
  generalize ({ w5 with drawn := w5.drawn + 1 } : World) = w6 at *
  have q6 := Q5.out.calm hT0
  obtain ⟨w7, hr, m7, t7⟩ := q6.map.del (HQ.out.good (nth V p) (mem_nth.2 ⟨p, HP.out, rfl⟩)) (by rw [HH.out.pl p HP.out]; rfl) 0
  have hn7 : V.length - 1 = m := by have := HM.out; omega
  rw [hn7] at m7
  have Q7 : Hid (Qm w7 q 0 (some ⟨g, 0, none⟩) cap mb (V.take m) m (delf f (nth V p))) := hide ⟨t7.heap q6.own (fun e => q6.apart.2.2.1 e), q6.row.touch t7 (fun x hx e => by simp [Value.ownBlock] at hx; exact (q6.apart.2.2.2 _ rfl).2.2.2.2 (hx.trans e)), m7, q6.good⟩
  have B7 := hide (t7.heap (hT0.at B5.out) (HFR.out _ HB4.out.1).2.2)
  have S7 := hide (t7.heap (hT0.at S5.out) (HFR.out _ HB4.out.2.1).2.2)
  have L7 := hide (t7.heap (hT0.at L5.out) (HFR.out _ HB4.out.2.2).2.2)
  have T7' : Hid (Touch F w w7) := hide ((T5'.out.trans (hT0.mono (fun _ _ h => h.elim)) (fun _ _ h => h)).trans t7 (fun x _ e => by rw [e]; exact HF.out.2.1))
  clear q6 m7 t7 hT0 hn7 Q5 B5 S5 L5 T5'
  unfold Oper.wp
  go_simp
  rw [onlyN_normal]
  clear hr
  by_cases hpm : p < m
  · have hpi : (p : Int) < (m : Int) := by omega
    obtain ⟨ho, hs, hmm⟩ := HH.out.take HM.out hpm
    have SK := hide (sink_any q 0 g cap mb m m p (V.take m) (delf f (nth V p)) (nth V m) true _ w7 Q7.out ho hs (by simp) HLM.out (by have := HB.out; have := HM.out; omega) (HQ.out.good _ (mem_nth.2 ⟨m, by have := HM.out; omega, rfl⟩)))
    have HMM := hide hmm
    obtain ⟨⟨c0, c1, c2, c3⟩, -⟩ := cells4 L7.out
    clear ho hs hmm
    go_wp2_with fail
    refine SK.out.mono ?_
    rintro e w9 ⟨⟨v9, rfl⟩, V9, f9, q9, h9, m9, l9, t9⟩
    have hS : ∀ x, w.heap.size ≤ x → ¬ (x = g ∨ x = mb) := fun x hx e => by have := HFR.out x hx; omega
    have HB9 := hide (t9.heap B7.out (hS _ HB4.out.1))
    have HT9 := hide (t9.heap S7.out (hS _ HB4.out.2.1))
    have TF9 : Hid (Touch F w w9) := hide (T7'.out.trans t9 (fun x _ e => by rcases e with e | e <;> rw [e]; exact HF.out.2.2; exact HF.out.2.1))
    have TQ9 : Hid (∃ V', Tq w9 q F V' ∧ ∀ x, x ∈ V' ↔ x ∈ V ∧ x ≠ nth V p) := hide ⟨V9, ⟨⟨_, cap, mb, f9, q9, h9, HF.out.1, HF.out.2.1, fun a ha => by injection ha with ha; subst ha; exact HF.out.2.2⟩, fun x hx => Nat.lt_of_lt_of_le (HLT.out x hx) TF9.out.size⟩, fun x => (m9 x).trans (HMM.out x)⟩
    clear q9 h9 m9 l9 t9 hS c0 c1 c2 c3 B7 S7 L7 T7' Q7 SK
    have b9 := HB9.out
    have s9 := HT9.out
    obtain ⟨⟨p0, p1, p2, p3⟩, -⟩ := cells4 s9
    obtain ⟨⟨z0, z1, z2, z3⟩, y0, y1, y2, y3⟩ := cells4 b9
    clear b9 s9
    go_wp2_with fail
    refine ⟨rfl, tv (nth V p), ?_, rfl, ?_⟩
    · simp [results, Try.results38, go_sem, z0, z1, z2, z3]
    · have tz : Touch (fun x => x = B4) w9 ((((w9.setCell ⟨B4, 0, none⟩ (.int .i64 (nth V p).at_)).setCell ⟨B4, 1, none⟩ (.string (nth V p).key)).setCell ⟨B4, 2, none⟩ (.int .i64 (nth V p).start)).setCell ⟨B4, 3, none⟩ (.int .i64 (nth V p).stop)) :=
        ((((Touch.refl (fun x => x = B4) w9).setCell (p := ⟨B4, 0, none⟩) (fun _ => rfl) _).setCell (p := ⟨B4, 1, none⟩) (fun _ => rfl) _).setCell (p := ⟨B4, 2, none⟩) (fun _ => rfl) _).setCell (p := ⟨B4, 3, none⟩) (fun _ => rfl) _
      obtain ⟨V9, tq9, m9⟩ := TQ9.out
      exact ⟨⟨V9, tq9.touch tz (fun x e hx => by have := HLT.out x hx; have := HB4.out; omega), m9⟩, TF9.out.trans tz (fun x hx e => by have := HB4.out; omega)⟩
  · have hpi : ¬ (p : Int) < (m : Int) := by omega
    have hpe : p = m := by have := HP.out; have := HM.out; omega
    obtain ⟨hh, hmm⟩ := HH.out.cut HM.out
    have TQ9 : Hid (∃ V', Tq w7 q F V' ∧ ∀ x, x ∈ V' ↔ x ∈ V ∧ x ≠ nth V p) := hide ⟨V.take m, ⟨⟨_, cap, mb, _, (by rw [HLM.out]; exact Q7.out), (by rw [hpe]; exact hh), HF.out.1, HF.out.2.1, fun a ha => by injection ha with ha; subst ha; exact HF.out.2.2⟩, fun x hx => Nat.lt_of_lt_of_le (HLT.out x hx) T7'.out.size⟩, by rw [hpe]; exact hmm⟩
    have HB9 := hide B7.out
    have HT9 := hide S7.out
    have TF9 := hide T7'.out
    clear hh hmm hpe B7 S7 L7 T7' Q7
    have b9 := HB9.out
    have s9 := HT9.out
    obtain ⟨⟨p0, p1, p2, p3⟩, -⟩ := cells4 s9
    obtain ⟨⟨z0, z1, z2, z3⟩, y0, y1, y2, y3⟩ := cells4 b9
    clear b9 s9
    go_wp2_with fail
    refine ⟨rfl, tv (nth V p), ?_, rfl, ?_⟩
    · simp [results, Try.results38, go_sem, z0, z1, z2, z3]
    · have tz : Touch (fun x => x = B4) w7 ((((w7.setCell ⟨B4, 0, none⟩ (.int .i64 (nth V p).at_)).setCell ⟨B4, 1, none⟩ (.string (nth V p).key)).setCell ⟨B4, 2, none⟩ (.int .i64 (nth V p).start)).setCell ⟨B4, 3, none⟩ (.int .i64 (nth V p).stop)) :=
        ((((Touch.refl (fun x => x = B4) w7).setCell (p := ⟨B4, 0, none⟩) (fun _ => rfl) _).setCell (p := ⟨B4, 1, none⟩) (fun _ => rfl) _).setCell (p := ⟨B4, 2, none⟩) (fun _ => rfl) _).setCell (p := ⟨B4, 3, none⟩) (fun _ => rfl) _
      obtain ⟨V9, tq9, m9⟩ := TQ9.out
      exact ⟨⟨V9, tq9.touch tz (fun x e hx => by have := HLT.out x hx; have := HB4.out; omega), m9⟩, TF9.out.trans tz (fun x hx e => by have := HB4.out; omega)⟩

end Go.Proofs.Ytlnblhajcbmmkaa
