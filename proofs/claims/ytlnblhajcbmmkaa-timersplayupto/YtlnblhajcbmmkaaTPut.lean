/- A timer is put in. -/
import Derived.Test.YtlnblhajcbmmkaaTSink
namespace Go.Proofs.Ytlnblhajcbmmkaa
open Go.RowKit

/-- Timers in memory: V in a heap, with the blocks of F. -/
structure Tq (w : World) (q : Nat) (F : Nat → Prop) (V : List Tm) : Prop where
  ex : ∃ ao cap mb f, Qm w q 0 ao cap mb V V.length f ∧ Heap V f ∧ F q ∧ F mb ∧ ∀ a, ao = some a → F a.block
  lt : ∀ g, F g → g < w.heap.size

/-- F, and what is new. -/
def more (F : Nat → Prop) (w w' : World) : Nat → Prop := fun g => F g ∨ (w.heap.size ≤ g ∧ g < w'.heap.size)

theorem Tq.touch {S F : Nat → Prop} {w w' : World} {q : Nat} {V : List Tm} (h : Tq w q F V) (ht : Touch S w w') (hS : ∀ g, S g → ¬ F g) : Tq w' q F V := by
  obtain ⟨ao, cap, mb, f, h1, h2, h3, h4, h5⟩ := h.ex
  exact ⟨⟨ao, cap, mb, f, h1.touch ht (fun e => hS _ e h3) (fun a ha e => hS _ e (h5 a ha)) (fun e => hS _ e h4), h2, h3, h4, h5⟩, fun g hg => Nat.lt_of_lt_of_le (h.lt g hg) ht.size⟩

theorem Tq.calm {F : Nat → Prop} {w w' : World} {q : Nat} {V : List Tm} (h : Tq w q F V) (ht : Calm w w') : Tq w' q F V := h.touch ht fun _ h => h.elim

theorem Tq.good {F : Nat → Prop} {w : World} {q : Nat} {V : List Tm} (h : Tq w q F V) : ∀ t ∈ V, Good t := by
  obtain ⟨ao, cap, mb, f, h1, _⟩ := h.ex
  exact h1.good

theorem Tq.nd {F : Nat → Prop} {w : World} {q : Nat} {V : List Tm} (h : Tq w q F V) : Nd V := by
  obtain ⟨ao, cap, mb, f, _, h2, _⟩ := h.ex
  exact h2.nd

theorem exec_tapp {ρ : Operand → Value} {o : Oper} {s x : Operand} {t : TypeId} {w w' : World} {v' : Value} (ho : o.op = .call { callee := .builtin .append, args := #[s, x], argTypes := #[t, t] })
    (h : (Builtin.append_ #[t, t] o.type #[ρ s, ρ x]).run Try.prog w = .ok v' w') : (execOp ρ o).run Try.prog w = .ok (.value v') w' := by
  unfold execOp
  simp only [ho, resolve, invoke, builtin, Sem.run_bind, Sem.run_pure, Result.andThen_ok, List.map_toArray, List.map_cons, List.map_nil, h]

theorem tms_one (w : World) (t : Tm) : Tms (w.alloc (.cells (tc t) 35)) (some ⟨w.heap.size, 0, none⟩) [t] := fun j hj => by
  have hj0 : j = 0 := by simpa using hj
  subst hj0
  have h := heap_alloc_last w (.cells (tc t) 35)
  obtain ⟨⟨c0, c1, c2, c3⟩, -⟩ := cells4 h
  exact ⟨w.heap.size, 0, rfl, c0, c1, c2, c3⟩

set_option maxRecDepth 100000 in
set_option maxHeartbeats 2000000 in
theorem put_any (q : Nat) (F : Nat → Prop) (V : List Tm) (t : Tm) (w : World) (h : Tq w q F V) (ht : t ∉ V) (gt : Good t) (hb : V.length < 3518437208790) :
    Calls Try.prog 39 #[.pointer (some ⟨q, 0, none⟩), tv t] w fun e w' => (∃ v, e = .returned v) ∧ (∃ V', Tq w' q (more F w w') V' ∧ ∀ x, x ∈ V' ↔ x ∈ V ∨ x = t) ∧ Touch F w w' := by
  obtain ⟨ao, cap, mb, f, qm, hp, fq, fm, fr⟩ := h.ex
  have HLT := hide h.lt
  have HQ := hide qm
  have HH := hide hp
  have HF := hide (show F q ∧ F mb ∧ ∀ a, ao = some a → F a.block from ⟨fq, fm, fr⟩)
  have HT := hide ht
  have GT := hide gt
  have HB := hide hb
  clear h qm hp fq fm fr ht gt hb
  obtain ⟨L, hL⟩ : ∃ L, V.length = L := ⟨_, rfl⟩
  have HL := hide hL
  clear hL
  go_enter Try.func39, Try.ntmps39
  go_wp2_with fail
  obtain ⟨A, eA⟩ : ∃ A, A = w.heap.size := ⟨_, rfl⟩
  obtain ⟨w0, ew0⟩ : ∃ w0, w0 = w.alloc (.cells #[.int .i64 t.at_, .string t.key, .int .i64 t.start, .int .i64 t.stop] 35) := ⟨_, rfl⟩
  have tA : Calm w w0 := by rw [ew0]; exact (Touch.refl _ _).alloc _
  have HA : Hid (w0.heap[A]? = some (.cells (tc t) 35 (0, 0))) := hide (by rw [ew0, eA]; exact heap_alloc_last w _)
  have HQ0 := hide (HQ.out.calm tA)
  have TA := hide tA
  have HAN : Hid (w.heap.size ≤ A) := hide (by omega)
  have HA0 := hide (lt_of_heap HA.out)
  rw [← eA, ← ew0]
  clear tA eA ew0
  obtain ⟨S, eS⟩ : ∃ S : Nat → Prop, S = fun x => (Value.slice ao V.length cap).ownBlock = some x := ⟨_, rfl⟩
  have HSF : Hid (∀ x, S x → F x ∧ x ≠ q ∧ x ≠ mb ∧ x < w.heap.size) := hide (fun x hx => by
    rw [eS] at hx
    cases ao with
    | none => simp [Value.ownBlock] at hx
    | some a =>
      simp [Value.ownBlock] at hx
      obtain ⟨_, _, h3, h4, h5⟩ := HQ.out.apart.2.2.2 _ rfl
      rw [← hx]
      exact ⟨HF.out.2.2 a rfl, h4, h5, h3⟩)
  refine wp_only ?_
  refine wp_region_z 10 (Touch S w0) (by kernel_rfl) ?_
  have hT0 : Touch S w0 { w0 with drawn := w0.drawn + 1 } := (Touch.refl _ w0).drew
  have hC0 : Calm w0 { w0 with drawn := w0.drawn + 1 } := (Touch.refl _ w0).drew
  refine wpAnyZ_yield 0 4 (.pointer (some ⟨q, 0, none⟩)) [10] rfl rfl (by kernel_rfl) (by kernel_rfl) (by kernel_rfl) (by kernel_rfl) (by kernel_rfl) (fun _ _ _ h => h) (by kernel_rfl) (fun W hW => by kernel_rfl) (by assumption) rfl rfl ?_
  simp only [Act.put, List.setIfInBounds_toArray, List.set_cons_zero, List.set_cons_succ]
  refine wpAnyZ_yield 1 5 (.pointer (some ⟨q, 0, none⟩)) [10] rfl rfl (by kernel_rfl) (by kernel_rfl) (by kernel_rfl) (by kernel_rfl) (by kernel_rfl) (fun _ _ _ h => h) (by kernel_rfl) (fun W hW => by kernel_rfl) (by assumption) rfl rfl ?_
  simp only [Act.put, List.setIfInBounds_toArray, List.set_cons_zero, List.set_cons_succ]
  refine wpAnyZ_yield 2 6 (.pointer (some ⟨q, 0, none⟩)) [10] rfl rfl (by kernel_rfl) (by kernel_rfl) (by kernel_rfl) (by kernel_rfl) (by kernel_rfl) (fun _ _ _ h => h) (by kernel_rfl) (fun W hW => by kernel_rfl) (by assumption) rfl rfl ?_
  simp only [Act.put, List.setIfInBounds_toArray, List.set_cons_zero, List.set_cons_succ]
  refine wpAnyZ_yield 3 7 (.pointer (some ⟨q, 0, none⟩)) [10] rfl rfl (by kernel_rfl) (by kernel_rfl) (by kernel_rfl) (by kernel_rfl) (by kernel_rfl) (fun _ _ _ h => h) (by kernel_rfl) (fun W hW => by go_simp) (by assumption) rfl rfl ?_
  simp only [Act.put, List.setIfInBounds_toArray, List.set_cons_zero, List.set_cons_succ]
  refine wpAnyZ_yield 4 8 (.slice ao L cap) [10] rfl rfl (by kernel_rfl) (by kernel_rfl) (by kernel_rfl) (by kernel_rfl) (by kernel_rfl) (fun _ _ _ h => h) (by kernel_rfl) (fun W hW => by have c0 := (cells2 (hW.heap HQ0.out.own (fun e => (HSF.out q e).2.1 rfl))).1; rw [HL.out] at c0; go_simp) (by assumption) rfl rfl ?_
  simp only [Act.put, List.setIfInBounds_toArray, List.set_cons_zero, List.set_cons_succ]
  refine wpAnyZ_yield 5 9 (tv t) [10] rfl rfl (by kernel_rfl) (by kernel_rfl) (by kernel_rfl) (by kernel_rfl) (by kernel_rfl) (fun _ _ _ h => h) (by kernel_rfl) (fun W hW => by obtain ⟨⟨c0, c1, c2, c3⟩, -⟩ := cells4 (hW.heap HA.out (fun e => by have := (HSF.out A e).2.2.2; have := HAN.out; omega)); go_simp) (by assumption) rfl rfl ?_
  simp only [Act.put, List.setIfInBounds_toArray, List.set_cons_zero, List.set_cons_succ]
  generalize ({ w0 with drawn := w0.drawn + 1 } : World) = w1 at *
  have tB : Calm w1 (w1.alloc (.cells (tc t) 35)) := (Touch.refl _ _).alloc _
  refine wpAnyZ_value 6 10 (.slice (some ⟨w1.heap.size, 0, none⟩) 1 1) (w' := w1.alloc (.cells (tc t) 35)) rfl rfl (by decide) (by kernel_rfl) (by kernel_rfl) (by go_simp) (hT0.alloc _) ?_
  simp only [Act.put, List.setIfInBounds_toArray, List.set_cons_zero, List.set_cons_succ]
  have OW1 : OwnT (w1.alloc (.cells (tc t) 35)) 0 (.slice ao V.length cap) V := (HQ0.out.row.calm hC0).calm tB
  have PM := tms_one w1 t
  obtain ⟨ao', cap', w2, hr2, ow2, t2, loc2⟩ := run_tapp (w1.alloc (.cells (tc t) 35)) 0 22 _ V OW1 (some ⟨w1.heap.size, 0, none⟩) 1 [t] PM (fun h => (nomatch h)) (by have := HB.out; simp; omega) (Nat.zero_le _)
  obtain ⟨L1, eL1⟩ : ∃ L1, L1 = L + 1 := ⟨_, rfl⟩
  have HL1 := hide eL1
  have e2 : (V ++ [t]).length = L1 := by rw [List.length_append, HL.out, eL1]; rfl
  have HE2 := hide e2
  have hT2 : Touch S w0 w2 := (hT0.alloc _).trans (t2.mono (fun g _ hg => by rw [eS]; exact hg)) (fun _ _ h => h)
  rw [e2, HL.out] at hr2
  rw [e2] at ow2 loc2
  refine wpAnyZ_value 7 11 (.slice ao' L1 cap') (w' := w2) rfl rfl (by decide) (by kernel_rfl) (by kernel_rfl) (exec_tapp rfl hr2) hT2 ?_
  simp only [Act.put, List.setIfInBounds_toArray, List.set_cons_zero, List.set_cons_succ]
  refine wpAnyZ_yield 8 12 (.pointer (some ⟨q, 0, none⟩)) [9,10] rfl rfl (by kernel_rfl) (by kernel_rfl) (by kernel_rfl) (by kernel_rfl) (by kernel_rfl) (fun _ _ _ h => h) (by kernel_rfl) (fun W hW => by kernel_rfl) (by assumption) rfl rfl ?_
  simp only [Act.put, List.setIfInBounds_toArray, List.set_cons_zero, List.set_cons_succ]
  refine wpAnyZ_yield 9 13 (.pointer (some ⟨q, 0, none⟩)) [10] rfl rfl (by kernel_rfl) (by kernel_rfl) (by kernel_rfl) (by kernel_rfl) (by kernel_rfl) (fun _ _ _ h => h) (by kernel_rfl) (fun W hW => by go_simp) (by assumption) rfl rfl ?_
  simp only [Act.put, List.setIfInBounds_toArray, List.set_cons_zero, List.set_cons_succ]
  refine wpAnyZ_end rfl (by kernel_rfl) (by kernel_rfl) (by kernel_rfl) ?_
  have o2 := hT2.heap HQ0.out.own (fun e => (HSF.out q e).2.1 rfl)
  have a2 := hT2.heap HA.out (fun e => by have := (HSF.out A e).2.2.2; have := HAN.out; omega)
  have m2 := HQ0.out.map.touch hT2 (fun e => (HSF.out mb e).2.2.1 rfl)
  have ts : Touch (fun x => x = q) w2 (w2.setCell ⟨q, 0, none⟩ (.slice ao' L1 cap')) := (Touch.refl (fun x => x = q) w2).setCell (p := ⟨q, 0, none⟩) (fun _ => rfl) _
  have o3 : (w2.setCell ⟨q, 0, none⟩ (.slice ao' L1 cap')).heap[q]? = some (.cells #[.slice ao' L1 cap', .map (some mb)] 59 (0, 0)) := by
    have := heap_setCell_row (i := 0) o2 (.slice ao' L1 cap'); simpa using this
  obtain ⟨-, -, row3, -⟩ := OwnT.prs ow2
  obtain ⟨es, clock, hm2⟩ := m2.isMap
  have Q3 : Hid (Qm (w2.setCell ⟨q, 0, none⟩ (.slice ao' L1 cap')) q 0 ao' cap' mb (V ++ [t]) V.length f) := hide ⟨by rw [e2]; exact o3, by rw [e2]; exact OwnT.touch ow2 ts (fun x hx e => by
      cases ao' with
      | none => simp [Value.ownBlock] at hx
      | some a =>
        simp [Value.ownBlock] at hx
        obtain ⟨_, _, _, cs, hc⟩ := row3 a rfl
        exact tags hc o2 (by decide) (hx.trans e)), m2.touch ts (fun e => by rw [e, o2] at hm2; cases hm2), fun x hx => by
    rcases List.mem_append.1 hx with hx | hx
    · exact HQ.out.good x hx
    · rw [List.mem_singleton.1 hx]; exact GT.out⟩
  have A3 := hide (ts.heap a2 (fun e => tags a2 o2 (by decide) e))
  have T3 : Hid (Touch F w (w2.setCell ⟨q, 0, none⟩ (.slice ao' L1 cap'))) := hide (((TA.out.mono (fun _ _ h => h.elim)).trans (hT2.mono (S' := F) (fun g _ h => (HSF.out g h).1)) (fun _ _ h => h)).trans ts (fun g _ e => by rw [e]; exact HF.out.1))
  have LOC : Hid (∀ a, ao' = some a → F a.block ∨ w0.heap.size ≤ a.block) := hide (fun a ha => by
    subst ha
    rcases loc2 a.block (by simp [Value.ownBlock]) with h | h
    · exact .inl (HSF.out _ (by rw [eS]; exact h)).1
    · exact .inr (Nat.le_trans hC0.size (Nat.le_trans tB.size h)))
  obtain ⟨d0, d1⟩ := cells2 o2
  have fz : w2.frozen? ⟨q, 0, none⟩ = false := by simp [World.frozen?, o2]
  clear o2 a2 m2 ts o3 row3 hm2 hT2 t2 ow2 loc2 hr2 OW1 PM tB hT0 hC0 HQ0 HA HSF eS e2 eL1
  unfold Oper.wp
  go_simp
  rw [onlyN_normal]
  generalize w2.setCell ⟨q, 0, none⟩ (.slice ao' L1 cap') = w3 at *
  clear d0 d1 fz
  obtain ⟨g, eg⟩ := Q3.out.shape (by simp)
  subst eg
  obtain ⟨ho, hro⟩ := HH.out.put HT.out
  have RI := hide (fun W hW => rise_any q 0 g cap' mb V.length L1 V.length (V ++ [t]) f t false (V ++ [t]) W hW ho hro (by rw [HL1.out, HL.out]; rfl) HE2.out (by have := HB.out; have := HL.out; have := HL1.out; omega) GT.out)
  rw [HL.out] at RI
  have HGM := hide (Q3.out.apart)
  clear ho hro
  have hsub : wrap64 ((L1 : Int) - 1) = (L : Int) := by have := HB.out; have := HL.out; have := HL1.out; unfold wrap64; omega
  go_wp2_with fail
  refine wp_only ?_
  refine wp_region_held (S := Touch (fun x => x = g ∨ x = mb) w3) (by kernel_rfl) ?_
  have hT0 : Touch (fun x => x = g ∨ x = mb) w3 { w3 with drawn := w3.drawn + 1 } := (Touch.refl _ w3).drew
  have hC0 : Calm w3 { w3 with drawn := w3.drawn + 1 } := (Touch.refl _ w3).drew
  have HGQ : Hid (¬ (q = g ∨ q = mb)) := hide (fun e => by obtain ⟨_, _, h3, h4⟩ := HGM.out; have := (h4 _ rfl).2.2.2.1; simp at this; omega)
  have HGA : Hid (¬ (A = g ∨ A = mb)) := hide (fun e => by
    rcases e with e | e
    · rcases LOC.out _ rfl with h | h
      · have := HLT.out g h; have := HAN.out; omega
      · have := HA0.out; simp at h; omega
    · obtain ⟨es, ck, hm⟩ := Q3.out.map.isMap
      have h1 := A3.out
      rw [e, hm] at h1; cases h1)
  refine wpAnyH_yield 0 14 (.pointer (some ⟨q, 0, none⟩)) rfl rfl (by kernel_rfl) (by kernel_rfl) (by kernel_rfl) (fun _ _ _ h => h) (by kernel_rfl) (fun W hW => by kernel_rfl) (by assumption) rfl rfl ?_
  simp only [Act.put, List.setIfInBounds_toArray, List.set_cons_zero, List.set_cons_succ]
  refine wpAnyH_yield 1 15 (.pointer (some ⟨q, 0, none⟩)) rfl rfl (by kernel_rfl) (by kernel_rfl) (by kernel_rfl) (fun _ _ _ h => h) (by kernel_rfl) (fun W hW => by kernel_rfl) (by assumption) rfl rfl ?_
  simp only [Act.put, List.setIfInBounds_toArray, List.set_cons_zero, List.set_cons_succ]
  refine wpAnyH_yield 2 16 (.pointer (some ⟨q, 0, none⟩)) rfl rfl (by kernel_rfl) (by kernel_rfl) (by kernel_rfl) (fun _ _ _ h => h) (by kernel_rfl) (fun W hW => by kernel_rfl) (by assumption) rfl rfl ?_
  simp only [Act.put, List.setIfInBounds_toArray, List.set_cons_zero, List.set_cons_succ]
  refine wpAnyH_yield 3 17 (.pointer (some ⟨q, 0, none⟩)) rfl rfl (by kernel_rfl) (by kernel_rfl) (by kernel_rfl) (fun _ _ _ h => h) (by kernel_rfl) (fun W hW => by go_simp) (by assumption) rfl rfl ?_
  simp only [Act.put, List.setIfInBounds_toArray, List.set_cons_zero, List.set_cons_succ]
  refine wpAnyH_yield 4 18 (.slice (some ⟨g, 0, none⟩) L1 cap') rfl rfl (by kernel_rfl) (by kernel_rfl) (by kernel_rfl) (fun _ _ _ h => h) (by kernel_rfl) (fun W hW => by have c0 := (cells2 (hW.heap Q3.out.own HGQ.out)).1; rw [HE2.out] at c0; go_simp) (by assumption) rfl rfl ?_
  simp only [Act.put, List.setIfInBounds_toArray, List.set_cons_zero, List.set_cons_succ]
  refine wpAnyH_yield 5 19 (.int .i64 (L1 : Int)) rfl rfl (by kernel_rfl) (by kernel_rfl) (by kernel_rfl) (fun _ _ _ h => h) (by kernel_rfl) (fun W hW => by kernel_rfl) (by assumption) rfl rfl ?_
  simp only [Act.put, List.setIfInBounds_toArray, List.set_cons_zero, List.set_cons_succ]
  refine wpAnyH_yield 6 20 (.int .i64 (L : Int)) rfl rfl (by kernel_rfl) (by kernel_rfl) (by kernel_rfl) (fun _ _ _ h => h) (by kernel_rfl) (fun W hW => by go_simp; rw [wrapEq]; exact hsub) (by assumption) rfl rfl ?_
  simp only [Act.put, List.setIfInBounds_toArray, List.set_cons_zero, List.set_cons_succ]
  refine wpAnyH_yield 7 21 (tv t) rfl rfl (by kernel_rfl) (by kernel_rfl) (by kernel_rfl) (fun _ _ _ h => h) (by kernel_rfl) (fun W hW => by obtain ⟨⟨c0, c1, c2, c3⟩, -⟩ := cells4 (hW.heap A3.out HGA.out); go_simp) (by assumption) rfl rfl ?_
  simp only [Act.put, List.setIfInBounds_toArray, List.set_cons_zero, List.set_cons_succ]
  refine wpAnyH_enter 8 22 47 #[.pointer (some ⟨q, 0, none⟩), .int .i64 (L : Int), tv t] rfl rfl (by kernel_rfl) (by kernel_rfl) (by kernel_rfl) ?_
  refine (RI.out _ (by have h9 := Q3.out.calm hC0; rw [HL.out] at h9; exact h9)).mono ?_
  rintro e w9 ⟨⟨v9, rfl⟩, V9, f9, q9, h9, m9, l9, t9⟩
  have hT9 : Touch (fun x => x = g ∨ x = mb) w3 w9 := hT0.trans t9 (fun _ _ h => h)
  refine ⟨_, rfl, hT9, ?_⟩
  simp only [Act.put, List.setIfInBounds_toArray, List.set_cons_zero, List.set_cons_succ]
  refine wpAnyH_done (by kernel_rfl) ?_ _
  rw [onlyN_normal]
  have RES : Hid ((∃ V', Tq w9 q (more F w w9) V' ∧ ∀ x, x ∈ V' ↔ x ∈ V ∨ x = t) ∧ Touch F w w9) := hide (by
    have hg9 : w.heap.size ≤ g ∨ F g := (LOC.out _ rfl).symm.imp (fun h => Nat.le_trans TA.out.size h) id
    have ht9 : Touch F w w9 := T3.out.trans hT9 (fun x hx e => by
      rcases e with e | e
      · rcases hg9 with h | h
        · omega
        · rw [e]; exact h
      · rw [e]; exact HF.out.2.1)
    refine ⟨⟨V9, ⟨⟨some ⟨g, 0, none⟩, cap', mb, f9, q9, h9, .inl HF.out.1, .inl HF.out.2.1, fun a ha => ?_⟩, fun x hx => ?_⟩, fun x => by rw [m9]; simp⟩, ht9⟩
    · injection ha with ha; subst ha
      rcases hg9 with h | h
      · exact .inr ⟨h, (q9.apart.2.2.2 _ rfl).2.2.1⟩
      · exact .inl h
    · rcases hx with hx | hx
      · exact Nat.lt_of_lt_of_le (HLT.out x hx) ht9.size
      · exact hx.2)
  clear hT0 hC0 hT9 t9 q9 h9 m9 l9 hsub
  go_wp2_with fail
  go_end0
  exact ⟨⟨_, rfl⟩, RES.out⟩

end Go.Proofs.Ytlnblhajcbmmkaa
