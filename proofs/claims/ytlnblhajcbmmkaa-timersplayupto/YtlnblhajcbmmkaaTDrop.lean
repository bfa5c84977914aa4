/- Next, Drop, Move. -/
import Derived.Test.YtlnblhajcbmmkaaTKnow
namespace Go.Proofs.Ytlnblhajcbmmkaa
open Go.RowKit

set_option maxRecDepth 100000 in
set_option maxHeartbeats 1000000 in
theorem next_any (q : Nat) (F : Nat → Prop) (V : List Tm) (w : World) (h : Tq w q F V) (h0 : 0 < V.length) :
    Calls Try.prog 19 #[.pointer (some ⟨q, 0, none⟩)] w fun e w' => e = .returned (.tuple #[tv (nth V 0), .bool true]) ∧ Calm w w' := by
  have tA : Calm w (w.alloc (.cells #[.int .i64 0, .string { data := #[] }, .int .i64 0, .int .i64 0] 35)) := (Touch.refl _ _).alloc _
  have LN := hide (len_any q F V _ (h.calm tA))
  have GD := hide (h.good _ (mem_nth.2 ⟨0, h0, rfl⟩))
  obtain ⟨ao, cap, mb, f, qm, -⟩ := h.ex
  obtain ⟨g, eg⟩ := qm.shape h0
  subst eg
  have q1 := qm.calm tA
  obtain ⟨c0, c1⟩ := q1.cells
  obtain ⟨d0, d1, d2, d3⟩ := q1.at_ h0
  rw [Nat.zero_mul] at d0 d1 d2 d3
  simp only [Nat.zero_add] at d1 d2 d3
  have hA := heap_alloc_last w (.cells #[.int .i64 0, .string { data := #[] }, .int .i64 0, .int .i64 0] 35)
  have HA := hide hA
  have TA := hide tA
  have hl : ((V.length : Int) == 0) = false := by rw [beq_eq_false_iff_ne]; omega
  have hl2 : (0 : Int) < (V.length : Int) := by omega
  have AP := hide (fun W => apart_any (nth V 0) W GD.out)
  generalize nth V 0 = x at *
  clear qm q1 h hA tA
  generalize V.length = L at *
  go_enter Try.func19, Try.ntmps19
  go_wp2_with fail
  refine LN.out.mono ?_
  rintro e w' ⟨rfl, hq⟩
  subst hq
  go_wp2_with fail
  refine (AP.out _).mono ?_
  rintro e w2 ⟨rfl, t2⟩
  have T2 := hide (TA.out.tr t2)
  obtain ⟨⟨z0, z1, z2, z3⟩, y0, y1, y2, y3⟩ := cells4 (t2.at HA.out)
  clear t2 c0 c1 d0 d1 d2 d3
  go_wp2_with fail
  refine ⟨rfl, .tuple #[tv x, .bool true], ?_, rfl, ?_⟩
  · simp [results, Try.results19, go_sem, z0, z1, z2, z3]
  · exact (((T2.out.setCell (p := ⟨w.heap.size, 0, none⟩) (fun h => by simp at h) _).setCell (p := ⟨w.heap.size, 1, none⟩) (fun h => by simp at h) _).setCell (p := ⟨w.heap.size, 2, none⟩) (fun h => by simp at h) _).setCell (p := ⟨w.heap.size, 3, none⟩) (fun h => by simp at h) _

set_option maxRecDepth 100000 in
set_option maxHeartbeats 1000000 in
theorem next_none (q : Nat) (F : Nat → Prop) (w : World) (h : Tq w q F []) :
    Calls Try.prog 19 #[.pointer (some ⟨q, 0, none⟩)] w fun e w' => e = .returned (.tuple #[tv tm0, .bool false]) ∧ Calm w w' := by
  have tA : Calm w (w.alloc (.cells #[.int .i64 0, .string { data := #[] }, .int .i64 0, .int .i64 0] 35)) := (Touch.refl _ _).alloc _
  have LN := hide (len_any q F [] _ (h.calm tA))
  simp only [List.length_nil] at LN
  have hA := heap_alloc_last w (.cells #[.int .i64 0, .string { data := #[] }, .int .i64 0, .int .i64 0] 35)
  obtain ⟨⟨c0, c1, c2, c3⟩, f0, f1, f2, f3⟩ := cells4 hA
  go_enter Try.func19, Try.ntmps19
  go_wp2_with fail
  refine LN.out.mono ?_
  rintro e w' ⟨rfl, hq⟩
  subst hq
  go_wp2_with fail
  refine ⟨rfl, _, ?_, rfl, tA⟩
  simp [results, Try.results19, go_sem, c0, c1, c2, c3, tm0]

/-- What Drop does. -/
def DropR (w : World) (q : Nat) (F : Nat → Prop) (V : List Tm) (t : Tm) (e : Ending) (w' : World) : Prop :=
  e = .returned (.bool (decide (t ∈ V))) ∧ (∃ V', Tq w' q F V' ∧ ∀ x, x ∈ V' ↔ x ∈ V ∧ x ≠ t) ∧ Touch F w w'

set_option maxRecDepth 100000 in
set_option maxHeartbeats 1000000 in
theorem drop_any (q : Nat) (F : Nat → Prop) (V : List Tm) (t : Tm) (w : World) (h : Tq w q F V) (gt : Good t) (hb : V.length < 3518437208790) :
    Calls Try.prog 21 #[.pointer (some ⟨q, 0, none⟩), tv t] w (DropR w q F V t) := by
  have tA : Calm w (w.alloc (.cells #[.int .i64 t.at_, .string t.key, .int .i64 t.start, .int .i64 t.stop] 35)) := (Touch.refl _ _).alloc _
  have HS := hide (has_any q F V t _ (h.calm tA) gt)
  have HA := hide (heap_alloc_last w (.cells (tc t) 35))
  have H := hide h
  have GT := hide gt
  have HB := hide hb
  have TA := hide tA
  obtain ⟨⟨c0, c1, c2, c3⟩, -⟩ := cells4 HA.out
  clear h gt hb tA
  unfold DropR
  by_cases ht : t ∈ V
  · have hd : decide (t ∈ V) = true := decide_eq_true ht
    rw [hd] at HS
    have HT := hide ht
    clear ht
    go_enter Try.func21, Try.ntmps21
    go_wp2_with fail
    refine HS.out.mono ?_
    rintro e w2 ⟨rfl, t2⟩
    have tq2 := H.out.calm (TA.out.tr t2)
    obtain ⟨i, hi, ei⟩ := mem_nth.1 HT.out
    obtain ⟨ao, cap, mb, f, qm, hp, fq, fm, -⟩ := tq2.ex
    have hfi : f t = some i := by rw [← ei]; exact hp.pl i hi
    have TK := hide (fun W (hW : Calm w2 W) => take_any q F V i W (tq2.calm hW) hi HB.out)
    have Q2 := hide qm
    have HFI := hide hfi
    have HEI := hide ei
    have A2 := hide (t2.at HA.out)
    have T2 := hide (TA.out.tr t2)
    have HLT := hide tq2.lt
    have HD := hide hd
    clear tq2 qm hp fq fm hfi ei t2 c0 c1 c2 c3 HA hd
    go_wp2_with fail
    generalize w.heap.size = A at *
    refine wp_only ?_
    refine wp_region_z 7 (Calm w2) (by kernel_rfl) ?_
    have hT0 : Calm w2 { w2 with drawn := w2.drawn + 1 } := (Touch.refl (fun _ => False) w2).drew
    refine wpAnyZ_yield 0 9 (.pointer (some ⟨q, 0, none⟩)) [7] rfl rfl (by kernel_rfl) (by kernel_rfl) (by kernel_rfl) (by kernel_rfl) (by kernel_rfl) (fun _ _ _ h => h) (by kernel_rfl) (fun W hW => by kernel_rfl) (by assumption) rfl rfl ?_
    simp only [Act.put, List.setIfInBounds_toArray, List.set_cons_zero, List.set_cons_succ]
    refine wpAnyZ_yield 1 10 (.pointer (some ⟨q, 0, none⟩)) [2,3,4,6,7] rfl rfl (by kernel_rfl) (by kernel_rfl) (by kernel_rfl) (by kernel_rfl) (by kernel_rfl) (fun _ _ _ h => h) (by kernel_rfl) (fun W hW => by kernel_rfl) (by assumption) rfl rfl ?_
    simp only [Act.put, List.setIfInBounds_toArray, List.set_cons_zero, List.set_cons_succ]
    refine wpAnyZ_yield 2 11 (.pointer (some ⟨q, 0, none⟩)) [3,4,6,7] rfl rfl (by kernel_rfl) (by kernel_rfl) (by kernel_rfl) (by kernel_rfl) (by kernel_rfl) (fun _ _ _ h => h) (by kernel_rfl) (fun W hW => by kernel_rfl) (by assumption) rfl rfl ?_
    simp only [Act.put, List.setIfInBounds_toArray, List.set_cons_zero, List.set_cons_succ]
    refine wpAnyZ_yield 3 12 (.pointer (some ⟨q, 1, none⟩)) [4,6,7] rfl rfl (by kernel_rfl) (by kernel_rfl) (by kernel_rfl) (by kernel_rfl) (by kernel_rfl) (fun _ _ _ h => h) (by kernel_rfl) (fun W hW => by go_simp) (by assumption) rfl rfl ?_
    simp only [Act.put, List.setIfInBounds_toArray, List.set_cons_zero, List.set_cons_succ]
    refine wpAnyZ_yield 4 13 (.map (some mb)) [6,7] rfl rfl (by kernel_rfl) (by kernel_rfl) (by kernel_rfl) (by kernel_rfl) (by kernel_rfl) (fun _ _ _ h => h) (by kernel_rfl) (fun W hW => by obtain ⟨c0, c1⟩ := (Q2.out.calm hW).cells; go_simp) (by assumption) rfl rfl ?_
    simp only [Act.put, List.setIfInBounds_toArray, List.set_cons_zero, List.set_cons_succ]
    refine wpAnyZ_yield 5 14 (tv t) [6,7] rfl rfl (by kernel_rfl) (by kernel_rfl) (by kernel_rfl) (by kernel_rfl) (by kernel_rfl) (fun _ _ _ h => h) (by kernel_rfl) (fun W hW => by obtain ⟨⟨c0, c1, c2, c3⟩, -⟩ := cells4 (hW.at A2.out); go_simp) (by assumption) rfl rfl ?_
    simp only [Act.put, List.setIfInBounds_toArray, List.set_cons_zero, List.set_cons_succ]
    refine wpAnyZ_yield 6 15 (.int .i64 (i : Int)) [7] rfl rfl (by kernel_rfl) (by kernel_rfl) (by kernel_rfl) (by kernel_rfl) (by kernel_rfl) (fun _ _ _ h => h) (by kernel_rfl) (fun W hW => by have hl := (Q2.out.calm hW).map.get GT.out; rw [HFI.out] at hl; simp only [Option.getD_some] at hl; go_simp) (by assumption) rfl rfl ?_
    simp only [Act.put, List.setIfInBounds_toArray, List.set_cons_zero, List.set_cons_succ]
    refine wpAnyZ_last 16 38 #[.pointer (some ⟨q, 0, none⟩), .int .i64 (i : Int)] rfl rfl (by kernel_rfl) (by kernel_rfl) (by kernel_rfl) (by kernel_rfl) ?_
    refine (TK.out _ hT0).mono ?_
    rintro e w9 ⟨rfl, ⟨V9, tq9, m9⟩, t9⟩
    refine ⟨_, rfl, ?_⟩
    simp only [Act.put, List.setIfInBounds_toArray, List.set_cons_zero, List.set_cons_succ]
    rw [onlyN_normal]
    have RES : Hid ((∃ V', Tq w9 q F V' ∧ ∀ x, x ∈ V' ↔ x ∈ V ∧ x ≠ t) ∧ Touch F w w9) := hide ⟨⟨V9, tq9, fun x => by rw [m9, HEI.out]⟩, ((T2.out.tr hT0).mono (fun _ _ h => h.elim)).trans t9 (fun _ _ h => h)⟩
    clear tq9 m9 t9 hT0
    go_wp2_with fail
    go_ret
    exact ⟨by rw [HD.out]; rfl, RES.out⟩
  · have hd : decide (t ∈ V) = false := decide_eq_false ht
    rw [hd] at HS
    have HT := hide ht
    have HD := hide hd
    clear ht hd
    go_enter Try.func21, Try.ntmps21
    go_wp2_with fail
    refine HS.out.mono ?_
    rintro e w2 ⟨rfl, t2⟩
    have T2 := hide (TA.out.tr t2)
    clear t2 c0 c1 c2 c3
    go_wp2_with fail
    go_ret
    exact ⟨by rw [HD.out]; rfl, ⟨V, H.out.calm T2.out, fun x => ⟨fun hx => ⟨hx, fun e => HT.out (e ▸ hx)⟩, fun hx => hx.1⟩⟩, T2.out.mono (fun _ _ h => h.elim)⟩

/-- What Move does. -/
def MoveR (w : World) (q : Nat) (F : Nat → Prop) (V : List Tm) (t u : Tm) (e : Ending) (w' : World) : Prop :=
  e = .returned (.tuple #[.bool (decide (t ∈ V)), .int .i64 0]) ∧ (∃ V', Tq w' q (more F w w') V' ∧ ∀ x, x ∈ V' ↔ (x ∈ V ∧ x ≠ t) ∨ x = u) ∧ Touch F w w'

set_option maxRecDepth 100000 in
set_option maxHeartbeats 1000000 in
theorem move_any (q : Nat) (F : Nat → Prop) (V : List Tm) (t u : Tm) (w : World) (h : Tq w q F V) (gt : Good t) (gu : Good u) (hb : V.length < 3518437208790) :
    Calls Try.prog 27 #[.pointer (some ⟨q, 0, none⟩), tv t, tv u] w (MoveR w q F V t u) := by
  have tA : Calm w ((w.alloc (.cells #[.int .i64 t.at_, .string t.key, .int .i64 t.start, .int .i64 t.stop] 35)).alloc (.cells #[.int .i64 u.at_, .string u.key, .int .i64 u.start, .int .i64 u.stop] 35)) := ((Touch.refl _ _).alloc _).alloc _
  have IT := hide (isThere_any q F V _ (h.calm tA))
  have DR := hide (drop_any q F V t _ (h.calm tA) gt hb)
  have H := hide h
  have GU := hide gu
  have HB := hide hb
  have TA := hide tA
  have hA : (two w t u).heap[w.heap.size]? = some (.cells (tc t) 35 (0, 0)) := (Below.heap_alloc _ _ _ (by simp)).trans (heap_alloc_last w _)
  have hB : (two w t u).heap[w.heap.size + 1]? = some (.cells (tc u) 35 (0, 0)) := by
    have := heap_alloc_last (w.alloc (.cells (tc t) 35)) (.cells (tc u) 35)
    simpa using this
  obtain ⟨⟨c0, c1, c2, c3⟩, -⟩ := cells4 hA
  have HBB := hide hB
  clear h gt gu hb tA hA hB
  unfold MoveR
  go_enter Try.func27, Try.ntmps27
  go_wp2_with fail
  refine IT.out.mono ?_
  rintro e w' ⟨rfl, hq⟩
  subst hq
  go_wp2_with fail
  refine DR.out.mono ?_
  rintro e w2 ⟨rfl, ⟨V2, tq2, m2⟩, t2⟩
  have B2 := hide (t2.heap HBB.out (fun hF => by have := H.out.lt _ hF; omega))
  obtain ⟨⟨d0, d1, d2, d3⟩, -⟩ := cells4 B2.out
  have T2 : Hid (Touch F w w2) := hide ((TA.out.mono (fun _ _ h => h.elim)).trans t2 (fun _ _ h => h))
  have HV2 : Hid (V2.length < 3518437208790) := hide (by
    have := sub_len (A := V2) (B := V) tq2.nd.nodup (fun x hx => ((m2 x).1 hx).1)
    have := HB.out; omega)
  have SE := hide (set_any q F V2 u w2 tq2 GU.out HV2.out)
  have M2 := hide m2
  clear t2 tq2 m2 c0 c1 c2 c3
  generalize hbb : decide (t ∈ V) = bb at *
  have HBD := hide hbb
  clear hbb
  go_wp2_with fail
  refine SE.out.mono ?_
  rintro e w3 ⟨rfl, ⟨V3, tq3, m3⟩, t3⟩
  have T3 : Hid (Touch F w w3) := hide (T2.out.trans t3 (fun _ _ h => h))
  have RES : Hid (∃ V', Tq w3 q (more F w w3) V' ∧ ∀ x, x ∈ V' ↔ (x ∈ V ∧ x ≠ t) ∨ x = u) := hide ⟨V3, tq3.wide (more_mono T2.out.size) (more_lt H.out T3.out.size), fun x => by rw [m3, M2.out]⟩
  clear t3 tq3 m3 d0 d1 d2 d3
  generalize (!decide (u ∈ V2)) = cc at *
  go_wp2_with fail
  go_ret2
  exact ⟨by rw [HBD.out]; rfl, RES.out, T3.out⟩

end Go.Proofs.Ytlnblhajcbmmkaa
