/- The document's clock: Set. -/
import Derived.Test.YtcmigkemhoecfaaK1
namespace Go.Proofs.Ytcmigkemhoecfaa
open Go.RowKit

theorem rset_nil (s t : Int) (w : World) : Calls Try.prog 38 #[.pointer none, .int .i64 s, .int .i64 t] w fun e w' => e = .returned (.tuple #[.int .i64 0, .int .i64 0, .int .i64 1]) ∧ w' = w := by
  go_enter Try.func38, Try.ntmps38
  go_wp2_with fail
  go_ret3
  exact ⟨rfl, rfl⟩

/-- May it be set? -/
def setB (L : List Int) (s t : Int) : Bool := decide (0 ≤ s) && (decide (s < L.length) && timC t)

set_option maxRecDepth 100000 in
set_option maxHeartbeats 1000000 in
theorem rset_bad (q : Nat) (F : Nat → Prop) (L : List Int) (H : List Hd) (s t : Int) (w : World) (h : Rk w q F L H) (hb : setB L s t = false) : Calls Try.prog 38 #[.pointer (some ⟨q, 0, none⟩), .int .i64 s, .int .i64 t] w fun e w' => e = .returned (.tuple #[.int .i64 0, .int .i64 0, .int .i64 5]) ∧ w' = w := by
  obtain ⟨lo, lc, ho, hc, -, -, see⟩ := h.see
  obtain ⟨c0, -⟩ := see w (Touch.refl _ _)
  have CT := hide (rtime13_any t)
  unfold setB at hb
  generalize timC t = tb at *
  generalize L.length = n at *
  clear h see
  by_cases h0 : s < 0
  · clear hb
    go_enter Try.func38, Try.ntmps38
    go_wp2_with fail
    go_ret3
    exact ⟨rfl, rfl⟩
  by_cases h1 : s < n
  · have ht : tb = false := by
      rw [decide_eq_true (by omega), decide_eq_true h1] at hb
      simpa using hb
    subst ht
    have z0 : ¬ (n : Int) ≤ s := by omega
    clear hb
    go_enter Try.func38, Try.ntmps38
    go_wp2_with fail
    refine (CT.out _).mono ?_
    rintro e w1 ⟨rfl, rfl⟩
    go_wp2_with fail
    go_ret3
    exact ⟨rfl, rfl⟩
  · have z0 : (n : Int) ≤ s := by omega
    clear hb
    go_enter Try.func38, Try.ntmps38
    go_wp2_with fail
    go_ret3
    exact ⟨rfl, rfl⟩

theorem jn_set {w : World} {base g n cap : Nat} {L : List Int} (h : encJ.Own 2 w base (.slice (some ⟨g, 0, none⟩) n cap) L) (i : Nat) (x : Int) :
    encJ.Own 2 (w.setCell ⟨g, i, none⟩ (.int .i64 x)) base (.slice (some ⟨g, 0, none⟩) n cap) (L.set i x) := by
  have hnL : n = L.length := (Rc.Own.mem h).1
  have ef : ∀ L : List Int, encJ.flat L = L.map (Value.int .i64) := fun L => by
    induction L with
    | nil => rfl
    | cons x L ih => show [Value.int .i64 x] ++ encJ.flat L = _; rw [ih]; rfl
  obtain ⟨h1, ⟨hv, h2⟩ | ⟨g', cap', cur, hv, h3, h4, h5, h6, h7, h8⟩⟩ := h
  · cases hv
  · injection hv with e1 e2 e3
    injection e1 with e1
    injection e1 with e1
    subst e1 e3
    have k0 := heap_setCell_row (i := i) h4 (.int .i64 x)
    refine ⟨by rw [encJ.flat_len], .inr ⟨g, cap, _, ?_, h3, k0, by rw [List.length_set]; exact h5, h6, by simpa using h7, ?_⟩⟩
    · rw [List.length_set, hnL]
    · rw [List.length_set, ef, List.map_set, ← ef, ← h8]
      simp only [Array.toList_setIfInBounds, List.take_set]

set_option maxRecDepth 100000 in
set_option maxHeartbeats 1000000 in
theorem rset_ok (q : Nat) (F : Nat → Prop) (L : List Int) (H : List Hd) (i : Nat) (t : Int) (w : World) (h : Rk w q F L H) (hi : i < L.length) (ht : timC t = true) (hl : L.length ≤ 140737488355328) : Calls Try.prog 38 #[.pointer (some ⟨q, 0, none⟩), .int .i64 (i : Int), .int .i64 t] w fun e w' => e = .returned (.tuple #[.int .i64 (mkN L), .int .i64 (mkN (L.set i (max (L.getD i 0) t))), .int .i64 0]) ∧ Rk w' q F (L.set i (max (L.getD i 0) t)) H ∧ Touch F w w' := by
  have C1 := hide (rmark_any q F L H w h hl)
  have CT := hide (rtime13_any t)
  rw [ht] at CT
  obtain ⟨lo, lc, ho, hc, cq, o1, o2, f1, f2⟩ := h.ex
  have C2 : Hid (∀ W, Rk W q F (L.set i (max (L.getD i 0) t)) H → Calls Try.prog 42 #[.pointer (some ⟨q, 0, none⟩)] W fun e w' => e = .returned (.int .i64 (mkN (L.set i (max (L.getD i 0) t)))) ∧ w' = W) := hide fun W hW => rmark_any q F _ H W hW (by rw [List.length_set]; exact hl)
  obtain ⟨b, off, rfl, ci⟩ := ints_at (Rc.Own.mem o1).2.1 i hi
  have hoff : off = 0 := ((Rc.Own.mem o1).2.2.2.2.2 _ rfl).2.1
  subst hoff
  rw [Nat.zero_add] at ci
  obtain ⟨-, cur, hcur⟩ := Rc.own_block o1 (g := b) rfl
  have fz := hd_frozen hcur i
  have hbq : ¬ b = q := fun e => by rw [e, cq] at hcur; injection hcur with hcur; injection hcur with _ e; cases e
  obtain ⟨c0, -⟩ := rk_cells cq
  have FIN : Hid (∀ W, Calm w W → Rk (W.setCell ⟨b, i, none⟩ (.int .i64 (max (L.getD i 0) t))) q F (L.set i (max (L.getD i 0) t)) H ∧ Touch F w (W.setCell ⟨b, i, none⟩ (.int .i64 (max (L.getD i 0) t)))) := hide fun W T0 => by
    have tS : Touch (fun k => k = b) W (W.setCell ⟨b, i, none⟩ (.int .i64 (max (L.getD i 0) t))) := (Touch.refl (fun k => k = b) _).setCell (p := ⟨b, i, none⟩) (fun _ => rfl) _
    refine ⟨⟨⟨some ⟨b, 0, none⟩, lc, ho, hc, ?_, ?_, ?_, ?_, f2⟩, h.at_, ?_, ?_⟩, ?_⟩
    · rw [List.length_set]
      exact tS.heap (T0.at cq) (fun e => hbq e.symm)
    · rw [List.length_set]
      exact jn_set (Rc.Own.calm o1 T0) i _
    · refine Rc.Own.touch (Rc.Own.calm o2 T0) tS fun g hg e => ?_
      obtain ⟨-, cur2, hc2⟩ := Rc.own_block o2 hg
      rw [e, hcur] at hc2
      injection hc2 with hc2
      injection hc2 with _ e
      cases e
    · rw [List.length_set]; exact f1
    · intro g hg
      have := h.lt g hg
      have := (T0.mono (S' := fun k => k = b) fun _ _ h => h.elim).size
      have := tS.size
      omega
    · intro e
      have := congrArg List.length e
      rw [List.length_set] at this
      exact h.ne (List.eq_nil_of_length_eq_zero this)
    · refine (T0.mono fun _ _ h => h.elim).trans (tS.mono fun g _ e => ?_) (fun _ _ h => h)
      rw [e]; exact f1 b rfl
  have KQ : Hid (∀ W, Calm w W → W.cell? ⟨q, 0, none⟩ = some (.slice (some ⟨b, 0, none⟩) L.length lc) ∧ W.cell? ⟨b, i, none⟩ = some (.int .i64 (L.getD i 0)) ∧ W.frozen? ⟨b, i, none⟩ = false) := hide fun W hW => ⟨(rk_cells (hW.at cq)).1, (hW.cell (p := ⟨b, i, none⟩) (lt_of_heap hcur) (fun h => h)).trans ci, hd_frozen (hW.at hcur) i⟩
  have hiz : (i : Int) < (L.length : Int) := by omega
  have z0 : ¬ (L.length : Int) ≤ (i : Int) := by omega
  clear h cq o1 o2 f1 f2 hcur ht ci fz
  generalize L.getD i 0 = y at *
  have C2' : Hid (∀ W, Calm w W → Calls Try.prog 42 #[.pointer (some ⟨q, 0, none⟩)] (W.setCell ⟨b, i, none⟩ (.int .i64 (max y t))) fun e w' => e = .returned (.int .i64 (mkN (L.set i (max y t)))) ∧ w' = (W.setCell ⟨b, i, none⟩ (.int .i64 (max y t)))) := hide fun W hW => C2.out _ (FIN.out W hW).1
  clear C2
  generalize mkN (L.set i (max y t)) = R2 at *
  generalize mkN L = R1 at *
  generalize hn : L.length = n at *
  go_enter Try.func38, Try.ntmps38
  go_wp2_with fail
  refine (CT.out _).mono ?_
  rintro e w1 ⟨rfl, rfl⟩
  go_wp2_with fail
  refine C1.out.mono ?_
  rintro e w1 ⟨rfl, rfl⟩
  clear C1 CT
  go_wp2_with fail
  refine wp_region_z 15 (Calm w1) (by kernel_rfl) ?_
  have hT0 : Calm w1 { w1 with drawn := w1.drawn + 1 } := (Touch.refl _ w1).drew
  refine wpAnyZ_yield 0 30 (.pointer (some ⟨q, 0, none⟩)) [15] rfl rfl (by kernel_rfl) (by kernel_rfl) (by kernel_rfl) (by kernel_rfl) (by kernel_rfl) (fun _ _ _ h => h) (by kernel_rfl) (fun W hW => by kernel_rfl) (by assumption) rfl rfl ?_
  simp only [Act.put, List.setIfInBounds_toArray, List.set_cons_zero, List.set_cons_succ]
  refine wpAnyZ_yield 1 31 (.pointer (some ⟨q, 0, none⟩)) [15] rfl rfl (by kernel_rfl) (by kernel_rfl) (by kernel_rfl) (by kernel_rfl) (by kernel_rfl) (fun _ _ _ h => h) (by kernel_rfl) (fun W hW => by go_simp) (by assumption) rfl rfl ?_
  simp only [Act.put, List.setIfInBounds_toArray, List.set_cons_zero, List.set_cons_succ]
  refine wpAnyZ_yield 2 32 (.pointer (some ⟨q, 0, none⟩)) [15] rfl rfl (by kernel_rfl) (by kernel_rfl) (by kernel_rfl) (by kernel_rfl) (by kernel_rfl) (fun _ _ _ h => h) (by kernel_rfl) (fun W hW => by go_simp) (by assumption) rfl rfl ?_
  simp only [Act.put, List.setIfInBounds_toArray, List.set_cons_zero, List.set_cons_succ]
  refine wpAnyZ_yield 3 33 (.slice (some ⟨b, 0, none⟩) n lc) [15] rfl rfl (by kernel_rfl) (by kernel_rfl) (by kernel_rfl) (by kernel_rfl) (by kernel_rfl) (fun _ _ _ h => h) (by kernel_rfl) (fun W hW => by obtain ⟨k0, -⟩ := KQ.out W hW; go_simp) (by assumption) rfl rfl ?_
  simp only [Act.put, List.setIfInBounds_toArray, List.set_cons_zero, List.set_cons_succ]
  refine wpAnyZ_yield 4 34 (.int .i64 (i : Int)) [15] rfl rfl (by kernel_rfl) (by kernel_rfl) (by kernel_rfl) (by kernel_rfl) (by kernel_rfl) (fun _ _ _ h => h) (by kernel_rfl) (fun W hW => by kernel_rfl) (by assumption) rfl rfl ?_
  simp only [Act.put, List.setIfInBounds_toArray, List.set_cons_zero, List.set_cons_succ]
  refine wpAnyZ_yield 5 35 (.pointer (some ⟨q, 0, none⟩)) [15] rfl rfl (by kernel_rfl) (by kernel_rfl) (by kernel_rfl) (by kernel_rfl) (by kernel_rfl) (fun _ _ _ h => h) (by kernel_rfl) (fun W hW => by kernel_rfl) (by assumption) rfl rfl ?_
  simp only [Act.put, List.setIfInBounds_toArray, List.set_cons_zero, List.set_cons_succ]
  refine wpAnyZ_yield 6 36 (.pointer (some ⟨q, 0, none⟩)) [15] rfl rfl (by kernel_rfl) (by kernel_rfl) (by kernel_rfl) (by kernel_rfl) (by kernel_rfl) (fun _ _ _ h => h) (by kernel_rfl) (fun W hW => by go_simp) (by assumption) rfl rfl ?_
  simp only [Act.put, List.setIfInBounds_toArray, List.set_cons_zero, List.set_cons_succ]
  refine wpAnyZ_yield 7 37 (.pointer (some ⟨q, 0, none⟩)) [15] rfl rfl (by kernel_rfl) (by kernel_rfl) (by kernel_rfl) (by kernel_rfl) (by kernel_rfl) (fun _ _ _ h => h) (by kernel_rfl) (fun W hW => by go_simp) (by assumption) rfl rfl ?_
  simp only [Act.put, List.setIfInBounds_toArray, List.set_cons_zero, List.set_cons_succ]
  refine wpAnyZ_yield 8 38 (.slice (some ⟨b, 0, none⟩) n lc) [15] rfl rfl (by kernel_rfl) (by kernel_rfl) (by kernel_rfl) (by kernel_rfl) (by kernel_rfl) (fun _ _ _ h => h) (by kernel_rfl) (fun W hW => by obtain ⟨k0, -⟩ := KQ.out W hW; go_simp) (by assumption) rfl rfl ?_
  simp only [Act.put, List.setIfInBounds_toArray, List.set_cons_zero, List.set_cons_succ]
  refine wpAnyZ_yield 9 39 (.int .i64 (i : Int)) [15] rfl rfl (by kernel_rfl) (by kernel_rfl) (by kernel_rfl) (by kernel_rfl) (by kernel_rfl) (fun _ _ _ h => h) (by kernel_rfl) (fun W hW => by kernel_rfl) (by assumption) rfl rfl ?_
  simp only [Act.put, List.setIfInBounds_toArray, List.set_cons_zero, List.set_cons_succ]
  refine wpAnyZ_yield 10 40 (.pointer (some ⟨b, i, none⟩)) [15] rfl rfl (by kernel_rfl) (by kernel_rfl) (by kernel_rfl) (by kernel_rfl) (by kernel_rfl) (fun _ _ _ h => h) (by kernel_rfl) (fun W hW => by go_simp) (by assumption) rfl rfl ?_
  simp only [Act.put, List.setIfInBounds_toArray, List.set_cons_zero, List.set_cons_succ]
  refine wpAnyZ_yield 11 41 (.int .i64 y) [15] rfl rfl (by kernel_rfl) (by kernel_rfl) (by kernel_rfl) (by kernel_rfl) (by kernel_rfl) (fun _ _ _ h => h) (by kernel_rfl) (fun W hW => by obtain ⟨-, k1, -⟩ := KQ.out W hW; go_simp) (by assumption) rfl rfl ?_
  simp only [Act.put, List.setIfInBounds_toArray, List.set_cons_zero, List.set_cons_succ]
  refine wpAnyZ_yield 12 42 (.int .i64 t) [15] rfl rfl (by kernel_rfl) (by kernel_rfl) (by kernel_rfl) (by kernel_rfl) (by kernel_rfl) (fun _ _ _ h => h) (by kernel_rfl) (fun W hW => by kernel_rfl) (by assumption) rfl rfl ?_
  simp only [Act.put, List.setIfInBounds_toArray, List.set_cons_zero, List.set_cons_succ]
  refine wpAnyZ_yield 13 43 (.int .i64 (max y t)) [15] rfl rfl (by kernel_rfl) (by kernel_rfl) (by kernel_rfl) (by kernel_rfl) (by kernel_rfl) (fun _ _ _ h => h) (by kernel_rfl) (fun W hW => by go_simp) (by assumption) rfl rfl ?_
  simp only [Act.put, List.setIfInBounds_toArray, List.set_cons_zero, List.set_cons_succ]
  refine wpAnyZ_yield 14 44 (.pointer (some ⟨b, i, none⟩)) [15] rfl rfl (by kernel_rfl) (by kernel_rfl) (by kernel_rfl) (by kernel_rfl) (by kernel_rfl) (fun _ _ _ h => h) (by kernel_rfl) (fun W hW => by go_simp) (by assumption) rfl rfl ?_
  simp only [Act.put, List.setIfInBounds_toArray, List.set_cons_zero, List.set_cons_succ]
  generalize ({ w1 with drawn := w1.drawn + 1 } : World) = wD at *
  refine wpAnyZ_end rfl (by kernel_rfl) (by kernel_rfl) (by kernel_rfl) ?_
  obtain ⟨-, k1, k2⟩ := KQ.out _ hT0
  have C3 := hide (C2'.out _ hT0)
  obtain ⟨q1, q2⟩ := FIN.out _ hT0
  have Q1 := hide q1
  have Q2 := hide q2
  clear C2' FIN KQ hT0 q1 q2
  unfold Oper.wp
  go_simp
  go_wp2_with fail
  refine C3.out.mono ?_
  rintro e w2 ⟨rfl, rfl⟩
  go_wp2_with fail
  go_ret3
  exact ⟨rfl, Q1.out, Q2.out⟩

end Go.Proofs.Ytcmigkemhoecfaa
