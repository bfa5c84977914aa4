/- The verifier's step, kind 7: a queue is put aside and goes on as its copy. -/
import Derived.Test.YtlnblhajcbmmkaaTPw
namespace Go.Proofs.Ytlnblhajcbmmkaa
open Go.RowKit

/-- A step has been taken. -/
def Stp7R (w : World) (b k : Nat) (A B : Od) (e : Ending) (W' : World) : Prop :=
  e = .returned (.bool true) ∧ ∃ (A' : Od) (Os' : List Od) (u' v' : Value) (col' : Nat → Nat), Pw w b k A' B Os' u' v' col' W' ∧ A'.L.length ≤ A.L.length + 1 ∧ Os'.length ≤ 20

/-- 'append' by what it answers. -/
theorem wpList_vapp {w : World} {ops : Array Oper} {rest : List Oper} {o : Oper} {a : Act} {Q : Exit → Act → World → Prop} (hgd : o.guard = none) (s x : Operand) {SL : TypeId}
    (ho : o.op = .call { callee := .builtin .append, args := #[s, x], argTypes := #[SL, SL] }) (v xv : Value) (hs : a.eval s = v) (hx : a.eval x = xv) (v' : Value) (w' : World) (hr : (Builtin.append_ #[SL, SL] o.type #[v, xv]).run Try.prog w = .ok v' w')
    (h : wpList Try.prog ops Q rest (a.put o.dst v') w') : wpList Try.prog ops Q (o :: rest) a w :=
  wpList_plain hgd fun K hK => by
    unfold Oper.wp
    rw [exec_tapp ho (by rw [hs, hx]; exact hr)]
    exact hK _ _ h

set_option maxRecDepth 100000 in
set_option maxHeartbeats 4000000 in
theorem step7_0 (w W : World) (b : Nat) (A B : Od) (Os : List Od) (u v : Value) (col : Nat → Nat) (on leave : Int) (t tu : Tm) (upto : Int) (h : Pw w b 0 A B Os u v col W) (hk : kOf on = 0) (hl : A.L.length < 3518437208780) (ho : Os.length ≤ 20) :
    Calls Try.prog 11 #[.pointer (some ⟨b, 0, none⟩), sv ⟨7, on, leave, t, tu, upto⟩] W (Stp7R w b 0 A B) := by
  obtain ⟨uo, uc, eu⟩ := own_shape h.ru
  obtain ⟨vo, vc, ev⟩ := own_shape h.rv
  obtain ⟨m, em⟩ : ∃ m, Os.length = m := ⟨_, rfl⟩
  obtain ⟨ln, eln⟩ : ∃ ln, A.L.length = ln := ⟨_, rfl⟩
  rw [em] at eu ev
  subst eu ev
  have tA : Calm W (W.alloc (.cells (sc ⟨7, on, leave, t, tu, upto⟩) 41)) := (Touch.refl _ _).alloc _
  have P0 := hide (h.still tA)
  have hB := heap_alloc_last W (.cells (sc ⟨7, on, leave, t, tu, upto⟩) 41)
  have HM := hide em
  have HLN := hide eln
  have HL9 := hide hl
  have HM2 : Hid (m ≤ 20) := hide (by omega)
  have HLV : Hid (A.V.length < 3518437208790) := hide (by have := h.wd.len; omega)
  obtain ⟨d0, d1, d2, ⟨d3, d4, d5, d6⟩, ⟨d7, d8, d9, d10⟩, d11⟩ := cells12 hB
  have hO : (W.alloc (.cells (sc ⟨7, on, leave, t, tu, upto⟩) 41)).heap[b]? = some (.cells #[.pointer (some ⟨A.q, 0, none⟩), B.ptr, .slice A.lo ln A.lc, B.sl, .slice uo m uc, .slice vo m vc] 31 (0, 0)) := by have h9 := P0.out.own; rw [← eln]; exact h9
  obtain ⟨e0, e1, e2, e3, e4, e5⟩ := cells6 hO
  have OW0 := hide hO
  unfold kOf at hk
  simp only at d0 d1 d2 d3 d4 d5 d6 d7 d8 d9 d10 d11
  clear h tA hB hl em eln hO ho
  by_cases h20 : m < 20
  · have hmi : (m : Int) < 20 := by omega
    have CU : Hid (∀ g, (Value.slice uo m uc).ownBlock = some g → col g = 2) := hide P0.out.uc
    have RU := hide P0.out.ru
    rw [HM.out] at RU
    obtain ⟨uo', uc', w1, hr1, ru1, t1, loc1⟩ := run_vapp Try.underlying28 infoPtr rfl (by decide) (W.alloc (.cells (sc ⟨7, on, leave, t, tu, upto⟩) 41)) w.heap.size 28 (.slice uo m uc) (Os.map Od.ptr) (by rw [List.length_map, HM.out]; exact RU.out) (.pointer (some ⟨A.q, 0, none⟩)) rfl (by rw [List.length_map, HM.out]; omega) P0.out.calm.size
    rw [List.length_map, HM.out] at hr1 ru1 loc1
    have HR1 := hide hr1
    rw [show (W.alloc (.cells (sc ⟨7, on, leave, t, tu, upto⟩) 41)).heap.size = W.heap.size + 1 by simp] at HR1
    have ow1 := t1.heap OW0.out (fun e => by have := CU.out b e; have := P0.out.bc; omega)
    have f4 : w1.frozen? ⟨b, 4, none⟩ = false := by simp [World.frozen?, ow1]
    obtain ⟨g0, g1, g2, g3, g4, g5⟩ := cells6 ow1
    have o2 := heap_setCell_row (i := 4) ow1 (.slice uo' (m + 1) uc')
    simp at o2
    have t2 : Touch (fun g => g = b) w1 (w1.setCell ⟨b, 4, none⟩ (.slice uo' (m + 1) uc')) := (Touch.refl (fun g => g = b) w1).setCell (p := ⟨b, 4, none⟩) (fun _ => rfl) _
    have OW1 := hide ow1
    have RU1 := hide ru1
    have T1 := hide t1
    have LOC1 := hide loc1
    have O2 := hide o2
    have TT2 := hide t2
    clear hr1 ru1 t1 loc1 ow1 o2 t2
    go_enter Try.func11, Try.ntmps11
    go_wp2_with (at_builtin; refine wpList_vapp rfl (.tmp 236) (.tmp 238) rfl _ _ rfl rfl (.slice uo' (m + 1) uc') w1 HR1.out ?nx)
    clear e0 e1 e2 e3 e4 e5 HR1 d0 d1 d2 d3 d4 d5 d6 d7 d8 d9 d10 d11 g0 g1 g2 g3 g4 g5 f4
    obtain ⟨m9, em9⟩ : ∃ m9, m9 = m + 1 := ⟨_, rfl⟩
    rw [← em9] at O2 TT2 LOC1 RU1 ⊢
    have HM9 := hide em9
    clear em9
    obtain ⟨w2, ew2⟩ : ∃ w2, w2 = w1.setCell ⟨b, 4, none⟩ (.slice uo' m9 uc') := ⟨_, rfl⟩
    rw [← ew2] at O2 TT2 ⊢
    clear ew2
    have T02 : Hid (Touch (fun g => (Value.slice uo m uc).ownBlock = some g ∨ g = b) (W.alloc (.cells (sc ⟨7, on, leave, t, tu, upto⟩) 41)) w2) := hide ((T1.out.mono (fun _ _ h => .inl h)).trans TT2.out (fun _ _ h => .inr h))
    have CC : Hid (∀ g, ((Value.slice uo m uc).ownBlock = some g ∨ g = b) → col g = 2 ∨ col g = 4) := hide (fun g hg => hg.elim (fun h => .inl (CU.out g h)) (fun h => .inr (by rw [h]; exact P0.out.bc)))
    have OW2 : Hid (w2.heap[b]? = some (.cells #[.pointer (some ⟨A.q, 0, none⟩), B.ptr, .slice A.lo ln A.lc, B.sl, (.slice uo' m9 uc'), .slice vo m vc] 31 (0, 0))) := hide O2.out
    have TQ2 := hide (P0.out.a.tq.touch T02.out (fun g hg hf => by have h1 := CC.out g hg; have h2 := P0.out.a.fc g hf; omega))
    have RL2 := hide (P0.out.a.rl.touch T02.out (fun a ha hn hg => by have h1 := CC.out _ hg; have h2 := (P0.out.a.rc a ha hn).1; omega))
    have RV0 := hide P0.out.rv
    rw [HM.out] at RV0
    have RV2 := hide (own_touch RV0.out T02.out (fun g hg hs => by have h1 := CC.out g hs; have h2 := P0.out.vc g hg; omega))
    have CW2 : Hid (Calm w w2) := hide (P0.out.calm.trans T02.out (fun g hg hs => by have h1 := CC.out g hs; have h2 := P0.out.low g hg; omega))
    have HVB : Hid (¬ (Value.slice vo m vc).ownBlock = some b) := hide (fun e => by have := P0.out.vc b e; have := P0.out.bc; omega)
    have NFV : Hid (∀ g, A.F g → ¬ ((Value.slice vo m vc).ownBlock = some g ∨ g = b)) := hide (fun g hf hs => by
      have h2 := P0.out.a.fc g hf
      rcases hs with hs | hs
      · have := P0.out.vc g hs; omega
      · rw [hs] at h2; have := P0.out.bc; omega)
    have RU2 := hide (own_touch RU1.out TT2.out (fun g hg e => by
      subst e
      obtain ⟨_, cur, hc⟩ := own_block RU1.out hg
      exact tags hc OW1.out (by decide) rfl))
    have LU : Hid (∀ g, (Value.slice uo' m9 uc').ownBlock = some g → (Value.slice uo m uc).ownBlock = some g ∨ (W.alloc (.cells (sc ⟨7, on, leave, t, tu, upto⟩) 41)).heap.size ≤ g ∧ g < w2.heap.size) := hide (fun g hg => (LOC1.out g hg).imp id (fun h => ⟨h, (World.ownsRow.lt RU2.out g hg).2⟩))
    have N02 : Hid ((W.alloc (.cells (sc ⟨7, on, leave, t, tu, upto⟩) 41)).heap.size ≤ w2.heap.size) := hide T02.out.size
    clear T1 LOC1 O2 TT2 RU1 OW1 RU CU
    refine wp_only ?_
    refine wp_region_z 11 (Touch (fun g => (Value.slice vo m vc).ownBlock = some g) w2) (by kernel_rfl) ?_
    have hS0 : Touch (fun g => (Value.slice vo m vc).ownBlock = some g) w2 { w2 with drawn := w2.drawn + 1 } := (Touch.refl _ w2).drew
    have hC0 : Calm w2 { w2 with drawn := w2.drawn + 1 } := (Touch.refl (fun _ => False) w2).drew
    generalize ({ w2 with drawn := w2.drawn + 1 } : World) = w3 at *
    refine wpAnyZ_yield 0 242 (.pointer (some ⟨b, 0, none⟩)) [11] rfl rfl (by kernel_rfl) (by kernel_rfl) (by kernel_rfl) (by kernel_rfl) (by kernel_rfl) (fun _ _ _ h => h) (by kernel_rfl) (fun W hW => by kernel_rfl) (by assumption) rfl rfl ?_
    simp only [Act.put, List.setIfInBounds_toArray, List.set_cons_zero, List.set_cons_succ]
    refine wpAnyZ_yield 1 243 (.pointer (some ⟨b, 0, none⟩)) [11] rfl rfl (by kernel_rfl) (by kernel_rfl) (by kernel_rfl) (by kernel_rfl) (by kernel_rfl) (fun _ _ _ h => h) (by kernel_rfl) (fun W hW => by kernel_rfl) (by assumption) rfl rfl ?_
    simp only [Act.put, List.setIfInBounds_toArray, List.set_cons_zero, List.set_cons_succ]
    refine wpAnyZ_yield 2 244 (.pointer (some ⟨b, 0, none⟩)) [11] rfl rfl (by kernel_rfl) (by kernel_rfl) (by kernel_rfl) (by kernel_rfl) (by kernel_rfl) (fun _ _ _ h => h) (by kernel_rfl) (fun W hW => by go_simp) (by assumption) rfl rfl ?_
    simp only [Act.put, List.setIfInBounds_toArray, List.set_cons_zero, List.set_cons_succ]
    refine wpAnyZ_yield 3 245 (.pointer (some ⟨b, 5, none⟩)) [11] rfl rfl (by kernel_rfl) (by kernel_rfl) (by kernel_rfl) (by kernel_rfl) (by kernel_rfl) (fun _ _ _ h => h) (by kernel_rfl) (fun W hW => by go_simp) (by assumption) rfl rfl ?_
    simp only [Act.put, List.setIfInBounds_toArray, List.set_cons_zero, List.set_cons_succ]
    refine wpAnyZ_yield 4 246 (.slice vo m vc) [11] rfl rfl (by kernel_rfl) (by kernel_rfl) (by kernel_rfl) (by kernel_rfl) (by kernel_rfl) (fun _ _ _ h => h) (by kernel_rfl) (fun W hW => by obtain ⟨-, -, -, -, -, c5⟩ := cells6 (hW.heap OW2.out HVB.out); go_simp) (by assumption) rfl rfl ?_
    simp only [Act.put, List.setIfInBounds_toArray, List.set_cons_zero, List.set_cons_succ]
    refine wpAnyZ_yield 5 247 (.slice A.lo ln A.lc) [11] rfl rfl (by kernel_rfl) (by kernel_rfl) (by kernel_rfl) (by kernel_rfl) (by kernel_rfl) (fun _ _ _ h => h) (by kernel_rfl) (fun W hW => by kernel_rfl) (by assumption) rfl rfl ?_
    simp only [Act.put, List.setIfInBounds_toArray, List.set_cons_zero, List.set_cons_succ]
    obtain ⟨co, cc, w4, hr4, ow4, t4, loc4⟩ := run_tapp w3 w3.heap.size 22 (.slice none 0 0) [] (World.ownsRow_nil _ _ _ _) A.lo A.lc A.L (RL2.out.tms.calm hC0) RL2.out.nil (by have := HL9.out; simp; omega) (Nat.le_refl _)
    rw [List.nil_append, HLN.out] at hr4 ow4
    have c34 : Calm w3 w4 := t4.mono (fun g _ hg => by simp [Value.ownBlock] at hg)
    have hS4 := hS0.trans c34 (fun _ _ h => h.elim)
    refine wpAnyZ_value 6 248 (.slice co ln cc) (w' := w4) rfl rfl (by decide) (by kernel_rfl) (by kernel_rfl) (exec_tapp rfl hr4) hS4 ?_
    simp only [Act.put, List.setIfInBounds_toArray, List.set_cons_zero, List.set_cons_succ]
    obtain ⟨vo', vc', w5, hr5, rv5, t5, loc5⟩ := run_vapp Try.underlying29 infoSl rfl (by decide) w4 w.heap.size 29 (.slice vo m vc) (Os.map Od.sl) (by rw [List.length_map, HM.out]; exact own_touch (own_touch RV2.out hC0 (fun _ _ h => h)) c34 (fun _ _ h => h)) (.slice co ln cc) rfl (by rw [List.length_map, HM.out]; have := HM2.out; omega) (Nat.le_trans CW2.out.size (Nat.le_trans hC0.size c34.size))
    rw [List.length_map, HM.out] at hr5 rv5 loc5
    have tA5 : Calm w4 (w4.alloc (.cells #[.slice co ln cc] 22)) := (Touch.refl _ _).alloc _
    refine wpAnyZ_value 7 249 (.slice (some ⟨w4.heap.size, 0, none⟩) 1 1) (w' := w4.alloc (.cells #[.slice co ln cc] 22)) rfl rfl (by decide) (by kernel_rfl) (by kernel_rfl) (by go_simp) (hS4.alloc _) ?_
    simp only [Act.put, List.setIfInBounds_toArray, List.set_cons_zero, List.set_cons_succ]
    have hS5 : Touch (fun g => (Value.slice vo m vc).ownBlock = some g) w2 w5 := hS4.trans t5 (fun _ _ h => h)
    obtain ⟨m1, em1⟩ : ∃ m1, m1 = m + 1 := ⟨_, rfl⟩
    have HM1 := hide em1
    rw [← em1] at hr5 rv5 loc5
    clear em1
    refine wpAnyZ_value 8 250 (.slice vo' m1 vc') (w' := w5) rfl rfl (by decide) (by kernel_rfl) (by kernel_rfl) (exec_tapp rfl hr5) hS5 ?_
    simp only [Act.put, List.setIfInBounds_toArray, List.set_cons_zero, List.set_cons_succ]
    refine wpAnyZ_yield 9 251 (.pointer (some ⟨b, 0, none⟩)) [10,11] rfl rfl (by kernel_rfl) (by kernel_rfl) (by kernel_rfl) (by kernel_rfl) (by kernel_rfl) (fun _ _ _ h => h) (by kernel_rfl) (fun W hW => by go_simp) (by assumption) rfl rfl ?_
    simp only [Act.put, List.setIfInBounds_toArray, List.set_cons_zero, List.set_cons_succ]
    refine wpAnyZ_yield 10 252 (.pointer (some ⟨b, 5, none⟩)) [11] rfl rfl (by kernel_rfl) (by kernel_rfl) (by kernel_rfl) (by kernel_rfl) (by kernel_rfl) (fun _ _ _ h => h) (by kernel_rfl) (fun W hW => by go_simp) (by assumption) rfl rfl ?_
    simp only [Act.put, List.setIfInBounds_toArray, List.set_cons_zero, List.set_cons_succ]
    refine wpAnyZ_end rfl (by kernel_rfl) (by kernel_rfl) (by kernel_rfl) ?_
    have OW5 := hS5.heap OW2.out HVB.out
    obtain ⟨e0, e1, e2, e3, e4, e5⟩ := cells6 OW5
    have fz : w5.frozen? ⟨b, 5, none⟩ = false := by simp [World.frozen?, OW5]
    unfold Oper.wp
    go_simp
    rw [onlyN_normal]
    have o6 := heap_setCell_row (i := 5) OW5 (.slice vo' m1 vc')
    simp at o6
    have t6s : Touch (fun g => g = b) w5 (w5.setCell ⟨b, 5, none⟩ (.slice vo' m1 vc')) := (Touch.refl (fun g => g = b) w5).setCell (p := ⟨b, 5, none⟩) (fun _ => rfl) _
    obtain ⟨w6, ew6⟩ : ∃ w6, w6 = w5.setCell ⟨b, 5, none⟩ (.slice vo' m1 vc') := ⟨_, rfl⟩
    rw [← ew6] at o6 t6s ⊢
    have OWC := hide o6
    have T26 : Hid (Touch (fun g => (Value.slice vo m vc).ownBlock = some g ∨ g = b) w2 w6) := hide ((hS5.mono (fun _ _ h => .inl h)).trans t6s (fun _ _ h => .inr h))
    have RV6 := hide (own_touch rv5 t6s (fun g hg e => by
      subst e
      obtain ⟨_, cur, hc⟩ := own_block rv5 hg
      exact tags hc OW5 (by decide) rfl))
    have CO4 := hide (OwnT.prs ow4)
    have CO6 := hide (show Rl w6 co cc A.L from by
      have r4 := (OwnT.rl ow4).1
      have r5 := r4.touch t5 (fun a ha hn hg => by
        obtain ⟨_, _, h1, cs, hc⟩ := CO4.out.2.2.1 a ha
        obtain ⟨_, cur, hc2⟩ := own_block (own_touch (own_touch RV2.out hC0 (fun _ _ h => h)) c34 (fun _ _ h => h)) hg
        exact tags hc hc2 (by decide) rfl)
      exact r5.touch t6s (fun a ha hn e => by
        obtain ⟨_, _, h1, cs, hc⟩ := CO4.out.2.2.1 a ha
        have hc5 := t5.heap hc (fun hg => by
          obtain ⟨_, cur, hc2⟩ := own_block (own_touch (own_touch RV2.out hC0 (fun _ _ h => h)) c34 (fun _ _ h => h)) hg
          exact tags hc hc2 (by decide) rfl)
        exact tags hc5 OW5 (by decide) e))
    have LCO : Hid (∀ a, co = some a → A.L ≠ [] → w2.heap.size ≤ a.block ∧ a.block < w4.heap.size) := hide (fun a ha hn => by
      obtain ⟨_, _, h1, cs, hc⟩ := CO4.out.2.2.1 a ha
      exact ⟨Nat.le_trans hC0.size h1, lt_of_heap hc⟩)
    have LV : Hid (∀ g, (Value.slice vo' m1 vc').ownBlock = some g → (Value.slice vo m vc).ownBlock = some g ∨ w4.heap.size ≤ g ∧ g < w6.heap.size) := hide (fun g hg => (loc5 g hg).imp id (fun h => ⟨h, (World.ownsRow.lt RV6.out g hg).2⟩))
    have N24 : Hid (w2.heap.size ≤ w4.heap.size) := hide (Nat.le_trans hC0.size c34.size)
    have N46 : Hid (w4.heap.size ≤ w6.heap.size) := hide (Nat.le_trans t5.size t6s.size)
    have TQC := hide ((TQ2.out.touch T26.out (fun g hg hf => NFV.out g hf hg)))
    clear OW5 e0 e1 e2 e3 e4 e5 fz o6 t6s ew6 hS0 hC0 hr4 ow4 t4 loc4 c34 hS4 hr5 rv5 t5 loc5 tA5 hS5 CO4
    go_wp2_with fail
    refine wp_only ?_
    refine wp_region_z 7 (Calm w6) (by kernel_rfl) ?_
    have ty0 : Calm w6 { w6 with drawn := w6.drawn + 1 } := (Touch.refl (fun _ => False) w6).drew
    have CP := copy_any A.q A.F A.V { w6 with drawn := w6.drawn + 1 } (TQC.out.calm ty0) HLV.out
    generalize ({ w6 with drawn := w6.drawn + 1 } : World) = x5 at *
    refine wpAnyZ_yield 0 253 (.pointer (some ⟨b, 0, none⟩)) [4,5,6,7] rfl rfl (by kernel_rfl) (by kernel_rfl) (by kernel_rfl) (by kernel_rfl) (by kernel_rfl) (fun _ _ _ h => h) (by kernel_rfl) (fun W hW => by kernel_rfl) (by assumption) rfl rfl ?_
    simp only [Act.put, List.setIfInBounds_toArray, List.set_cons_zero, List.set_cons_succ]
    refine wpAnyZ_yield 1 254 (.int .i64 0) [6,7] rfl rfl (by kernel_rfl) (by kernel_rfl) (by kernel_rfl) (by kernel_rfl) (by kernel_rfl) (fun _ _ _ h => h) (by kernel_rfl) (fun W hW => by kernel_rfl) (by assumption) rfl rfl ?_
    simp only [Act.put, List.setIfInBounds_toArray, List.set_cons_zero, List.set_cons_succ]
    refine wpAnyZ_yield 2 255 (.pointer (some ⟨A.q, 0, none⟩)) [3,7] rfl rfl (by kernel_rfl) (by kernel_rfl) (by kernel_rfl) (by kernel_rfl) (by kernel_rfl) (fun _ _ _ h => h) (by kernel_rfl) (fun W hW => by kernel_rfl) (by assumption) rfl rfl ?_
    simp only [Act.put, List.setIfInBounds_toArray, List.set_cons_zero, List.set_cons_succ]
    refine wpAnyZ_yield 4 257 (.pointer (some ⟨b, 0, none⟩)) [5,6,7] rfl rfl (by kernel_rfl) (by kernel_rfl) (by kernel_rfl) (by kernel_rfl) (by kernel_rfl) (fun _ _ _ h => h) (by kernel_rfl) (fun W hW => by go_simp) (by assumption) rfl rfl ?_
    simp only [Act.put, List.setIfInBounds_toArray, List.set_cons_zero, List.set_cons_succ]
    refine wpAnyZ_yield 5 258 (.pointer (some ⟨b, 0, none⟩)) [6,7] rfl rfl (by kernel_rfl) (by kernel_rfl) (by kernel_rfl) (by kernel_rfl) (by kernel_rfl) (fun _ _ _ h => h) (by kernel_rfl) (fun W hW => by go_simp) (by assumption) rfl rfl ?_
    simp only [Act.put, List.setIfInBounds_toArray, List.set_cons_zero, List.set_cons_succ]
    refine wpAnyZ_enter 3 256 29 #[.pointer (some ⟨A.q, 0, none⟩)] rfl rfl (by decide) (by kernel_rfl) (by kernel_rfl) (by kernel_rfl) ?_
    refine CP.mono ?_
    rintro e x6 ⟨q', F', rfl, tq6, hF6, t6⟩
    have ty6 : Calm w6 x6 := ty0.tr t6
    refine ⟨_, rfl, ty6, ?_⟩
    simp only [Act.put, List.setIfInBounds_toArray, List.set_cons_zero, List.set_cons_succ]
    have HF6 : Hid (∀ g, F' g → w6.heap.size ≤ g) := hide (fun g hg => Nat.le_trans ty0.size (hF6 g hg))
    clear CP hF6
    refine wpAnyZ_yield 6 259 (.pointer (some ⟨b, 0, none⟩)) [7] rfl rfl (by kernel_rfl) (by kernel_rfl) (by kernel_rfl) (by kernel_rfl) (by kernel_rfl) (fun _ _ _ h => h) (by kernel_rfl) (fun W hW => by go_simp) (by assumption) rfl rfl ?_
    simp only [Act.put, List.setIfInBounds_toArray, List.set_cons_zero, List.set_cons_succ]
    refine wpAnyZ_end rfl (by kernel_rfl) (by kernel_rfl) (by kernel_rfl) ?_
    have OW6 := ty6.at OWC.out
    obtain ⟨e0, e1, e2, e3, e4, e5⟩ := cells6 OW6
    have fz : x6.frozen? ⟨b, 0, none⟩ = false := by simp [World.frozen?, OW6]
    unfold Oper.wp
    go_simp
    rw [onlyN_normal]
    have o7 := heap_setCell_row (i := 0) OW6 (.pointer (some ⟨q', 0, none⟩))
    simp at o7
    have t7 : Touch (fun g => g = b) x6 (x6.setCell ⟨b, 0, none⟩ (.pointer (some ⟨q', 0, none⟩))) := (Touch.refl (fun g => g = b) x6).setCell (p := ⟨b, 0, none⟩) (fun _ => rfl) _
    have RES : Hid (Stp7R w b 0 A B (.returned (.bool true)) (x6.setCell ⟨b, 0, none⟩ (.pointer (some ⟨q', 0, none⟩)))) := hide (by
      have T27 : Touch (fun g => (Value.slice vo m vc).ownBlock = some g ∨ g = b) w2 (x6.setCell ⟨b, 0, none⟩ (.pointer (some ⟨q', 0, none⟩))) := (T26.out.trans ty6 (fun _ _ h => h.elim)).trans t7 (fun _ _ h => .inr h)
      have T67 : Touch (fun g => g = b) w6 (x6.setCell ⟨b, 0, none⟩ (.pointer (some ⟨q', 0, none⟩))) := (ty6.mono (fun _ _ h => h.elim)).trans t7 (fun _ _ h => h)
      have e9 : m1 = m9 := by rw [HM1.out, HM9.out]
      subst e9
      obtain ⟨col', pw⟩ := P0.out.aside (q' := q') (F' := F') (n1 := w2.heap.size) (n2 := w4.heap.size) (n3 := w6.heap.size) (u' := .slice uo' m1 uc') (v' := .slice vo' m1 vc') (co := co) (cc := cc)
        ((T02.out.mono (fun g _ h => h.elim .inl (fun h => .inr (.inr h)))).trans T27 (fun g _ h => h.elim (fun h => .inr (.inl h)) (fun h => .inr (.inr h))))
        (by rw [← HLN.out] at o7; exact o7) (tq6.touch t7 (fun g e hf => by
        subst e
        have h1 := HF6.out _ hf
        have h2 := lt_of_heap OWC.out
        omega)) N02.out N24.out N46.out HF6.out
        (by rw [HM.out, ← HM1.out]; exact own_touch RU2.out T27 (fun g hg hs => by
        rcases hs with hs | hs
        · obtain ⟨_, cur, hc⟩ := own_block RU2.out hg
          obtain ⟨_, cur2, hc2⟩ := own_block RV2.out hs
          exact tags hc hc2 (by decide) rfl
        · subst hs
          obtain ⟨_, cur, hc⟩ := own_block RU2.out hg
          exact tags hc OW2.out (by decide) rfl))
        (by rw [HM.out, ← HM1.out, HLN.out]; exact own_touch RV6.out T67 (fun g hg e => by
        subst e
        obtain ⟨_, cur, hc⟩ := own_block RV6.out hg
        exact tags hc OWC.out (by decide) rfl))
        LU.out LV.out (CO6.out.touch T67 (fun a ha hn e => by
        have h1 := LCO.out a ha hn
        have h2 := lt_of_heap OW2.out
        rw [e] at h1
        omega)) LCO.out (by have := HM.out; omega)
      exact ⟨rfl, _, _, _, _, col', pw, by simp, by simp; have := HM.out; omega⟩)
    obtain ⟨g0, g1, g2, g3, g4, g5⟩ := cells6 o7
    clear OW6 ty0 ty6 e0 e1 e2 e3 e4 e5 fz t6 tq6 o7 t7
    go_wp2_with fail
    go_ret
    exact RES.out
  · have hmi : ¬ (m : Int) < 20 := by omega
    go_enter Try.func11, Try.ntmps11
    go_wp2_with fail
    clear e0 e1 e2 e3 e4 e5 d0 d1 d2 d3 d4 d5 d6 d7 d8 d9 d10 d11
    obtain ⟨w6, ew6⟩ : ∃ w6, w6 = W.alloc (.cells (sc ⟨7, on, leave, t, tu, upto⟩) 41) := ⟨_, rfl⟩
    rw [← ew6] at P0 OW0
    simp only [sc] at ew6
    rw [← ew6]
    clear ew6
    have OWC := hide OW0.out
    have TQC := hide P0.out.a.tq
    refine wp_only ?_
    refine wp_region_z 7 (Calm w6) (by kernel_rfl) ?_
    have ty0 : Calm w6 { w6 with drawn := w6.drawn + 1 } := (Touch.refl (fun _ => False) w6).drew
    have CP := copy_any A.q A.F A.V { w6 with drawn := w6.drawn + 1 } (TQC.out.calm ty0) HLV.out
    generalize ({ w6 with drawn := w6.drawn + 1 } : World) = x5 at *
    refine wpAnyZ_yield 0 253 (.pointer (some ⟨b, 0, none⟩)) [4,5,6,7] rfl rfl (by kernel_rfl) (by kernel_rfl) (by kernel_rfl) (by kernel_rfl) (by kernel_rfl) (fun _ _ _ h => h) (by kernel_rfl) (fun W hW => by kernel_rfl) (by assumption) rfl rfl ?_
    simp only [Act.put, List.setIfInBounds_toArray, List.set_cons_zero, List.set_cons_succ]
    refine wpAnyZ_yield 1 254 (.int .i64 0) [6,7] rfl rfl (by kernel_rfl) (by kernel_rfl) (by kernel_rfl) (by kernel_rfl) (by kernel_rfl) (fun _ _ _ h => h) (by kernel_rfl) (fun W hW => by kernel_rfl) (by assumption) rfl rfl ?_
    simp only [Act.put, List.setIfInBounds_toArray, List.set_cons_zero, List.set_cons_succ]
    refine wpAnyZ_yield 2 255 (.pointer (some ⟨A.q, 0, none⟩)) [3,7] rfl rfl (by kernel_rfl) (by kernel_rfl) (by kernel_rfl) (by kernel_rfl) (by kernel_rfl) (fun _ _ _ h => h) (by kernel_rfl) (fun W hW => by kernel_rfl) (by assumption) rfl rfl ?_
    simp only [Act.put, List.setIfInBounds_toArray, List.set_cons_zero, List.set_cons_succ]
    refine wpAnyZ_yield 4 257 (.pointer (some ⟨b, 0, none⟩)) [5,6,7] rfl rfl (by kernel_rfl) (by kernel_rfl) (by kernel_rfl) (by kernel_rfl) (by kernel_rfl) (fun _ _ _ h => h) (by kernel_rfl) (fun W hW => by go_simp) (by assumption) rfl rfl ?_
    simp only [Act.put, List.setIfInBounds_toArray, List.set_cons_zero, List.set_cons_succ]
    refine wpAnyZ_yield 5 258 (.pointer (some ⟨b, 0, none⟩)) [6,7] rfl rfl (by kernel_rfl) (by kernel_rfl) (by kernel_rfl) (by kernel_rfl) (by kernel_rfl) (fun _ _ _ h => h) (by kernel_rfl) (fun W hW => by go_simp) (by assumption) rfl rfl ?_
    simp only [Act.put, List.setIfInBounds_toArray, List.set_cons_zero, List.set_cons_succ]
    refine wpAnyZ_enter 3 256 29 #[.pointer (some ⟨A.q, 0, none⟩)] rfl rfl (by decide) (by kernel_rfl) (by kernel_rfl) (by kernel_rfl) ?_
    refine CP.mono ?_
    rintro e x6 ⟨q', F', rfl, tq6, hF6, t6⟩
    have ty6 : Calm w6 x6 := ty0.tr t6
    refine ⟨_, rfl, ty6, ?_⟩
    simp only [Act.put, List.setIfInBounds_toArray, List.set_cons_zero, List.set_cons_succ]
    have HF6 : Hid (∀ g, F' g → w6.heap.size ≤ g) := hide (fun g hg => Nat.le_trans ty0.size (hF6 g hg))
    clear CP hF6
    refine wpAnyZ_yield 6 259 (.pointer (some ⟨b, 0, none⟩)) [7] rfl rfl (by kernel_rfl) (by kernel_rfl) (by kernel_rfl) (by kernel_rfl) (by kernel_rfl) (fun _ _ _ h => h) (by kernel_rfl) (fun W hW => by go_simp) (by assumption) rfl rfl ?_
    simp only [Act.put, List.setIfInBounds_toArray, List.set_cons_zero, List.set_cons_succ]
    refine wpAnyZ_end rfl (by kernel_rfl) (by kernel_rfl) (by kernel_rfl) ?_
    have OW6 := ty6.at OWC.out
    obtain ⟨e0, e1, e2, e3, e4, e5⟩ := cells6 OW6
    have fz : x6.frozen? ⟨b, 0, none⟩ = false := by simp [World.frozen?, OW6]
    unfold Oper.wp
    go_simp
    rw [onlyN_normal]
    have o7 := heap_setCell_row (i := 0) OW6 (.pointer (some ⟨q', 0, none⟩))
    simp at o7
    have t7 : Touch (fun g => g = b) x6 (x6.setCell ⟨b, 0, none⟩ (.pointer (some ⟨q', 0, none⟩))) := (Touch.refl (fun g => g = b) x6).setCell (p := ⟨b, 0, none⟩) (fun _ => rfl) _
    have RES : Hid (Stp7R w b 0 A B (.returned (.bool true)) (x6.setCell ⟨b, 0, none⟩ (.pointer (some ⟨q', 0, none⟩)))) := hide (by
      have T67 : Touch (fun g => g = b) w6 (x6.setCell ⟨b, 0, none⟩ (.pointer (some ⟨q', 0, none⟩))) := (ty6.mono (fun _ _ h => h.elim)).trans t7 (fun _ _ h => h)
      obtain ⟨col', pw⟩ := P0.out.copy (q' := q') (F' := F') T67 (by rw [← HLN.out] at o7; exact o7) (tq6.touch t7 (fun g e hf => by
          subst e
          have h1 := HF6.out _ hf
          have h2 := lt_of_heap OWC.out
          omega)) HF6.out
      exact ⟨rfl, _, _, _, _, col', pw, by simp, by have := HM.out; have := HM2.out; omega⟩)
    obtain ⟨g0, g1, g2, g3, g4, g5⟩ := cells6 o7
    clear OW6 ty0 ty6 e0 e1 e2 e3 e4 e5 fz t6 tq6 o7 t7
    go_wp2_with fail
    go_ret
    exact RES.out

set_option maxRecDepth 100000 in
set_option maxHeartbeats 4000000 in
theorem step7_1 (w W : World) (b : Nat) (A B : Od) (Os : List Od) (u v : Value) (col : Nat → Nat) (on leave : Int) (t tu : Tm) (upto : Int) (h : Pw w b 1 A B Os u v col W) (hk : kOf on = 1) (hl : A.L.length < 3518437208780) (ho : Os.length ≤ 20) :
    Calls Try.prog 11 #[.pointer (some ⟨b, 0, none⟩), sv ⟨7, on, leave, t, tu, upto⟩] W (Stp7R w b 1 A B) := by
  obtain ⟨uo, uc, eu⟩ := own_shape h.ru
  obtain ⟨vo, vc, ev⟩ := own_shape h.rv
  obtain ⟨m, em⟩ : ∃ m, Os.length = m := ⟨_, rfl⟩
  obtain ⟨ln, eln⟩ : ∃ ln, A.L.length = ln := ⟨_, rfl⟩
  rw [em] at eu ev
  subst eu ev
  have tA : Calm W (W.alloc (.cells (sc ⟨7, on, leave, t, tu, upto⟩) 41)) := (Touch.refl _ _).alloc _
  have P0 := hide (h.still tA)
  have hB := heap_alloc_last W (.cells (sc ⟨7, on, leave, t, tu, upto⟩) 41)
  have HM := hide em
  have HLN := hide eln
  have HL9 := hide hl
  have HM2 : Hid (m ≤ 20) := hide (by omega)
  have HLV : Hid (A.V.length < 3518437208790) := hide (by have := h.wd.len; omega)
  obtain ⟨d0, d1, d2, ⟨d3, d4, d5, d6⟩, ⟨d7, d8, d9, d10⟩, d11⟩ := cells12 hB
  have hO : (W.alloc (.cells (sc ⟨7, on, leave, t, tu, upto⟩) 41)).heap[b]? = some (.cells #[B.ptr, .pointer (some ⟨A.q, 0, none⟩), B.sl, .slice A.lo ln A.lc, .slice uo m uc, .slice vo m vc] 31 (0, 0)) := by have h9 := P0.out.own; rw [← eln]; exact h9
  obtain ⟨e0, e1, e2, e3, e4, e5⟩ := cells6 hO
  have OW0 := hide hO
  unfold kOf at hk
  simp only at d0 d1 d2 d3 d4 d5 d6 d7 d8 d9 d10 d11
  clear h tA hB hl em eln hO ho
  by_cases h20 : m < 20
  · have hmi : (m : Int) < 20 := by omega
    have CU : Hid (∀ g, (Value.slice uo m uc).ownBlock = some g → col g = 2) := hide P0.out.uc
    have RU := hide P0.out.ru
    rw [HM.out] at RU
    obtain ⟨uo', uc', w1, hr1, ru1, t1, loc1⟩ := run_vapp Try.underlying28 infoPtr rfl (by decide) (W.alloc (.cells (sc ⟨7, on, leave, t, tu, upto⟩) 41)) w.heap.size 28 (.slice uo m uc) (Os.map Od.ptr) (by rw [List.length_map, HM.out]; exact RU.out) (.pointer (some ⟨A.q, 0, none⟩)) rfl (by rw [List.length_map, HM.out]; omega) P0.out.calm.size
    rw [List.length_map, HM.out] at hr1 ru1 loc1
    have HR1 := hide hr1
    rw [show (W.alloc (.cells (sc ⟨7, on, leave, t, tu, upto⟩) 41)).heap.size = W.heap.size + 1 by simp] at HR1
    have ow1 := t1.heap OW0.out (fun e => by have := CU.out b e; have := P0.out.bc; omega)
    have f4 : w1.frozen? ⟨b, 4, none⟩ = false := by simp [World.frozen?, ow1]
    obtain ⟨g0, g1, g2, g3, g4, g5⟩ := cells6 ow1
    have o2 := heap_setCell_row (i := 4) ow1 (.slice uo' (m + 1) uc')
    simp at o2
    have t2 : Touch (fun g => g = b) w1 (w1.setCell ⟨b, 4, none⟩ (.slice uo' (m + 1) uc')) := (Touch.refl (fun g => g = b) w1).setCell (p := ⟨b, 4, none⟩) (fun _ => rfl) _
    have OW1 := hide ow1
    have RU1 := hide ru1
    have T1 := hide t1
    have LOC1 := hide loc1
    have O2 := hide o2
    have TT2 := hide t2
    clear hr1 ru1 t1 loc1 ow1 o2 t2
    go_enter Try.func11, Try.ntmps11
    go_wp2_with (at_builtin; refine wpList_vapp rfl (.tmp 236) (.tmp 238) rfl _ _ rfl rfl (.slice uo' (m + 1) uc') w1 HR1.out ?nx)
    clear e0 e1 e2 e3 e4 e5 HR1 d0 d1 d2 d3 d4 d5 d6 d7 d8 d9 d10 d11 g0 g1 g2 g3 g4 g5 f4
    obtain ⟨m9, em9⟩ : ∃ m9, m9 = m + 1 := ⟨_, rfl⟩
    rw [← em9] at O2 TT2 LOC1 RU1 ⊢
    have HM9 := hide em9
    clear em9
    obtain ⟨w2, ew2⟩ : ∃ w2, w2 = w1.setCell ⟨b, 4, none⟩ (.slice uo' m9 uc') := ⟨_, rfl⟩
    rw [← ew2] at O2 TT2 ⊢
    clear ew2
    have T02 : Hid (Touch (fun g => (Value.slice uo m uc).ownBlock = some g ∨ g = b) (W.alloc (.cells (sc ⟨7, on, leave, t, tu, upto⟩) 41)) w2) := hide ((T1.out.mono (fun _ _ h => .inl h)).trans TT2.out (fun _ _ h => .inr h))
    have CC : Hid (∀ g, ((Value.slice uo m uc).ownBlock = some g ∨ g = b) → col g = 2 ∨ col g = 4) := hide (fun g hg => hg.elim (fun h => .inl (CU.out g h)) (fun h => .inr (by rw [h]; exact P0.out.bc)))
    have OW2 : Hid (w2.heap[b]? = some (.cells #[B.ptr, .pointer (some ⟨A.q, 0, none⟩), B.sl, .slice A.lo ln A.lc, (.slice uo' m9 uc'), .slice vo m vc] 31 (0, 0))) := hide O2.out
    have TQ2 := hide (P0.out.a.tq.touch T02.out (fun g hg hf => by have h1 := CC.out g hg; have h2 := P0.out.a.fc g hf; omega))
    have RL2 := hide (P0.out.a.rl.touch T02.out (fun a ha hn hg => by have h1 := CC.out _ hg; have h2 := (P0.out.a.rc a ha hn).1; omega))
    have RV0 := hide P0.out.rv
    rw [HM.out] at RV0
    have RV2 := hide (own_touch RV0.out T02.out (fun g hg hs => by have h1 := CC.out g hs; have h2 := P0.out.vc g hg; omega))
    have CW2 : Hid (Calm w w2) := hide (P0.out.calm.trans T02.out (fun g hg hs => by have h1 := CC.out g hs; have h2 := P0.out.low g hg; omega))
    have HVB : Hid (¬ (Value.slice vo m vc).ownBlock = some b) := hide (fun e => by have := P0.out.vc b e; have := P0.out.bc; omega)
    have NFV : Hid (∀ g, A.F g → ¬ ((Value.slice vo m vc).ownBlock = some g ∨ g = b)) := hide (fun g hf hs => by
      have h2 := P0.out.a.fc g hf
      rcases hs with hs | hs
      · have := P0.out.vc g hs; omega
      · rw [hs] at h2; have := P0.out.bc; omega)
    have RU2 := hide (own_touch RU1.out TT2.out (fun g hg e => by
      subst e
      obtain ⟨_, cur, hc⟩ := own_block RU1.out hg
      exact tags hc OW1.out (by decide) rfl))
    have LU : Hid (∀ g, (Value.slice uo' m9 uc').ownBlock = some g → (Value.slice uo m uc).ownBlock = some g ∨ (W.alloc (.cells (sc ⟨7, on, leave, t, tu, upto⟩) 41)).heap.size ≤ g ∧ g < w2.heap.size) := hide (fun g hg => (LOC1.out g hg).imp id (fun h => ⟨h, (World.ownsRow.lt RU2.out g hg).2⟩))
    have N02 : Hid ((W.alloc (.cells (sc ⟨7, on, leave, t, tu, upto⟩) 41)).heap.size ≤ w2.heap.size) := hide T02.out.size
    clear T1 LOC1 O2 TT2 RU1 OW1 RU CU
    refine wp_only ?_
    refine wp_region_z 11 (Touch (fun g => (Value.slice vo m vc).ownBlock = some g) w2) (by kernel_rfl) ?_
    have hS0 : Touch (fun g => (Value.slice vo m vc).ownBlock = some g) w2 { w2 with drawn := w2.drawn + 1 } := (Touch.refl _ w2).drew
    have hC0 : Calm w2 { w2 with drawn := w2.drawn + 1 } := (Touch.refl (fun _ => False) w2).drew
    generalize ({ w2 with drawn := w2.drawn + 1 } : World) = w3 at *
    refine wpAnyZ_yield 0 242 (.pointer (some ⟨b, 0, none⟩)) [11] rfl rfl (by kernel_rfl) (by kernel_rfl) (by kernel_rfl) (by kernel_rfl) (by kernel_rfl) (fun _ _ _ h => h) (by kernel_rfl) (fun W hW => by kernel_rfl) (by assumption) rfl rfl ?_
    simp only [Act.put, List.setIfInBounds_toArray, List.set_cons_zero, List.set_cons_succ]
    refine wpAnyZ_yield 1 243 (.pointer (some ⟨b, 0, none⟩)) [11] rfl rfl (by kernel_rfl) (by kernel_rfl) (by kernel_rfl) (by kernel_rfl) (by kernel_rfl) (fun _ _ _ h => h) (by kernel_rfl) (fun W hW => by kernel_rfl) (by assumption) rfl rfl ?_
    simp only [Act.put, List.setIfInBounds_toArray, List.set_cons_zero, List.set_cons_succ]
    refine wpAnyZ_yield 2 244 (.pointer (some ⟨b, 0, none⟩)) [11] rfl rfl (by kernel_rfl) (by kernel_rfl) (by kernel_rfl) (by kernel_rfl) (by kernel_rfl) (fun _ _ _ h => h) (by kernel_rfl) (fun W hW => by go_simp) (by assumption) rfl rfl ?_
    simp only [Act.put, List.setIfInBounds_toArray, List.set_cons_zero, List.set_cons_succ]
    refine wpAnyZ_yield 3 245 (.pointer (some ⟨b, 5, none⟩)) [11] rfl rfl (by kernel_rfl) (by kernel_rfl) (by kernel_rfl) (by kernel_rfl) (by kernel_rfl) (fun _ _ _ h => h) (by kernel_rfl) (fun W hW => by go_simp) (by assumption) rfl rfl ?_
    simp only [Act.put, List.setIfInBounds_toArray, List.set_cons_zero, List.set_cons_succ]
    refine wpAnyZ_yield 4 246 (.slice vo m vc) [11] rfl rfl (by kernel_rfl) (by kernel_rfl) (by kernel_rfl) (by kernel_rfl) (by kernel_rfl) (fun _ _ _ h => h) (by kernel_rfl) (fun W hW => by obtain ⟨-, -, -, -, -, c5⟩ := cells6 (hW.heap OW2.out HVB.out); go_simp) (by assumption) rfl rfl ?_
    simp only [Act.put, List.setIfInBounds_toArray, List.set_cons_zero, List.set_cons_succ]
    refine wpAnyZ_yield 5 247 (.slice A.lo ln A.lc) [11] rfl rfl (by kernel_rfl) (by kernel_rfl) (by kernel_rfl) (by kernel_rfl) (by kernel_rfl) (fun _ _ _ h => h) (by kernel_rfl) (fun W hW => by kernel_rfl) (by assumption) rfl rfl ?_
    simp only [Act.put, List.setIfInBounds_toArray, List.set_cons_zero, List.set_cons_succ]
    obtain ⟨co, cc, w4, hr4, ow4, t4, loc4⟩ := run_tapp w3 w3.heap.size 22 (.slice none 0 0) [] (World.ownsRow_nil _ _ _ _) A.lo A.lc A.L (RL2.out.tms.calm hC0) RL2.out.nil (by have := HL9.out; simp; omega) (Nat.le_refl _)
    rw [List.nil_append, HLN.out] at hr4 ow4
    have c34 : Calm w3 w4 := t4.mono (fun g _ hg => by simp [Value.ownBlock] at hg)
    have hS4 := hS0.trans c34 (fun _ _ h => h.elim)
    refine wpAnyZ_value 6 248 (.slice co ln cc) (w' := w4) rfl rfl (by decide) (by kernel_rfl) (by kernel_rfl) (exec_tapp rfl hr4) hS4 ?_
    simp only [Act.put, List.setIfInBounds_toArray, List.set_cons_zero, List.set_cons_succ]
    obtain ⟨vo', vc', w5, hr5, rv5, t5, loc5⟩ := run_vapp Try.underlying29 infoSl rfl (by decide) w4 w.heap.size 29 (.slice vo m vc) (Os.map Od.sl) (by rw [List.length_map, HM.out]; exact own_touch (own_touch RV2.out hC0 (fun _ _ h => h)) c34 (fun _ _ h => h)) (.slice co ln cc) rfl (by rw [List.length_map, HM.out]; have := HM2.out; omega) (Nat.le_trans CW2.out.size (Nat.le_trans hC0.size c34.size))
    rw [List.length_map, HM.out] at hr5 rv5 loc5
    have tA5 : Calm w4 (w4.alloc (.cells #[.slice co ln cc] 22)) := (Touch.refl _ _).alloc _
    refine wpAnyZ_value 7 249 (.slice (some ⟨w4.heap.size, 0, none⟩) 1 1) (w' := w4.alloc (.cells #[.slice co ln cc] 22)) rfl rfl (by decide) (by kernel_rfl) (by kernel_rfl) (by go_simp) (hS4.alloc _) ?_
    simp only [Act.put, List.setIfInBounds_toArray, List.set_cons_zero, List.set_cons_succ]
    have hS5 : Touch (fun g => (Value.slice vo m vc).ownBlock = some g) w2 w5 := hS4.trans t5 (fun _ _ h => h)
    obtain ⟨m1, em1⟩ : ∃ m1, m1 = m + 1 := ⟨_, rfl⟩
    have HM1 := hide em1
    rw [← em1] at hr5 rv5 loc5
    clear em1
    refine wpAnyZ_value 8 250 (.slice vo' m1 vc') (w' := w5) rfl rfl (by decide) (by kernel_rfl) (by kernel_rfl) (exec_tapp rfl hr5) hS5 ?_
    simp only [Act.put, List.setIfInBounds_toArray, List.set_cons_zero, List.set_cons_succ]
    refine wpAnyZ_yield 9 251 (.pointer (some ⟨b, 0, none⟩)) [10,11] rfl rfl (by kernel_rfl) (by kernel_rfl) (by kernel_rfl) (by kernel_rfl) (by kernel_rfl) (fun _ _ _ h => h) (by kernel_rfl) (fun W hW => by go_simp) (by assumption) rfl rfl ?_
    simp only [Act.put, List.setIfInBounds_toArray, List.set_cons_zero, List.set_cons_succ]
    refine wpAnyZ_yield 10 252 (.pointer (some ⟨b, 5, none⟩)) [11] rfl rfl (by kernel_rfl) (by kernel_rfl) (by kernel_rfl) (by kernel_rfl) (by kernel_rfl) (fun _ _ _ h => h) (by kernel_rfl) (fun W hW => by go_simp) (by assumption) rfl rfl ?_
    simp only [Act.put, List.setIfInBounds_toArray, List.set_cons_zero, List.set_cons_succ]
    refine wpAnyZ_end rfl (by kernel_rfl) (by kernel_rfl) (by kernel_rfl) ?_
    have OW5 := hS5.heap OW2.out HVB.out
    obtain ⟨e0, e1, e2, e3, e4, e5⟩ := cells6 OW5
    have fz : w5.frozen? ⟨b, 5, none⟩ = false := by simp [World.frozen?, OW5]
    unfold Oper.wp
    go_simp
    rw [onlyN_normal]
    have o6 := heap_setCell_row (i := 5) OW5 (.slice vo' m1 vc')
    simp at o6
    have t6s : Touch (fun g => g = b) w5 (w5.setCell ⟨b, 5, none⟩ (.slice vo' m1 vc')) := (Touch.refl (fun g => g = b) w5).setCell (p := ⟨b, 5, none⟩) (fun _ => rfl) _
    obtain ⟨w6, ew6⟩ : ∃ w6, w6 = w5.setCell ⟨b, 5, none⟩ (.slice vo' m1 vc') := ⟨_, rfl⟩
    rw [← ew6] at o6 t6s ⊢
    have OWC := hide o6
    have T26 : Hid (Touch (fun g => (Value.slice vo m vc).ownBlock = some g ∨ g = b) w2 w6) := hide ((hS5.mono (fun _ _ h => .inl h)).trans t6s (fun _ _ h => .inr h))
    have RV6 := hide (own_touch rv5 t6s (fun g hg e => by
      subst e
      obtain ⟨_, cur, hc⟩ := own_block rv5 hg
      exact tags hc OW5 (by decide) rfl))
    have CO4 := hide (OwnT.prs ow4)
    have CO6 := hide (show Rl w6 co cc A.L from by
      have r4 := (OwnT.rl ow4).1
      have r5 := r4.touch t5 (fun a ha hn hg => by
        obtain ⟨_, _, h1, cs, hc⟩ := CO4.out.2.2.1 a ha
        obtain ⟨_, cur, hc2⟩ := own_block (own_touch (own_touch RV2.out hC0 (fun _ _ h => h)) c34 (fun _ _ h => h)) hg
        exact tags hc hc2 (by decide) rfl)
      exact r5.touch t6s (fun a ha hn e => by
        obtain ⟨_, _, h1, cs, hc⟩ := CO4.out.2.2.1 a ha
        have hc5 := t5.heap hc (fun hg => by
          obtain ⟨_, cur, hc2⟩ := own_block (own_touch (own_touch RV2.out hC0 (fun _ _ h => h)) c34 (fun _ _ h => h)) hg
          exact tags hc hc2 (by decide) rfl)
        exact tags hc5 OW5 (by decide) e))
    have LCO : Hid (∀ a, co = some a → A.L ≠ [] → w2.heap.size ≤ a.block ∧ a.block < w4.heap.size) := hide (fun a ha hn => by
      obtain ⟨_, _, h1, cs, hc⟩ := CO4.out.2.2.1 a ha
      exact ⟨Nat.le_trans hC0.size h1, lt_of_heap hc⟩)
    have LV : Hid (∀ g, (Value.slice vo' m1 vc').ownBlock = some g → (Value.slice vo m vc).ownBlock = some g ∨ w4.heap.size ≤ g ∧ g < w6.heap.size) := hide (fun g hg => (loc5 g hg).imp id (fun h => ⟨h, (World.ownsRow.lt RV6.out g hg).2⟩))
    have N24 : Hid (w2.heap.size ≤ w4.heap.size) := hide (Nat.le_trans hC0.size c34.size)
    have N46 : Hid (w4.heap.size ≤ w6.heap.size) := hide (Nat.le_trans t5.size t6s.size)
    have TQC := hide ((TQ2.out.touch T26.out (fun g hg hf => NFV.out g hf hg)))
    clear OW5 e0 e1 e2 e3 e4 e5 fz o6 t6s ew6 hS0 hC0 hr4 ow4 t4 loc4 c34 hS4 hr5 rv5 t5 loc5 tA5 hS5 CO4
    go_wp2_with fail
    refine wp_only ?_
    refine wp_region_z 7 (Calm w6) (by kernel_rfl) ?_
    have ty0 : Calm w6 { w6 with drawn := w6.drawn + 1 } := (Touch.refl (fun _ => False) w6).drew
    have CP := copy_any A.q A.F A.V { w6 with drawn := w6.drawn + 1 } (TQC.out.calm ty0) HLV.out
    generalize ({ w6 with drawn := w6.drawn + 1 } : World) = x5 at *
    refine wpAnyZ_yield 0 253 (.pointer (some ⟨b, 0, none⟩)) [4,5,6,7] rfl rfl (by kernel_rfl) (by kernel_rfl) (by kernel_rfl) (by kernel_rfl) (by kernel_rfl) (fun _ _ _ h => h) (by kernel_rfl) (fun W hW => by kernel_rfl) (by assumption) rfl rfl ?_
    simp only [Act.put, List.setIfInBounds_toArray, List.set_cons_zero, List.set_cons_succ]
    refine wpAnyZ_yield 1 254 (.int .i64 1) [6,7] rfl rfl (by kernel_rfl) (by kernel_rfl) (by kernel_rfl) (by kernel_rfl) (by kernel_rfl) (fun _ _ _ h => h) (by kernel_rfl) (fun W hW => by kernel_rfl) (by assumption) rfl rfl ?_
    simp only [Act.put, List.setIfInBounds_toArray, List.set_cons_zero, List.set_cons_succ]
    refine wpAnyZ_yield 2 255 (.pointer (some ⟨A.q, 0, none⟩)) [3,7] rfl rfl (by kernel_rfl) (by kernel_rfl) (by kernel_rfl) (by kernel_rfl) (by kernel_rfl) (fun _ _ _ h => h) (by kernel_rfl) (fun W hW => by kernel_rfl) (by assumption) rfl rfl ?_
    simp only [Act.put, List.setIfInBounds_toArray, List.set_cons_zero, List.set_cons_succ]
    refine wpAnyZ_yield 4 257 (.pointer (some ⟨b, 0, none⟩)) [5,6,7] rfl rfl (by kernel_rfl) (by kernel_rfl) (by kernel_rfl) (by kernel_rfl) (by kernel_rfl) (fun _ _ _ h => h) (by kernel_rfl) (fun W hW => by go_simp) (by assumption) rfl rfl ?_
    simp only [Act.put, List.setIfInBounds_toArray, List.set_cons_zero, List.set_cons_succ]
    refine wpAnyZ_yield 5 258 (.pointer (some ⟨b, 0, none⟩)) [6,7] rfl rfl (by kernel_rfl) (by kernel_rfl) (by kernel_rfl) (by kernel_rfl) (by kernel_rfl) (fun _ _ _ h => h) (by kernel_rfl) (fun W hW => by go_simp) (by assumption) rfl rfl ?_
    simp only [Act.put, List.setIfInBounds_toArray, List.set_cons_zero, List.set_cons_succ]
    refine wpAnyZ_enter 3 256 29 #[.pointer (some ⟨A.q, 0, none⟩)] rfl rfl (by decide) (by kernel_rfl) (by kernel_rfl) (by kernel_rfl) ?_
    refine CP.mono ?_
    rintro e x6 ⟨q', F', rfl, tq6, hF6, t6⟩
    have ty6 : Calm w6 x6 := ty0.tr t6
    refine ⟨_, rfl, ty6, ?_⟩
    simp only [Act.put, List.setIfInBounds_toArray, List.set_cons_zero, List.set_cons_succ]
    have HF6 : Hid (∀ g, F' g → w6.heap.size ≤ g) := hide (fun g hg => Nat.le_trans ty0.size (hF6 g hg))
    clear CP hF6
    refine wpAnyZ_yield 6 259 (.pointer (some ⟨b, 1, none⟩)) [7] rfl rfl (by kernel_rfl) (by kernel_rfl) (by kernel_rfl) (by kernel_rfl) (by kernel_rfl) (fun _ _ _ h => h) (by kernel_rfl) (fun W hW => by go_simp) (by assumption) rfl rfl ?_
    simp only [Act.put, List.setIfInBounds_toArray, List.set_cons_zero, List.set_cons_succ]
    refine wpAnyZ_end rfl (by kernel_rfl) (by kernel_rfl) (by kernel_rfl) ?_
    have OW6 := ty6.at OWC.out
    obtain ⟨e0, e1, e2, e3, e4, e5⟩ := cells6 OW6
    have fz : x6.frozen? ⟨b, 1, none⟩ = false := by simp [World.frozen?, OW6]
    unfold Oper.wp
    go_simp
    rw [onlyN_normal]
    have o7 := heap_setCell_row (i := 1) OW6 (.pointer (some ⟨q', 0, none⟩))
    simp at o7
    have t7 : Touch (fun g => g = b) x6 (x6.setCell ⟨b, 1, none⟩ (.pointer (some ⟨q', 0, none⟩))) := (Touch.refl (fun g => g = b) x6).setCell (p := ⟨b, 1, none⟩) (fun _ => rfl) _
    have RES : Hid (Stp7R w b 1 A B (.returned (.bool true)) (x6.setCell ⟨b, 1, none⟩ (.pointer (some ⟨q', 0, none⟩)))) := hide (by
      have T27 : Touch (fun g => (Value.slice vo m vc).ownBlock = some g ∨ g = b) w2 (x6.setCell ⟨b, 1, none⟩ (.pointer (some ⟨q', 0, none⟩))) := (T26.out.trans ty6 (fun _ _ h => h.elim)).trans t7 (fun _ _ h => .inr h)
      have T67 : Touch (fun g => g = b) w6 (x6.setCell ⟨b, 1, none⟩ (.pointer (some ⟨q', 0, none⟩))) := (ty6.mono (fun _ _ h => h.elim)).trans t7 (fun _ _ h => h)
      have e9 : m1 = m9 := by rw [HM1.out, HM9.out]
      subst e9
      obtain ⟨col', pw⟩ := P0.out.aside (q' := q') (F' := F') (n1 := w2.heap.size) (n2 := w4.heap.size) (n3 := w6.heap.size) (u' := .slice uo' m1 uc') (v' := .slice vo' m1 vc') (co := co) (cc := cc)
        ((T02.out.mono (fun g _ h => h.elim .inl (fun h => .inr (.inr h)))).trans T27 (fun g _ h => h.elim (fun h => .inr (.inl h)) (fun h => .inr (.inr h))))
        (by rw [← HLN.out] at o7; exact o7) (tq6.touch t7 (fun g e hf => by
        subst e
        have h1 := HF6.out _ hf
        have h2 := lt_of_heap OWC.out
        omega)) N02.out N24.out N46.out HF6.out
        (by rw [HM.out, ← HM1.out]; exact own_touch RU2.out T27 (fun g hg hs => by
        rcases hs with hs | hs
        · obtain ⟨_, cur, hc⟩ := own_block RU2.out hg
          obtain ⟨_, cur2, hc2⟩ := own_block RV2.out hs
          exact tags hc hc2 (by decide) rfl
        · subst hs
          obtain ⟨_, cur, hc⟩ := own_block RU2.out hg
          exact tags hc OW2.out (by decide) rfl))
        (by rw [HM.out, ← HM1.out, HLN.out]; exact own_touch RV6.out T67 (fun g hg e => by
        subst e
        obtain ⟨_, cur, hc⟩ := own_block RV6.out hg
        exact tags hc OWC.out (by decide) rfl))
        LU.out LV.out (CO6.out.touch T67 (fun a ha hn e => by
        have h1 := LCO.out a ha hn
        have h2 := lt_of_heap OW2.out
        rw [e] at h1
        omega)) LCO.out (by have := HM.out; omega)
      exact ⟨rfl, _, _, _, _, col', pw, by simp, by simp; have := HM.out; omega⟩)
    obtain ⟨g0, g1, g2, g3, g4, g5⟩ := cells6 o7
    clear OW6 ty0 ty6 e0 e1 e2 e3 e4 e5 fz t6 tq6 o7 t7
    go_wp2_with fail
    go_ret
    exact RES.out
  · have hmi : ¬ (m : Int) < 20 := by omega
    go_enter Try.func11, Try.ntmps11
    go_wp2_with fail
    clear e0 e1 e2 e3 e4 e5 d0 d1 d2 d3 d4 d5 d6 d7 d8 d9 d10 d11
    obtain ⟨w6, ew6⟩ : ∃ w6, w6 = W.alloc (.cells (sc ⟨7, on, leave, t, tu, upto⟩) 41) := ⟨_, rfl⟩
    rw [← ew6] at P0 OW0
    simp only [sc] at ew6
    rw [← ew6]
    clear ew6
    have OWC := hide OW0.out
    have TQC := hide P0.out.a.tq
    refine wp_only ?_
    refine wp_region_z 7 (Calm w6) (by kernel_rfl) ?_
    have ty0 : Calm w6 { w6 with drawn := w6.drawn + 1 } := (Touch.refl (fun _ => False) w6).drew
    have CP := copy_any A.q A.F A.V { w6 with drawn := w6.drawn + 1 } (TQC.out.calm ty0) HLV.out
    generalize ({ w6 with drawn := w6.drawn + 1 } : World) = x5 at *
    refine wpAnyZ_yield 0 253 (.pointer (some ⟨b, 0, none⟩)) [4,5,6,7] rfl rfl (by kernel_rfl) (by kernel_rfl) (by kernel_rfl) (by kernel_rfl) (by kernel_rfl) (fun _ _ _ h => h) (by kernel_rfl) (fun W hW => by kernel_rfl) (by assumption) rfl rfl ?_
    simp only [Act.put, List.setIfInBounds_toArray, List.set_cons_zero, List.set_cons_succ]
    refine wpAnyZ_yield 1 254 (.int .i64 1) [6,7] rfl rfl (by kernel_rfl) (by kernel_rfl) (by kernel_rfl) (by kernel_rfl) (by kernel_rfl) (fun _ _ _ h => h) (by kernel_rfl) (fun W hW => by kernel_rfl) (by assumption) rfl rfl ?_
    simp only [Act.put, List.setIfInBounds_toArray, List.set_cons_zero, List.set_cons_succ]
    refine wpAnyZ_yield 2 255 (.pointer (some ⟨A.q, 0, none⟩)) [3,7] rfl rfl (by kernel_rfl) (by kernel_rfl) (by kernel_rfl) (by kernel_rfl) (by kernel_rfl) (fun _ _ _ h => h) (by kernel_rfl) (fun W hW => by kernel_rfl) (by assumption) rfl rfl ?_
    simp only [Act.put, List.setIfInBounds_toArray, List.set_cons_zero, List.set_cons_succ]
    refine wpAnyZ_yield 4 257 (.pointer (some ⟨b, 0, none⟩)) [5,6,7] rfl rfl (by kernel_rfl) (by kernel_rfl) (by kernel_rfl) (by kernel_rfl) (by kernel_rfl) (fun _ _ _ h => h) (by kernel_rfl) (fun W hW => by go_simp) (by assumption) rfl rfl ?_
    simp only [Act.put, List.setIfInBounds_toArray, List.set_cons_zero, List.set_cons_succ]
    refine wpAnyZ_yield 5 258 (.pointer (some ⟨b, 0, none⟩)) [6,7] rfl rfl (by kernel_rfl) (by kernel_rfl) (by kernel_rfl) (by kernel_rfl) (by kernel_rfl) (fun _ _ _ h => h) (by kernel_rfl) (fun W hW => by go_simp) (by assumption) rfl rfl ?_
    simp only [Act.put, List.setIfInBounds_toArray, List.set_cons_zero, List.set_cons_succ]
    refine wpAnyZ_enter 3 256 29 #[.pointer (some ⟨A.q, 0, none⟩)] rfl rfl (by decide) (by kernel_rfl) (by kernel_rfl) (by kernel_rfl) ?_
    refine CP.mono ?_
    rintro e x6 ⟨q', F', rfl, tq6, hF6, t6⟩
    have ty6 : Calm w6 x6 := ty0.tr t6
    refine ⟨_, rfl, ty6, ?_⟩
    simp only [Act.put, List.setIfInBounds_toArray, List.set_cons_zero, List.set_cons_succ]
    have HF6 : Hid (∀ g, F' g → w6.heap.size ≤ g) := hide (fun g hg => Nat.le_trans ty0.size (hF6 g hg))
    clear CP hF6
    refine wpAnyZ_yield 6 259 (.pointer (some ⟨b, 1, none⟩)) [7] rfl rfl (by kernel_rfl) (by kernel_rfl) (by kernel_rfl) (by kernel_rfl) (by kernel_rfl) (fun _ _ _ h => h) (by kernel_rfl) (fun W hW => by go_simp) (by assumption) rfl rfl ?_
    simp only [Act.put, List.setIfInBounds_toArray, List.set_cons_zero, List.set_cons_succ]
    refine wpAnyZ_end rfl (by kernel_rfl) (by kernel_rfl) (by kernel_rfl) ?_
    have OW6 := ty6.at OWC.out
    obtain ⟨e0, e1, e2, e3, e4, e5⟩ := cells6 OW6
    have fz : x6.frozen? ⟨b, 1, none⟩ = false := by simp [World.frozen?, OW6]
    unfold Oper.wp
    go_simp
    rw [onlyN_normal]
    have o7 := heap_setCell_row (i := 1) OW6 (.pointer (some ⟨q', 0, none⟩))
    simp at o7
    have t7 : Touch (fun g => g = b) x6 (x6.setCell ⟨b, 1, none⟩ (.pointer (some ⟨q', 0, none⟩))) := (Touch.refl (fun g => g = b) x6).setCell (p := ⟨b, 1, none⟩) (fun _ => rfl) _
    have RES : Hid (Stp7R w b 1 A B (.returned (.bool true)) (x6.setCell ⟨b, 1, none⟩ (.pointer (some ⟨q', 0, none⟩)))) := hide (by
      have T67 : Touch (fun g => g = b) w6 (x6.setCell ⟨b, 1, none⟩ (.pointer (some ⟨q', 0, none⟩))) := (ty6.mono (fun _ _ h => h.elim)).trans t7 (fun _ _ h => h)
      obtain ⟨col', pw⟩ := P0.out.copy (q' := q') (F' := F') T67 (by rw [← HLN.out] at o7; exact o7) (tq6.touch t7 (fun g e hf => by
          subst e
          have h1 := HF6.out _ hf
          have h2 := lt_of_heap OWC.out
          omega)) HF6.out
      exact ⟨rfl, _, _, _, _, col', pw, by simp, by have := HM.out; have := HM2.out; omega⟩)
    obtain ⟨g0, g1, g2, g3, g4, g5⟩ := cells6 o7
    clear OW6 ty0 ty6 e0 e1 e2 e3 e4 e5 fz t6 tq6 o7 t7
    go_wp2_with fail
    go_ret
    exact RES.out

end Go.Proofs.Ytlnblhajcbmmkaa
