/- The walk of ConfigStates. -/
import Derived.Test.YtdcpmpbfnfjncaaDoorPka
import Derived.Test.YtdcpmpbfnfjncaaDoorEI
namespace Go.Proofs.YtdcpmpbfnfjncaaDoor
open Go.RowKit

/-- Which key is left out. -/
theorem out_of (out : Int) {n : Nat} (h : 0 < n) : ∃ o : Nat, o < n ∧ (Int.tmod out n + n) % n = (o : Int) ∧ -(n : Int) < Int.tmod out n ∧ Int.tmod out n < n := by
  have h1 : -(n : Int) < Int.tmod out n ∧ Int.tmod out n < n := by
    have := Int.natAbs_tmod out n
    have h2 : out.natAbs % (n : Int).natAbs < (n : Int).natAbs := Nat.mod_lt _ (by omega)
    omega
  have h3 : (0 : Int) ≤ (Int.tmod out n + n) % n := Int.emod_nonneg _ (by omega)
  have h4 : (Int.tmod out n + n) % n < n := Int.emod_lt_of_pos _ (by omega)
  refine ⟨((Int.tmod out n + n) % n).toNat, ?_, ?_, h1.1, h1.2⟩ <;> generalize (Int.tmod out n + n) % n = z at * <;> omega

set_option maxRecDepth 100000 in
set_option maxHeartbeats 4000000 in
theorem states_walk (c : Cf) (M : List Int) (mo : Option Addr) (mc : Nat) (K : List Kv) (ko : Option Addr) (kc : Nat) (out : Int) (w : World) (hm : encJ.Sl w mo mc M) (hb : M.length ≤ 17592186043904) (hk : encK.Sl w ko kc K) (hw : ∀ j, j < K.length → encW.Sl w (K.getD j kv0).wo (K.getD j kv0).cap (K.getD j kv0).k.wi ∧ (K.getD j kv0).k.wi.length ≤ 1954687338300) (hl : K.length ≤ 3000000000000) (ht : Tab w) (hwd : Words w gW) :
    Calls Tryd.prog 3 #[.agg (stc c (.slice mo M.length mc) (.slice ko K.length kc)), .int .i64 out] w fun e w' => e = .returned (.bool true) ∧ Calm w w' := by
  have CN := fun x w => hide (num_any x w)
  have CW : Hid (∀ W, Calm w W → Calls Tryd.prog 9 #[] W fun e w' => e = .returned (.bool true) ∧ Calm W w') := hide fun W hW => works_any W (ht.calm hW) (hwd.calm hW)
  have CL : Hid (∀ W, Calm w W → Calls Tryd.prog 4 #[.agg (stc c (.slice mo M.length mc) (.slice ko K.length kc))] W fun e w' => ∃ gm cm gk ck L, e = .returned (.agg (stc c (.slice (some ⟨gm, 0, none⟩) M.length cm) (.slice (some ⟨gk, 0, none⟩) K.length ck))) ∧ LentS w' W.heap.size gm cm M gk ck K L ∧ Calm W w') := hide fun W hW => lendState_any c M mo mc K ko kc W (seg_ints (Rc.Mem.calm hm.mem hW)) hb (Rc.Sl.calm hk hW) (fun j hj => ⟨Rc.Sl.calm (hw j hj).1 hW, (hw j hj).2⟩) hl
  have CR : Hid (∀ W, Calm w W → Calls Tryd.prog 7 #[.agg (stc c (.slice mo M.length mc) (.slice ko K.length kc))] W fun e w' => e = .returned (.int .i64 (stateN c M K)) ∧ Calm W w') := hide fun W hW => rstate_any c M mo mc K ko kc W (Rc.Sl.calm hm hW) (Rc.Sl.calm hk hW) (fun j hj => ⟨Rc.Sl.calm (hw j hj).1 hW, by have := (hw j hj).2; omega⟩) (by omega) (by omega)
  have CS : Hid (∀ base gm cm gk ck L W, LentS W base gm cm M gk ck K L → Calls Tryd.prog 5 #[.agg (stc c (.slice (some ⟨gm, 0, none⟩) M.length cm) (.slice (some ⟨gk, 0, none⟩) K.length ck))] W fun e w' => e = .returned (.int .i64 (stateN c M K)) ∧ Calm W w') := hide fun base gm cm gk ck L W h => by
    obtain ⟨s1, s2, s3⟩ := h.sl
    have := state_any c M (some ⟨gm, 0, none⟩) cm L (some ⟨gk, 0, none⟩) ck W h.marks.sl s1 (fun j hj => by
      rw [s2] at hj
      obtain ⟨e, s⟩ := h.wins j hj
      rw [e]
      exact ⟨s, by have := (hw j hj).2; omega⟩) (by omega) (by omega)
    rw [s2, stateN_same s2 fun j hj => (h.wins j hj).1] at this
    exact this
  have CP : Hid (∀ base gm cm gk ck L W, Calm w W → LentS W base gm cm M gk ck K L → Calls Tryd.prog 8 #[.agg (stc c (.slice (some ⟨gm, 0, none⟩) M.length cm) (.slice (some ⟨gk, 0, none⟩) K.length ck)), .agg (stc c (.slice mo M.length mc) (.slice ko K.length kc))] W fun e w' => e = .returned (.bool true) ∧ Calm W w') := hide fun base gm cm gk ck L W hW h => keptState_any c M K L base gm cm gk ck mo mc ko kc W h (seg_ints (Rc.Mem.calm hm.mem hW)) hb (Rc.Mem.calm hk.mem hW) (fun j hj => ⟨Rc.Mem.calm (hw j hj).1.mem hW, (hw j hj).2⟩) hl
  have CB : Hid (∀ base gm cm gk ck L (o : Nat) W, stateN c M K = 0 → LentS W base gm cm M gk ck K L → o < K.length → ∃ a2 c2 w2, (Builtin.append_ #[26, 26] 26 #[.slice (some ⟨gk, 0, none⟩) o o, .slice (some ⟨gk, (o + 1) * 3, none⟩) (K.length - (o + 1)) (ck - (o + 1))]).run Tryd.prog W = .ok (.slice a2 (K.length - 1) c2) w2 ∧ Calm W w2 ∧ ∀ V D, Touch (fun d => d = D) w2 V → (∃ cs, W.heap[D]? = some (.cells cs 28 (0, 0))) → Calls Tryd.prog 5 #[.agg (stc c (.slice (some ⟨gm, 0, none⟩) M.length cm) (.slice a2 (K.length - 1) c2))] V fun e w' => e = .returned (.int .i64 0) ∧ Calm V w') := hide fun base gm cm gk ck L o W h0 h ho => by
    obtain ⟨s1, s2, s3⟩ := h.sl
    obtain ⟨a2, c2, w2, hr, hs, hT, hty⟩ := but_app h.row s2 ho hl
    refine ⟨a2, c2, w2, hr, hT, fun V D hV hD => ?_⟩
    obtain ⟨cs, hD⟩ := hD
    have hD2 := hT.at hD
    have E2 := (h.each.calm hT).touch hV fun g cur hg => st_notW hD2 hg
    have M2 := (h.marks.calm hT).touch hV (by obtain ⟨cur, hg⟩ := (h.marks.calm hT).heap; exact st_notI hD2 hg)
    have hz : stateN c M (but L o) = 0 := state_but (by omega) (by rw [stateN_same s2 fun j hj => (h.wins j hj).1]; exact h0)
    have SM : encK.Mem V a2 (but L o) := Rc.Mem.touch hs.mem hV fun a ha hne e => by
      obtain ⟨cur, hc⟩ := hty a ha
      rw [e, hD2] at hc
      injection hc with hc
      injection hc with _ q
      cases q
    have SV : encK.Sl V a2 c2 (but L o) := ⟨SM, hs.nil, hs.cap⟩
    have := state_any c M (some ⟨gm, 0, none⟩) cm (but L o) a2 c2 V M2.sl SV (fun j hj => by
      rw [but_len (by omega)] at hj
      have key : ∀ i, i < K.length → encW.Sl V (L.getD i kv0).wo (L.getD i kv0).cap (L.getD i kv0).k.wi ∧ (L.getD i kv0).k.wi.length ≤ 140737488355328 := fun i hi => by
        obtain ⟨e, g, e1, l⟩ := E2.at_ i hi
        rw [e, e1]
        exact ⟨⟨(LentK.mem l).1, fun h => (nomatch h), by have := (LentK.mem l).2.1; omega⟩, by have := (hw i hi).2; omega⟩
      rw [but_at (by omega)]
      split
      · exact key j (by omega)
      · exact key (j + 1) (by omega)) (by omega) (by rw [but_len (by omega)]; omega)
    rw [but_len (by omega), s2, hz] at this
    exact this
  have A0 := hide (al_new w (.cells (stc c (.slice mo M.length mc) (.slice ko K.length kc)) 28))
  have T0 := hide ((Touch.refl (fun _ => False) w).alloc (.cells (stc c (.slice mo M.length mc) (.slice ko K.length kc)) 28))
  clear hm hb hk hw ht hwd
  generalize M.length = m at *
  generalize hn : K.length = n at *
  generalize hN : stateN c M K = N at *
  go_enter Tryd.func3, Tryd.ntmps3
  go_wp2_with fail
  generalize w.alloc (.cells (stc c (.slice mo m mc) (.slice ko n kc)) 28) = w0 at *
  generalize hA : w.heap.size = A at *
  refine (CL.out _ T0.out).mono ?_
  rintro e w1 ⟨gm, cm, gk, ck, L, rfl, L1, T1⟩
  have B0 := T1.at A0.out
  have TT1 := T0.out.tr T1
  have hAl := lt_of_heap B0
  have hn0 : ¬ w1.heap.size = A := by omega
  have L2 := hide (LentS.calm L1 ((Touch.refl (fun _ => False) w1).alloc (.cells (stc c (.slice (some ⟨gm, 0, none⟩) m cm) (.slice (some ⟨gk, 0, none⟩) n ck)) 28)))
  have D2 := hide (al_new w1 (.cells (stc c (.slice (some ⟨gm, 0, none⟩) m cm) (.slice (some ⟨gk, 0, none⟩) n ck)) 28))
  have E0 := hide (al_old B0 (.cells (stc c (.slice (some ⟨gm, 0, none⟩) m cm) (.slice (some ⟨gk, 0, none⟩) n ck)) 28))
  have TT2 := hide (TT1.alloc (.cells (stc c (.slice (some ⟨gm, 0, none⟩) m cm) (.slice (some ⟨gk, 0, none⟩) n ck)) 28))
  have HDl : Hid (w0.heap.size ≤ w1.heap.size) := hide T1.size
  clear CL A0 T0 T1 L1 B0 TT1
  go_wp2_with fail
  generalize w1.alloc (.cells (stc c (.slice (some ⟨gm, 0, none⟩) m cm) (.slice (some ⟨gk, 0, none⟩) n ck)) 28) = w2 at *
  generalize w1.heap.size = D at *
  refine (CS.out _ gm cm gk ck L _ L2.out).mono ?_
  rintro e w3 ⟨rfl, T3⟩
  have C3 := hide T3
  clear T3 CS
  go_wp2_with fail
  refine wp_region_held (S := Calm w2) (by kernel_rfl) ?_
  have hT0 : Calm w2 { w3 with drawn := w3.drawn + 1 } := C3.out.drew
  refine wpAnyH_yield 0 11 (.int .i64 N) rfl rfl (by kernel_rfl) (by kernel_rfl) (by kernel_rfl) (fun _ _ _ h => h) (by kernel_rfl) (fun W hW => by kernel_rfl) (by assumption) rfl rfl ?_
  simp only [Act.put, List.setIfInBounds_toArray, List.set_cons_zero, List.set_cons_succ]
  refine wpAnyH_yield 2 13 (.agg (stc c (.slice mo m mc) (.slice ko n kc))) rfl rfl (by kernel_rfl) (by kernel_rfl) (by kernel_rfl) (fun _ _ _ h => h) (by kernel_rfl) (fun W hW => by obtain ⟨⟨g0, g1, g2, g3, g4, g5⟩, ⟨g6, g7, g8, g9⟩, g10, g11⟩ := st_cells (hW.at E0.out); go_simp) (by assumption) rfl rfl ?_
  simp only [Act.put, List.setIfInBounds_toArray, List.set_cons_zero, List.set_cons_succ]
  refine wpAnyH_enter 1 12 6 #[.int .i64 N] rfl rfl (by kernel_rfl) (by kernel_rfl) (by kernel_rfl) ?_
  refine ((CN _ _).out).mono ?_
  rintro r w4 ⟨rfl, hw4⟩
  subst hw4
  refine ⟨_, rfl, hT0, ?_⟩
  simp only [Act.put, List.setIfInBounds_toArray, List.set_cons_zero, List.set_cons_succ]
  refine wpAnyH_enter 3 14 7 #[.agg (stc c (.slice mo m mc) (.slice ko n kc))] rfl rfl (by kernel_rfl) (by kernel_rfl) (by kernel_rfl) ?_
  refine (CR.out _ (TT2.out.tr hT0)).mono ?_
  rintro r w5 ⟨rfl, T5⟩
  have h5 := hT0.tr T5
  refine ⟨_, rfl, h5, ?_⟩
  simp only [Act.put, List.setIfInBounds_toArray, List.set_cons_zero, List.set_cons_succ]
  refine wpAnyH_yield 4 15 (.bool false) rfl rfl (by kernel_rfl) (by kernel_rfl) (by kernel_rfl) (fun _ _ _ h => h) (by kernel_rfl) (fun W hW => by go_simp) (by assumption) rfl rfl ?_
  simp only [Act.put, List.setIfInBounds_toArray, List.set_cons_zero, List.set_cons_succ]
  refine wpAnyH_yield 5 16 (.bool false) rfl rfl (by kernel_rfl) (by kernel_rfl) (by kernel_rfl) (fun _ _ _ h => h) (by kernel_rfl) (fun W hW => by kernel_rfl) (by assumption) rfl rfl ?_
  simp only [Act.put, List.setIfInBounds_toArray, List.set_cons_zero, List.set_cons_succ]
  refine wpAnyH_yield 6 17 (.agg (stc c (.slice (some ⟨gm, 0, none⟩) m cm) (.slice (some ⟨gk, 0, none⟩) n ck))) rfl rfl (by kernel_rfl) (by kernel_rfl) (by kernel_rfl) (fun _ _ _ h => h) (by kernel_rfl) (fun W hW => by obtain ⟨⟨g0, g1, g2, g3, g4, g5⟩, ⟨g6, g7, g8, g9⟩, g10, g11⟩ := st_cells (hW.at D2.out); go_simp) (by assumption) rfl rfl ?_
  simp only [Act.put, List.setIfInBounds_toArray, List.set_cons_zero, List.set_cons_succ]
  refine wpAnyH_yield 7 18 (.agg (stc c (.slice mo m mc) (.slice ko n kc))) rfl rfl (by kernel_rfl) (by kernel_rfl) (by kernel_rfl) (fun _ _ _ h => h) (by kernel_rfl) (fun W hW => by obtain ⟨⟨g0, g1, g2, g3, g4, g5⟩, ⟨g6, g7, g8, g9⟩, g10, g11⟩ := st_cells (hW.at E0.out); go_simp) (by assumption) rfl rfl ?_
  simp only [Act.put, List.setIfInBounds_toArray, List.set_cons_zero, List.set_cons_succ]
  refine wpAnyH_enter 8 19 8 #[.agg (stc c (.slice (some ⟨gm, 0, none⟩) m cm) (.slice (some ⟨gk, 0, none⟩) n ck)), .agg (stc c (.slice mo m mc) (.slice ko n kc))] rfl rfl (by kernel_rfl) (by kernel_rfl) (by kernel_rfl) ?_
  refine (CP.out _ gm cm gk ck L _ (TT2.out.tr h5) (LentS.calm L2.out h5)).mono ?_
  rintro r w6 ⟨rfl, T6⟩
  have h6 := h5.tr T6
  refine ⟨_, rfl, h6, ?_⟩
  simp only [Act.put, List.setIfInBounds_toArray, List.set_cons_zero, List.set_cons_succ]
  refine wpAnyH_yield 9 20 (.bool false) rfl rfl (by kernel_rfl) (by kernel_rfl) (by kernel_rfl) (fun _ _ _ h => h) (by kernel_rfl) (fun W hW => by go_simp) (by assumption) rfl rfl ?_
  simp only [Act.put, List.setIfInBounds_toArray, List.set_cons_zero, List.set_cons_succ]
  refine wpAnyH_yield 10 21 (.bool false) rfl rfl (by kernel_rfl) (by kernel_rfl) (by kernel_rfl) (fun _ _ _ h => h) (by kernel_rfl) (fun W hW => by go_simp) (by assumption) rfl rfl ?_
  simp only [Act.put, List.setIfInBounds_toArray, List.set_cons_zero, List.set_cons_succ]
  refine wpAnyH_done (by kernel_rfl) ?_ _
  have C6 := hide h6
  clear hT0 T5 h5 T6 h6 CR CP C3
  go_wp2_with fail
  refine ((CN _ _).out).mono ?_
  rintro r w7 ⟨rfl, hw7⟩
  subst hw7
  obtain ⟨-, -, -, g11⟩ := st_cells (C6.out.at E0.out)
  by_cases h0 : N = 0
  · subst h0
    by_cases hz : 0 < n
    · have hzz : (0 : Int) < (n : Int) := by omega
      obtain ⟨o, ho, eo', r1, r2⟩ := out_of out hz
      have hoz : (o : Int) < (n : Int) := by omega
      go_wp2_with fail
      go_quiet (fail)
      simp only [eo']
      have TQ : Hid (Calm w2 (w7.drewN nq)) := hide (C6.out.drewQ nq)
      generalize w7.drewN nq = w8 at *
      generalize Int.tmod out n = q at *
      clear eo' r1 r2 g11 C6
      go_wp2_with fail
      refine wp_region_z 12 (Calm w2) (by kernel_rfl) ?_
      have hT0 : Calm w2 { w8 with drawn := w8.drawn + 1 } := TQ.out.drew
      have hw1 : IntKind.i64.wrap ((o : Int) + 1) = (o : Int) + 1 := by rw [IntKind.wrap_i64]; omega
      have hck : n + 3 ≤ ck := by have := L2.out.sl.2.2; omega
      refine wpAnyZ_yield 0 44 (.pointer (some ⟨D, 11, none⟩)) [12] rfl rfl (by kernel_rfl) (by kernel_rfl) (by kernel_rfl) (by kernel_rfl) (by kernel_rfl) (fun _ _ _ h => h) (by kernel_rfl) (fun W hW => by go_simp) (by assumption) rfl rfl ?_
      simp only [Act.put, List.setIfInBounds_toArray, List.set_cons_zero, List.set_cons_succ]
      refine wpAnyZ_yield 1 45 (.slice (some ⟨gk, 0, none⟩) n ck) [12] rfl rfl (by kernel_rfl) (by kernel_rfl) (by kernel_rfl) (by kernel_rfl) (by kernel_rfl) (fun _ _ _ h => h) (by kernel_rfl) (fun W hW => by obtain ⟨-, -, -, g11⟩ := st_cells (hW.at D2.out); go_simp) (by assumption) rfl rfl ?_
      simp only [Act.put, List.setIfInBounds_toArray, List.set_cons_zero, List.set_cons_succ]
      refine wpAnyZ_yield 2 46 (.int .i64 (o : Int)) [12] rfl rfl (by kernel_rfl) (by kernel_rfl) (by kernel_rfl) (by kernel_rfl) (by kernel_rfl) (fun _ _ _ h => h) (by kernel_rfl) (fun W hW => by kernel_rfl) (by assumption) rfl rfl ?_
      simp only [Act.put, List.setIfInBounds_toArray, List.set_cons_zero, List.set_cons_succ]
      refine wpAnyZ_yield 3 47 (.int .i64 (o : Int)) [12] rfl rfl (by kernel_rfl) (by kernel_rfl) (by kernel_rfl) (by kernel_rfl) (by kernel_rfl) (fun _ _ _ h => h) (by kernel_rfl) (fun W hW => by kernel_rfl) (by assumption) rfl rfl ?_
      simp only [Act.put, List.setIfInBounds_toArray, List.set_cons_zero, List.set_cons_succ]
      refine wpAnyZ_yield 4 48 (.slice (some ⟨gk, 0, none⟩) o o) [12] rfl rfl (by kernel_rfl) (by kernel_rfl) (by kernel_rfl) (by kernel_rfl) (by kernel_rfl) (fun _ _ _ h => h) (by kernel_rfl) (fun W hW => by have q := cut_hm (gk := gk) (n := n) (ck := ck) (o := o) (by omega) (by omega) W; go_simp) (by assumption) rfl rfl ?_
      simp only [Act.put, List.setIfInBounds_toArray, List.set_cons_zero, List.set_cons_succ]
      refine wpAnyZ_yield 5 49 (.pointer (some ⟨D, 11, none⟩)) [12] rfl rfl (by kernel_rfl) (by kernel_rfl) (by kernel_rfl) (by kernel_rfl) (by kernel_rfl) (fun _ _ _ h => h) (by kernel_rfl) (fun W hW => by go_simp) (by assumption) rfl rfl ?_
      simp only [Act.put, List.setIfInBounds_toArray, List.set_cons_zero, List.set_cons_succ]
      refine wpAnyZ_yield 6 50 (.slice (some ⟨gk, 0, none⟩) n ck) [12] rfl rfl (by kernel_rfl) (by kernel_rfl) (by kernel_rfl) (by kernel_rfl) (by kernel_rfl) (fun _ _ _ h => h) (by kernel_rfl) (fun W hW => by obtain ⟨-, -, -, g11⟩ := st_cells (hW.at D2.out); go_simp) (by assumption) rfl rfl ?_
      simp only [Act.put, List.setIfInBounds_toArray, List.set_cons_zero, List.set_cons_succ]
      refine wpAnyZ_yield 7 51 (.int .i64 (o : Int)) [12] rfl rfl (by kernel_rfl) (by kernel_rfl) (by kernel_rfl) (by kernel_rfl) (by kernel_rfl) (fun _ _ _ h => h) (by kernel_rfl) (fun W hW => by kernel_rfl) (by assumption) rfl rfl ?_
      simp only [Act.put, List.setIfInBounds_toArray, List.set_cons_zero, List.set_cons_succ]
      refine wpAnyZ_yield 8 52 (.int .i64 ((o : Int) + 1)) [12] rfl rfl (by kernel_rfl) (by kernel_rfl) (by kernel_rfl) (by kernel_rfl) (by kernel_rfl) (fun _ _ _ h => h) (by kernel_rfl) (fun W hW => by go_simp) (by assumption) rfl rfl ?_
      simp only [Act.put, List.setIfInBounds_toArray, List.set_cons_zero, List.set_cons_succ]
      refine wpAnyZ_yield 9 53 (.slice (some ⟨gk, (o + 1) * 3, none⟩) (n - (o + 1)) (ck - (o + 1))) [12] rfl rfl (by kernel_rfl) (by kernel_rfl) (by kernel_rfl) (by kernel_rfl) (by kernel_rfl) (fun _ _ _ h => h) (by kernel_rfl) (fun W hW => by have q := cut_l (gk := gk) (n := n) (ck := ck) (o := o) (by omega) (by omega) W; go_simp) (by assumption) rfl rfl ?_
      simp only [Act.put, List.setIfInBounds_toArray, List.set_cons_zero, List.set_cons_succ]
      obtain ⟨a2, c2, w9, hr, T9, CV⟩ := CB.out _ gm cm gk ck L o _ (by first | exact trivial | rfl | exact hN) (LentS.calm L2.out hT0) (by omega)
      have h9 := hT0.tr T9
      refine wpAnyZ_value 10 54 (.slice a2 (n - 1) c2) (w' := w9) rfl rfl (by decide) (by kernel_rfl) (by kernel_rfl) (exec_apk (.tmp 48) (.tmp 53) 26 26 rfl _ _ _ rfl rfl hr) h9 ?_
      simp only [Act.put, List.setIfInBounds_toArray, List.set_cons_zero, List.set_cons_succ]
      refine wpAnyZ_yield 11 55 (.pointer (some ⟨D, 11, none⟩)) [12] rfl rfl (by kernel_rfl) (by kernel_rfl) (by kernel_rfl) (by kernel_rfl) (by kernel_rfl) (fun _ _ _ h => h) (by kernel_rfl) (fun W hW => by go_simp) (by assumption) rfl rfl ?_
      simp only [Act.put, List.setIfInBounds_toArray, List.set_cons_zero, List.set_cons_succ]
      refine wpAnyZ_end rfl (by kernel_rfl) (by kernel_rfl) (by kernel_rfl) ?_
      have A9 := h9.at D2.out
      have cD : w9.cell? ⟨D, 11, none⟩ = some (.slice (some ⟨gk, 0, none⟩) n ck) := (st_cells A9).2.2.2
      have fD : w9.frozen? ⟨D, 11, none⟩ = false := by simp [World.frozen?, A9]
      have AV : (w9.setCell ⟨D, 11, none⟩ (.slice a2 (n - 1) c2)).heap[D]? = some (.cells (stc c (.slice (some ⟨gm, 0, none⟩) m cm) (.slice a2 (n - 1) c2)) 28 (0, 0)) := Cg2.heap_put (i := 11) A9 (.slice a2 (n - 1) c2)
      have tS : Touch (fun d => d = D) w9 (w9.setCell ⟨D, 11, none⟩ (.slice a2 (n - 1) c2)) := (Touch.refl (fun k => k = D) w9).setCell (p := ⟨D, 11, none⟩) (fun _ => rfl) _
      have CVV := hide (CV _ D tS ⟨_, hT0.at D2.out⟩)
      have HTV := hide ((TT2.out.tr h9).trans tS (fun g hg e => by omega))
      obtain ⟨⟨y0, y1, y2, y3, y4, y5⟩, ⟨y6, y7, y8, y9⟩, y10, y11⟩ := st_cells AV
      clear hT0 hr T9 CV h9 A9 AV tS CB L2 D2 E0
      unfold Oper.wp
      go_simp
      go_wp2_with fail
      refine CVV.out.mono ?_
      rintro e w10 ⟨rfl, T10⟩
      have HT10 := hide (HTV.out.tr T10)
      clear CVV T10 HTV y0 y1 y2 y3 y4 y5 y6 y7 y8 y9 y10 y11
      go_wp2_with fail
      refine ((CN _ _).out).mono ?_
      rintro r w11 ⟨rfl, hw11⟩
      subst hw11
      go_wp2_with fail
      refine (CW.out _ HT10.out).mono ?_
      rintro e w12 ⟨rfl, T12⟩
      have HT := hide (HT10.out.tr T12)
      clear T12 HT10
      go_wp2_with fail
      go_ret
      exact ⟨rfl, HT.out⟩
    · obtain rfl : n = 0 := by omega
      go_wp2_with fail
      refine (CW.out _ (TT2.out.tr C6.out)).mono ?_
      rintro e w8 ⟨rfl, T8⟩
      have HT := hide ((TT2.out.tr C6.out).tr T8)
      clear T8 C6
      go_wp2_with fail
      go_ret
      exact ⟨rfl, HT.out⟩
  · go_wp2_with fail
    refine (CW.out _ (TT2.out.tr C6.out)).mono ?_
    rintro e w8 ⟨rfl, T8⟩
    have HT := hide ((TT2.out.tr C6.out).tr T8)
    clear T8 C6
    go_wp2_with fail
    go_ret
    exact ⟨rfl, HT.out⟩

end Go.Proofs.YtdcpmpbfnfjncaaDoor
