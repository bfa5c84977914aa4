/- The program's clock: Holds. -/
import Derived.Test.YtapnjofplilefaaGreatJV
import Derived.Test.YtapnjofplilefaaGreatS2
import Derived.Sort.CutIn
namespace Go.Proofs.YtapnjofplilefaaGreat
open Go.RowKit
attribute [local go_sem] Oper.semAt_some

/-- What Holds goes over. -/
def AllH (Bx q : Nat) (H : List Hd) (W : World) : Prop := W.heap[Bx]? = some (.cells #[cp q] 84 (0, 0)) ∧ ∃ G L, Clk W q G L H

theorem succ_kH {k m : Nat} (h : k < m) (hm : m ≤ 4600000000000) : wrap64 ((k : Int) + 1) = ((k + 1 : Nat) : Int) := by unfold wrap64; omega

set_option maxRecDepth 100000 in
set_option maxHeartbeats 4000000 in
theorem holds_seqT (Bx q : Nat) (H : List Hd) (hlen : H.length ≤ capH) :
    SeqT Tryz.prog 70 #[.pointer (some ⟨Bx, 0, none⟩)] encY H.length (fun k x => H[k]? = some x) (AllH Bx q H) := by
  rintro n l S J Jx W ⟨hbx, G, L, ck⟩ hS h0 hJ hY
  have hlen2 : H.length ≤ 4600000000000 := hlen
  obtain ⟨V, p, mb, f, lo, lc, Gp, h1, h2, h3, h4, hg, h5, h6, h7, h8, h9, h10⟩ := ck.ex
  have hVL := h8.len
  have IT := hide (there_any q lo L.length lc W ck.pos (clk_cells h1).1)
  obtain ⟨po, pc, hp, ho, -⟩ := h4.ex
  have RI := hide (rising_any V H po pc W (Rc.Own.mem ho).2.1 h4.hs h8 (by omega))
  have GD : Hid (∀ y ∈ H, y.n.size ≤ capX) := hide fun y hy => by
    obtain ⟨v, hv, e⟩ := (h8.mem y).1 hy
    rw [← e]; exact h10 v hv
  have c1 := (clk_cells h1).2.1
  have cb := (one_cell hbx).1
  have cpp := (one_cell hp).1
  obtain ⟨m, hmm⟩ : ∃ m, m = H.length := ⟨_, rfl⟩
  have HM := hide hmm
  rw [hVL, ← hmm] at RI cpp
  have HLEN : Hid (m ≤ 4600000000000) := hide (by omega)
  have HS := hide hS
  have HJ := hide hJ
  have HY := hide hY
  have H0 := hide h0
  rw [← hmm] at HY ⊢
  clear hVL hmm hS hJ hY h0 hlen hlen2 h1 h2 h3 h4 h5 h6 h7 h8 h9 h10 hg ck hbx ho hp
  show CallsIn Fence.wide n Tryz.prog 70 #[.func (.yield l) #[] #[], .pointer (some ⟨Bx, 0, none⟩)] W _
  refine callsIn_of_wp Tryz.func70 rfl trivial ?_ rfl
  simp only [Tryz.ntmps70, List.size_toArray, List.length_cons, List.length_nil, Nat.reduceAdd, Nat.reduceSub, Array.replicate_succ, Array.replicate_zero, List.push_toArray, List.append_toArray, List.nil_append, List.cons_append]
  gi_wp2
  refine ⟨trivial, fun h => (nomatch h), (callsIn_wide.2 IT.out).mono ?_⟩
  rintro e w1 ⟨rfl, hq⟩
  subst hq
  clear IT
  gi_wp2
  refine ⟨trivial, fun h => (nomatch h), (callsIn_wide.2 RI.out).mono ?_⟩
  rintro e w3 ⟨g, R, rfl, eR, g1, g2, hv, s5⟩
  have HV := hide hv
  have SL := hide s5
  have HER := hide eR
  have HG : Hid (w1.heap.size ≤ g ∧ g < w3.heap.size) := hide ⟨g1, g2⟩
  have HJ0 := hide (H0.out w3 s5)
  obtain ⟨T, eT⟩ : ∃ T, w3.heap.size = T := ⟨_, rfl⟩
  rw [eT] at HJ0 HG
  clear g1 g2 hv s5 eR RI c1 cb cpp H0
  gi_wp2
  gi_loopw [16] (fun i wr => ∃ k : Nat, k ≤ m ∧ i = .int .i64 (k : Int) ∧ J T k wr ∧ Hid (Rv wr g R ∧ T ≤ wr.heap.size)) (fun i _ => m - (intOf i).toNat)
  case atStart => exact ⟨0, Nat.zero_le _, rfl, HJ0.out, hide ⟨HV.out, by omega⟩⟩
  case round =>
    obtain ⟨k, hk, rfl, hJk, HR⟩ := hrel
    clear HJ0 HV
    by_cases hlt : k < m
    · have hlt' : (k : Int) < (m : Int) := by omega
      have hkR : k < R.length := by
        have := congrArg List.length HER.out
        rw [List.length_map] at this
        have := HM.out
        omega
      obtain ⟨d0, d1, d2⟩ := HR.out.1 k hkR
      have hL9 : H[k]? = some (hdR (R.getD k default)) := by
        rw [← HER.out, List.getElem?_map, List.getD_eq_getElem?_getD, List.getElem?_eq_getElem hkR]
        rfl
      have HYK := hide (fun (W1 : World) (h : Calm wr W1) => HY.out T k (hdR (R.getD k default)) W1 (HJ.out _ _ _ _ hJk h) hlt hL9)
      have GK := hide (GD.out _ (List.mem_of_getElem? hL9))
      have SW := hide (succ_kH hlt HLEN.out)
      have HSZ : Hid (∀ g, (S g ∨ T ≤ g) → g < w1.heap.size ∨ T ≤ g) := hide fun g hg => hg.imp (HS.out g) id
      simp only [encY] at HYK
      generalize R.getD k default = x at *
      have HYK2 : Hid (∀ W1, Calm wr W1 → YieldAt Fence.wide (n - 1) Tryz.prog l #[.string x.n, .int .i64 x.t] W1 fun e W' => Touch (fun g => S g ∨ T ≤ g) W1 W' ∧ ((e = .returned (.bool true) ∧ J T (k + 1) W') ∨ (e = .returned (.bool false) ∧ Jx (k + 1) W'))) := hide HYK.out
      have CC : Hid (∀ W, Calls Tryz.prog 52 #[.string x.n] W fun e w' => e = .returned (.string x.n) ∧ Touch (fun _ => False) W w') := hide fun W => clone_any x.n W GK.out
      have HA : Hid (Calm wr (wr.alloc (.cells #[.string x.n, .int .i64 x.t, .int .i64 x.k] 149))) := hide ((Touch.refl _ _).alloc _)
      have AN : Hid ((wr.alloc (.cells #[.string x.n, .int .i64 x.t, .int .i64 x.k] 149)).heap[wr.heap.size]? = some (.cells #[.string x.n, .int .i64 x.t, .int .i64 x.k] 149 (0, 0))) := hide (al_new _ _)
      clear HYK GK hJk hL9 hkR
      gi_upto_region 4 with fail
      clear d0 d1 d2
      generalize wr.alloc (.cells #[.string x.n, .int .i64 x.t, .int .i64 x.k] 149) = w4 at *
      generalize hB : wr.heap.size = B at *
      have HB := hide hB
      clear hB
      refine wpIn_region_y 6 (Calm w4) (by kernel_rfl) ?_
      have hT0 : Calm w4 { w4 with drawn := w4.drawn + 1 } := (Touch.refl _ w4).drew
      refine wpAnyY_yield 0 20 (.func (.yield l) #[] #[]) [6] rfl rfl (by kernel_rfl) (by kernel_rfl) (by kernel_rfl) (by kernel_rfl) (by kernel_rfl) (by kernel_rfl) (fun W hW => by kernel_rfl) (by assumption) rfl rfl ?_
      simp only [Act.put, List.setIfInBounds_toArray, List.set_cons_zero, List.set_cons_succ]
      refine wpAnyY_yield 1 21 (.pointer (some ⟨B, 0, none⟩)) [2, 3, 6] rfl rfl (by kernel_rfl) (by kernel_rfl) (by kernel_rfl) (by kernel_rfl) (by kernel_rfl) (by kernel_rfl) (fun W hW => by go_simp) (by assumption) rfl rfl ?_
      simp only [Act.put, List.setIfInBounds_toArray, List.set_cons_zero, List.set_cons_succ]
      refine wpAnyY_yield 2 22 (.string x.n) [3, 6] rfl rfl (by kernel_rfl) (by kernel_rfl) (by kernel_rfl) (by kernel_rfl) (by kernel_rfl) (by kernel_rfl) (fun W hW => by have k0 := (ho_cells (hW.at AN.out)).1; go_simp) (by assumption) rfl rfl ?_
      simp only [Act.put, List.setIfInBounds_toArray, List.set_cons_zero, List.set_cons_succ]
      refine wpAnyY_yield 4 24 (.pointer (some ⟨B, 1, none⟩)) [5, 6] rfl rfl (by kernel_rfl) (by kernel_rfl) (by kernel_rfl) (by kernel_rfl) (by kernel_rfl) (by kernel_rfl) (fun W hW => by go_simp) (by assumption) rfl rfl ?_
      simp only [Act.put, List.setIfInBounds_toArray, List.set_cons_zero, List.set_cons_succ]
      refine wpAnyY_yield 5 25 (.int .i64 x.t) [6] rfl rfl (by kernel_rfl) (by kernel_rfl) (by kernel_rfl) (by kernel_rfl) (by kernel_rfl) (by kernel_rfl) (fun W hW => by have k0 := (ho_cells (hW.at AN.out)).2.1; go_simp) (by assumption) rfl rfl ?_
      simp only [Act.put, List.setIfInBounds_toArray, List.set_cons_zero, List.set_cons_succ]
      refine wpAnyY_enter 3 23 52 #[.string x.n] rfl rfl (by decide) (by kernel_rfl) (by kernel_rfl) (by kernel_rfl) ?_
      refine (CC.out _).mono ?_
      rintro r w5 ⟨rfl, t5⟩
      have h45 := hT0.tr t5
      refine ⟨_, rfl, h45, ?_⟩
      simp only [Act.put, List.setIfInBounds_toArray, List.set_cons_zero, List.set_cons_succ]
      have T4 := hide (HA.out.tr h45)
      obtain ⟨fn, tmps, assign, body, hy, hR⟩ := HYK2.out _ T4.out
      have HRR := hide (hR.mono (R' := fun e W' => ∃ r : Bool, e = .returned (.bool r) ∧ Touch (fun g => S g ∨ T ≤ g) w5 W' ∧ ((r = true ∧ J T (k + 1) W') ∨ (r = false ∧ Jx (k + 1) W'))) (fun e W' h => by
        rcases h with ⟨h1, ⟨h2, h3⟩ | ⟨h2, h3⟩⟩
        · exact ⟨true, h2, h1, .inl ⟨rfl, h3⟩⟩
        · exact ⟨false, h2, h1, .inr ⟨rfl, h3⟩⟩))
      refine wpAnyY_round 26 rfl rfl (by kernel_rfl) (by kernel_rfl) (by go_simp) (HRR.out.mono ?_)
      rintro e W3 ⟨r, rfl, t3, hcase⟩
      refine ⟨_, rfl, ?_⟩
      simp only [Act.put, List.setIfInBounds_toArray, List.set_cons_zero, List.set_cons_succ]
      refine wpAnyIn_pure 7 27 (.bool (!r)) rfl rfl (by kernel_rfl) (by kernel_rfl) (by go_simp) ?_
      simp only [Act.put, List.setIfInBounds_toArray, List.set_cons_zero, List.set_cons_succ]
      refine wpAnyIn_done (by kernel_rfl) ?_ _
      have NX : Hid (Rv W3 g R ∧ T ≤ W3.heap.size) := hide (by
        have hg := HG.out
        have sz := T4.out.size
        have tt := HR.out.2
        have hb := HB.out
        refine ⟨((HR.out.1.touch (T4.out) (fun h => h) (by omega)).touch t3 (fun hs => ?_) (by omega)), by have := t3.size; omega⟩
        have := HSZ.out _ hs
        omega)
      clear hy hR HRR HYK2 CC AN HA hT0 t5 h45 T4 t3
      rcases hcase with ⟨rfl, hJ3⟩ | ⟨rfl, hJx3⟩
      · have HJ3 := hide hJ3
        clear hJ3
        gi_wp2
        go_roundw
        case rel => exact ⟨k + 1, hlt, by rw [SW.out], HJ3.out, NX⟩
        case measure => rw [SW.out]; simp [intOf]; omega
      · have HX := hide hJx3
        clear hJx3
        gi_wp2
        refine bodyPost_ret (results_none rfl _ _ _) rfl ?_
        exact ⟨⟨_, rfl⟩, .inr ⟨k + 1, hlt, HX.out⟩⟩
    · have e : k = m := by omega
      subst e
      have HJ9 := hide hJk
      clear hJk HR
      gi_wp2
      go_end0
      exact ⟨⟨_, rfl⟩, .inl ⟨T, HJ9.out⟩⟩

theorem enters50 (args : Array Value) (V : World) : (callFunc 70 args).run Tryz.prog V = .ok (.enter 70 args) V := enters_of Tryz.func70 (by kernel_rfl) rfl args V

theorem holdsV (o : Option Addr) (w : World) : Calls Tryz.prog 67 #[.pointer o] w fun e w' => e = .returned (.func (.func 70) #[] #[.pointer (some ⟨w.heap.size, 0, none⟩)]) ∧ w' = w.alloc (.cells #[.pointer o] 84) := by
  go_enter Tryz.func67, Tryz.ntmps67
  go_wp2_with fail
  go_ret
  exact ⟨rfl, rfl⟩

theorem holds_any {w : World} {q : Nat} {G : Nat → Prop} {L : List Int} {H : List Hd} (h : Clk w q G L H) (hl : H.length ≤ capH) : Calls Tryz.prog 67 #[cp q] w fun e w' => ∃ fv, e = .returned fv ∧ Calm w w' ∧ Tells w' fv H := by
  refine (holdsV (some ⟨q, 0, none⟩) w).mono fun e w' ⟨h1, h2⟩ => ?_
  have t : Calm w w' := by rw [h2]; exact (Touch.refl _ _).alloc _
  refine ⟨_, h1, t, _, _, rfl, enters50, AllH w.heap.size q H, fun V hV => ⟨hV.at (by rw [h2]; exact al_new _ _), G, L, (h.calm t).calm hV⟩, holds_seqT _ q H hl⟩

end Go.Proofs.YtapnjofplilefaaGreat
