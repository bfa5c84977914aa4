/- The program's clock: Free, Set. -/
import Derived.Test.YtcmigkemhoecfaaJ3
namespace Go.Proofs.Ytcmigkemhoecfaa
open Go.RowKit

/-- A drawn region with a call that changes the world, and operations behind it. -/
theorem wpAnyZ_callH {P : Program} {md : Region.Mode} {ops : Array Oper} {Q : Exit → Act → World → Prop} {S : World → Prop} (S2 : World → World → Prop) {z : Nat} {d : Tmp} {f : FuncId} {args : Array Value} {oi : Oper} {fuel : Nat} {listed : Array Bool} {a : Act} {w : World} (hi : ops[z]? = some oi) (hd : oi.dst = some d)
    (hr : Region.ready md ops listed = [z]) (hw : Region.wanted oi (yielded ops a.tmps) = true) (hrun : (execOp a.eval oi).run P w = .ok (.enter f args) w)
    (hc : Calls P f args w fun e w'' => ∃ v, e = .returned v ∧ wpAnyH P md ops Q (S2 w'') fuel (listed.setIfInBounds z true) (a.put (some d) v) w'') : wpAnyZ P md ops Q S z (fuel + 1) listed a w := by
  refine ⟨fun h0 => (by rw [hr] at h0; cases h0), fun j hj => ?_⟩
  rw [hr] at hj
  obtain rfl : j = z := by simpa using hj
  unfold wpOp
  simp only [hi, hw, if_true]
  left
  unfold Oper.wp
  rw [hrun, Oper.upon_enter]
  refine hc.mono fun e w'' hh => ?_
  obtain ⟨v, rfl, h⟩ := hh
  rw [hd]
  exact wpAny_of_held _ _ _ _ h

set_option maxRecDepth 100000 in
set_option maxHeartbeats 1000000 in
theorem free_any {w : World} {q : Nat} {G : Nat → Prop} {L : List Int} {H : List Hd} (x : ByteArray) (h : Clk w q G L H) (hl : H.length ≤ capH) (hx : x.size ≤ capX) : Calls Try.prog 28 #[cp q, .string x] w fun e w' => e = .returned (.bool (hasH H x)) ∧ Next w q G L (freeH H x) w' := by
  obtain ⟨V, p, m, f, lo, lc, Gp, h1, h2, h3, h4, hg, h5, h6, h7, h8, h9, h10⟩ := h.ex
  have hl2 : H.length ≤ 4600000000000 := hl
  have hlen := h8.len
  have CT := hide (there_any q lo L.length lc w h.pos (clk_cells h1).1)
  have k2 := (clk_cells h1).2.2
  have LK := h5.look hx
  rcases h8.at h7 x with ⟨hh, i, hi, ni, fx⟩ | ⟨hh, fx⟩
  · rw [fx, show ptV (some (nh V i).b) = cp (nh V i).b from rfl] at LK
    rw [hh]
    have hb := h4.hs.at_ i hi
    obtain ⟨n, hn⟩ : ∃ n, n + 1 = V.length := ⟨V.length - 1, by omega⟩
    have CR := hide (fun W (hW : Calm w W) => hremove_any V p Gp i n W (h4.calm hW) h9 hi hn (by omega))
    have SE : Hid (∀ W, Calm w W → W.cell? ⟨q, 1, none⟩ = some (cp p) ∧ W.cell? ⟨(nh V i).b, 2, none⟩ = some (.int .i64 (i : Int))) := hide fun W hW => ⟨(clk_cells (hW.at h1)).2.1, (ho_cells (hW.at hb)).2.2⟩
    have nqm : q ≠ m := by
      rintro rfl
      obtain ⟨es, cl, hm⟩ := h5.isMap
      rw [h1] at hm; cases hm
    have FIN : Hid (∀ W w3 V1, Calm w W → Pl w3 p Gp (V1.take n) → V1.Perm V → nh V1 n = nh V i → Touch Gp W w3 → Hp (V1.take n) n → ∀ wD, Calm w3 wD → wD.cell? ⟨q, 2, none⟩ = some (.map (some m)) ∧ ∃ w4, (∀ ty, (Builtin.delete_ #[67, 9] ty #[.map (some m), .string x]).run Try.prog wD = .ok (.tuple #[]) w4) ∧ Next w q G L (freeH H x) w4) := hide fun W w3 V1 hW p3 perm e3 T3 hp3 wD hD => by
      have T13 : Touch Gp w wD := Touch.trans (Touch.trans (hW.mono (S' := Gp) fun _ _ h => h.elim) T3 fun _ _ h => h) (hD.mono fun _ _ h => h.elim) fun _ _ h => h
      have q3 := T13.heap h1 (fun e => (hg q e).2.1 rfl)
      have m3 := h5.touch T13 (fun e => (hg m e).2.2.1 rfl)
      refine ⟨(clk_cells q3).2.2, ?_⟩
      obtain ⟨w4, -, -, -⟩ := m3.del hx (by rw [fx]; rfl) 0
      have DL := fun ty => m3.del hx (by rw [fx]; rfl) ty
      obtain ⟨w4, hr4, m4, T4⟩ := DL 0
      refine ⟨w4, fun ty => by rw [← hr4]; rfl, ?_⟩
      have le : (V1.take n).length = n := by rw [List.length_take, perm.length_eq]; omega
      have hl1 : n + 1 = V1.length := by rw [perm.length_eq]; exact hn
      have L1 := h8.perm perm
      have T14 : Touch G w w4 := Touch.trans (T13.mono (S' := G) fun g _ e => (hg g e).1) (T4.mono fun g _ e => by rw [e]; exact h6) fun _ _ h => h
      refine ⟨T14, G, ⟨⟨V1.take n, p, m, delf f x, lo, lc, Gp, T4.heap q3 nqm, Rc.Own.touch (Rc.Own.touch h2 T13 (fun g hh e => (hg g e).2.2.2 hh)) T4 ?_, h3, (p3.calm hD).touch T4 (fun g hh e => (hg g hh).2.2.1 e), hg, ?_, h6, ?_, ?_, by rw [le]; exact hp3, fun v hv => ?_⟩, h.at_, fun g hh => Nat.lt_of_lt_of_le (h.lt g hh) T14.size, h.ne, h.len⟩, fun g hh => .inl hh⟩
      · intro g hh e
        obtain ⟨-, cur, hc⟩ := Rc.own_block h2 hh
        obtain ⟨es, cl, hm⟩ := h5.isMap
        rw [e, hm] at hc; cases hc
      · rw [le]
        have : V.length - 1 = n := by omega
        rw [← this]; exact m4
      · have := (h7.perm perm).less hl1 (fun a b ha hb e => L1.inj ha hb e)
        rw [e3, ni] at this
        exact this
      · have := L1.less hl1
        rw [e3, ni] at this
        exact this
      · exact h10 v (perm.mem_iff.1 (List.mem_of_mem_take hv))
    clear h1 h2 h3 h4 h5 h6 h7 h8 h9 h10 hg h hl hl2 hx hlen hb hh nqm hi hn
    generalize nh V i = y at *
    subst ni
    go_enter Try.func28, Try.ntmps28
    go_wp2_with fail
    refine CT.out.mono ?_
    rintro e w9 ⟨rfl, rfl⟩
    clear CT
    go_wp2_with fail
    clear LK fx
    refine wp_region_z 9 (Calm w9) (by kernel_rfl) ?_
    have hT0 : Calm w9 { w9 with drawn := w9.drawn + 1 } := (Touch.refl _ w9).drew
    refine wpAnyZ_yield 0 22 (cp q) [1, 2, 3, 4, 9] rfl rfl (by kernel_rfl) (by kernel_rfl) (by kernel_rfl) (by kernel_rfl) (by kernel_rfl) (fun _ _ _ h => h) (by kernel_rfl) (fun W hW => by kernel_rfl) (by assumption) rfl rfl ?_
    simp only [Act.put, List.setIfInBounds_toArray, List.set_cons_zero, List.set_cons_succ]
    refine wpAnyZ_yield 1 23 (cp q) [2, 3, 4, 9] rfl rfl (by kernel_rfl) (by kernel_rfl) (by kernel_rfl) (by kernel_rfl) (by kernel_rfl) (fun _ _ _ h => h) (by kernel_rfl) (fun W hW => by go_simp) (by assumption) rfl rfl ?_
    simp only [Act.put, List.setIfInBounds_toArray, List.set_cons_zero, List.set_cons_succ]
    refine wpAnyZ_yield 2 24 (.pointer (some ⟨q, 1, none⟩)) [3, 4, 9] rfl rfl (by kernel_rfl) (by kernel_rfl) (by kernel_rfl) (by kernel_rfl) (by kernel_rfl) (fun _ _ _ h => h) (by kernel_rfl) (fun W hW => by go_simp) (by assumption) rfl rfl ?_
    simp only [Act.put, List.setIfInBounds_toArray, List.set_cons_zero, List.set_cons_succ]
    refine wpAnyZ_yield 3 25 (cp p) [4, 9] rfl rfl (by kernel_rfl) (by kernel_rfl) (by kernel_rfl) (by kernel_rfl) (by kernel_rfl) (fun _ _ _ h => h) (by kernel_rfl) (fun W hW => by obtain ⟨k0, -⟩ := SE.out W hW; go_simp) (by assumption) rfl rfl ?_
    simp only [Act.put, List.setIfInBounds_toArray, List.set_cons_zero, List.set_cons_succ]
    refine wpAnyZ_yield 4 26 (pv p) [9] rfl rfl (by kernel_rfl) (by kernel_rfl) (by kernel_rfl) (by kernel_rfl) (by kernel_rfl) (fun _ _ _ h => h) (by kernel_rfl) (fun W hW => by go_simp) (by assumption) rfl rfl ?_
    simp only [Act.put, List.setIfInBounds_toArray, List.set_cons_zero, List.set_cons_succ]
    refine wpAnyZ_yield 5 27 (cp y.b) [6, 7, 8, 9] rfl rfl (by kernel_rfl) (by kernel_rfl) (by kernel_rfl) (by kernel_rfl) (by kernel_rfl) (fun _ _ _ h => h) (by kernel_rfl) (fun W hW => by kernel_rfl) (by assumption) rfl rfl ?_
    simp only [Act.put, List.setIfInBounds_toArray, List.set_cons_zero, List.set_cons_succ]
    refine wpAnyZ_yield 6 28 (cp y.b) [7, 8, 9] rfl rfl (by kernel_rfl) (by kernel_rfl) (by kernel_rfl) (by kernel_rfl) (by kernel_rfl) (fun _ _ _ h => h) (by kernel_rfl) (fun W hW => by go_simp) (by assumption) rfl rfl ?_
    simp only [Act.put, List.setIfInBounds_toArray, List.set_cons_zero, List.set_cons_succ]
    refine wpAnyZ_yield 7 29 (.pointer (some ⟨y.b, 2, none⟩)) [8, 9] rfl rfl (by kernel_rfl) (by kernel_rfl) (by kernel_rfl) (by kernel_rfl) (by kernel_rfl) (fun _ _ _ h => h) (by kernel_rfl) (fun W hW => by go_simp) (by assumption) rfl rfl ?_
    simp only [Act.put, List.setIfInBounds_toArray, List.set_cons_zero, List.set_cons_succ]
    refine wpAnyZ_yield 8 30 (.int .i64 (i : Int)) [9] rfl rfl (by kernel_rfl) (by kernel_rfl) (by kernel_rfl) (by kernel_rfl) (by kernel_rfl) (fun _ _ _ h => h) (by kernel_rfl) (fun W hW => by obtain ⟨-, k0⟩ := SE.out W hW; go_simp) (by assumption) rfl rfl ?_
    simp only [Act.put, List.setIfInBounds_toArray, List.set_cons_zero, List.set_cons_succ]
    refine wpAnyZ_callH Calm (d := 31) (f := 53) (args := #[pv p, .int .i64 (i : Int)]) rfl rfl (by kernel_rfl) (by kernel_rfl) (by kernel_rfl) ?_
    refine (CR.out _ hT0).mono ?_
    rintro e w3 ⟨rfl, V1, p3, perm, e3, T3, hp3, k, b3⟩
    have N := hide (FIN.out _ w3 V1 hT0 p3 perm e3 T3 hp3)
    have B3 := hide b3
    refine ⟨_, rfl, ?_⟩
    have hT3 : Calm w3 w3 := Touch.refl _ w3
    simp only [Act.put, List.setIfInBounds_toArray, List.set_cons_zero, List.set_cons_succ]
    refine wpAnyH_yield 10 32 (cp y.b) rfl rfl (by kernel_rfl) (by kernel_rfl) (by kernel_rfl) (fun _ _ _ h => h) (by kernel_rfl) (fun W hW => by kernel_rfl) (by assumption) rfl rfl ?_
    simp only [Act.put, List.setIfInBounds_toArray, List.set_cons_zero, List.set_cons_succ]
    refine wpAnyH_yield 11 7 (cp y.b) rfl rfl (by kernel_rfl) (by kernel_rfl) (by kernel_rfl) (fun _ _ _ h => h) (by kernel_rfl) (fun W hW => by kernel_rfl) (by assumption) rfl rfl ?_
    simp only [Act.put, List.setIfInBounds_toArray, List.set_cons_zero, List.set_cons_succ]
    refine wpAnyH_done (by kernel_rfl) ?_ _
    clear hT0 hT3 p3 perm e3 T3 hp3 b3 FIN CR SE k2
    go_wp2_with fail
    refine wp_region_z 8 (Calm w3) (by kernel_rfl) ?_
    have hT0 : Calm w3 { w3 with drawn := w3.drawn + 1 } := (Touch.refl _ w3).drew
    refine wpAnyZ_yield 0 33 (cp q) [1, 2, 3, 8] rfl rfl (by kernel_rfl) (by kernel_rfl) (by kernel_rfl) (by kernel_rfl) (by kernel_rfl) (fun _ _ _ h => h) (by kernel_rfl) (fun W hW => by kernel_rfl) (by assumption) rfl rfl ?_
    simp only [Act.put, List.setIfInBounds_toArray, List.set_cons_zero, List.set_cons_succ]
    refine wpAnyZ_yield 1 34 (cp q) [2, 3, 8] rfl rfl (by kernel_rfl) (by kernel_rfl) (by kernel_rfl) (by kernel_rfl) (by kernel_rfl) (fun _ _ _ h => h) (by kernel_rfl) (fun W hW => by go_simp) (by assumption) rfl rfl ?_
    simp only [Act.put, List.setIfInBounds_toArray, List.set_cons_zero, List.set_cons_succ]
    refine wpAnyZ_yield 2 35 (.pointer (some ⟨q, 2, none⟩)) [3, 8] rfl rfl (by kernel_rfl) (by kernel_rfl) (by kernel_rfl) (by kernel_rfl) (by kernel_rfl) (fun _ _ _ h => h) (by kernel_rfl) (fun W hW => by go_simp) (by assumption) rfl rfl ?_
    simp only [Act.put, List.setIfInBounds_toArray, List.set_cons_zero, List.set_cons_succ]
    refine wpAnyZ_yield 3 36 (.map (some m)) [8] rfl rfl (by kernel_rfl) (by kernel_rfl) (by kernel_rfl) (by kernel_rfl) (by kernel_rfl) (fun _ _ _ h => h) (by kernel_rfl) (fun W hW => by obtain ⟨k0, -⟩ := N.out W hW; go_simp) (by assumption) rfl rfl ?_
    simp only [Act.put, List.setIfInBounds_toArray, List.set_cons_zero, List.set_cons_succ]
    refine wpAnyZ_yield 4 37 (cp y.b) [5, 6, 7, 8] rfl rfl (by kernel_rfl) (by kernel_rfl) (by kernel_rfl) (by kernel_rfl) (by kernel_rfl) (fun _ _ _ h => h) (by kernel_rfl) (fun W hW => by kernel_rfl) (by assumption) rfl rfl ?_
    simp only [Act.put, List.setIfInBounds_toArray, List.set_cons_zero, List.set_cons_succ]
    refine wpAnyZ_yield 5 38 (cp y.b) [6, 7, 8] rfl rfl (by kernel_rfl) (by kernel_rfl) (by kernel_rfl) (by kernel_rfl) (by kernel_rfl) (fun _ _ _ h => h) (by kernel_rfl) (fun W hW => by go_simp) (by assumption) rfl rfl ?_
    simp only [Act.put, List.setIfInBounds_toArray, List.set_cons_zero, List.set_cons_succ]
    refine wpAnyZ_yield 6 39 (cp y.b) [7, 8] rfl rfl (by kernel_rfl) (by kernel_rfl) (by kernel_rfl) (by kernel_rfl) (by kernel_rfl) (fun _ _ _ h => h) (by kernel_rfl) (fun W hW => by go_simp) (by assumption) rfl rfl ?_
    simp only [Act.put, List.setIfInBounds_toArray, List.set_cons_zero, List.set_cons_succ]
    refine wpAnyZ_yield 7 40 (.string y.n) [8] rfl rfl (by kernel_rfl) (by kernel_rfl) (by kernel_rfl) (by kernel_rfl) (by kernel_rfl) (fun _ _ _ h => h) (by kernel_rfl) (fun W hW => by have k0 := (ho_cells (hW.at B3.out)).1; go_simp) (by assumption) rfl rfl ?_
    simp only [Act.put, List.setIfInBounds_toArray, List.set_cons_zero, List.set_cons_succ]
    refine wpAnyZ_end rfl (by kernel_rfl) (by kernel_rfl) (by kernel_rfl) ?_
    generalize ({ w3 with drawn := w3.drawn + 1 } : World) = wD at *
    obtain ⟨-, w4, hr, nx⟩ := N.out wD hT0
    have HX := hide nx
    clear hT0 N B3 nx
    unfold Oper.wp
    go_simp
    go_wp2_with fail
    go_ret
    exact ⟨rfl, HX.out⟩
  · rw [fx, show ptV none = .pointer none from rfl] at LK
    rw [hh]
    have N : Hid (Next w q G L (freeH H x) w) := hide (by rw [free_none hh]; exact ⟨Touch.refl _ _, G, h, fun g hg => .inl hg⟩)
    clear h1 h2 h3 h4 h5 h6 h7 h8 h9 h10 hg h hl hl2 hx hlen hh fx
    go_enter Try.func28, Try.ntmps28
    go_wp2_with fail
    refine CT.out.mono ?_
    rintro e w9 ⟨rfl, rfl⟩
    clear CT
    go_wp2_with fail
    go_ret
    exact ⟨rfl, N.out⟩

set_option maxRecDepth 100000 in
set_option maxHeartbeats 1000000 in
theorem set_bad {w : World} {q : Nat} {G : Nat → Prop} {L : List Int} {H : List Hd} (s t : Int) (h : Clk w q G L H) (hb : setB L s t = false) : Calls Try.prog 27 #[cp q, .int .i64 s, .int .i64 t] w fun e w' => e = .returned (.tuple #[.int .i64 0, .int .i64 0, .int .i64 5]) ∧ Calm w w' := by
  obtain ⟨V, p, m, f, lo, lc, Gp, hc, -⟩ := h.ex
  have CH := hide (there_any q lo L.length lc w h.pos (clk_cells hc).1)
  have c0 := (clk_cells hc).1
  have CT := hide (isTime_any t w)
  unfold setB at hb
  generalize timC t = tb at *
  generalize L.length = n at *
  clear h hc
  by_cases h0 : s < 0
  · clear hb
    go_enter Try.func27, Try.ntmps27
    go_wp2_with fail
    refine CH.out.mono ?_
    rintro e w9 ⟨rfl, rfl⟩
    go_wp2_with fail
    go_ret3
    exact ⟨rfl, Touch.refl _ _⟩
  by_cases h1 : s < n
  · have ht : tb = false := by
      rw [decide_eq_true (by omega), decide_eq_true h1] at hb
      simpa using hb
    subst ht
    have z0 : ¬ (n : Int) ≤ s := by omega
    clear hb
    go_enter Try.func27, Try.ntmps27
    go_wp2_with fail
    refine CH.out.mono ?_
    rintro e w9 ⟨rfl, rfl⟩
    go_wp2_with fail
    refine CT.out.mono ?_
    rintro e w1 ⟨rfl, rfl⟩
    go_wp2_with fail
    go_ret3
    exact ⟨rfl, Touch.refl _ _⟩
  · have z0 : (n : Int) ≤ s := by omega
    clear hb
    go_enter Try.func27, Try.ntmps27
    go_wp2_with fail
    refine CH.out.mono ?_
    rintro e w9 ⟨rfl, rfl⟩
    go_wp2_with fail
    go_ret3
    exact ⟨rfl, Touch.refl _ _⟩

set_option maxRecDepth 100000 in
set_option maxHeartbeats 1000000 in
theorem set_ok {w : World} {q : Nat} {G : Nat → Prop} {L : List Int} {H : List Hd} (i : Nat) (t : Int) (h : Clk w q G L H) (hi : i < L.length) (ht : timC t = true) : Calls Try.prog 27 #[cp q, .int .i64 (i : Int), .int .i64 t] w fun e w' => e = .returned (.tuple #[.int .i64 (mkN L), .int .i64 (mkN (L.set i (max (L.getD i 0) t))), .int .i64 0]) ∧ Next w q G (L.set i (max (L.getD i 0) t)) H w' := by
  have C1 := hide (mark_any h)
  have CT := hide (isTime_any t w)
  rw [ht] at CT
  obtain ⟨V, p, m, f, lo, lc, Gp, cq, o1, h3, h4, hg, h5, h6, h7⟩ := h.ex
  have CH := hide (there_any q lo L.length lc w h.pos (clk_cells cq).1)
  obtain ⟨b, off, rfl, ci⟩ := ints_at (Rc.Own.mem o1).2.1 i hi
  have hoff : off = 0 := ((Rc.Own.mem o1).2.2.2.2.2 _ rfl).2.1
  subst hoff
  rw [Nat.zero_add] at ci
  obtain ⟨-, cur, hcur⟩ := Rc.own_block o1 (g := b) rfl
  have c0 := (clk_cells cq).1
  have FIN : Hid (∀ W, Calm w W → Next w q G (L.set i (max (L.getD i 0) t)) H (W.setCell ⟨b, i, none⟩ (.int .i64 (max (L.getD i 0) t)))) := hide fun W T0 => by
    have tS : Touch (fun k => k = b) W (W.setCell ⟨b, i, none⟩ (.int .i64 (max (L.getD i 0) t))) := (Touch.refl (fun k => k = b) _).setCell (p := ⟨b, i, none⟩) (fun _ => rfl) _
    have hbq : q ≠ b := tags cq hcur (by decide)
    refine ⟨?_, G, ⟨⟨V, p, m, f, some ⟨b, 0, none⟩, lc, Gp, ?_, ?_, ?_, ?_, ?_, ?_, h6, h7⟩, h.at_, ?_, ?_, ?_⟩, fun g hh => .inl hh⟩
    · refine (T0.mono fun _ _ h => h.elim).trans (tS.mono fun g _ e => ?_) (fun _ _ h => h)
      rw [e]; exact h3 b rfl
    · rw [List.length_set]
      exact tS.heap (T0.at cq) hbq
    · rw [List.length_set]
      exact jn_set (Rc.Own.calm o1 T0) i _
    · rw [List.length_set]; exact h3
    · exact (h4.calm T0).touch tS (fun g hh e => (hg g hh).2.2.2 (by rw [e]; rfl))
    · rw [List.length_set]; exact hg
    · refine (h5.calm T0).touch tS (fun e => ?_)
      obtain ⟨es, cl, hm⟩ := h5.isMap
      rw [e, hcur] at hm; cases hm
    · intro g hh
      have := h.lt g hh
      have := (T0.mono (S' := fun k => k = b) fun _ _ h => h.elim).size
      have := tS.size
      omega
    · intro e
      have := congrArg List.length e
      rw [List.length_set] at this
      exact h.ne (List.eq_nil_of_length_eq_zero this)
    · rw [List.length_set]; exact h.len
  have KQ : Hid (∀ W, Calm w W → W.cell? ⟨q, 0, none⟩ = some (.slice (some ⟨b, 0, none⟩) L.length lc) ∧ W.cell? ⟨b, i, none⟩ = some (.int .i64 (L.getD i 0)) ∧ W.frozen? ⟨b, i, none⟩ = false) := hide fun W hW => ⟨(clk_cells (hW.at cq)).1, (hW.cell (p := ⟨b, i, none⟩) (lt_of_heap hcur) (fun h => h)).trans ci, hd_frozen (hW.at hcur) i⟩
  have hiz : (i : Int) < (L.length : Int) := by omega
  have z0 : ¬ (L.length : Int) ≤ (i : Int) := by omega
  clear h cq o1 h3 h4 hg h5 h6 h7 hcur ht ci
  generalize L.getD i 0 = y at *
  have C2' : Hid (∀ W, Calm w W → Calls Try.prog 24 #[cp q] (W.setCell ⟨b, i, none⟩ (.int .i64 (max y t))) fun e w' => e = .returned (.int .i64 (mkN (L.set i (max y t)))) ∧ w' = (W.setCell ⟨b, i, none⟩ (.int .i64 (max y t)))) := hide fun W hW => by
    obtain ⟨-, G', c, -⟩ := FIN.out W hW
    exact mark_any c
  have NX : Hid (∀ W, Calm w W → Next w q G (L.set i (max y t)) H (W.setCell ⟨b, i, none⟩ (.int .i64 (max y t)))) := hide FIN.out
  clear FIN
  generalize mkN (L.set i (max y t)) = R2 at *
  generalize L.set i (max y t) = L2 at *
  generalize mkN L = R1 at *
  generalize hn : L.length = n at *
  go_enter Try.func27, Try.ntmps27
  go_wp2_with fail
  refine CH.out.mono ?_
  rintro e w9 ⟨rfl, rfl⟩
  clear CH
  go_wp2_with fail
  refine CT.out.mono ?_
  rintro e w9 ⟨rfl, rfl⟩
  go_wp2_with fail
  refine C1.out.mono ?_
  rintro e w1 ⟨rfl, rfl⟩
  clear C1 CT
  go_wp2_with fail
  refine wp_region_z 15 (Calm w1) (by kernel_rfl) ?_
  have hT0 : Calm w1 { w1 with drawn := w1.drawn + 1 } := (Touch.refl _ w1).drew
  refine wpAnyZ_yield 0 30 (.pointer (some ⟨q, 0, none⟩)) [15] rfl rfl (by kernel_rfl) (by kernel_rfl) (by kernel_rfl) (by kernel_rfl) (by kernel_rfl) (fun _ _ _ h => h) (by kernel_rfl) (fun W hW => by kernel_rfl) (by assumption) rfl rfl ?_
  simp only [Act.put, List.setIfInBounds_toArray, List.set_cons_zero, List.set_cons_succ]
  refine wpAnyZ_yield 1 31 (.pointer (some ⟨q, 0, none⟩)) [15] rfl rfl (by kernel_rfl) (by kernel_rfl) (by kernel_rfl) (by kernel_rfl) (by kernel_rfl) (fun _ _ _ h => h) (by kernel_rfl) (fun W hW => by go_simp) (by assumption) rfl rfl ?_
  simp only [Act.put, List.setIfInBounds_toArray, List.set_cons_zero, List.set_cons_succ]
  refine wpAnyZ_yield 2 32 (.pointer (some ⟨q, 0, none⟩)) [15] rfl rfl (by kernel_rfl) (by kernel_rfl) (by kernel_rfl) (by kernel_rfl) (by kernel_rfl) (fun _ _ _ h => h) (by kernel_rfl) (fun W hW => by go_simp) (by assumption) rfl rfl ?_
  simp only [Act.put, List.setIfInBounds_toArray, List.set_cons_zero, List.set_cons_succ]
  refine wpAnyZ_yield 3 33 (.slice (some ⟨b, 0, none⟩) n lc) [15] rfl rfl (by kernel_rfl) (by kernel_rfl) (by kernel_rfl) (by kernel_rfl) (by kernel_rfl) (fun _ _ _ h => h) (by kernel_rfl) (fun W hW => by obtain ⟨k0, -⟩ := KQ.out W hW; go_simp) (by assumption) rfl rfl ?_
  simp only [Act.put, List.setIfInBounds_toArray, List.set_cons_zero, List.set_cons_succ]
  refine wpAnyZ_yield 4 34 (.int .i64 (i : Int)) [15] rfl rfl (by kernel_rfl) (by kernel_rfl) (by kernel_rfl) (by kernel_rfl) (by kernel_rfl) (fun _ _ _ h => h) (by kernel_rfl) (fun W hW => by kernel_rfl) (by assumption) rfl rfl ?_
  simp only [Act.put, List.setIfInBounds_toArray, List.set_cons_zero, List.set_cons_succ]
  refine wpAnyZ_yield 5 35 (.pointer (some ⟨q, 0, none⟩)) [15] rfl rfl (by kernel_rfl) (by kernel_rfl) (by kernel_rfl) (by kernel_rfl) (by kernel_rfl) (fun _ _ _ h => h) (by kernel_rfl) (fun W hW => by kernel_rfl) (by assumption) rfl rfl ?_
  simp only [Act.put, List.setIfInBounds_toArray, List.set_cons_zero, List.set_cons_succ]
  refine wpAnyZ_yield 6 36 (.pointer (some ⟨q, 0, none⟩)) [15] rfl rfl (by kernel_rfl) (by kernel_rfl) (by kernel_rfl) (by kernel_rfl) (by kernel_rfl) (fun _ _ _ h => h) (by kernel_rfl) (fun W hW => by go_simp) (by assumption) rfl rfl ?_
  simp only [Act.put, List.setIfInBounds_toArray, List.set_cons_zero, List.set_cons_succ]
  refine wpAnyZ_yield 7 37 (.pointer (some ⟨q, 0, none⟩)) [15] rfl rfl (by kernel_rfl) (by kernel_rfl) (by kernel_rfl) (by kernel_rfl) (by kernel_rfl) (fun _ _ _ h => h) (by kernel_rfl) (fun W hW => by go_simp) (by assumption) rfl rfl ?_
  simp only [Act.put, List.setIfInBounds_toArray, List.set_cons_zero, List.set_cons_succ]
  refine wpAnyZ_yield 8 38 (.slice (some ⟨b, 0, none⟩) n lc) [15] rfl rfl (by kernel_rfl) (by kernel_rfl) (by kernel_rfl) (by kernel_rfl) (by kernel_rfl) (fun _ _ _ h => h) (by kernel_rfl) (fun W hW => by obtain ⟨k0, -⟩ := KQ.out W hW; go_simp) (by assumption) rfl rfl ?_
  simp only [Act.put, List.setIfInBounds_toArray, List.set_cons_zero, List.set_cons_succ]
  refine wpAnyZ_yield 9 39 (.int .i64 (i : Int)) [15] rfl rfl (by kernel_rfl) (by kernel_rfl) (by kernel_rfl) (by kernel_rfl) (by kernel_rfl) (fun _ _ _ h => h) (by kernel_rfl) (fun W hW => by kernel_rfl) (by assumption) rfl rfl ?_
  simp only [Act.put, List.setIfInBounds_toArray, List.set_cons_zero, List.set_cons_succ]
  refine wpAnyZ_yield 10 40 (.pointer (some ⟨b, i, none⟩)) [15] rfl rfl (by kernel_rfl) (by kernel_rfl) (by kernel_rfl) (by kernel_rfl) (by kernel_rfl) (fun _ _ _ h => h) (by kernel_rfl) (fun W hW => by go_simp) (by assumption) rfl rfl ?_
  simp only [Act.put, List.setIfInBounds_toArray, List.set_cons_zero, List.set_cons_succ]
  refine wpAnyZ_yield 11 41 (.int .i64 y) [15] rfl rfl (by kernel_rfl) (by kernel_rfl) (by kernel_rfl) (by kernel_rfl) (by kernel_rfl) (fun _ _ _ h => h) (by kernel_rfl) (fun W hW => by obtain ⟨-, k1, -⟩ := KQ.out W hW; go_simp) (by assumption) rfl rfl ?_
  simp only [Act.put, List.setIfInBounds_toArray, List.set_cons_zero, List.set_cons_succ]
  refine wpAnyZ_yield 12 42 (.int .i64 t) [15] rfl rfl (by kernel_rfl) (by kernel_rfl) (by kernel_rfl) (by kernel_rfl) (by kernel_rfl) (fun _ _ _ h => h) (by kernel_rfl) (fun W hW => by kernel_rfl) (by assumption) rfl rfl ?_
  simp only [Act.put, List.setIfInBounds_toArray, List.set_cons_zero, List.set_cons_succ]
  refine wpAnyZ_yield 13 43 (.int .i64 (max y t)) [15] rfl rfl (by kernel_rfl) (by kernel_rfl) (by kernel_rfl) (by kernel_rfl) (by kernel_rfl) (fun _ _ _ h => h) (by kernel_rfl) (fun W hW => by go_simp) (by assumption) rfl rfl ?_
  simp only [Act.put, List.setIfInBounds_toArray, List.set_cons_zero, List.set_cons_succ]
  refine wpAnyZ_yield 14 44 (.pointer (some ⟨b, i, none⟩)) [15] rfl rfl (by kernel_rfl) (by kernel_rfl) (by kernel_rfl) (by kernel_rfl) (by kernel_rfl) (fun _ _ _ h => h) (by kernel_rfl) (fun W hW => by go_simp) (by assumption) rfl rfl ?_
  simp only [Act.put, List.setIfInBounds_toArray, List.set_cons_zero, List.set_cons_succ]
  generalize ({ w1 with drawn := w1.drawn + 1 } : World) = wD at *
  refine wpAnyZ_end rfl (by kernel_rfl) (by kernel_rfl) (by kernel_rfl) ?_
  obtain ⟨-, k1, k2⟩ := KQ.out _ hT0
  have C3 := hide (C2'.out _ hT0)
  have Q1 := hide (NX.out _ hT0)
  clear C2' NX KQ hT0
  unfold Oper.wp
  go_simp
  go_wp2_with fail
  refine C3.out.mono ?_
  rintro e w2 ⟨rfl, rfl⟩
  go_wp2_with fail
  go_ret3
  exact ⟨rfl, Q1.out⟩

end Go.Proofs.Ytcmigkemhoecfaa
