/- The walk of TallyAdds. -/
import Derived.Test.YtakpeopghhblmaaDoorYLe
import Derived.Test.YtakpeopghhblmaaDoorYR1
namespace Go.Proofs.YtakpeopghhblmaaDoor
open Go.RowKit Go.Lib

set_option maxRecDepth 100000 in
set_option maxHeartbeats 1000000 in
theorem adds_walk (ao : Option Addr) (cap : Nat) (xs : List Int) (t : Tl) (v : Int) (hv : I64 v) (w : World) (hs : Seg w .i64 ao xs) (h64 : ∀ x ∈ xs, I64 x) (hb : xs.length ≤ 17592186043904) :
    Calls Tryd.prog 3 #[.slice ao xs.length cap, tlv t, .int .i64 v] w fun e w' => e = .returned (.bool true) ∧ Calm w w' := by
  have CL := fun w' (h : Calm w w') => hide (lend_any ao xs cap w' (hs.touch h (fun _ _ h => h)) hb)
  have CO := fun w' ao' cap' (h : Seg w' .i64 ao' xs) => hide (of_any ao' cap' xs w' h (by omega))
  have CR := fun w' (h : Calm w w') => hide (rof_any ao cap xs w' (hs.touch h (fun _ _ h => h)) h64 (by omega))
  have CA := fun t v w => hide (add_any t v w)
  have CB := fun w => hide (radd_any t v hv w)
  have CD := fun w => hide (add_any t v w)
  generalize addT t v = tv at CB CD
  have CK := fun w' g c (h : Lent w' g c xs) (h2 : Calm w w') => hide (kept_any g c ao xs cap w' h (hs.touch h2 (fun _ _ h => h)) hb)
  have CW := fun w => hide (works_any w)
  have NX := hide (ofT_next xs)
  have he : Hid (ofT (xs.take xs.length) = ofT xs) := hide (by rw [List.take_length])
  have hz : Hid (ofT (xs.take 0) = tl0) := hide (by simp [ofT])
  have LT : Hid (∀ w' g c, Lent w' g c xs → ∀ k, k < xs.length → w'.cell? ⟨g, k, none⟩ = some (.int .i64 (xs.getD k 0))) := hide fun w' g c h k hk => by have := h.seg.at k hk; rwa [Nat.zero_add] at this
  have HN : Hid (xs.length ≤ 17592186043904) := hide hb
  generalize hN : xs.length = n at *
  have HN2 := hide hN
  clear hN hb hs h64
  go_enter Tryd.func3, Tryd.ntmps3
  go_wp2_with fail
  refine (CL _ ((Touch.refl _ _).alloc _)).out.mono ?_
  rintro e w1 ⟨g, c, rfl, hg, L1, T1⟩
  have A1 := T1.at (al_new w (.cells (tlc t) 24))
  have T2 := ((Touch.refl (fun _ => False) w).alloc (.cells (tlc t) 24)).tr T1
  have hg' : w.heap.size + 1 ≤ g := by rw [al_size] at hg; exact hg
  clear CL T1 hg
  generalize hBe : w.heap.size = B at *
  have HB := hide hBe
  have HG := hide hg'
  have HA := hide A1
  have HT := hide T2
  have HL := hide L1
  clear hBe hg' A1 T2 L1
  go_wp2_with fail
  refine (CO _ _ _ HL.out.seg).out.mono ?_
  rintro e w2 ⟨rfl, T3⟩
  have A2 := T3.at HA.out
  have T4 := HT.out.tr T3
  have L2 := HL.out.touch T3 (fun h => h)
  clear HA HT HL T3 CO
  go_wp2_with fail
  obtain ⟨P1, P2⟩ := al1 w2 (.cells (tlc (ofT xs)) 24) (.cells (tlc tl0) 24)
  have A3 := al_old (al_old A2 (.cells (tlc (ofT xs)) 24)) (.cells (tlc tl0) 24)
  have T5 := (T4.alloc (.cells (tlc (ofT xs)) 24)).alloc (.cells (tlc tl0) 24)
  have L3 := (L2.touch ((Touch.refl (fun _ => False) w2).alloc (.cells (tlc (ofT xs)) 24)) (fun h => h)).touch ((Touch.refl (fun _ => False) (w2.alloc (.cells (tlc (ofT xs)) 24))).alloc (.cells (tlc tl0) 24)) (fun h => h)
  have hgD : g < w2.heap.size := L2.row.lt (g := g) rfl
  have hBD : B < w2.heap.size := lt_of_heap A2
  have hwD : w.heap.size ≤ w2.heap.size := T4.size
  clear A2 T4 L2
  generalize hW3 : ((w2.alloc (.cells (tlc (ofT xs)) 24)).alloc (.cells (tlc tl0) 24)) = w3 at *
  clear hW3
  generalize w2.heap.size = D at *
  go_loopw [10] (fun i wr => ∃ k : Nat, i = .int .i64 k ∧ k ≤ n ∧ wr.heap[D + 1]? = some (.cells (tlc (ofT (xs.take k))) 24 (0, 0)) ∧ Touch (fun k => k = D + 1) w3 wr) (fun i _ => n - (intOf i).toNat)
  case atStart => exact ⟨0, rfl, Nat.zero_le _, by rw [hz.out]; exact P2, Touch.refl _ _⟩
  case round =>
    obtain ⟨k, rfl, hk, Q1, T6⟩ := hrel
    have L4 := L3.touch T6 (by omega)
    by_cases hlt : k < n
    · have hc := LT.out _ _ _ L4 k hlt
      have NX' := hide (NX.out k hlt)
      generalize xs.getD k 0 = y at *
      generalize ofT (xs.take k) = z at *
      have H1 := hide Q1
      have HT := hide T6
      have HC := hide hc
      have hbw := lt_of_cell hc
      have hki : (k : Int) < (n : Int) := by omega
      have hnb := HN.out
      clear Q1 T6 hc L4 P1 P2 A3 T5 L3
      go_wp2_with fail
      refine wp_region_z 6 (Calm wr) (by kernel_rfl) ?_
      have hT0 : Calm wr { wr with drawn := wr.drawn + 1 } := (Touch.refl (fun _ => False) wr).drew
      refine wpAnyZ_yield 0 22 (tlv z) [6] rfl rfl (by kernel_rfl) (by kernel_rfl) (by kernel_rfl) (by kernel_rfl) (by kernel_rfl) (fun _ _ _ h => h) (by kernel_rfl) (fun W hW => by obtain ⟨c0, c1, c2, c3⟩ := tl_cells (hW.at H1.out); go_simp) (by assumption) rfl rfl ?_
      simp only [Act.put, List.setIfInBounds_toArray, List.set_cons_zero, List.set_cons_succ]
      refine wpAnyZ_yield 1 23 (.slice (some ⟨g, 0, none⟩) n c) [6] rfl rfl (by kernel_rfl) (by kernel_rfl) (by kernel_rfl) (by kernel_rfl) (by kernel_rfl) (fun _ _ _ h => h) (by kernel_rfl) (fun W hW => by kernel_rfl) (by assumption) rfl rfl ?_
      simp only [Act.put, List.setIfInBounds_toArray, List.set_cons_zero, List.set_cons_succ]
      refine wpAnyZ_yield 2 24 (.int .i64 (k : Int)) [6] rfl rfl (by kernel_rfl) (by kernel_rfl) (by kernel_rfl) (by kernel_rfl) (by kernel_rfl) (fun _ _ _ h => h) (by kernel_rfl) (fun W hW => by kernel_rfl) (by assumption) rfl rfl ?_
      simp only [Act.put, List.setIfInBounds_toArray, List.set_cons_zero, List.set_cons_succ]
      refine wpAnyZ_yield 3 25 (.pointer (some ⟨g, k, none⟩)) [6] rfl rfl (by kernel_rfl) (by kernel_rfl) (by kernel_rfl) (by kernel_rfl) (by kernel_rfl) (fun _ _ _ h => h) (by kernel_rfl) (fun W hW => by go_simp) (by assumption) rfl rfl ?_
      simp only [Act.put, List.setIfInBounds_toArray, List.set_cons_zero, List.set_cons_succ]
      refine wpAnyZ_yield 4 26 (.int .i64 y) [6] rfl rfl (by kernel_rfl) (by kernel_rfl) (by kernel_rfl) (by kernel_rfl) (by kernel_rfl) (fun _ _ _ h => h) (by kernel_rfl) (fun W hW => by have c0 := (hW.cell (p := ⟨g, k, none⟩) hbw (fun h => h)).trans HC.out; go_simp) (by assumption) rfl rfl ?_
      simp only [Act.put, List.setIfInBounds_toArray, List.set_cons_zero, List.set_cons_succ]
      refine wpAnyZ_enter 5 27 11 #[tlv z, .int .i64 y] rfl rfl (by decide) (by kernel_rfl) (by kernel_rfl) (by kernel_rfl) ?_
      refine ((CA _ _ _).out).mono ?_
      rintro r w4 ⟨rfl, T7⟩
      have T7 := Touch.tr hT0 T7
      refine ⟨_, rfl, T7, ?_⟩
      simp only [Act.put, List.setIfInBounds_toArray, List.set_cons_zero, List.set_cons_succ]
      refine wpAnyZ_end rfl (by kernel_rfl) (by kernel_rfl) (by kernel_rfl) ?_
      have A2 := T7.at H1.out
      generalize hr : addT z y = r
      have HR := hide hr
      clear hr
      obtain ⟨c0, c1, c2, c3⟩ := tl_cells A2
      obtain ⟨z0, z1, z2, z3⟩ := tl_frozen A2
      obtain ⟨B3, T8⟩ := tl_set r A2
      have A4 := hide B3
      have T9 := hide (Touch.trans (HT.out.trans T7 (fun _ _ h => h.elim)) T8 (fun k hk e => e))
      clear A2 B3 T8 T7 H1 HT hT0 HC
      unfold Oper.wp
      go_simp
      go_wp2_with fail
      go_roundw
      case rel => exact ⟨k + 1, by go_num, by omega, by rw [NX'.out, HR.out]; exact A4.out, T9.out⟩
      case measure => simp [intOf]; omega
    · have e : k = n := by omega
      subst e
      rw [he.out] at Q1
      have R1 := T6.heap P1 (by omega)
      have R2 := T6.heap A3 (by omega)
      have T7 := Touch.trans T5 T6 (fun j hj e => by omega)
      clear P1 P2 A3 T5 L3 T6 NX hz LT CA
      have H0 := hide R1
      have H1 := hide Q1
      have H2 := hide R2
      have HT := hide T7
      have HL := hide L4
      clear R1 Q1 R2 T7 L4
      go_wp2_with fail
      refine (CR _ HT.out).out.mono ?_
      rintro e w5 ⟨rfl, T8⟩
      have R0 := T8.at H0.out
      have R1 := T8.at H1.out
      have R2 := T8.at H2.out
      have R9 := HT.out.tr T8
      have RL := HL.out.touch T8 (fun h => h)
      clear H0 H1 H2 HT HL T8 CR
      go_wp2_with fail
      generalize ofT xs = T at *
      have Q0 := al_old R0 (.cells (tlc T) 24)
      have Q1 := al_old R1 (.cells (tlc T) 24)
      have Q2 := al_old R2 (.cells (tlc T) 24)
      have Q3 := al_new w5 (.cells (tlc T) 24)
      have Q9 := R9.alloc (.cells (tlc T) 24)
      have QL := RL.touch ((Touch.refl (fun _ => False) w5).alloc (.cells (tlc T) 24)) (fun h => h)
      clear R0 R1 R2 R9 RL
      generalize w5.alloc (.cells (tlc T) 24) = w6 at *
      generalize w5.heap.size = F at *
      refine wp_region_held (S := Calm w6) (by kernel_rfl) ?_
      have hT0 : Calm w6 { w6 with drawn := w6.drawn + 1 } := (Touch.refl (fun _ => False) w6).drew
      refine wpAnyH_yield 0 30 (tlv T) rfl rfl (by kernel_rfl) (by kernel_rfl) (by kernel_rfl) (fun _ _ _ h => h) (by kernel_rfl) (fun W hW => by obtain ⟨c0, c1, c2, c3⟩ := tl_cells (hW.at Q0); go_simp) (by assumption) rfl rfl ?_
      simp only [Act.put, List.setIfInBounds_toArray, List.set_cons_zero, List.set_cons_succ]
      refine wpAnyH_yield 1 31 (tlv T) rfl rfl (by kernel_rfl) (by kernel_rfl) (by kernel_rfl) (fun _ _ _ h => h) (by kernel_rfl) (fun W hW => by obtain ⟨c0, c1, c2, c3⟩ := tl_cells (hW.at Q3); go_simp) (by assumption) rfl rfl ?_
      simp only [Act.put, List.setIfInBounds_toArray, List.set_cons_zero, List.set_cons_succ]
      refine wpAnyH_yield 2 32 (.bool true) rfl rfl (by kernel_rfl) (by kernel_rfl) (by kernel_rfl) (fun _ _ _ h => h) (by kernel_rfl) (fun W hW => by go_simp) (by assumption) rfl rfl ?_
      simp only [Act.put, List.setIfInBounds_toArray, List.set_cons_zero, List.set_cons_succ]
      refine wpAnyH_yield 3 33 (.bool true) rfl rfl (by kernel_rfl) (by kernel_rfl) (by kernel_rfl) (fun _ _ _ h => h) (by kernel_rfl) (fun W hW => by kernel_rfl) (by assumption) rfl rfl ?_
      simp only [Act.put, List.setIfInBounds_toArray, List.set_cons_zero, List.set_cons_succ]
      refine wpAnyH_yield 4 34 (tlv T) rfl rfl (by kernel_rfl) (by kernel_rfl) (by kernel_rfl) (fun _ _ _ h => h) (by kernel_rfl) (fun W hW => by obtain ⟨c0, c1, c2, c3⟩ := tl_cells (hW.at Q1); go_simp) (by assumption) rfl rfl ?_
      simp only [Act.put, List.setIfInBounds_toArray, List.set_cons_zero, List.set_cons_succ]
      refine wpAnyH_yield 5 35 (tlv T) rfl rfl (by kernel_rfl) (by kernel_rfl) (by kernel_rfl) (fun _ _ _ h => h) (by kernel_rfl) (fun W hW => by obtain ⟨c0, c1, c2, c3⟩ := tl_cells (hW.at Q3); go_simp) (by assumption) rfl rfl ?_
      simp only [Act.put, List.setIfInBounds_toArray, List.set_cons_zero, List.set_cons_succ]
      refine wpAnyH_yield 6 36 (.bool true) rfl rfl (by kernel_rfl) (by kernel_rfl) (by kernel_rfl) (fun _ _ _ h => h) (by kernel_rfl) (fun W hW => by go_simp) (by assumption) rfl rfl ?_
      simp only [Act.put, List.setIfInBounds_toArray, List.set_cons_zero, List.set_cons_succ]
      refine wpAnyH_yield 7 37 (.bool true) rfl rfl (by kernel_rfl) (by kernel_rfl) (by kernel_rfl) (fun _ _ _ h => h) (by kernel_rfl) (fun W hW => by kernel_rfl) (by assumption) rfl rfl ?_
      simp only [Act.put, List.setIfInBounds_toArray, List.set_cons_zero, List.set_cons_succ]
      refine wpAnyH_yield 8 38 (.bool true) rfl rfl (by kernel_rfl) (by kernel_rfl) (by kernel_rfl) (fun _ _ _ h => h) (by kernel_rfl) (fun W hW => by kernel_rfl) (by assumption) rfl rfl ?_
      simp only [Act.put, List.setIfInBounds_toArray, List.set_cons_zero, List.set_cons_succ]
      refine wpAnyH_yield 9 39 (tlv t) rfl rfl (by kernel_rfl) (by kernel_rfl) (by kernel_rfl) (fun _ _ _ h => h) (by kernel_rfl) (fun W hW => by obtain ⟨c0, c1, c2, c3⟩ := tl_cells (hW.at Q2); go_simp) (by assumption) rfl rfl ?_
      simp only [Act.put, List.setIfInBounds_toArray, List.set_cons_zero, List.set_cons_succ]
      refine wpAnyH_yield 10 40 (.int .i64 v) rfl rfl (by kernel_rfl) (by kernel_rfl) (by kernel_rfl) (fun _ _ _ h => h) (by kernel_rfl) (fun W hW => by kernel_rfl) (by assumption) rfl rfl ?_
      simp only [Act.put, List.setIfInBounds_toArray, List.set_cons_zero, List.set_cons_succ]
      refine wpAnyH_yield 12 42 (tlv t) rfl rfl (by kernel_rfl) (by kernel_rfl) (by kernel_rfl) (fun _ _ _ h => h) (by kernel_rfl) (fun W hW => by obtain ⟨c0, c1, c2, c3⟩ := tl_cells (hW.at Q2); go_simp) (by assumption) rfl rfl ?_
      simp only [Act.put, List.setIfInBounds_toArray, List.set_cons_zero, List.set_cons_succ]
      refine wpAnyH_yield 13 43 (.int .i64 v) rfl rfl (by kernel_rfl) (by kernel_rfl) (by kernel_rfl) (fun _ _ _ h => h) (by kernel_rfl) (fun W hW => by kernel_rfl) (by assumption) rfl rfl ?_
      simp only [Act.put, List.setIfInBounds_toArray, List.set_cons_zero, List.set_cons_succ]
      refine wpAnyH_enter 11 41 11 #[tlv t, .int .i64 v] rfl rfl (by kernel_rfl) (by kernel_rfl) (by kernel_rfl) ?_
      refine ((CD _).out).mono ?_
      rintro r w7 ⟨rfl, T7⟩
      have h7 := hT0.tr T7
      refine ⟨_, rfl, h7, ?_⟩
      simp only [Act.put, List.setIfInBounds_toArray, List.set_cons_zero, List.set_cons_succ]
      refine wpAnyH_enter 14 44 13 #[tlv t, .int .i64 v] rfl rfl (by kernel_rfl) (by kernel_rfl) (by kernel_rfl) ?_
      refine ((CB _).out).mono ?_
      rintro r w8 ⟨rfl, T8⟩
      have h8 := h7.tr T8
      refine ⟨_, rfl, h8, ?_⟩
      simp only [Act.put, List.setIfInBounds_toArray, List.set_cons_zero, List.set_cons_succ]
      refine wpAnyH_yield 15 45 (.bool true) rfl rfl (by kernel_rfl) (by kernel_rfl) (by kernel_rfl) (fun _ _ _ h => h) (by kernel_rfl) (fun W hW => by go_simp) (by assumption) rfl rfl ?_
      simp only [Act.put, List.setIfInBounds_toArray, List.set_cons_zero, List.set_cons_succ]
      refine wpAnyH_yield 16 46 (.bool true) rfl rfl (by kernel_rfl) (by kernel_rfl) (by kernel_rfl) (fun _ _ _ h => h) (by kernel_rfl) (fun W hW => by kernel_rfl) (by assumption) rfl rfl ?_
      simp only [Act.put, List.setIfInBounds_toArray, List.set_cons_zero, List.set_cons_succ]
      refine wpAnyH_yield 17 47 (.bool true) rfl rfl (by kernel_rfl) (by kernel_rfl) (by kernel_rfl) (fun _ _ _ h => h) (by kernel_rfl) (fun W hW => by kernel_rfl) (by assumption) rfl rfl ?_
      simp only [Act.put, List.setIfInBounds_toArray, List.set_cons_zero, List.set_cons_succ]
      refine wpAnyH_yield 18 48 (.slice (some ⟨g, 0, none⟩) k c) rfl rfl (by kernel_rfl) (by kernel_rfl) (by kernel_rfl) (fun _ _ _ h => h) (by kernel_rfl) (fun W hW => by kernel_rfl) (by assumption) rfl rfl ?_
      simp only [Act.put, List.setIfInBounds_toArray, List.set_cons_zero, List.set_cons_succ]
      refine wpAnyH_yield 19 49 (.slice ao k cap) rfl rfl (by kernel_rfl) (by kernel_rfl) (by kernel_rfl) (fun _ _ _ h => h) (by kernel_rfl) (fun W hW => by kernel_rfl) (by assumption) rfl rfl ?_
      simp only [Act.put, List.setIfInBounds_toArray, List.set_cons_zero, List.set_cons_succ]
      refine wpAnyH_enter 20 50 14 #[.slice (some ⟨g, 0, none⟩) k c, .slice ao k cap] rfl rfl (by kernel_rfl) (by kernel_rfl) (by kernel_rfl) ?_
      refine ((CK _ _ _ (QL.touch h8 (fun h => h)) (Q9.tr h8)).out).mono ?_
      rintro r w9 ⟨rfl, T9⟩
      have h9 := h8.tr T9
      refine ⟨_, rfl, h9, ?_⟩
      simp only [Act.put, List.setIfInBounds_toArray, List.set_cons_zero, List.set_cons_succ]
      refine wpAnyH_yield 21 51 (.bool true) rfl rfl (by kernel_rfl) (by kernel_rfl) (by kernel_rfl) (fun _ _ _ h => h) (by kernel_rfl) (fun W hW => by kernel_rfl) (by assumption) rfl rfl ?_
      simp only [Act.put, List.setIfInBounds_toArray, List.set_cons_zero, List.set_cons_succ]
      refine wpAnyH_yield 22 52 (.bool true) rfl rfl (by kernel_rfl) (by kernel_rfl) (by kernel_rfl) (fun _ _ _ h => h) (by kernel_rfl) (fun W hW => by kernel_rfl) (by assumption) rfl rfl ?_
      simp only [Act.put, List.setIfInBounds_toArray, List.set_cons_zero, List.set_cons_succ]
      refine wpAnyH_enter 23 53 15 #[] rfl rfl (by kernel_rfl) (by kernel_rfl) (by kernel_rfl) ?_
      refine ((CW _).out).mono ?_
      rintro r w10 ⟨rfl, T10⟩
      have h10 := h9.tr T10
      refine ⟨_, rfl, h10, ?_⟩
      simp only [Act.put, List.setIfInBounds_toArray, List.set_cons_zero, List.set_cons_succ]
      refine wpAnyH_yield 24 54 (.bool true) rfl rfl (by kernel_rfl) (by kernel_rfl) (by kernel_rfl) (fun _ _ _ h => h) (by kernel_rfl) (fun W hW => by kernel_rfl) (by assumption) rfl rfl ?_
      simp only [Act.put, List.setIfInBounds_toArray, List.set_cons_zero, List.set_cons_succ]
      refine wpAnyH_yield 25 6 (.bool true) rfl rfl (by kernel_rfl) (by kernel_rfl) (by kernel_rfl) (fun _ _ _ h => h) (by kernel_rfl) (fun W hW => by kernel_rfl) (by assumption) rfl rfl ?_
      simp only [Act.put, List.setIfInBounds_toArray, List.set_cons_zero, List.set_cons_succ]
      refine wpAnyH_done (by kernel_rfl) ?_ _
      have TZ := hide (Q9.tr h10)
      clear Q0 Q1 Q2 Q3 Q9 QL h7 h8 h9 h10 T7 T8 T9 T10 hT0
      go_wp2_with fail
      go_ret
      exact ⟨rfl, TZ.out⟩

end Go.Proofs.YtakpeopghhblmaaDoor
