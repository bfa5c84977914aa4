/- The document's tally of values. -/
import Derived.Test.YtakpeopghhblmaaDoorYC
namespace Go.Proofs.YtakpeopghhblmaaDoor
open Go.RowKit

set_option maxRecDepth 100000 in
set_option maxHeartbeats 1000000 in
theorem radd_any (t : Tl) (v : Int) (hv : I64 v) (w : World) : Calls Tryd.prog 13 #[tlv t, .int .i64 v] w fun e w' => e = .returned (tlv (addT t v)) ∧ Calm w w' := by
  rw [addT_eq hv]
  clear hv
  by_cases h : t.c < 1
  · rw [if_pos h]
    go_enter Tryd.func13, Tryd.ntmps13
    go_wp2_with fail
    have A := al_new (w.alloc (.cells (tlc t) 24)) (.cells (tlc ⟨1, v, v, v⟩) 24)
    rw [al_size] at A
    refine bodyPost_ret (results_cell_row rfl _ _ _ _ _ _ _ rfl A Tryd.underlying24 rfl (by kernel_rfl)) rfl ?_
    exact ⟨rfl, (((Touch.refl (fun _ => False) w).alloc _).alloc _)⟩
  · rw [if_neg h]
    by_cases h2 : t.c < 9007199254740992
    · rw [if_pos h2]
      go_enter Tryd.func13, Tryd.ntmps13
      go_wp2_with fail
      have A := al_new (w.alloc (.cells (tlc t) 24)) (.cells (tlc ⟨t.c + 1, wrap64 (t.s + v), min t.m v, max t.x v⟩) 24)
      rw [al_size] at A
      refine bodyPost_ret (results_cell_row rfl _ _ _ _ _ _ _ rfl A Tryd.underlying24 rfl (by kernel_rfl)) rfl ?_
      exact ⟨rfl, (((Touch.refl (fun _ => False) w).alloc _).alloc _)⟩
    · rw [if_neg h2]
      go_enter Tryd.func13, Tryd.ntmps13
      go_wp2_with fail
      have A := al_new (w.alloc (.cells (tlc t) 24)) (.cells (tlc ⟨9007199254740992, wrap64 (t.s + v), min t.m v, max t.x v⟩) 24)
      rw [al_size] at A
      refine bodyPost_ret (results_cell_row rfl _ _ _ _ _ _ _ rfl A Tryd.underlying24 rfl (by kernel_rfl)) rfl ?_
      exact ⟨rfl, (((Touch.refl (fun _ => False) w).alloc _).alloc _)⟩

set_option maxRecDepth 100000 in
set_option maxHeartbeats 1000000 in
theorem rof_any (ao : Option Addr) (cap : Nat) (xs : List Int) (w : World) (hs : Seg w .i64 ao xs) (h64 : ∀ x ∈ xs, I64 x) (hn : xs.length ≤ 140737488355328) :
    Calls Tryd.prog 12 #[.slice ao xs.length cap] w fun e w' => e = .returned (tlv (ofT xs)) ∧ Calm w w' := by
  have P := fun t v (hv : I64 v) w => hide (radd_any t v hv w)
  have hin : Hid (∀ k, k < xs.length → I64 (xs.getD k 0)) := hide fun k hk => by rw [List.getD_eq_getElem?_getD, List.getElem?_eq_getElem hk]; exact h64 _ (List.getElem_mem hk)
  clear h64
  have NX := hide (ofT_next xs)
  have hat : Hid (∀ k, k < xs.length → ∀ W, Calm w W → ∃ b off, ao = some ⟨b, off, none⟩ ∧ W.cell? ⟨b, off + k, none⟩ = some (.int .i64 (xs.getD k 0))) := hide fun k hk W hW => by
    obtain ⟨b, off, rfl⟩ := hs.addr (by omega)
    exact ⟨b, off, rfl, (hs.touch hW fun _ _ h => h).at k hk⟩
  have he : Hid (ofT (xs.take xs.length) = ofT xs) := hide (by rw [List.take_length])
  have hz : Hid (ofT (xs.take 0) = tl0) := hide (by simp [ofT])
  generalize hN : xs.length = n at *
  clear hN
  go_enter Tryd.func12, Tryd.ntmps12
  go_wp2_with fail
  go_loopw [4] (fun i wr => ∃ k : Nat, i = .int .i64 k ∧ k ≤ n ∧ wr.heap[w.heap.size]? = some (.cells (tlc tl0) 24 (0, 0)) ∧ wr.heap[w.heap.size + 1]? = some (.cells (tlc (ofT (xs.take k))) 24 (0, 0)) ∧ Calm w wr) (fun i _ => n - (intOf i).toNat)
  case atStart =>
    refine ⟨0, rfl, Nat.zero_le _, ?_, ?_, ((Touch.refl (fun _ => False) w).alloc _).alloc _⟩
    · exact al_old (al_new w _) _
    · have A := al_new (w.alloc (.cells (tlc tl0) 24)) (.cells (tlc tl0) 24)
      rw [al_size] at A
      rw [hz.out]
      exact A
  case round =>
    obtain ⟨k, rfl, hk, A0, A1, T0⟩ := hrel
    by_cases hlt : k < n
    · obtain ⟨b, off, rfl, hc⟩ := hat.out k hlt wr T0
      have NX' := hide (NX.out k (by omega))
      have HV := hide (hin.out k (by omega))
      generalize xs.getD k 0 = v at *
      generalize ofT (xs.take k) = t at *
      have P' := fun w => P t v HV.out w
      have H0 := hide A0
      have H1 := hide A1
      have HT := hide T0
      have HC := hide hc
      have hbw := lt_of_cell hc
      clear A0 A1 T0 he hz P hc
      have hki : (k : Int) < (n : Int) := by omega
      go_wp2_with fail
      refine wp_region_z 6 (Calm wr) (by kernel_rfl) ?_
      have hT0 : Calm wr { wr with drawn := wr.drawn + 1 } := (Touch.refl (fun _ => False) wr).drew
      refine wpAnyZ_yield 0 11 (tlv t) [6] rfl rfl (by kernel_rfl) (by kernel_rfl) (by kernel_rfl) (by kernel_rfl) (by kernel_rfl) (fun _ _ _ h => h) (by kernel_rfl) (fun W hW => by obtain ⟨c0, c1, c2, c3⟩ := tl_cells (hW.at H1.out); go_simp) (by assumption) rfl rfl ?_
      simp only [Act.put, List.setIfInBounds_toArray, List.set_cons_zero, List.set_cons_succ]
      refine wpAnyZ_yield 1 12 (.slice (some ⟨b, off, none⟩) n cap) [6] rfl rfl (by kernel_rfl) (by kernel_rfl) (by kernel_rfl) (by kernel_rfl) (by kernel_rfl) (fun _ _ _ h => h) (by kernel_rfl) (fun W hW => by go_simp) (by assumption) rfl rfl ?_
      simp only [Act.put, List.setIfInBounds_toArray, List.set_cons_zero, List.set_cons_succ]
      refine wpAnyZ_yield 2 13 (.int .i64 (k : Int)) [6] rfl rfl (by kernel_rfl) (by kernel_rfl) (by kernel_rfl) (by kernel_rfl) (by kernel_rfl) (fun _ _ _ h => h) (by kernel_rfl) (fun W hW => by go_simp) (by assumption) rfl rfl ?_
      simp only [Act.put, List.setIfInBounds_toArray, List.set_cons_zero, List.set_cons_succ]
      refine wpAnyZ_yield 3 14 (.pointer (some ⟨b, off + k, none⟩)) [6] rfl rfl (by kernel_rfl) (by kernel_rfl) (by kernel_rfl) (by kernel_rfl) (by kernel_rfl) (fun _ _ _ h => h) (by kernel_rfl) (fun W hW => by go_simp) (by assumption) rfl rfl ?_
      simp only [Act.put, List.setIfInBounds_toArray, List.set_cons_zero, List.set_cons_succ]
      refine wpAnyZ_yield 4 15 (.int .i64 v) [6] rfl rfl (by kernel_rfl) (by kernel_rfl) (by kernel_rfl) (by kernel_rfl) (by kernel_rfl) (fun _ _ _ h => h) (by kernel_rfl) (fun W hW => by have c0 := (hW.cell (p := ⟨b, off + k, none⟩) hbw (fun h => h)).trans HC.out; go_simp) (by assumption) rfl rfl ?_
      simp only [Act.put, List.setIfInBounds_toArray, List.set_cons_zero, List.set_cons_succ]
      refine wpAnyZ_enter 5 16 13 #[tlv t, .int .i64 v] rfl rfl (by decide) (by kernel_rfl) (by kernel_rfl) (by kernel_rfl) ?_
      refine ((P' _).out).mono ?_
      rintro r w2 ⟨rfl, T2⟩
      have T2 := Touch.tr hT0 T2
      refine ⟨_, rfl, T2, ?_⟩
      simp only [Act.put, List.setIfInBounds_toArray, List.set_cons_zero, List.set_cons_succ]
      refine wpAnyZ_end rfl (by kernel_rfl) (by kernel_rfl) (by kernel_rfl) ?_
      have A2 := T2.at H1.out
      generalize hr : addT t v = r
      have HR := hide hr
      clear hr
      obtain ⟨c0, c1, c2, c3⟩ := tl_cells A2
      obtain ⟨z0, z1, z2, z3⟩ := tl_frozen A2
      obtain ⟨A3, T3⟩ := tl_set r A2
      have A4 := hide A3
      have A5 := hide (T3.heap (T2.at H0.out) (by omega))
      have T4 := hide (Touch.trans (HT.out.tr T2) T3 (fun k hk e => by omega))
      clear A2 A3 T3 T2 H0 H1 HT hT0 P' HC
      unfold Oper.wp
      go_simp
      go_wp2_with fail
      go_roundw
      case rel => exact ⟨k + 1, by go_num, by omega, A5.out, by rw [NX'.out, HR.out]; exact A4.out, T4.out⟩
      case measure => simp [intOf]; omega
    · have e : k = n := by omega
      subst e
      rw [he.out] at A1
      generalize hr : ofT xs = t at *
      have HR := hide hr
      clear NX hat he hr
      obtain ⟨c0, c1, c2, c3⟩ := tl_cells A1
      obtain ⟨d0, d1, d2, d3⟩ := tl_cells A0
      obtain ⟨z0, z1, z2, z3⟩ := tl_frozen A0
      obtain ⟨A3, T3⟩ := tl_set t A0
      have A4 := hide A3
      have T4 := hide (Touch.trans T0 T3 (fun k hk e => by omega))
      clear A0 A1 A3 T3 T0
      go_wp2_with fail
      refine bodyPost_ret (results_cell_row rfl _ _ _ _ _ _ _ rfl A4.out Tryd.underlying24 rfl (by kernel_rfl)) rfl ?_
      exact ⟨by rw [HR.out], T4.out⟩

end Go.Proofs.YtakpeopghhblmaaDoor
