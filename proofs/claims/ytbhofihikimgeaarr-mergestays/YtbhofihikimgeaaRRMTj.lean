/- Tallies put together. -/
import Derived.Test.YtbhofihikimgeaaRRYA
namespace Go.Proofs.YtbhofihikimgeaaRR
open Go.RowKit Go.Lib

set_option maxRecDepth 100000 in
set_option maxHeartbeats 1000000 in
theorem join_any (ao : Option Addr) (cap : Nat) (L : List Tl) (w : World) (hs : Tls w ao L) (hn : L.length ≤ 140737488355328) :
    Calls Try.prog 27 #[.slice ao L.length cap] w fun e w' => e = .returned (tlv (joinT L)) ∧ Calm w w' := by
  have E := fun t w => hide (isEmpty_any t w)
  have P := fun t u hu w => hide (put_any t u hu w)
  have NX := hide (joinT_next L)
  have hat : Hid (∀ k, k < L.length → ∀ W, Calm w W → ∃ b off, ao = some ⟨b, off, none⟩ ∧ W.cell? ⟨b, off + k * 4, none⟩ = some (.int .i64 (L.getD k tl0).c) ∧ W.cell? ⟨b, off + k * 4 + 1, none⟩ = some (.int .i64 (L.getD k tl0).s) ∧ W.cell? ⟨b, off + k * 4 + 2, none⟩ = some (.int .i64 (L.getD k tl0).m) ∧ W.cell? ⟨b, off + k * 4 + 3, none⟩ = some (.int .i64 (L.getD k tl0).x)) := hide fun k hk W hW => (hs.calm hW) k hk
  have he : Hid (joinT (L.take L.length) = joinT L) := hide (by rw [List.take_length])
  have hz : Hid (joinT (L.take 0) = tl0) := hide (by simp [joinT])
  generalize hN : L.length = n at *
  clear hs
  go_enter Try.func27, Try.ntmps27
  go_wp2_with fail
  go_loopw [8] (fun i wr => ∃ k : Nat, i = .int .i64 k ∧ k ≤ n ∧ wr.heap[w.heap.size]? = some (.cells (tlc tl0) 41 (0, 0)) ∧ wr.heap[w.heap.size + 1]? = some (.cells (tlc (joinT (L.take k))) 41 (0, 0)) ∧ Calm w wr) (fun i _ => n - (intOf i).toNat)
  case atStart =>
    refine ⟨0, rfl, Nat.zero_le _, (al1 w _ _).1, ?_, ((Touch.refl (fun _ => False) w).alloc _).alloc _⟩
    rw [hz.out]
    exact (al1 w _ _).2
  case round =>
    obtain ⟨k, rfl, hk, A0, A1, T0⟩ := hrel
    by_cases hlt : k < n
    · obtain ⟨b, off, rfl, k0, k1, k2, k3⟩ := hat.out k (by omega) wr T0
      have NX' := hide (NX.out k (by omega))
      generalize hu : L.getD k tl0 = u at *
      generalize joinT (L.take k) = t at *
      have H0 := hide A0
      have H1 := hide A1
      have HT := hide T0
      clear A0 A1 T0 he hz hN hat NX hu
      go_wp2_with fail
      refine (E _ _).out.mono ?_
      rintro e w2 ⟨rfl, hq⟩
      clear k0 k1 k2 k3
      obtain ⟨N1, N2⟩ := al1 wr (.cells (tlc u) 41) (.cells (tlc u) 41)
      have T2 : Calm wr ((wr.alloc (.cells (tlc u) 41)).alloc (.cells (tlc u) 41)) := ((Touch.refl (fun _ => False) wr).alloc _).alloc _
      have hq' : w2 = ((wr.alloc (.cells (tlc u) 41)).alloc (.cells (tlc u) 41)) := hq
      rw [← hq'] at N1 N2 T2
      clear hq hq'
      have B0 := T2.at H0.out
      have B1 := T2.at H1.out
      have T3 := HT.out.tr T2
      by_cases hu : u.c < 1
      · have G0 := hide B0
        have G1 := hide B1
        have GT := hide T3
        clear B0 B1 T3 T2 N2 N1 H0 H1 HT
        go_wp2_with fail
        go_roundw
        case rel => exact ⟨k + 1, by go_num, by omega, G0.out, by rw [NX'.out]; unfold joinS; rw [if_pos hu]; exact G1.out, GT.out⟩
        case measure => simp [intOf]; omega
      · obtain ⟨c0, c1, c2, c3⟩ := tl_cells B1
        obtain ⟨d0, d1, d2, d3⟩ := tl_cells N1
        have G0 := hide B0
        have G1 := hide B1
        have GT := hide T3
        have P' := P t u (by omega)
        have hd : decide (u.c < 1) = false := decide_eq_false hu
        have HU := hide hu
        clear B0 B1 T3 T2 N2 N1 H0 H1 HT P hu
        go_wp2_with fail
        refine (P' _).out.mono ?_
        rintro e w3 ⟨rfl, T4⟩
        have B1 := T4.at G1.out
        have B0 := T4.at G0.out
        have T5 := GT.out.tr T4
        clear c0 c1 c2 c3 d0 d1 d2 d3
        generalize hr : putT t u = r
        have HR := hide hr
        clear hr
        obtain ⟨c0, c1, c2, c3⟩ := tl_cells B1
        obtain ⟨z0, z1, z2, z3⟩ := tl_frozen B1
        obtain ⟨A3, T6⟩ := tl_set r B1
        have A4 := hide A3
        have A5 := hide (T6.heap B0 (by omega))
        have T7 := hide (Touch.trans T5 T6 (fun k hk e => by omega))
        clear B0 B1 A3 T6 T5 T4 G0 G1 GT P'
        go_wp2_with fail
        go_roundw
        case rel => exact ⟨k + 1, by go_num, by omega, A5.out, by rw [NX'.out]; unfold joinS; rw [if_neg (show ¬ u.c < 1 by have := HU.out; omega), HR.out]; exact A4.out, T7.out⟩
        case measure => simp [intOf]; omega
    · have e : k = n := by omega
      subst e
      rw [he.out] at A1
      generalize hr : joinT L = t at *
      have HR := hide hr
      clear NX hat he hr hz hN
      obtain ⟨c0, c1, c2, c3⟩ := tl_cells A1
      obtain ⟨d0, d1, d2, d3⟩ := tl_cells A0
      obtain ⟨z0, z1, z2, z3⟩ := tl_frozen A0
      obtain ⟨A3, T3⟩ := tl_set t A0
      have A4 := hide A3
      have T4 := hide (Touch.trans T0 T3 (fun k hk e => by omega))
      clear A0 A1 A3 T3 T0
      go_wp2_with fail
      refine bodyPost_ret (results_cell_row rfl _ _ _ _ _ _ _ rfl A4.out Try.underlying41 rfl (by kernel_rfl)) rfl ?_
      exact ⟨by rw [HR.out], T4.out⟩

end Go.Proofs.YtbhofihikimgeaaRR
