/- The document's tallies put together. -/
import Derived.Test.YtbhofihikimgeaaRRYZ
namespace Go.Proofs.YtbhofihikimgeaaRR
open Go.RowKit Go.Lib

set_option maxRecDepth 100000 in
set_option maxHeartbeats 1000000 in
theorem rjoin_any (ao : Option Addr) (cap : Nat) (L : List Tl) (w : World) (hs : Tls w ao L) (hok : ∀ t ∈ L, t.Ok) (hn : L.length ≤ 140737488355328) :
    Calls Try.prog 23 #[.slice ao L.length cap] w fun e w' => e = .returned (tlv (joinT L)) ∧ Calm w w' := by
  have NX : Hid (∀ k, k < L.length → joinT (L.take (k + 1)) = joinR (joinT (L.take k)) (L.getD k tl0)) := hide fun k hk => by
    rw [joinT_next L k hk, joinR_eq (joinT_count _).1]
    rw [List.getD_eq_getElem?_getD, List.getElem?_eq_getElem hk]
    exact (hok _ (List.getElem_mem hk)).s
  have CN := hide fun k => joinT_count (L.take k)
  have hat : Hid (∀ k, k < L.length → ∀ W, Calm w W → ∃ b off, ao = some ⟨b, off, none⟩ ∧ W.cell? ⟨b, off + k * 4, none⟩ = some (.int .i64 (L.getD k tl0).c) ∧ W.cell? ⟨b, off + k * 4 + 1, none⟩ = some (.int .i64 (L.getD k tl0).s) ∧ W.cell? ⟨b, off + k * 4 + 2, none⟩ = some (.int .i64 (L.getD k tl0).m) ∧ W.cell? ⟨b, off + k * 4 + 3, none⟩ = some (.int .i64 (L.getD k tl0).x)) := hide fun k hk W hW => (hs.calm hW) k hk
  have he : Hid (joinT (L.take L.length) = joinT L) := hide (by rw [List.take_length])
  have hz : Hid (joinT (L.take 0) = tl0) := hide (by simp [joinT])
  generalize hN : L.length = n at *
  clear hs hok
  go_enter Try.func23, Try.ntmps23
  go_wp2_with fail
  go_loopw [4] (fun i wr => ∃ k : Nat, i = .int .i64 k ∧ k ≤ n ∧ wr.heap[w.heap.size]? = some (.cells (tlc tl0) 41 (0, 0)) ∧ wr.heap[w.heap.size + 1]? = some (.cells (tlc (joinT (L.take k))) 41 (0, 0)) ∧ Calm w wr) (fun i _ => n - (intOf i).toNat)
  case atStart =>
    refine ⟨0, rfl, Nat.zero_le _, (al1 w _ _).1, ?_, ((Touch.refl (fun _ => False) w).alloc _).alloc _⟩
    rw [hz.out]
    exact (al1 w _ _).2
  case round =>
    obtain ⟨k, rfl, hk, A0, A1, T0⟩ := hrel
    by_cases hlt : k < n
    · obtain ⟨b, off, rfl, k0, k1, k2, k3⟩ := hat.out k (by omega) wr T0
      have NX' := hide (NX.out k (by omega))
      have CN' := CN.out k
      generalize hu : L.getD k tl0 = u at *
      generalize joinT (L.take k) = t at *
      obtain ⟨c0, c1, c2, c3⟩ := tl_cells A1
      obtain ⟨z0, z1, z2, z3⟩ := tl_frozen A1
      have hW1 := lt_of_heap A1
      have H0 := hide A0
      have H1 := hide A1
      have HT := hide T0
      clear A0 A1 T0 he hz hN hat NX CN hu
      have hne : wr.heap.size ≠ w.heap.size + 1 := by omega
      have hki : (k : Int) < (n : Int) := by omega
      by_cases hu : u.c < 1
      · have hd : decide (u.c < 1) = true := decide_eq_true hu
        have hne : wr.heap.size ≠ w.heap.size + 1 := by omega
        go_wp2_with fail
        go_roundw
        case rel => exact ⟨k + 1, by go_num, by omega, al_old H0.out _, by rw [NX'.out]; unfold joinR; rw [if_pos hu]; exact al_old H1.out _, HT.out.alloc _⟩
        case measure => simp [intOf]; omega
      · have hd : decide (u.c < 1) = false := decide_eq_false hu
        have HU := hide hu
        clear hu
        by_cases ht : t.c = 0
        · have HC := hide CN'
          clear CN'
          obtain ⟨A3, T3⟩ := tl_set ⟨min u.c 9007199254740992, u.s, u.m, u.x⟩ H1.out
          have G1 := hide A3
          have G0 := hide (T3.heap H0.out (by omega))
          have GT := hide (Touch.trans HT.out T3 (fun k hk e => by omega))
          clear A3 T3
          go_wp2_with fail
          go_roundw
          case rel => exact ⟨k + 1, by go_num, by omega, al_old G0.out _, by rw [NX'.out]; unfold joinR; rw [if_neg HU.out, if_pos ht]; exact al_old G1.out _, GT.out.alloc _⟩
          case measure => simp [intOf]; omega
        · have hw : wrap64 (t.c + min u.c 9007199254740992) = t.c + min u.c 9007199254740992 := by have := HU.out; unfold wrap64; omega
          clear CN'
          obtain ⟨A3, T3⟩ := tl_set ⟨min (t.c + min u.c 9007199254740992) 9007199254740992, wrap64 (t.s + u.s), min t.m u.m, max t.x u.x⟩ H1.out
          have G1 := hide A3
          have G0 := hide (T3.heap H0.out (by omega))
          have GT := hide (Touch.trans HT.out T3 (fun k hk e => by omega))
          clear A3 T3
          go_wp2_with fail
          go_roundw
          case rel => exact ⟨k + 1, by go_num, by omega, al_old G0.out _, by rw [NX'.out]; unfold joinR; rw [if_neg HU.out, if_neg ht]; exact al_old G1.out _, GT.out.alloc _⟩
          case measure => simp [intOf]; omega
    · have e : k = n := by omega
      subst e
      rw [he.out] at A1
      generalize hr : joinT L = t at *
      have HR := hide hr
      clear NX hat he hr hz hN CN
      obtain ⟨c0, c1, c2, c3⟩ := tl_cells A1
      obtain ⟨d0, d1, d2, d3⟩ := tl_cells A0
      obtain ⟨z0, z1, z2, z3⟩ := tl_frozen A0
      obtain ⟨A3, T3⟩ := tl_set t A0
      have A4 := hide A3
      have T4 := hide (Touch.trans T0 T3 (fun k hk e => by omega))
      clear A0 A1 A3 T3 T0
      go_wp2_with fail
      refine bodyPost_ret (results_cell_row rfl _ _ _ _ _ _ _ rfl A4.out Try.underlying41 rfl (by kernel_rfl)) rfl ?_
      exact ⟨by rw [HR.out], T4.out⟩

end Go.Proofs.YtbhofihikimgeaaRR
