/- The tally of values. -/
import Derived.Test.YtakpeopghhblmaaDoorYB
namespace Go.Proofs.YtakpeopghhblmaaDoor
open Go.RowKit

/-- Nothing. -/
abbrev tl0 : Tl := ⟨0, 0, 0, 0⟩

/-- The tally of values. -/
def ofT (xs : List Int) : Tl := xs.foldl addT tl0

theorem ofT_next (xs : List Int) (k : Nat) (hk : k < xs.length) : ofT (xs.take (k + 1)) = addT (ofT (xs.take k)) (xs.getD k 0) := by
  unfold ofT
  rw [List.take_succ_eq_append_getElem hk, List.foldl_append, List.getD_eq_getElem?_getD, List.getElem?_eq_getElem hk]; rfl

set_option maxRecDepth 100000 in
set_option maxHeartbeats 1000000 in
theorem of_any (ao : Option Addr) (cap : Nat) (xs : List Int) (w : World) (hs : Seg w .i64 ao xs) (hn : xs.length ≤ 140737488355328) :
    Calls Tryd.prog 10 #[.slice ao xs.length cap] w fun e w' => e = .returned (tlv (ofT xs)) ∧ Calm w w' := by
  have P := fun t v w => hide (add_any t v w)
  have NX := hide (ofT_next xs)
  have hat : Hid (∀ k, k < xs.length → ∀ W, Calm w W → ∃ b off, ao = some ⟨b, off, none⟩ ∧ W.cell? ⟨b, off + k, none⟩ = some (.int .i64 (xs.getD k 0))) := hide fun k hk W hW => by
    obtain ⟨b, off, rfl⟩ := hs.addr (by omega)
    exact ⟨b, off, rfl, (hs.touch hW fun _ _ h => h).at k hk⟩
  have he : Hid (ofT (xs.take xs.length) = ofT xs) := hide (by rw [List.take_length])
  have hz : Hid (ofT (xs.take 0) = tl0) := hide (by simp [ofT])
  generalize hN : xs.length = n at *
  clear hN
  go_enter Tryd.func10, Tryd.ntmps10
  go_wp2_with fail
  go_loopw [8] (fun i wr => ∃ k : Nat, i = .int .i64 k ∧ k ≤ n ∧ wr.heap[w.heap.size]? = some (.cells (tlc tl0) 24 (0, 0)) ∧ wr.heap[w.heap.size + 1]? = some (.cells (tlc (ofT (xs.take k))) 24 (0, 0)) ∧ Calm w wr) (fun i _ => n - (intOf i).toNat)
  case atStart =>
    refine ⟨0, rfl, Nat.zero_le _, ?_, ?_, ((Touch.refl (fun _ => False) w).alloc _).alloc _⟩
    · exact al_old (al_new w _) _
    · have A := al_new (w.alloc (.cells (tlc tl0) 24)) (.cells (tlc tl0) 24)
      rw [al_size] at A
      rw [hz.out]
      exact A
  case round =>
    obtain ⟨k, rfl, hk, A0, A1, T0⟩ := hrel
    by_cases hlt : k < n
    · obtain ⟨b, off, rfl, hc⟩ := hat.out k hlt wr T0
      have NX' := hide (NX.out k (by omega))
      generalize xs.getD k 0 = v at *
      generalize ofT (xs.take k) = t at *
      obtain ⟨c0, c1, c2, c3⟩ := tl_cells A1
      have H0 := hide A0
      have H1 := hide A1
      have HT := hide T0
      clear A0 A1 T0 he hz
      go_wp2_with fail
      refine (P _ _ _).out.mono ?_
      rintro e w2 ⟨rfl, T2⟩
      have A2 := T2.at H1.out
      clear c0 c1 c2 c3 hc
      generalize hr : addT t v = r
      have HR := hide hr
      clear hr
      obtain ⟨c0, c1, c2, c3⟩ := tl_cells A2
      obtain ⟨z0, z1, z2, z3⟩ := tl_frozen A2
      obtain ⟨A3, T3⟩ := tl_set r A2
      have A4 := hide A3
      have A5 := hide (T3.heap (T2.at H0.out) (by omega))
      have T4 := hide (Touch.trans (HT.out.tr T2) T3 (fun k hk e => by omega))
      clear A2 A3 T3 T2 H0 H1 HT
      go_wp2_with fail
      go_roundw
      case rel => exact ⟨k + 1, by go_num, by omega, A5.out, by rw [NX'.out, HR.out]; exact A4.out, T4.out⟩
      case measure => simp [intOf]; omega
    · have e : k = n := by omega
      subst e
      rw [he.out] at A1
      generalize hr : ofT xs = t at *
      have HR := hide hr
      clear NX hat he hr
      obtain ⟨c0, c1, c2, c3⟩ := tl_cells A1
      obtain ⟨d0, d1, d2, d3⟩ := tl_cells A0
      obtain ⟨z0, z1, z2, z3⟩ := tl_frozen A0
      obtain ⟨A3, T3⟩ := tl_set t A0
      have A4 := hide A3
      have T4 := hide (Touch.trans T0 T3 (fun k hk e => by omega))
      clear A0 A1 A3 T3 T0
      go_wp2_with fail
      refine bodyPost_ret (results_cell_row rfl _ _ _ _ _ _ _ rfl A4.out Tryd.underlying24 rfl (by kernel_rfl)) rfl ?_
      exact ⟨by rw [HR.out], T4.out⟩

end Go.Proofs.YtakpeopghhblmaaDoor
