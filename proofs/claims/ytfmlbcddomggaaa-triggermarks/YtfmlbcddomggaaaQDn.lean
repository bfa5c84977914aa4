/- The program's Tell, of a kind that is none. -/
import Derived.Test.YtfmlbcddomggaaaQD
namespace Go.Proofs.Ytfmlbcddomggaaa
open Go.RowKit

set_option maxRecDepth 100000 in
set_option maxHeartbeats 4000000 in
theorem tell_no (k : ByteArray) (x : Wn) (d : Int) (di : Bool) (h : d < 1 ∨ 3 < d) (w : World) : Calls Try.prog 12 #[.string k, wnv x, .int .i64 d, .bool di] w fun e w' => e = .returned (.tuple #[pnv pn0, wnv wn0, .int .i64 2]) ∧ Calm w w' := by
  obtain ⟨A0, A1, A2⟩ := al3 w (.cells (wnc x) 30) (.cells (pnc pn0) 37) (.cells (wnc wn0) 30)
  have T0 : Calm w (((w.alloc (.cells (wnc x) 30)).alloc (.cells (pnc pn0) 37)).alloc (.cells (wnc wn0) 30)) := (((Touch.refl _ _).alloc _).alloc _).alloc _
  have HA1 := hide A1
  have HA2 := hide A2
  have HT0 := hide T0
  clear A0 A1 A2 T0
  by_cases h1 : d < 1
  · have t1 : decide (d < 1) = true := decide_eq_true h1
    clear h1 h
    go_enter Try.func12, Try.ntmps12
    go_wp2_with fail
    refine bodyPost_ret (results_cell2_slot rfl _ _ _ _ _ _ _ rfl HA1.out Try.underlying37 rfl (by kernel_rfl) _ _ _ _ _ rfl HA2.out Try.underlying30 rfl (by kernel_rfl) _ rfl) rfl ?_
    exact ⟨rfl, HT0.out⟩
  · have t1 : decide (d < 1) = false := decide_eq_false h1
    have t3 : decide (3 < d) = true := decide_eq_true (h.resolve_left h1)
    clear h1 h
    go_enter Try.func12, Try.ntmps12
    go_wp2_with fail
    refine bodyPost_ret (results_cell2_slot rfl _ _ _ _ _ _ _ rfl HA1.out Try.underlying37 rfl (by kernel_rfl) _ _ _ _ _ rfl HA2.out Try.underlying30 rfl (by kernel_rfl) _ rfl) rfl ?_
    exact ⟨rfl, HT0.out⟩

theorem tellC (k : ByteArray) (x : Wn) (d : Int) (di : Bool) (hx : x.Ok) (w : World) : Calls Try.prog 12 #[.string k, wnv x, .int .i64 d, .bool di] w fun e w' => e = .returned (.tuple #[pnv (if (decide (1 ≤ d) && decide (d ≤ 3)) = true then tellP k x d else pn0), wnv (if (decide (1 ≤ d) && decide (d ≤ 3)) = true then tellW x di else wn0), .int .i64 (if (decide (1 ≤ d) && decide (d ≤ 3)) = true then 0 else 2)]) ∧ Calm w w' := by
  by_cases h : 1 ≤ d ∧ d ≤ 3
  · have e : (decide (1 ≤ d) && decide (d ≤ 3)) = true := by simp [h.1, h.2]
    rw [e]
    exact tell_yes k x d di hx.p h.1 h.2 w
  · have e : (decide (1 ≤ d) && decide (d ≤ 3)) = false := by simp; omega
    rw [e]
    exact tell_no k x d di (by omega) w

end Go.Proofs.Ytfmlbcddomggaaa
