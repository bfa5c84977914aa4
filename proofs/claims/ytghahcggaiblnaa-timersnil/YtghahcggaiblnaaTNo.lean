/- Timers that are not there. -/
import Derived.Test.YtghahcggaiblnaaTKnow
import Derived.Test.YtghahcggaiblnaaGScope
namespace Go.Proofs.Ytghahcggaiblnaa
open Go.RowKit

/-- Timers that are not there. -/
structure No (w : World) (mp : Option Addr) : Prop where
  there : ∀ W, Calm w W → Calls Try.prog 31 #[.pointer mp] W fun e w' => e = .returned (.bool false) ∧ w' = W

theorem No.calm {w w' : World} {mp : Option Addr} (h : No w mp) (ht : Calm w w') : No w' mp := ⟨fun W hW => h.there W (ht.tr hW)⟩
theorem no_nil (w : World) : No w none := ⟨fun W _ => isThere_nil W⟩
theorem no_zero (q : Nat) (w : World) (h : w.heap[q]? = some (.cells #[.slice none 0 0, .map none] 59 (0, 0))) : No w (some ⟨q, 0, none⟩) := ⟨fun W hW => isThere_zero q W (hW.at h)⟩

set_option maxRecDepth 100000 in
theorem no_has (mp : Option Addr) (t : Tm) (w : World) (h : No w mp) : Calls Try.prog 20 #[.pointer mp, tv t] w fun e w' => e = .returned (.bool false) ∧ Calm w w' := by
  have H := hide h
  clear h
  go_enter Try.func20, Try.ntmps20
  go_wp2_with fail
  have tA : Calm w (w.alloc (.cells #[.int .i64 t.at_, .string t.key, .int .i64 t.start, .int .i64 t.stop] 35)) := (Touch.refl _ _).alloc _
  refine (H.out.there (w.alloc (.cells #[.int .i64 t.at_, .string t.key, .int .i64 t.start, .int .i64 t.stop] 35)) tA).mono ?_
  rintro e w' ⟨rfl, hq⟩
  obtain rfl := hq.symm
  clear hq
  go_wp2_with fail
  go_ret
  exact ⟨rfl, tA⟩
set_option maxRecDepth 100000 in
theorem no_len (mp : Option Addr) (w : World) (h : No w mp) : Calls Try.prog 14 #[.pointer mp] w fun e w' => e = .returned (.int .i64 0) ∧ w' = w := by
  have H := hide h
  clear h
  go_enter Try.func14, Try.ntmps14
  go_wp2_with fail
  refine (H.out.there w (Touch.refl _ _)).mono ?_
  rintro e w' ⟨rfl, hq⟩
  obtain rfl := hq.symm
  clear hq
  go_wp2_with fail
  go_ret
  exact ⟨rfl, rfl⟩
set_option maxRecDepth 100000 in
theorem no_set (mp : Option Addr) (t : Tm) (w : World) (h : No w mp) : Calls Try.prog 23 #[.pointer mp, tv t] w fun e w' => e = .returned (.tuple #[.bool false, .int .i64 1]) ∧ Calm w w' := by
  have H := hide h
  clear h
  go_enter Try.func23, Try.ntmps23
  go_wp2_with fail
  have tA : Calm w (w.alloc (.cells #[.int .i64 t.at_, .string t.key, .int .i64 t.start, .int .i64 t.stop] 35)) := (Touch.refl _ _).alloc _
  refine (H.out.there (w.alloc (.cells #[.int .i64 t.at_, .string t.key, .int .i64 t.start, .int .i64 t.stop] 35)) tA).mono ?_
  rintro e w' ⟨rfl, hq⟩
  obtain rfl := hq.symm
  clear hq
  go_wp2_with fail
  go_ret2
  exact ⟨rfl, tA⟩
set_option maxRecDepth 100000 in
theorem no_move (mp : Option Addr) (t u : Tm) (w : World) (h : No w mp) : Calls Try.prog 27 #[.pointer mp, tv t, tv u] w fun e w' => e = .returned (.tuple #[.bool false, .int .i64 1]) ∧ Calm w w' := by
  have H := hide h
  clear h
  go_enter Try.func27, Try.ntmps27
  go_wp2_with fail
  have tA : Calm w ((w.alloc (.cells #[.int .i64 t.at_, .string t.key, .int .i64 t.start, .int .i64 t.stop] 35)).alloc (.cells #[.int .i64 u.at_, .string u.key, .int .i64 u.start, .int .i64 u.stop] 35)) := ((Touch.refl _ _).alloc _).alloc _
  refine (H.out.there _ tA).mono ?_
  rintro e w' ⟨rfl, hq⟩
  obtain rfl := hq.symm
  clear hq
  go_wp2_with fail
  go_ret2
  exact ⟨rfl, tA⟩
set_option maxRecDepth 100000 in
theorem no_copy (mp : Option Addr) (w : World) (h : No w mp) : Calls Try.prog 29 #[.pointer mp] w fun e w' => e = .returned (.pointer none) ∧ w' = w := by
  have H := hide h
  clear h
  go_enter Try.func29, Try.ntmps29
  go_wp2_with fail
  refine (H.out.there w (Touch.refl _ _)).mono ?_
  rintro e w' ⟨rfl, hq⟩
  obtain rfl := hq.symm
  clear hq
  go_wp2_with fail
  go_ret
  exact ⟨rfl, rfl⟩
set_option maxRecDepth 100000 in
theorem no_drop (mp : Option Addr) (t : Tm) (w : World) (h : No w mp) : Calls Try.prog 21 #[.pointer mp, tv t] w fun e w' => e = .returned (.bool false) ∧ Calm w w' := by
  have H := hide h
  clear h
  go_enter Try.func21, Try.ntmps21
  go_wp2_with fail
  have tA : Calm w (w.alloc (.cells #[.int .i64 t.at_, .string t.key, .int .i64 t.start, .int .i64 t.stop] 35)) := (Touch.refl _ _).alloc _
  refine (no_has mp t (w.alloc (.cells #[.int .i64 t.at_, .string t.key, .int .i64 t.start, .int .i64 t.stop] 35)) (H.out.calm tA)).mono ?_
  rintro e w' ⟨rfl, t1⟩
  have T1 := hide (tA.tr t1)
  clear t1
  go_wp2_with fail
  go_ret
  exact ⟨rfl, T1.out⟩
set_option maxRecDepth 100000 in
theorem no_next (mp : Option Addr) (w : World) (h : No w mp) : Calls Try.prog 19 #[.pointer mp] w fun e w' => e = .returned (.tuple #[tv tm0, .bool false]) ∧ Calm w w' := by
  have H := hide h
  clear h
  go_enter Try.func19, Try.ntmps19
  go_wp2_with fail
  have tA : Calm w (w.alloc (.cells #[.int .i64 0, .string { data := #[] }, .int .i64 0, .int .i64 0] 35)) := (Touch.refl _ _).alloc _
  refine (no_len mp _ (H.out.calm tA)).mono ?_
  rintro e w' ⟨rfl, hq⟩
  obtain rfl := hq.symm
  clear hq
  have hA := heap_alloc_last w (.cells #[.int .i64 0, .string { data := #[] }, .int .i64 0, .int .i64 0] 35)
  obtain ⟨⟨c0, c1, c2, c3⟩, f0, f1, f2, f3⟩ := cells4 hA
  go_wp2_with fail
  refine ⟨rfl, _, ?_, rfl, tA⟩
  simp [results, Try.results19, go_sem, c0, c1, c2, c3, tm0]
set_option maxRecDepth 100000 in
theorem no_due (mp : Option Addr) (upto : Int) (w : World) (h : No w mp) : Calls Try.prog 18 #[.pointer mp, .int .i64 upto] w fun e w' => e = .returned (.slice none 0 0) ∧ w' = w := by
  have H := hide h
  clear h
  go_enter Try.func18, Try.ntmps18
  go_wp2_with fail
  go_loopw [5] (fun v wr => v = .slice none 0 0 ∧ wr = w) (fun _ _ => 0)
  case atStart => exact ⟨rfl, rfl⟩
  case round =>
    obtain ⟨rfl, rfl⟩ := hrel
    go_wp2_with fail
    refine (no_len mp _ H.out).mono ?_
    rintro e w' ⟨rfl, hq⟩
    obtain rfl := hq.symm
    clear hq
    go_wp2_with fail
    go_ret
    exact ⟨rfl, rfl⟩
set_option maxRecDepth 100000 in
theorem all_any (mp : Option Addr) (w : World) : Calls Try.prog 13 #[.pointer mp] w fun e w' => e = .returned (.func (.func 30) #[] #[.pointer (some ⟨w.heap.size, 0, none⟩)]) ∧ w' = w.alloc (.cells #[.pointer mp] 25) := by
  go_enter Try.func13, Try.ntmps13
  go_wp2_with fail
  go_ret
  exact ⟨rfl, rfl⟩

/-- What a going over hands over. -/
def encT (x : Tm) : Array Value := #[tv x]

/-- A going over nothing. -/
theorem no_seq (mp : Option Addr) (Bx : Nat) (A : World → Prop) (hA : ∀ W, A W → No W mp ∧ W.heap[Bx]? = some (.cells #[.pointer mp] 25 (0, 0))) :
    Seq Try.prog 25 59 30 #[.pointer (some ⟨Bx, 0, none⟩)] encT 0 (fun _ _ => False) A := by
  rintro n l S J Jx W hAW hS hJ hY h0
  obtain ⟨hno, hbx⟩ := hA W hAW
  refine callsIn_wide.2 ?_
  have TH := hide (hno.there W (Touch.refl _ _))
  have H0 := hide h0
  have c1 := (one_cell hbx).1
  clear hbx hS hJ hY h0 hno hA hAW
  show Calls Try.prog 30 #[.func (.yield l) #[] #[], .pointer (some ⟨Bx, 0, none⟩)] W _
  go_enter Try.func30, Try.ntmps30
  go_wp2_with fail
  refine TH.out.mono ?_
  rintro e w' ⟨rfl, hq⟩
  obtain rfl := hq.symm
  clear hq TH c1
  go_wp2_with fail
  refine ⟨rfl, _, results_none rfl _ _ _, ?_⟩
  exact ⟨⟨_, rfl⟩, .inl H0.out⟩

end Go.Proofs.Ytghahcggaiblnaa
