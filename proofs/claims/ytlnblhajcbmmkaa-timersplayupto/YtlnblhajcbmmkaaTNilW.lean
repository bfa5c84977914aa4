/- Timers that are not there. TimersNil, walked. -/
import Derived.Test.YtlnblhajcbmmkaaTKnow
import Derived.Test.YtlnblhajcbmmkaaGScope
namespace Go.Proofs.Ytlnblhajcbmmkaa
open Go.RowKit

/-- Timers that are not there. -/
structure No (w : World) (mp : Option Addr) : Prop where
  there : ∀ W, Calm w W → Calls Try.prog 31 #[.pointer mp] W fun e w' => e = .returned (.bool false) ∧ w' = W

theorem No.calm {w w' : World} {mp : Option Addr} (h : No w mp) (ht : Calm w w') : No w' mp := ⟨fun W hW => h.there W (ht.tr hW)⟩
theorem no_nil (w : World) : No w none := ⟨fun W _ => isThere_nil W⟩
theorem no_zero (q : Nat) (w : World) (h : w.heap[q]? = some (.cells #[.slice none 0 0, .map none] 59 (0, 0))) : No w (some ⟨q, 0, none⟩) := ⟨fun W hW => isThere_zero q W (hW.at h)⟩

set_option maxRecDepth 100000 in
theorem no_has (mp : Option Addr) (t : Tm) (w : World) (h : No w mp) : Calls Try.prog 20 #[.pointer mp, tv t] w fun e w' => e = .returned (.bool false) ∧ Calm w w' := by
  have H := hide h
  clear h
  go_enter Try.func20, Try.ntmps20
  go_wp2_with fail
  have tA : Calm w (w.alloc (.cells #[.int .i64 t.at_, .string t.key, .int .i64 t.start, .int .i64 t.stop] 35)) := (Touch.refl _ _).alloc _
  refine (H.out.there (w.alloc (.cells #[.int .i64 t.at_, .string t.key, .int .i64 t.start, .int .i64 t.stop] 35)) tA).mono ?_
  rintro e w' ⟨rfl, hq⟩
  obtain rfl := hq.symm
  clear hq
  go_wp2_with fail
  go_ret
  exact ⟨rfl, tA⟩
set_option maxRecDepth 100000 in
theorem no_len (mp : Option Addr) (w : World) (h : No w mp) : Calls Try.prog 14 #[.pointer mp] w fun e w' => e = .returned (.int .i64 0) ∧ w' = w := by
  have H := hide h
  clear h
  go_enter Try.func14, Try.ntmps14
  go_wp2_with fail
  refine (H.out.there w (Touch.refl _ _)).mono ?_
  rintro e w' ⟨rfl, hq⟩
  obtain rfl := hq.symm
  clear hq
  go_wp2_with fail
  go_ret
  exact ⟨rfl, rfl⟩
set_option maxRecDepth 100000 in
theorem no_set (mp : Option Addr) (t : Tm) (w : World) (h : No w mp) : Calls Try.prog 23 #[.pointer mp, tv t] w fun e w' => e = .returned (.tuple #[.bool false, .int .i64 1]) ∧ Calm w w' := by
  have H := hide h
  clear h
  go_enter Try.func23, Try.ntmps23
  go_wp2_with fail
  have tA : Calm w (w.alloc (.cells #[.int .i64 t.at_, .string t.key, .int .i64 t.start, .int .i64 t.stop] 35)) := (Touch.refl _ _).alloc _
  refine (H.out.there (w.alloc (.cells #[.int .i64 t.at_, .string t.key, .int .i64 t.start, .int .i64 t.stop] 35)) tA).mono ?_
  rintro e w' ⟨rfl, hq⟩
  obtain rfl := hq.symm
  clear hq
  go_wp2_with fail
  go_ret2
  exact ⟨rfl, tA⟩
set_option maxRecDepth 100000 in
theorem no_move (mp : Option Addr) (t u : Tm) (w : World) (h : No w mp) : Calls Try.prog 27 #[.pointer mp, tv t, tv u] w fun e w' => e = .returned (.tuple #[.bool false, .int .i64 1]) ∧ Calm w w' := by
  have H := hide h
  clear h
  go_enter Try.func27, Try.ntmps27
  go_wp2_with fail
  have tA : Calm w ((w.alloc (.cells #[.int .i64 t.at_, .string t.key, .int .i64 t.start, .int .i64 t.stop] 35)).alloc (.cells #[.int .i64 u.at_, .string u.key, .int .i64 u.start, .int .i64 u.stop] 35)) := ((Touch.refl _ _).alloc _).alloc _
  refine (H.out.there _ tA).mono ?_
  rintro e w' ⟨rfl, hq⟩
  obtain rfl := hq.symm
  clear hq
  go_wp2_with fail
  go_ret2
  exact ⟨rfl, tA⟩
set_option maxRecDepth 100000 in
theorem no_copy (mp : Option Addr) (w : World) (h : No w mp) : Calls Try.prog 29 #[.pointer mp] w fun e w' => e = .returned (.pointer none) ∧ w' = w := by
  have H := hide h
  clear h
  go_enter Try.func29, Try.ntmps29
  go_wp2_with fail
  refine (H.out.there w (Touch.refl _ _)).mono ?_
  rintro e w' ⟨rfl, hq⟩
  obtain rfl := hq.symm
  clear hq
  go_wp2_with fail
  go_ret
  exact ⟨rfl, rfl⟩
set_option maxRecDepth 100000 in
theorem no_drop (mp : Option Addr) (t : Tm) (w : World) (h : No w mp) : Calls Try.prog 21 #[.pointer mp, tv t] w fun e w' => e = .returned (.bool false) ∧ Calm w w' := by
  have H := hide h
  clear h
  go_enter Try.func21, Try.ntmps21
  go_wp2_with fail
  have tA : Calm w (w.alloc (.cells #[.int .i64 t.at_, .string t.key, .int .i64 t.start, .int .i64 t.stop] 35)) := (Touch.refl _ _).alloc _
  refine (no_has mp t (w.alloc (.cells #[.int .i64 t.at_, .string t.key, .int .i64 t.start, .int .i64 t.stop] 35)) (H.out.calm tA)).mono ?_
  rintro e w' ⟨rfl, t1⟩
  have T1 := hide (tA.tr t1)
  clear t1
  go_wp2_with fail
  go_ret
  exact ⟨rfl, T1.out⟩
set_option maxRecDepth 100000 in
theorem no_next (mp : Option Addr) (w : World) (h : No w mp) : Calls Try.prog 19 #[.pointer mp] w fun e w' => e = .returned (.tuple #[tv tm0, .bool false]) ∧ Calm w w' := by
  have H := hide h
  clear h
  go_enter Try.func19, Try.ntmps19
  go_wp2_with fail
  have tA : Calm w (w.alloc (.cells #[.int .i64 0, .string { data := #[] }, .int .i64 0, .int .i64 0] 35)) := (Touch.refl _ _).alloc _
  refine (no_len mp _ (H.out.calm tA)).mono ?_
  rintro e w' ⟨rfl, hq⟩
  obtain rfl := hq.symm
  clear hq
  have hA := heap_alloc_last w (.cells #[.int .i64 0, .string { data := #[] }, .int .i64 0, .int .i64 0] 35)
  obtain ⟨⟨c0, c1, c2, c3⟩, f0, f1, f2, f3⟩ := cells4 hA
  go_wp2_with fail
  refine ⟨rfl, _, ?_, rfl, tA⟩
  simp [results, Try.results19, go_sem, c0, c1, c2, c3, tm0]
set_option maxRecDepth 100000 in
theorem no_due (mp : Option Addr) (upto : Int) (w : World) (h : No w mp) : Calls Try.prog 18 #[.pointer mp, .int .i64 upto] w fun e w' => e = .returned (.slice none 0 0) ∧ w' = w := by
  have H := hide h
  clear h
  go_enter Try.func18, Try.ntmps18
  go_wp2_with fail
  go_loopw [5] (fun v wr => v = .slice none 0 0 ∧ wr = w) (fun _ _ => 0)
  case atStart => exact ⟨rfl, rfl⟩
  case round =>
    obtain ⟨rfl, rfl⟩ := hrel
    go_wp2_with fail
    refine (no_len mp _ H.out).mono ?_
    rintro e w' ⟨rfl, hq⟩
    obtain rfl := hq.symm
    clear hq
    go_wp2_with fail
    go_ret
    exact ⟨rfl, rfl⟩
set_option maxRecDepth 100000 in
theorem all_any (mp : Option Addr) (w : World) : Calls Try.prog 13 #[.pointer mp] w fun e w' => e = .returned (.func (.func 30) #[] #[.pointer (some ⟨w.heap.size, 0, none⟩)]) ∧ w' = w.alloc (.cells #[.pointer mp] 25) := by
  go_enter Try.func13, Try.ntmps13
  go_wp2_with fail
  go_ret
  exact ⟨rfl, rfl⟩

/-- What a going over hands over. -/
def encT (x : Tm) : Array Value := #[tv x]

/-- A going over nothing. -/
theorem no_seq (mp : Option Addr) (Bx : Nat) (A : World → Prop) (hA : ∀ W, A W → No W mp ∧ W.heap[Bx]? = some (.cells #[.pointer mp] 25 (0, 0))) :
    Seq Try.prog 25 59 30 #[.pointer (some ⟨Bx, 0, none⟩)] encT 0 (fun _ _ => False) A := by
  rintro n l S J Jx W hAW hS hJ hY h0
  obtain ⟨hno, hbx⟩ := hA W hAW
  refine callsIn_wide.2 ?_
  have TH := hide (hno.there W (Touch.refl _ _))
  have H0 := hide h0
  have c1 := (one_cell hbx).1
  clear hbx hS hJ hY h0 hno hA hAW
  show Calls Try.prog 30 #[.func (.yield l) #[] #[], .pointer (some ⟨Bx, 0, none⟩)] W _
  go_enter Try.func30, Try.ntmps30
  go_wp2_with fail
  refine TH.out.mono ?_
  rintro e w' ⟨rfl, hq⟩
  obtain rfl := hq.symm
  clear hq TH c1
  go_wp2_with fail
  refine ⟨rfl, _, results_none rfl _ _ _, ?_⟩
  exact ⟨⟨_, rfl⟩, .inl H0.out⟩

end Go.Proofs.Ytlnblhajcbmmkaa

namespace Go.Proofs.Ytlnblhajcbmmkaa
open Go.RowKit

attribute [local go_sem] Oper.semAt_some

theorem all_not_nil (lb : Array Value) (W : World) : (binOp .eql 44 (.func (.func 30) #[] lb) .nilFunc).run Try.prog W = .ok (.bool false) W := by
  have e : binOp .eql 44 (.func (.func 30) #[] lb) .nilFunc = (do pure (.bool (← Op.equalIn (9999 + 1) 44 (.func (.func 30) #[] lb) .nilFunc))) := rfl
  rw [e]
  unfold Op.equalIn
  simp only [Sem.run_bind, run_underlying Try.underlying44, Result.andThen_ok, Sem.run_pure]

set_option maxRecDepth 100000 in
set_option maxHeartbeats 2000000 in
theorem nothing_any (mp : Option Addr) (t : Tm) (upto : Int) (w : World) (h : No w mp) : Calls Try.prog 22 #[.pointer mp, tv t, .int .i64 upto] w fun e w' => e = .returned (.bool true) ∧ Calm w w' := by
  have H := hide h
  clear h
  refine (callsIn_wide (n := 3)).1 (callsIn_of_wp_marks Try.func22 rfl trivial ?_ rfl)
  simp only [Try.ntmps22, List.size_toArray, List.length_cons, List.length_nil, Nat.reduceAdd, Nat.reduceSub, Array.replicate_succ, Array.replicate_zero, List.push_toArray, List.append_toArray, List.nil_append, List.cons_append]
  gi_wp2
  obtain ⟨A, eA⟩ : ∃ A, A = w.heap.size := ⟨_, rfl⟩
  obtain ⟨B6, e6⟩ : ∃ B6, B6 = w.heap.size + 1 := ⟨_, rfl⟩
  obtain ⟨W0, eW⟩ : ∃ W0, W0 = (w.alloc (.cells #[.int .i64 t.at_, .string t.key, .int .i64 t.start, .int .i64 t.stop] 35)).alloc (.cells #[.bool false] 4) := ⟨_, rfl⟩
  have HA : Hid (W0.heap[A]? = some (.cells (tc t) 35 (0, 0))) := hide (by rw [eW, eA]; exact (Below.heap_alloc _ _ _ (by simp)).trans (heap_alloc_last w _))
  have H6 : Hid (W0.heap[B6]? = some (.cells #[.bool false] 4 (0, 0))) := hide (by
    rw [eW, e6]
    have := heap_alloc_last (w.alloc (.cells #[.int .i64 t.at_, .string t.key, .int .i64 t.start, .int .i64 t.stop] 35)) (.cells #[.bool false] 4)
    simpa using this)
  have T00 : Hid (Calm w W0) := hide (by rw [eW]; exact ((Touch.refl _ _).alloc _).alloc _)
  have HB6 : Hid (w.heap.size ≤ B6) := hide (by omega)
  have T0 := hide (Touch.refl (fun _ => False) W0)
  have HN := hide (fun W (hW : Calm W0 W) => H.out.calm (T00.out.tr hW))
  try rw [← e6]
  try rw [← eA]
  try rw [← eW]
  clear eA e6 eW
  refine ⟨trivial, (callsIn_wide.2 (no_set mp t _ (HN.out _ T0.out))).mono ?_⟩
  rintro e w1 ⟨rfl, tw1⟩
  have Tw1 := hide (T0.out.tr tw1)
  clear tw1
  obtain ⟨⟨a0, a1, a2, a3⟩, -⟩ := cells4 (Tw1.out.at HA.out)
  gi_wp2
  clear a0 a1 a2 a3
  refine ⟨trivial, (callsIn_wide.2 (no_move mp t t _ (HN.out _ Tw1.out))).mono ?_⟩
  rintro e w2 ⟨rfl, tw2⟩
  have Tw2 := hide (Tw1.out.tr tw2)
  clear tw2
  gi_wp2
  refine ⟨trivial, (callsIn_wide.2 (no_next mp _ (HN.out _ Tw2.out))).mono ?_⟩
  rintro e w3 ⟨rfl, tw3⟩
  have Tw3 := hide (Tw2.out.tr tw3)
  clear tw3
  gi_wp2
  refine ⟨trivial, (callsIn_wide.2 (all_any mp _)).mono ?_⟩
  rintro e w' ⟨rfl, hq⟩
  obtain ⟨X, eX⟩ : ∃ X, X = w3.heap.size := ⟨_, rfl⟩
  have s4 : (w3.alloc (.cells #[.int .i64 tm0.at_, .string tm0.key, .int .i64 tm0.start, .int .i64 tm0.stop] 35)).heap.size = w3.heap.size + 1 := by simp
  rw [s4]
  obtain ⟨Bx, eB⟩ : ∃ Bx, Bx = w3.heap.size + 1 := ⟨_, rfl⟩
  obtain ⟨W5, e5⟩ : ∃ W5, W5 = w' := ⟨_, rfl⟩
  have HX : Hid (W5.heap[X]? = some (.cells (tc tm0) 35 (0, 0))) := hide (by rw [e5, hq, eX]; exact (Below.heap_alloc _ _ _ (by simp)).trans (heap_alloc_last w3 _))
  have HBx : Hid (W5.heap[Bx]? = some (.cells #[.pointer mp] 25 (0, 0))) := hide (by
    rw [e5, hq, eB]
    have := heap_alloc_last (w3.alloc (.cells #[.int .i64 tm0.at_, .string tm0.key, .int .i64 tm0.start, .int .i64 tm0.stop] 35)) (.cells #[.pointer mp] 25)
    simpa using this)
  have T5 : Hid (Calm W0 W5) := hide (by rw [e5, hq]; exact Tw3.out.tr (((Touch.refl _ _).alloc _).alloc _))
  rw [← eB, ← e5]
  try rw [← eX]
  clear s4 eX eB e5 hq w'
  have SQ := hide (no_seq mp Bx (fun W => Calm W5 W) (fun W hW => ⟨HN.out W (T5.out.tr hW), hW.at HBx.out⟩))
  have hx := all_not_nil #[.pointer (some ⟨Bx, 0, none⟩)] W5
  gi_wp2
  clear hx
  refine wpIn_range (gf := 30) (lb := #[.pointer (some ⟨Bx, 0, none⟩)]) rfl (enters_of Try.func30 (by kernel_rfl) rfl) SQ.out (fun _ => rfl)
    (fun _ => False) (fun _ h => h.elim) (fun W h => h) (fun _ W => Calm W5 W) (fun _ _ _ => False) (fun _ _ _ _ => True)
    (fun k W W' h ht => h.trans ht (fun g hg s => by have := s.1; omega)) (fun k W l o o' h h1 h2 h3 => h.trans (touch_put W l o') (fun g hg e => by omega)) (fun c k W l o o' h => h.elim) (fun k x a' => fun _ _ _ _ h _ _ _ => h) (Touch.refl _ _) ?assign ?body ?done ?stop
  case assign =>
    rintro l k x W K hi hkm hx hK
    exact absurd hkm (by omega)
  case body =>
    rintro l k x a' W hi hkm hx hK
    exact absurd hkm (by omega)
  case stop =>
    rintro D c k W hD hkm h hd
    exact h.elim
  case done =>
    rintro D W hD hi hd
    have HD := hide hd
    have TX : Hid (Calm W W) := hide (Touch.refl _ _)
    have T6 := hide (T5.out.tr hi)
    have HXX := hide (hi.at HX.out)
    have HDW := hide (show w.heap.size ≤ D from Nat.le_trans T00.out.size (Nat.le_trans T5.out.size hD))
    obtain ⟨⟨x0, x1, x2, x3⟩, -⟩ := cells4 (show W.heap[X]? = some (.cells #[.int .i64 0, .string { data := #[] }, .int .i64 0, .int .i64 0] 35 (0, 0)) from HXX.out)
    obtain ⟨⟨a0, a1, a2, a3⟩, -⟩ := cells4 (T6.out.at HA.out)
    clear hi hd hD SQ
    gi_wp2
    clear x0 x1 x2 x3 a0 a1 a2 a3
    refine ⟨trivial, (callsIn_wide.2 (no_drop mp t _ (HN.out _ T6.out))).mono ?_⟩
    rintro e w7 ⟨rfl, tw7⟩
    have X7 := hide tw7
    have Tw7 := hide (T6.out.tr tw7)
    clear tw7
    obtain ⟨⟨a0, a1, a2, a3⟩, -⟩ := cells4 (Tw7.out.at HA.out)
    gi_wp2
    clear a0 a1 a2 a3
    refine ⟨trivial, (callsIn_wide.2 (no_has mp t _ (HN.out _ Tw7.out))).mono ?_⟩
    rintro e w8 ⟨rfl, tw8⟩
    have X8 := hide (X7.out.tr tw8)
    have Tw8 := hide (Tw7.out.tr tw8)
    clear tw8
    gi_wp2
    refine ⟨trivial, (callsIn_wide.2 (no_len mp _ (HN.out _ Tw8.out))).mono ?_⟩
    rintro e w' ⟨rfl, hq⟩
    obtain rfl := hq.symm
    clear hq
    gi_wp2
    refine ⟨trivial, (callsIn_wide.2 (no_due mp upto _ (HN.out _ Tw8.out))).mono ?_⟩
    rintro e w' ⟨rfl, hq⟩
    obtain rfl := hq.symm
    clear hq
    gi_wp2
    refine ⟨trivial, (callsIn_wide.2 (no_copy mp _ (HN.out _ Tw8.out))).mono ?_⟩
    rintro e w' ⟨rfl, hq⟩
    obtain rfl := hq.symm
    clear hq
    obtain ⟨c6, f6⟩ := one_cell (Tw8.out.at H6.out)
    have K6 := hide (set_one (.bool true) (Tw8.out.at H6.out))
    have T9 : Hid (Touch (fun g => g = B6) w8 (w8.setCell ⟨B6, 0, none⟩ (.bool true))) := hide ((Touch.refl (fun g => g = B6) w8).setCell (p := ⟨B6, 0, none⟩) (fun _ => rfl) _)
    have HD8 := hide (X8.out.at HD.out)
    have hd9 : (w8.setCell ⟨B6, 0, none⟩ (.bool true)).heap[D]? = some (.deferred (some [])) := T9.out.heap HD8.out (fun e => by
      have h1 := HD8.out
      rw [e, Tw8.out.at H6.out] at h1
      cases h1)
    have HD9 := hide hd9
    clear hd9
    gi_wp2
    have r6 := (one_cell ((touch_put (w8.setCell ⟨B6, 0, none⟩ (.bool true)) D (.deferred none)).heap K6.out (fun e => by
      have h1 := HD9.out
      rw [← e, K6.out] at h1
      cases h1))).1
    refine ⟨by simp, .inl ⟨_, _, rfl, run_takeDeferred HD9.out, ?_⟩⟩
    exact ⟨.bool true, by simp [results, Try.results22, go_sem, r6], rfl, ((T00.out.tr Tw8.out).trans T9.out (fun g hg e => by have := HB6.out; omega)).trans (touch_put _ D _) (fun g hg e => by have := HDW.out; omega)⟩

end Go.Proofs.Ytlnblhajcbmmkaa
