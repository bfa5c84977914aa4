/- The verifier's walk: does a going over tell this list? -/
import Derived.Test.YtlnblhajcbmmkaaTASeq
import Derived.Test.YtlnblhajcbmmkaaTNilW
import Derived.Test.YtlnblhajcbmmkaaTEq
import Derived.Test.YtlnblhajcbmmkaaSQuietR
namespace Go.Proofs.Ytlnblhajcbmmkaa
open Go.RowKit
attribute [local go_sem] Oper.semAt_some

/-- What walk keeps in memory. -/
structure Wt (w : World) (top B4 B5 B6 B7 : Nat) (lv : Value) (leave : Int) (k : Nat) (res : Bool) (W : World) : Prop where
  touch : Calm w W
  b4 : W.heap[B4]? = some (.cells #[lv] 22 (0, 0))
  b5 : W.heap[B5]? = some (.cells #[.int .i64 leave] 3 (0, 0))
  b6 : W.heap[B6]? = some (.cells #[.bool res] 4 (0, 0))
  b7 : W.heap[B7]? = some (.cells #[.int .i64 (k : Int)] 3 (0, 0))
  lo : w.heap.size ≤ B6 ∧ w.heap.size ≤ B7 ∧ w.heap.size ≤ top
  hi : B4 < top ∧ B5 < top ∧ B6 < top ∧ B7 < top ∧ B5 ≠ B7
  sz : top ≤ W.heap.size

theorem Wt.turn {S : Nat → Prop} {w W W' : World} {top B4 B5 B6 B7 k : Nat} {lv : Value} {leave : Int} {res : Bool} (h : Wt w top B4 B5 B6 B7 lv leave k res W) (ht : Touch S W W') (hS : ∀ g, S g → top ≤ g) : Wt w top B4 B5 B6 B7 lv leave k res W' := by
  have n : ∀ g, g < top → ¬ S g := fun g hg s => by have := hS g s; omega
  obtain ⟨h4, h5, h6, h7, _⟩ := h.hi
  exact ⟨h.touch.trans ht (fun g hg s => by have := hS g s; have := h.lo; omega), ht.heap h.b4 (n _ h4), ht.heap h.b5 (n _ h5), ht.heap h.b6 (n _ h6), ht.heap h.b7 (n _ h7), h.lo, h.hi, Nat.le_trans h.sz ht.size⟩

theorem Wt.next {w W : World} {top B4 B5 B6 B7 k : Nat} {lv : Value} {leave : Int} {res : Bool} (h : Wt w top B4 B5 B6 B7 lv leave k res W) (m : Nat) : Wt w top B4 B5 B6 B7 lv leave m res (W.setCell ⟨B7, 0, none⟩ (.int .i64 m)) := by
  have ht : Touch (fun g => g = B7) W (W.setCell ⟨B7, 0, none⟩ (.int .i64 m)) := (Touch.refl (fun g => g = B7) W).setCell (p := ⟨B7, 0, none⟩) (fun _ => rfl) _
  exact ⟨h.touch.trans ht (fun g hg s => by have := h.lo; omega), ht.heap h.b4 (fun e => tags h.b4 h.b7 (by decide) e), ht.heap h.b5 h.hi.2.2.2.2, ht.heap h.b6 (fun e => tags h.b6 h.b7 (by decide) e), set_one _ h.b7, h.lo, h.hi, by simpa using h.sz⟩

theorem Wt.say {w W : World} {top B4 B5 B6 B7 k : Nat} {lv : Value} {leave : Int} {res : Bool} (h : Wt w top B4 B5 B6 B7 lv leave k res W) (r : Bool) : Wt w top B4 B5 B6 B7 lv leave k r (W.setCell ⟨B6, 0, none⟩ (.bool r)) := by
  have ht : Touch (fun g => g = B6) W (W.setCell ⟨B6, 0, none⟩ (.bool r)) := (Touch.refl (fun g => g = B6) W).setCell (p := ⟨B6, 0, none⟩) (fun _ => rfl) _
  exact ⟨h.touch.trans ht (fun g hg s => by have := h.lo; omega), ht.heap h.b4 (fun e => tags h.b4 h.b6 (by decide) e), ht.heap h.b5 (fun e => tags h.b5 h.b6 (by decide) e), set_one _ h.b6, ht.heap h.b7 (fun e => tags h.b7 h.b6 (by decide) e), h.lo, h.hi, by simpa using h.sz⟩

theorem Wt.bides {w : World} {top B4 B5 B6 B7 k : Nat} {lv : Value} {leave : Int} {res : Bool} : Bides top (Wt w top B4 B5 B6 B7 lv leave k res) := fun W l o o' h hl _ _ => h.turn (touch_put W l o') (fun g e => by omega)

set_option maxRecDepth 100000 in
set_option maxHeartbeats 2000000 in
theorem twalk_any (lbv : Array Value) (A : World → Prop) (L : List Tm) (H : Nat → Tm → Prop) (hH : ∀ k x, H k x → L[k]? = some x)
    (hseq : Seq Try.prog 35 59 30 lbv encT L.length H A) (ao : Option Addr) (cap : Nat) (leave : Int) (w : World) (hA : ∀ W, Calm w W → A W) (hp : Tms w ao L) (hL : L.length ≤ 3518437208790) :
    Calls Try.prog 12 #[.func (.func 30) #[] lbv, .slice ao L.length cap, .int .i64 leave] w fun e w' => e = .returned (.bool true) ∧ Calm w w' := by
  refine (callsIn_wide (n := 3)).1 (callsIn_of_wp_marks Try.func12 rfl trivial ?_ rfl)
  simp only [Try.ntmps12, List.size_toArray, List.length_cons, List.length_nil, Nat.reduceAdd, Nat.reduceSub, Array.replicate_succ, Array.replicate_zero, List.push_toArray, List.append_toArray, List.nil_append, List.cons_append]
  have hx := all_not_nil lbv ((((w.alloc (.cells #[.slice ao L.length cap] 22)).alloc (.cells #[.int .i64 leave] 3)).alloc (.cells #[.bool false] 4)))
  gi_wp2
  clear hx
  obtain ⟨top, etop⟩ : ∃ top, top = w.heap.size + 1 + 1 + 1 + 1 := ⟨_, rfl⟩
  obtain ⟨B7, e7⟩ : ∃ B7, B7 = w.heap.size + 1 + 1 + 1 := ⟨_, rfl⟩
  obtain ⟨B6, e6⟩ : ∃ B6, B6 = w.heap.size + 1 + 1 := ⟨_, rfl⟩
  obtain ⟨B5, e5⟩ : ∃ B5, B5 = w.heap.size + 1 := ⟨_, rfl⟩
  obtain ⟨B4, e4⟩ : ∃ B4, B4 = w.heap.size := ⟨_, rfl⟩
  obtain ⟨W1, eW1⟩ : ∃ W1, W1 = (((w.alloc (.cells #[.slice ao L.length cap] 22)).alloc (.cells #[.int .i64 leave] 3)).alloc (.cells #[.bool false] 4)).alloc (.cells #[.int .i64 0] 3) := ⟨_, rfl⟩
  have hsz : W1.heap.size = top := by rw [eW1, etop]; simp
  have WK : Wt w top B4 B5 B6 B7 (.slice ao L.length cap) leave 0 false W1 := by
    have nw : ∀ (V : World) (o : Obj) (n : Nat), n = V.heap.size → (V.alloc o).heap[n]? = some o := fun V o n e => by rw [e]; exact World.alloc_heap_new V o
    have kp : ∀ (V : World) (o o' : Obj) (n : Nat), V.heap[n]? = some o → (V.alloc o').heap[n]? = some o := fun V o o' n h => (Below.heap_alloc V o' n (lt_of_heap h)).trans h
    refine ⟨by rw [eW1]; exact ((((Touch.refl _ _).alloc _).alloc _).alloc _).alloc _, ?_, ?_, ?_, ?_, ⟨by omega, by omega, by omega⟩, ⟨by omega, by omega, by omega, by omega, by omega⟩, by rw [hsz]; exact Nat.le_refl _⟩
    · rw [eW1]; exact kp _ _ _ _ (kp _ _ _ _ (kp _ _ _ _ (nw _ _ _ e4)))
    · rw [eW1]; exact kp _ _ _ _ (kp _ _ _ _ (nw _ _ _ (by rw [e5]; simp)))
    · rw [eW1]; exact kp _ _ _ _ (nw _ _ _ (by rw [e6]; simp))
    · rw [eW1]; exact nw _ _ _ (by rw [e7]; simp)
  rw [← e7, ← e6, ← e5, ← e4, ← eW1]
  have HSEQ := hide hseq
  have HWK := hide WK
  have HP := hide hp
  have HL := hide hL
  have HH := hide hH
  have HA := hide hA
  clear e4 e5 e6 e7 etop eW1 WK hseq hp hL hH hA
  refine wpIn_range (gf := 30) (lb := lbv) rfl (enters_of Try.func30 (by kernel_rfl) rfl) HSEQ.out (fun _ => rfl)
    (fun g => g = B6 ∨ g = B7) ?hs (fun W h => HA.out W (HWK.out.touch.tr h))
    (fun k W => Wt w top B4 B5 B6 B7 (.slice ao L.length cap) leave k false W)
    (fun c _ W => c = .ret ∧ ∃ m, Wt w top B4 B5 B6 B7 (.slice ao L.length cap) leave m true W)
    (fun _ x a' W => ∃ p, top ≤ p ∧ W.heap[p]? = some (.cells (tc x) 35 (0, 0)) ∧ a' = { tmps := #[.func (.func 30) #[] lbv, .slice ao L.length cap, .int .i64 leave, undef, .pointer (some ⟨B4, 0, none⟩), .pointer (some ⟨B5, 0, none⟩), .pointer (some ⟨B6, 0, none⟩), .pointer (some ⟨B7, 0, none⟩), .pointer (some ⟨p, 0, none⟩), .func (.func 30) #[] lbv, .bool false, .func (.func 30) #[] lbv, tv x, undef, undef, undef, undef, undef, undef, undef, undef, undef, undef, undef, undef, undef, undef, undef, undef, undef, undef, undef, undef, undef], defers := [] })
    (fun k W W' h ht => h.turn ht (fun g hg => by rw [← hsz]; exact hg.1)) (fun k => by rw [hsz]; exact Wt.bides) (fun c k => ?xp) (fun k x a' => ?ap) HWK.out ?assign ?body ?done ?stop
  case hs =>
    rintro g (rfl | rfl)
    · exact ⟨lt_of_heap HWK.out.b6, fun cs fr he => tags he HWK.out.b6 (by decide) rfl⟩
    · exact ⟨lt_of_heap HWK.out.b7, fun cs fr he => tags he HWK.out.b7 (by decide) rfl⟩
  case xp =>
    rw [hsz]
    rintro W l o o' ⟨rfl, m, h⟩ h1 h2 h3
    exact ⟨rfl, m, Wt.bides W l o o' h h1 h2 h3⟩
  case ap =>
    rintro W l o o' ⟨p, h0, h1, h2⟩ h3 h4 h5
    exact ⟨p, h0, (touch_put W l o').heap h1 (fun e => by rw [← e, h1] at h4; injection h4 with h4; subst h4; cases h5), h2⟩
  case assign =>
    rintro l k x W K hi hkm hx hK
    have HK := hide hK
    have HI := hide hi
    have HXX := hide hx
    clear hK hi hx
    simp only [encT]
    gi_wp2
    have tA : Touch (fun _ => False) W (W.alloc (.cells (tc x) 35)) := (Touch.refl _ _).alloc _
    exact HK.out _ _ (KeepsOthers.alloc _ _) (tA.mono fun _ _ h => h.elim) (HI.out.turn tA (fun _ h => h.elim)) ⟨W.heap.size, HI.out.sz, heap_alloc_last W _, rfl⟩
  case body =>
    rintro l k x a' W hi hkm hx ⟨p, hp0, hp, rfl⟩
    have hxk := HH.out k x hx
    obtain ⟨b, off, rfl, p0, p1, p2, p3⟩ := (HP.out.calm hi.touch) k hkm
    obtain ⟨⟨q0, q1, q2, q3⟩, -⟩ := cells4 hp
    have hxe : L[k] = x := by rw [List.getElem?_eq_getElem hkm] at hxk; injection hxk
    rw [hxe] at p0 p1 p2 p3
    obtain ⟨c4, _⟩ := one_cell hi.b4
    obtain ⟨c7, _⟩ := one_cell hi.b7
    have HI := hide hi
    have hki : (k : Int) < (L.length : Int) := by omega
    have hd : decide ((L.length : Int) ≤ (k : Int)) = false := decide_eq_false (by omega)
    have hk2 : Hid (wrap64 ((k : Int) + 1) = (k : Int) + 1) := hide (by have := HL.out; unfold wrap64; omega)
    clear hxk hxe hi hx HSEQ HWK HP HL HH HA hp hp0
    generalize L.length = ln at *
    have hkn : k < ln := hkm
    have hdn : decide (ln ≤ k) = false := decide_eq_false (Nat.not_le.2 hkn)
    gi_wp2
    refine region_quiet_round (by kernel_rfl) (by kernel_rfl) (by kernel_rfl) ?_
    repeat (go_big_quiet_step (fail))
    refine wpQuiet_nil ?_
    intro _ hw'
    obtain ⟨nq, hw''⟩ := hw'
    subst hw''
    have HQ := hide (HI.out.turn (Touch.drewN (Touch.refl (fun _ => False) W) nq) (fun _ h => h.elim))
    have TQ := hide (Touch.drewN (Touch.refl (fun g => g = B6 ∨ g = B7) W) nq)
    have KQ := hide (keeps_touch (Touch.drewN (Touch.refl (fun _ => False) W) nq) (fun _ h => h.elim))
    clear c4 c7 p0 p1 p2 p3 q0 q1 q2 q3 HI hd hdn
    generalize W.drewN nq = xq at *
    obtain ⟨c7, f7⟩ := one_cell HQ.out.b7
    have WK9 := HQ.out.next (k + 1)
    have ek : ((k + 1 : Nat) : Int) = (k : Int) + 1 := by omega
    rw [ek] at WK9
    obtain ⟨c7', _⟩ := one_cell WK9.b7
    obtain ⟨c5', _⟩ := one_cell WK9.b5
    obtain ⟨c6', f6'⟩ := one_cell WK9.b6
    rw [ek] at c7'
    have T9 : Hid (Touch (fun g => g = B6 ∨ g = B7) W (xq.setCell ⟨B7, 0, none⟩ (.int .i64 ((k : Int) + 1)))) := hide (TQ.out.setCell (p := ⟨B7, 0, none⟩) (fun _ => .inr rfl) _)
    have HW9 := hide WK9
    have hk3 := hk2.out
    clear WK9 ek
    by_cases hlv : (k : Int) + 1 = leave
    · have HLV := hide hlv
      have hE1 : (((k : Int) + 1) == leave) = true := by rw [beq_iff_eq]; exact hlv
      clear hlv
      gi_wp2
      exact ⟨(KQ.out.trans (KeepsOthers.setCell _ _ _)).trans (KeepsOthers.setCell _ _ _), T9.out.setCell (p := ⟨B6, 0, none⟩) (fun _ => .inl rfl) _, rfl, k + 1, HW9.out.say true⟩
    · have HLV := hide hlv
      have hE1 : (((k : Int) + 1) == leave) = false := by rw [beq_eq_false_iff_ne]; exact hlv
      clear hlv
      gi_wp2
      exact ⟨KQ.out.trans (KeepsOthers.setCell _ _ _), T9.out, HW9.out⟩
  case done =>
    rintro D W hD hi hd
    rw [hsz] at hD
    obtain ⟨c4, _⟩ := one_cell hi.b4
    obtain ⟨c6, f6⟩ := one_cell hi.b6
    obtain ⟨c7, _⟩ := one_cell hi.b7
    have WE := (hi.say true)
    have hd2 := (KeepsOthers.setCell W ⟨B6, 0, none⟩ (.bool true)).same D _ hd rfl
    have WF := Wt.bides _ D _ (.deferred none) WE hD hd2 rfl
    obtain ⟨r6, _⟩ := one_cell WF.b6
    have HWF := hide WF
    have HD2 := hide hd2
    clear WE WF hd2 hi hd HSEQ HWK HP HL HH HA
    gi_wp2
    refine ⟨by simp, .inl ⟨_, _, rfl, run_takeDeferred HD2.out, ?_⟩⟩
    exact ⟨.bool true, by simp [results, Try.results12, go_sem, r6], rfl, HWF.out.touch⟩
  case stop =>
    rintro D c k W hD hkm ⟨rfl, m, hi⟩ hd
    rw [hsz] at hD
    have WF := Wt.bides _ D _ (.deferred none) hi hD hd rfl
    obtain ⟨r6, _⟩ := one_cell WF.b6
    have HWF := hide WF
    have HD2 := hide hd
    clear WF hd hi HSEQ HWK HP HL HH HA
    gi_wp2
    refine ⟨by simp, .inl ⟨_, _, rfl, run_takeDeferred HD2.out, ?_⟩⟩
    exact ⟨.bool true, by simp [results, Try.results12, go_sem, r6], rfl, HWF.out.touch⟩

end Go.Proofs.Ytlnblhajcbmmkaa
