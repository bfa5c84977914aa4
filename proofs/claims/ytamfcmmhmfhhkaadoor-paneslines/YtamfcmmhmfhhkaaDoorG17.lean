/- Small answers of the document: a digit to the base 16, a kind's word, whether a pane may be, its numbers. digits: a number from 0 on in decimal digits (the document's). Digits: a number in decimal digits (the document's). -/
import Derived.Test.YtamfcmmhmfhhkaaDoorG4
import Derived.Test.YtamfcmmhmfhhkaaDoorG5
import Derived.Lib.ItoaNum
import Derived.Laws.BytesArg
import Derived.Laws.BytesString
namespace Go.Proofs.YtamfcmmhmfhhkaaDoor
open Go.RowKit

set_option maxRecDepth 100000 in
theorem hex_any (n : Int) (h0 : 0 ≤ n) (h1 : n < 16) (w : World) : Calls Tryd.prog 42 #[.int .u8 n] w fun e w' => e = .returned (.int .u8 (hexB n)) ∧ w' = w := by
  by_cases h : n < 10
  · have hn := h
    go_enter Tryd.func42, Tryd.ntmps42
    go_wp2_with fail
    go_ret
    refine ⟨?_, rfl⟩
    unfold hexB
    rw [if_pos (by omega)]
    go_num
  · go_enter Tryd.func42, Tryd.ntmps42
    go_wp2_with fail
    go_ret
    refine ⟨?_, rfl⟩
    unfold hexB
    rw [if_neg (by omega)]
    go_num

set_option maxRecDepth 100000 in
theorem name_any (d : Int) (w : World) : Calls Tryd.prog 27 #[.int .i64 d] w fun e w' => e = .returned (.string (nameB d)) ∧ w' = w := by
  by_cases h1 : d = 1
  · subst h1
    go_enter Tryd.func27, Tryd.ntmps27
    go_wp2_with fail
    go_ret
    exact ⟨rfl, rfl⟩
  · by_cases h2 : d = 2
    · subst h2
      go_enter Tryd.func27, Tryd.ntmps27
      go_wp2_with fail
      go_ret
      exact ⟨rfl, rfl⟩
    · have e : Hid (nameB d = ⟨#[108, 97, 116, 101]⟩) := hide (by unfold nameB; rw [if_neg h1, if_neg h2])
      go_enter Tryd.func27, Tryd.ntmps27
      go_wp2_with fail
      go_ret
      exact ⟨by rw [e.out]; rfl, rfl⟩

set_option maxRecDepth 100000 in
set_option maxHeartbeats 1000000 in
theorem may_any (p : Pn) (w : World) : Calls Tryd.prog 25 #[pnv p] w fun e w' => e = .returned (.bool (mayP p)) ∧ Calm w w' := by
  have T0 : Hid (∀ o, Calm w (w.alloc o)) := hide fun o => (Touch.refl _ w).alloc o
  have A0 := hide (al_new w (.cells (pnc p) 29))
  obtain ⟨k, a, b, d, n, t⟩ := p
  have c0 : Hid ((w.alloc (.cells (pnc ⟨k, a, b, d, n, t⟩) 29)).cell? ⟨w.heap.size, 0, none⟩ = some (.string k) ∧ (w.alloc (.cells (pnc ⟨k, a, b, d, n, t⟩) 29)).cell? ⟨w.heap.size, 3, none⟩ = some (.int .i64 d)) := hide ⟨(pn_cells A0.out).1.1, (pn_cells A0.out).1.2.2.2.1⟩
  have g : Hid (mayP ⟨k, a, b, d, n, t⟩ = decide (k.size ≤ 256 ∧ 1 ≤ d ∧ d ≤ 3)) := hide rfl
  by_cases h1 : k.size ≤ 256
  · have z1 : (k.size : Int) ≤ 256 := by omega
    by_cases h2 : 1 ≤ d
    · by_cases h3 : d ≤ 3
      · go_enter Tryd.func25, Tryd.ntmps25
        obtain ⟨c1, c2⟩ := c0.out
        go_wp2_with fail
        go_ret
        exact ⟨by rw [g.out, decide_eq_true ⟨h1, h2, h3⟩]; rfl, T0.out _⟩
      · go_enter Tryd.func25, Tryd.ntmps25
        obtain ⟨c1, c2⟩ := c0.out
        go_wp2_with fail
        go_ret
        exact ⟨by rw [g.out, decide_eq_false (fun h => by omega)]; rfl, T0.out _⟩
    · go_enter Tryd.func25, Tryd.ntmps25
      obtain ⟨c1, c2⟩ := c0.out
      go_wp2_with fail
      go_ret
      exact ⟨by rw [g.out, decide_eq_false (fun h => by omega)]; rfl, T0.out _⟩
  · have z1 : ¬ (k.size : Int) ≤ 256 := by omega
    go_enter Tryd.func25, Tryd.ntmps25
    obtain ⟨c1, c2⟩ := c0.out
    go_wp2_with fail
    go_ret
    exact ⟨by rw [g.out, decide_eq_false (fun h => by omega)]; rfl, T0.out _⟩

set_option maxRecDepth 100000 in
set_option maxHeartbeats 1000000 in
theorem numbers_any (p : Pn) (w : World) : Calls Tryd.prog 28 #[pnv p] w fun e w' => ∃ g, e = .returned (.slice (some ⟨g, 0, none⟩) 7 7) ∧ encJ.Mem w' (some ⟨g, 0, none⟩) (numsP p) ∧ w.heap.size ≤ g ∧ Calm w w' := by
  have T0 : Hid (∀ o, Calm w (w.alloc o)) := hide fun o => (Touch.refl _ w).alloc o
  have S0 := hide (al_size w (.cells (pnc p) 29))
  have A0 := hide (al_new w (.cells (pnc p) 29))
  have M0 : Hid (∀ W : World, encJ.Mem (W.alloc (.cells #[.int .i64 p.a, .int .i64 p.b, .int .i64 p.n, .int .i64 p.t.c, .int .i64 p.t.s, .int .i64 p.t.m, .int .i64 p.t.x] 2)) (some ⟨W.heap.size, 0, none⟩) (numsP p)) := hide fun W => Rc.Mem.new W (numsP p) 2
  obtain ⟨k, a, b, d, n, ⟨x0, x1, x2, x3⟩⟩ := p
  have K0 := hide (pn_cells A0.out)
  clear A0
  go_enter Tryd.func28, Tryd.ntmps28
  obtain ⟨⟨c0, c1, c2, c3, c4⟩, c5, c6, c7, c8⟩ := K0.out
  go_wp2_with fail
  go_ret
  exact ⟨_, rfl, by have h := M0.out (w.alloc (.cells (pnc ⟨k, a, b, d, n, ⟨x0, x1, x2, x3⟩⟩) 29)); rw [S0.out] at h; exact h, by have := S0.out; omega, (T0.out _).alloc _⟩

end Go.Proofs.YtamfcmmhmfhhkaaDoor

namespace Go.Proofs.YtamfcmmhmfhhkaaDoor
open Go.RowKit

set_option maxRecDepth 100000 in
set_option maxHeartbeats 2000000 in
theorem digits_any (u : Nat) : ∀ (_ : u < 18446744073709551616) (w : World), Calls Tryd.prog 43 #[.int .u64 (u : Int)] w fun e w' => e = .returned (.string (decB u)) ∧ Calm w w' := by
  induction u using Nat.strongRecOn with
  | _ u ih =>
  intro h w
  by_cases h1 : u < 10
  · have z1 : (u : Int) < 10 := by omega
    have CV : Hid ((convert 55 9 (.slice (some ⟨w.heap.size, 0, none⟩) 1 1)).run Tryd.prog (w.alloc (.cells #[.int .u8 (48 + (u : Int))] 5)) = .ok (.string (decB u)) (w.alloc (.cells #[.int .u8 (48 + (u : Int))] 5))) := hide (by rw [decB_one h1]; exact conv_one _ (al_new _ _))
    have T0 := hide ((Touch.refl (fun _ => False) w).alloc (.cells #[.int .u8 (48 + (u : Int))] 5))
    have zw : IntKind.u64.wrap (48 + (u : Int)) = 48 + (u : Int) := by first | (rw [IntKind.wrap_u64]; omega) | (rw [IntKind.wrap_u8]; omega)
    have zw8 : IntKind.u8.wrap (48 + (u : Int)) = 48 + (u : Int) := by first | (rw [IntKind.wrap_u64]; omega) | (rw [IntKind.wrap_u8]; omega)
    clear ih
    go_enter Tryd.func43, Tryd.ntmps43
    have cv := CV.out
    go_wp2_with fail
    go_ret
    exact ⟨rfl, T0.out⟩
  · have z1 : ¬ (u : Int) < 10 := by omega
    have z2 : ((u / 10 : Nat) : Int) = (u : Int) / 10 := by omega
    have IH := hide (fun W => ih (u / 10) (by omega) (by omega) W)
    obtain ⟨x, hx⟩ : ∃ x : Nat, x = u % 10 := ⟨_, rfl⟩
    have hx10 : x < 10 := by omega
    have CV : Hid (∀ (W : World) (p : Nat), W.heap[p]? = some (.cells #[.int .u8 (48 + (x : Int))] 5 (0, 0)) → (convert 55 9 (.slice (some ⟨p, 0, none⟩) 1 1)).run Tryd.prog W = .ok (.string (strOfNums [48 + (x : Int)])) W) := hide fun W p hp => conv_one _ hp
    obtain ⟨D, hD⟩ : ∃ D, D = decB (u / 10) := ⟨_, rfl⟩
    obtain ⟨B, hB⟩ : ∃ B, B = strOfNums [48 + (x : Int)] := ⟨_, rfl⟩
    rw [← hB] at CV
    have HJ : Hid (D ++ B = decB u ∧ ¬ (9223372036854775807 : Int) < (D.size : Int) + (B.size : Int)) := hide ⟨by rw [hB, hx, hD, decB_more h1], by
      have h1 := decB_size (u := u / 10) (by omega)
      have h2 : B.size = 1 := by rw [hB, strOfNums_size]; rfl
      rw [hD]
      omega⟩
    have hxu : (x : Int) = (u : Int) % 10 := by omega
    rw [← hD] at IH
    clear hB hD
    generalize decB u = E at *
    clear ih
    go_enter Tryd.func43, Tryd.ntmps43
    go_wp2_with fail
    refine wp_region_held (S := Calm w) (by kernel_rfl) ?_
    have hT0 : Calm w { w with drawn := w.drawn + 1 } := (Touch.refl _ w).drew
    refine wpAnyH_yield 0 10 (.int .u64 (u : Int)) rfl rfl (by kernel_rfl) (by kernel_rfl) (by kernel_rfl) (fun _ _ _ h => h) (by kernel_rfl) (fun W hW => by kernel_rfl) (by assumption) rfl rfl ?_
    simp only [Act.put, List.setIfInBounds_toArray, List.set_cons_zero, List.set_cons_succ]
    refine wpAnyH_yield 1 11 (.int .u64 ((u / 10 : Nat) : Int)) rfl rfl (by kernel_rfl) (by kernel_rfl) (by kernel_rfl) (fun _ _ _ h => h) (by kernel_rfl) (fun W hW => by go_simp; first | done | (simp only [IntKind.wrap_u64]; omega) | (simp only [IntKind.wrap_u8]; omega)) (by assumption) rfl rfl ?_
    simp only [Act.put, List.setIfInBounds_toArray, List.set_cons_zero, List.set_cons_succ]
    refine wpAnyH_yield 3 13 (.int .u64 (u : Int)) rfl rfl (by kernel_rfl) (by kernel_rfl) (by kernel_rfl) (fun _ _ _ h => h) (by kernel_rfl) (fun W hW => by kernel_rfl) (by assumption) rfl rfl ?_
    simp only [Act.put, List.setIfInBounds_toArray, List.set_cons_zero, List.set_cons_succ]
    refine wpAnyH_yield 4 14 (.int .u64 (x : Int)) rfl rfl (by kernel_rfl) (by kernel_rfl) (by kernel_rfl) (fun _ _ _ h => h) (by kernel_rfl) (fun W hW => by go_simp; exact Int.tmod_eq_emod_of_nonneg (by omega)) (by assumption) rfl rfl ?_
    simp only [Act.put, List.setIfInBounds_toArray, List.set_cons_zero, List.set_cons_succ]
    refine wpAnyH_yield 5 15 (.int .u64 (48 + (x : Int))) rfl rfl (by kernel_rfl) (by kernel_rfl) (by kernel_rfl) (fun _ _ _ h => h) (by kernel_rfl) (fun W hW => by go_simp; first | done | (simp only [IntKind.wrap_u64]; omega) | (simp only [IntKind.wrap_u8]; omega)) (by assumption) rfl rfl ?_
    simp only [Act.put, List.setIfInBounds_toArray, List.set_cons_zero, List.set_cons_succ]
    refine wpAnyH_yield 6 16 (.int .u8 (48 + (x : Int))) rfl rfl (by kernel_rfl) (by kernel_rfl) (by kernel_rfl) (fun _ _ _ h => h) (by kernel_rfl) (fun W hW => by go_simp; first | done | (simp only [IntKind.wrap_u64]; omega) | (simp only [IntKind.wrap_u8]; omega)) (by assumption) rfl rfl ?_
    simp only [Act.put, List.setIfInBounds_toArray, List.set_cons_zero, List.set_cons_succ]
    clear hxu hx
    refine wpAnyH_all (rs := [2, 7]) (by kernel_rfl) (by simp) ?_
    intro j hj
    rcases (by simpa using hj : j = 2 ∨ j = 7) with rfl | rfl
    · refine wpOp_enter 2 12 43 #[.int .u64 ((u / 10 : Nat) : Int)] rfl rfl (by kernel_rfl) (by kernel_rfl) ?_
      refine (IH.out _).mono ?_
      rintro r wa ⟨rfl, Twa⟩
      have ha : Calm w wa := hT0.tr Twa
      refine ⟨_, rfl, ha, ?_⟩
      simp only [Act.put, List.setIfInBounds_toArray, List.set_cons_zero, List.set_cons_succ]
      refine wpAnyH_all (rs := [7]) (by kernel_rfl) (by simp) ?_
      intro j hj
      obtain rfl : j = 7 := by simpa using hj
      refine wpOp_value 7 17 (.slice (some ⟨(wa).heap.size, 0, none⟩) 1 1) (w' := (wa).alloc (.cells #[.int .u8 (48 + (x : Int))] 5)) rfl rfl (by kernel_rfl) (by go_simp) ?_
      refine ⟨ha.alloc _, ?_⟩
      simp only [Act.put, List.setIfInBounds_toArray, List.set_cons_zero, List.set_cons_succ]
      have A2 := al_new (wa) (.cells #[.int .u8 (48 + (x : Int))] 5)
      have hb : Calm w ((wa).alloc (.cells #[.int .u8 (48 + (x : Int))] 5)) := ha.alloc _
      generalize (wa).alloc (.cells #[.int .u8 (48 + (x : Int))] 5) = wb at *
      refine wpAnyH_all (rs := [8]) (by kernel_rfl) (by simp) ?_
      intro j hj
      obtain rfl : j = 8 := by simpa using hj
      refine wpOp_value 8 18 (.string B) (w' := wb) rfl rfl (by kernel_rfl) (by have q := CV.out _ _ A2; go_simp) ?_
      refine ⟨hb, ?_⟩
      simp only [Act.put, List.setIfInBounds_toArray, List.set_cons_zero, List.set_cons_succ]
      refine wpAnyH_yield 9 19 (.string E) rfl rfl (by kernel_rfl) (by kernel_rfl) (by kernel_rfl) (fun _ _ _ h => h) (by kernel_rfl) (fun W hW => by obtain ⟨q1, q2⟩ := HJ.out; go_simp; omega) (by assumption) rfl rfl ?_
      simp only [Act.put, List.setIfInBounds_toArray, List.set_cons_zero, List.set_cons_succ]
      refine wpAnyH_yield 10 2 (.string E) rfl rfl (by kernel_rfl) (by kernel_rfl) (by kernel_rfl) (fun _ _ _ h => h) (by kernel_rfl) (fun W hW => by kernel_rfl) (by assumption) rfl rfl ?_
      simp only [Act.put, List.setIfInBounds_toArray, List.set_cons_zero, List.set_cons_succ]
      refine wpAnyH_done (by kernel_rfl) ?_ _
      have HF := hide hb
      go_wp2_with fail
      go_ret
      exact ⟨rfl, HF.out⟩
    · refine wpOp_value 7 17 (.slice (some ⟨({ w with drawn := w.drawn + 1 } : World).heap.size, 0, none⟩) 1 1) (w' := ({ w with drawn := w.drawn + 1 } : World).alloc (.cells #[.int .u8 (48 + (x : Int))] 5)) rfl rfl (by kernel_rfl) (by go_simp) ?_
      refine ⟨hT0.alloc _, ?_⟩
      simp only [Act.put, List.setIfInBounds_toArray, List.set_cons_zero, List.set_cons_succ]
      have A2 := al_new ({ w with drawn := w.drawn + 1 } : World) (.cells #[.int .u8 (48 + (x : Int))] 5)
      have ha : Calm w (({ w with drawn := w.drawn + 1 } : World).alloc (.cells #[.int .u8 (48 + (x : Int))] 5)) := hT0.alloc _
      generalize ({ w with drawn := w.drawn + 1 } : World).alloc (.cells #[.int .u8 (48 + (x : Int))] 5) = wa at *
      refine wpAnyH_all (rs := [2, 8]) (by kernel_rfl) (by simp) ?_
      intro j hj
      rcases (by simpa using hj : j = 2 ∨ j = 8) with rfl | rfl
      · refine wpOp_enter 2 12 43 #[.int .u64 ((u / 10 : Nat) : Int)] rfl rfl (by kernel_rfl) (by kernel_rfl) ?_
        refine (IH.out _).mono ?_
        rintro r wb ⟨rfl, Twb⟩
        have hb : Calm w wb := ha.tr Twb
        refine ⟨_, rfl, hb, ?_⟩
        simp only [Act.put, List.setIfInBounds_toArray, List.set_cons_zero, List.set_cons_succ]
        have A3 := Twb.at A2
        refine wpAnyH_all (rs := [8]) (by kernel_rfl) (by simp) ?_
        intro j hj
        obtain rfl : j = 8 := by simpa using hj
        refine wpOp_value 8 18 (.string B) (w' := wb) rfl rfl (by kernel_rfl) (by have q := CV.out _ _ A3; go_simp) ?_
        refine ⟨hb, ?_⟩
        simp only [Act.put, List.setIfInBounds_toArray, List.set_cons_zero, List.set_cons_succ]
        refine wpAnyH_yield 9 19 (.string E) rfl rfl (by kernel_rfl) (by kernel_rfl) (by kernel_rfl) (fun _ _ _ h => h) (by kernel_rfl) (fun W hW => by obtain ⟨q1, q2⟩ := HJ.out; go_simp; omega) (by assumption) rfl rfl ?_
        simp only [Act.put, List.setIfInBounds_toArray, List.set_cons_zero, List.set_cons_succ]
        refine wpAnyH_yield 10 2 (.string E) rfl rfl (by kernel_rfl) (by kernel_rfl) (by kernel_rfl) (fun _ _ _ h => h) (by kernel_rfl) (fun W hW => by kernel_rfl) (by assumption) rfl rfl ?_
        simp only [Act.put, List.setIfInBounds_toArray, List.set_cons_zero, List.set_cons_succ]
        refine wpAnyH_done (by kernel_rfl) ?_ _
        have HF := hide hb
        go_wp2_with fail
        go_ret
        exact ⟨rfl, HF.out⟩
      · refine wpOp_value 8 18 (.string B) (w' := wa) rfl rfl (by kernel_rfl) (by have q := CV.out _ _ A2; go_simp) ?_
        refine ⟨ha, ?_⟩
        simp only [Act.put, List.setIfInBounds_toArray, List.set_cons_zero, List.set_cons_succ]
        refine wpAnyH_all (rs := [2]) (by kernel_rfl) (by simp) ?_
        intro j hj
        obtain rfl : j = 2 := by simpa using hj
        refine wpOp_enter 2 12 43 #[.int .u64 ((u / 10 : Nat) : Int)] rfl rfl (by kernel_rfl) (by kernel_rfl) ?_
        refine (IH.out _).mono ?_
        rintro r wb ⟨rfl, Twb⟩
        have hb : Calm w wb := ha.tr Twb
        refine ⟨_, rfl, hb, ?_⟩
        simp only [Act.put, List.setIfInBounds_toArray, List.set_cons_zero, List.set_cons_succ]
        refine wpAnyH_yield 9 19 (.string E) rfl rfl (by kernel_rfl) (by kernel_rfl) (by kernel_rfl) (fun _ _ _ h => h) (by kernel_rfl) (fun W hW => by obtain ⟨q1, q2⟩ := HJ.out; go_simp; omega) (by assumption) rfl rfl ?_
        simp only [Act.put, List.setIfInBounds_toArray, List.set_cons_zero, List.set_cons_succ]
        refine wpAnyH_yield 10 2 (.string E) rfl rfl (by kernel_rfl) (by kernel_rfl) (by kernel_rfl) (fun _ _ _ h => h) (by kernel_rfl) (fun W hW => by kernel_rfl) (by assumption) rfl rfl ?_
        simp only [Act.put, List.setIfInBounds_toArray, List.set_cons_zero, List.set_cons_succ]
        refine wpAnyH_done (by kernel_rfl) ?_ _
        have HF := hide hb
        go_wp2_with fail
        go_ret
        exact ⟨rfl, HF.out⟩

end Go.Proofs.YtamfcmmhmfhhkaaDoor

namespace Go.Proofs.YtamfcmmhmfhhkaaDoor
open Go.RowKit

set_option maxRecDepth 100000 in
set_option maxHeartbeats 1000000 in
theorem digitsI_any (n : Int) (h0 : -9223372036854775808 ≤ n) (h1 : n ≤ 9223372036854775807) (w : World) : Calls Tryd.prog 29 #[.int .i64 n] w fun e w' => e = .returned (.string (intB n)) ∧ Calm w w' := by
  by_cases h : 0 ≤ n
  · have C := hide (digits_any n.toNat (by omega) w)
    have e : ((n.toNat : Nat) : Int) = n := by omega
    rw [e, ← intB_pos h] at C
    have z1 : ¬ n < 0 := by omega
    have zw : IntKind.u64.wrap n = n := by rw [IntKind.wrap_u64]; omega
    generalize intB n = X at *
    clear e
    go_enter Tryd.func29, Tryd.ntmps29
    go_wp2_with fail
    refine C.out.mono ?_
    rintro r w1 ⟨rfl, T1⟩
    have HT := hide T1
    clear T1 C
    go_wp2_with fail
    go_ret
    exact ⟨rfl, HT.out⟩
  · have hn : n < 0 := by omega
    have C := hide (digits_any n.natAbs (by omega) w)
    have e : ((n.natAbs : Nat) : Int) = -(n + 1) + 1 := by omega
    rw [e] at C
    have za : IntKind.i64.wrap (n + 1) = n + 1 := by rw [IntKind.wrap_i64]; omega
    have zb : IntKind.i64.wrap (-(n + 1)) = -(n + 1) := by rw [IntKind.wrap_i64]; omega
    have zc : IntKind.u64.wrap (-(n + 1)) = -(n + 1) := by rw [IntKind.wrap_u64]; omega
    have zd : IntKind.u64.wrap (-(n + 1) + 1) = -(n + 1) + 1 := by rw [IntKind.wrap_u64]; omega
    have HJ : Hid ((⟨#[45]⟩ : ByteArray) ++ decB n.natAbs = intB n ∧ (⟨#[45]⟩ : ByteArray).size + (decB n.natAbs).size ≤ 1000000) := hide ⟨(intB_neg hn).symm, by
      have := decB_size (u := n.natAbs) (by omega)
      have e : (⟨#[45]⟩ : ByteArray).size = 1 := rfl
      omega⟩
    have G0 : Hid (binOp .add 9 (.string ⟨#[45]⟩) (.string (decB n.natAbs)) = pure (.string (intB n))) := hide (by rw [← HJ.out.1]; exact st_join _ _ _ HJ.out.2)
    generalize decB n.natAbs = D at *
    generalize intB n = X at *
    clear e HJ
    go_enter Tryd.func29, Tryd.ntmps29
    go_wp2_with fail
    refine C.out.mono ?_
    rintro r w1 ⟨rfl, T1⟩
    have HT := hide T1
    clear T1 C
    have g := G0.out
    go_wp2_with fail
    go_ret
    exact ⟨rfl, HT.out⟩

end Go.Proofs.YtamfcmmhmfhhkaaDoor
