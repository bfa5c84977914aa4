/- RoutePlays: the law's step, kind 1. -/
import Derived.Test.YtapnjofplilefaaGreatX4
namespace Go.Proofs.YtapnjofplilefaaGreat
open Go.RowKit

set_option maxRecDepth 100000 in
set_option maxHeartbeats 4000000 in
theorem stepZ_1e {c : Cf} {p g b Wb : Nat} {th : Nat → Th} {m : Nat} {T : Int} {oo : Option Addr} {oc : Nat} {wo : Option Addr} {wc : Nat} {w : World} (h : Wl c p g b Wb th m T oo oc wo wc w) (on : Int) (k : Nat) (hk2 : k < 2) (hk : (wrap64 (on.tmod 2 + 2)).tmod 2 = (k : Int)) (M : List It) (mo : Option Addr) (mc : Nat) (ke : ByteArray) (hm : m ≤ 10) (hn : M.length = 0) : Calls Tryz.prog 7 #[cp Wb, .agg #[.int .i64 1, .int .i64 on, .slice mo M.length mc, .string ke]] w (RetW c p g b Wb (T + M.length) w) := by
  obtain ⟨q, r, L, s, G0, G1, hc, hp, hr, hd, hlt, hS, hT, h0, h1, fin⟩ := h.two k hk2
  have A0 := hide (al_new w (.cells #[.int .i64 1, .int .i64 on, .slice mo M.length mc, .string ke] 44))
  have T0 := hide ((Touch.refl (fun _ => False) w).alloc (.cells #[.int .i64 1, .int .i64 on, .slice mo M.length mc, .string ke] 44))
  have S0 := hide (al_size w (.cells #[.int .i64 1, .int .i64 on, .slice mo M.length mc, .string ke] 44))
  have HC := hide hc
  have K2 : (k : Int) < 2 := by omega
  have K0 : ¬ (k : Int) < 0 := by omega
  obtain ⟨a0, a1, a2, a3⟩ := st_cells A0.out
  have FIN : Hid (∀ W, Calm w W → RetW c p g b Wb (T + M.length) w (.returned (.bool true)) W) := hide fun W hW => RetW.calm h hm (by omega) hW
  clear h hp hr hlt fin hc
  generalize M.length = n at *
  subst hn
  go_enter Tryz.func7, Tryz.ntmps7
  go_wp2_with fail
  generalize w.alloc (.cells #[.int .i64 1, .int .i64 on, .slice mo 0 mc, .string ke] 44) = w1 at *
  generalize hD : w.heap.size = D at *
  have HD := hide hD
  clear hD a0 a1 a2 a3
  refine wp_region_held (S := Calm w1) (by kernel_rfl) ?_
  have hT0 : Calm w1 { w1 with drawn := w1.drawn + 1 } := (Touch.refl _ w1).drew
  refine wpAnyH_yield 0 33 (cp Wb) rfl rfl (by kernel_rfl) (by kernel_rfl) (by kernel_rfl) (fun _ _ _ h => h) (by kernel_rfl) (fun W hW => by kernel_rfl) (by assumption) rfl rfl ?_
  simp only [Act.put, List.setIfInBounds_toArray, List.set_cons_zero, List.set_cons_succ]
  refine wpAnyH_yield 1 34 (.int .i64 (k : Int)) rfl rfl (by kernel_rfl) (by kernel_rfl) (by kernel_rfl) (fun _ _ _ h => h) (by kernel_rfl) (fun W hW => by kernel_rfl) (by assumption) rfl rfl ?_
  simp only [Act.put, List.setIfInBounds_toArray, List.set_cons_zero, List.set_cons_succ]
  refine wpAnyH_yield 2 35 (cp Wb) rfl rfl (by kernel_rfl) (by kernel_rfl) (by kernel_rfl) (fun _ _ _ h => h) (by kernel_rfl) (fun W hW => by go_simp) (by assumption) rfl rfl ?_
  simp only [Act.put, List.setIfInBounds_toArray, List.set_cons_zero, List.set_cons_succ]
  refine wpAnyH_yield 3 36 (.pointer (some ⟨Wb, 0, none⟩)) rfl rfl (by kernel_rfl) (by kernel_rfl) (by kernel_rfl) (fun _ _ _ h => h) (by kernel_rfl) (fun W hW => by go_simp) (by assumption) rfl rfl ?_
  simp only [Act.put, List.setIfInBounds_toArray, List.set_cons_zero, List.set_cons_succ]
  refine wpAnyH_yield 4 37 (.pointer (some ⟨Wb, k, none⟩)) rfl rfl (by kernel_rfl) (by kernel_rfl) (by kernel_rfl) (fun _ _ _ h => h) (by kernel_rfl) (fun W hW => by go_simp) (by assumption) rfl rfl ?_
  simp only [Act.put, List.setIfInBounds_toArray, List.set_cons_zero, List.set_cons_succ]
  refine wpAnyH_yield 5 38 (cp q) rfl rfl (by kernel_rfl) (by kernel_rfl) (by kernel_rfl) (fun _ _ _ h => h) (by kernel_rfl) (fun W hW => by obtain ⟨k0, -⟩ := HC.out W (T0.out.tr hW); go_simp) (by assumption) rfl rfl ?_
  simp only [Act.put, List.setIfInBounds_toArray, List.set_cons_zero, List.set_cons_succ]
  refine wpAnyH_yield 6 39 (cp Wb) rfl rfl (by kernel_rfl) (by kernel_rfl) (by kernel_rfl) (fun _ _ _ h => h) (by kernel_rfl) (fun W hW => by kernel_rfl) (by assumption) rfl rfl ?_
  simp only [Act.put, List.setIfInBounds_toArray, List.set_cons_zero, List.set_cons_succ]
  refine wpAnyH_yield 7 40 (.int .i64 (k : Int)) rfl rfl (by kernel_rfl) (by kernel_rfl) (by kernel_rfl) (fun _ _ _ h => h) (by kernel_rfl) (fun W hW => by kernel_rfl) (by assumption) rfl rfl ?_
  simp only [Act.put, List.setIfInBounds_toArray, List.set_cons_zero, List.set_cons_succ]
  refine wpAnyH_yield 8 41 (cp Wb) rfl rfl (by kernel_rfl) (by kernel_rfl) (by kernel_rfl) (fun _ _ _ h => h) (by kernel_rfl) (fun W hW => by go_simp) (by assumption) rfl rfl ?_
  simp only [Act.put, List.setIfInBounds_toArray, List.set_cons_zero, List.set_cons_succ]
  refine wpAnyH_yield 9 42 (.pointer (some ⟨Wb, 2, none⟩)) rfl rfl (by kernel_rfl) (by kernel_rfl) (by kernel_rfl) (fun _ _ _ h => h) (by kernel_rfl) (fun W hW => by go_simp) (by assumption) rfl rfl ?_
  simp only [Act.put, List.setIfInBounds_toArray, List.set_cons_zero, List.set_cons_succ]
  refine wpAnyH_yield 10 43 (.pointer (some ⟨Wb, 2 + k, none⟩)) rfl rfl (by kernel_rfl) (by kernel_rfl) (by kernel_rfl) (fun _ _ _ h => h) (by kernel_rfl) (fun W hW => by go_simp) (by assumption) rfl rfl ?_
  simp only [Act.put, List.setIfInBounds_toArray, List.set_cons_zero, List.set_cons_succ]
  refine wpAnyH_yield 11 44 (cp r) rfl rfl (by kernel_rfl) (by kernel_rfl) (by kernel_rfl) (fun _ _ _ h => h) (by kernel_rfl) (fun W hW => by obtain ⟨-, k0⟩ := HC.out W (T0.out.tr hW); go_simp) (by assumption) rfl rfl ?_
  simp only [Act.put, List.setIfInBounds_toArray, List.set_cons_zero, List.set_cons_succ]
  refine wpAnyH_yield 12 6 (cp q) rfl rfl (by kernel_rfl) (by kernel_rfl) (by kernel_rfl) (fun _ _ _ h => h) (by kernel_rfl) (fun W hW => by kernel_rfl) (by assumption) rfl rfl ?_
  simp only [Act.put, List.setIfInBounds_toArray, List.set_cons_zero, List.set_cons_succ]
  refine wpAnyH_yield 13 7 (cp r) rfl rfl (by kernel_rfl) (by kernel_rfl) (by kernel_rfl) (fun _ _ _ h => h) (by kernel_rfl) (fun W hW => by kernel_rfl) (by assumption) rfl rfl ?_
  simp only [Act.put, List.setIfInBounds_toArray, List.set_cons_zero, List.set_cons_succ]
  refine wpAnyH_done (by kernel_rfl) ?_ _
  have A1 := hide (hT0.at A0.out)
  have T1 := hide (T0.out.tr hT0)
  have SZ2 : Hid (({ w1 with drawn := w1.drawn + 1 } : World).heap.size = D + 1) := hide S0.out
  clear A0 T0 S0 HC
  generalize ({ w1 with drawn := w1.drawn + 1 } : World) = w2 at *
  clear hT0
  obtain ⟨a0, a1, a2, a3⟩ := st_cells A1.out
  go_wp2_with fail
  go_ret
  exact FIN.out _ T1.out

set_option maxRecDepth 100000 in
set_option maxHeartbeats 4000000 in
theorem stepZ_1n {c : Cf} {p g b Wb : Nat} {th : Nat → Th} {m : Nat} {T : Int} {oo : Option Addr} {oc : Nat} {wo : Option Addr} {wc : Nat} {w : World} (h : Wl c p g b Wb th m T oo oc wo wc w) (on : Int) (k : Nat) (hk2 : k < 2) (hk : (wrap64 (on.tmod 2 + 2)).tmod 2 = (k : Int)) (M : List It) (mo : Option Addr) (mc : Nat) (ke : ByteArray) (hM : encI.Sl w mo mc M) (hb : ∀ a, mo = some a → M ≠ [] → a.block < b) (hm : m ≤ 10) (hn : 0 < M.length) (hz : itemZ c (M.getD 0 it0) = false) : Calls Tryz.prog 7 #[cp Wb, .agg #[.int .i64 1, .int .i64 on, .slice mo M.length mc, .string ke]] w (RetW c p g b Wb (T + M.length) w) := by
  obtain ⟨q, r, L, s, G0, G1, hc, hp, hr, hd, hlt, hS, hT, h0, h1, fin⟩ := h.two k hk2
  have A0 := hide (al_new w (.cells #[.int .i64 1, .int .i64 on, .slice mo M.length mc, .string ke] 44))
  have T0 := hide ((Touch.refl (fun _ => False) w).alloc (.cells #[.int .i64 1, .int .i64 on, .slice mo M.length mc, .string ke] 44))
  have S0 := hide (al_size w (.cells #[.int .i64 1, .int .i64 on, .slice mo M.length mc, .string ke] 44))
  have HC := hide hc
  have K2 : (k : Int) < 2 := by omega
  have K0 : ¬ (k : Int) < 0 := by omega
  obtain ⟨a0, a1, a2, a3⟩ := st_cells A0.out
  obtain ⟨gg, off, rfl, ci⟩ := items_W (F := G0) hM.mem (fun a ha hne hg => by have := hb a ha hne; have := (hlt _ (.inl hg)).1; omega) 0 hn
  have hM0 : ∀ W, Calm w W → _ := fun W hW => ci W (hW.mono fun _ _ h => h.elim)
  simp only [Nat.zero_mul, Nat.add_zero] at ci hM0
  have gb : gg < b := hb _ rfl (by intro e; rw [e] at hn; simp at hn)
  generalize M.getD 0 it0 = x at *
  have IY := hide (fun W (hW : Calm w W) => itemR_no x (hp.calm hW) hS hz)
  have IX := hide (fun W (hW : Calm w W) => ritemR_no x (hr.calm hW) hz)
  have MI := hide hM0
  have FIN : Hid (∀ W, Calm w W → RetW c p g b Wb (T + M.length) w (.returned (.bool true)) W) := hide fun W hW => RetW.calm h hm (by omega) hW
  clear h hp hr hlt fin hc hM hb ci hM0 hz
  generalize M.length = n at *
  have hnz : ¬ (n : Int) = 0 := by omega
  have hnp : 0 < (n : Int) := by omega
  obtain ⟨ki, kx, tm, va, sr⟩ := x
  go_enter Tryz.func7, Tryz.ntmps7
  go_wp2_with fail
  generalize w.alloc (.cells #[.int .i64 1, .int .i64 on, .slice (some ⟨gg, off, none⟩) n mc, .string ke] 44) = w1 at *
  generalize hD : w.heap.size = D at *
  have HD := hide hD
  clear hD a0 a1 a2 a3
  refine wp_region_held (S := Calm w1) (by kernel_rfl) ?_
  have hT0 : Calm w1 { w1 with drawn := w1.drawn + 1 } := (Touch.refl _ w1).drew
  refine wpAnyH_yield 0 33 (cp Wb) rfl rfl (by kernel_rfl) (by kernel_rfl) (by kernel_rfl) (fun _ _ _ h => h) (by kernel_rfl) (fun W hW => by kernel_rfl) (by assumption) rfl rfl ?_
  simp only [Act.put, List.setIfInBounds_toArray, List.set_cons_zero, List.set_cons_succ]
  refine wpAnyH_yield 1 34 (.int .i64 (k : Int)) rfl rfl (by kernel_rfl) (by kernel_rfl) (by kernel_rfl) (fun _ _ _ h => h) (by kernel_rfl) (fun W hW => by kernel_rfl) (by assumption) rfl rfl ?_
  simp only [Act.put, List.setIfInBounds_toArray, List.set_cons_zero, List.set_cons_succ]
  refine wpAnyH_yield 2 35 (cp Wb) rfl rfl (by kernel_rfl) (by kernel_rfl) (by kernel_rfl) (fun _ _ _ h => h) (by kernel_rfl) (fun W hW => by go_simp) (by assumption) rfl rfl ?_
  simp only [Act.put, List.setIfInBounds_toArray, List.set_cons_zero, List.set_cons_succ]
  refine wpAnyH_yield 3 36 (.pointer (some ⟨Wb, 0, none⟩)) rfl rfl (by kernel_rfl) (by kernel_rfl) (by kernel_rfl) (fun _ _ _ h => h) (by kernel_rfl) (fun W hW => by go_simp) (by assumption) rfl rfl ?_
  simp only [Act.put, List.setIfInBounds_toArray, List.set_cons_zero, List.set_cons_succ]
  refine wpAnyH_yield 4 37 (.pointer (some ⟨Wb, k, none⟩)) rfl rfl (by kernel_rfl) (by kernel_rfl) (by kernel_rfl) (fun _ _ _ h => h) (by kernel_rfl) (fun W hW => by go_simp) (by assumption) rfl rfl ?_
  simp only [Act.put, List.setIfInBounds_toArray, List.set_cons_zero, List.set_cons_succ]
  refine wpAnyH_yield 5 38 (cp q) rfl rfl (by kernel_rfl) (by kernel_rfl) (by kernel_rfl) (fun _ _ _ h => h) (by kernel_rfl) (fun W hW => by obtain ⟨k0, -⟩ := HC.out W (T0.out.tr hW); go_simp) (by assumption) rfl rfl ?_
  simp only [Act.put, List.setIfInBounds_toArray, List.set_cons_zero, List.set_cons_succ]
  refine wpAnyH_yield 6 39 (cp Wb) rfl rfl (by kernel_rfl) (by kernel_rfl) (by kernel_rfl) (fun _ _ _ h => h) (by kernel_rfl) (fun W hW => by kernel_rfl) (by assumption) rfl rfl ?_
  simp only [Act.put, List.setIfInBounds_toArray, List.set_cons_zero, List.set_cons_succ]
  refine wpAnyH_yield 7 40 (.int .i64 (k : Int)) rfl rfl (by kernel_rfl) (by kernel_rfl) (by kernel_rfl) (fun _ _ _ h => h) (by kernel_rfl) (fun W hW => by kernel_rfl) (by assumption) rfl rfl ?_
  simp only [Act.put, List.setIfInBounds_toArray, List.set_cons_zero, List.set_cons_succ]
  refine wpAnyH_yield 8 41 (cp Wb) rfl rfl (by kernel_rfl) (by kernel_rfl) (by kernel_rfl) (fun _ _ _ h => h) (by kernel_rfl) (fun W hW => by go_simp) (by assumption) rfl rfl ?_
  simp only [Act.put, List.setIfInBounds_toArray, List.set_cons_zero, List.set_cons_succ]
  refine wpAnyH_yield 9 42 (.pointer (some ⟨Wb, 2, none⟩)) rfl rfl (by kernel_rfl) (by kernel_rfl) (by kernel_rfl) (fun _ _ _ h => h) (by kernel_rfl) (fun W hW => by go_simp) (by assumption) rfl rfl ?_
  simp only [Act.put, List.setIfInBounds_toArray, List.set_cons_zero, List.set_cons_succ]
  refine wpAnyH_yield 10 43 (.pointer (some ⟨Wb, 2 + k, none⟩)) rfl rfl (by kernel_rfl) (by kernel_rfl) (by kernel_rfl) (fun _ _ _ h => h) (by kernel_rfl) (fun W hW => by go_simp) (by assumption) rfl rfl ?_
  simp only [Act.put, List.setIfInBounds_toArray, List.set_cons_zero, List.set_cons_succ]
  refine wpAnyH_yield 11 44 (cp r) rfl rfl (by kernel_rfl) (by kernel_rfl) (by kernel_rfl) (fun _ _ _ h => h) (by kernel_rfl) (fun W hW => by obtain ⟨-, k0⟩ := HC.out W (T0.out.tr hW); go_simp) (by assumption) rfl rfl ?_
  simp only [Act.put, List.setIfInBounds_toArray, List.set_cons_zero, List.set_cons_succ]
  refine wpAnyH_yield 12 6 (cp q) rfl rfl (by kernel_rfl) (by kernel_rfl) (by kernel_rfl) (fun _ _ _ h => h) (by kernel_rfl) (fun W hW => by kernel_rfl) (by assumption) rfl rfl ?_
  simp only [Act.put, List.setIfInBounds_toArray, List.set_cons_zero, List.set_cons_succ]
  refine wpAnyH_yield 13 7 (cp r) rfl rfl (by kernel_rfl) (by kernel_rfl) (by kernel_rfl) (fun _ _ _ h => h) (by kernel_rfl) (fun W hW => by kernel_rfl) (by assumption) rfl rfl ?_
  simp only [Act.put, List.setIfInBounds_toArray, List.set_cons_zero, List.set_cons_succ]
  refine wpAnyH_done (by kernel_rfl) ?_ _
  have A1 := hide (hT0.at A0.out)
  have T1 := hide (T0.out.tr hT0)
  have SZ2 : Hid (({ w1 with drawn := w1.drawn + 1 } : World).heap.size = D + 1) := hide S0.out
  clear A0 T0 S0 HC
  generalize ({ w1 with drawn := w1.drawn + 1 } : World) = w2 at *
  clear hT0
  obtain ⟨a0, a1, a2, a3⟩ := st_cells A1.out
  obtain ⟨i0, i1, i2, i3, i4⟩ := MI.out w2 T1.out
  go_wp2_with fail
  refine (IY.out _ T1.out).mono ?_
  rintro e w3 ⟨a, kc, rfl, OW, t3⟩
  have T3 := hide (T1.out.tr t3)
  have A3 := hide (t3.at A1.out)
  have O3 := hide OW
  clear a0 a1 a2 a3 i0 i1 i2 i3 i4 IY t3 A1 T1 OW
  obtain ⟨a0, a1, a2, a3⟩ := st_cells A3.out
  obtain ⟨i0, i1, i2, i3, i4⟩ := MI.out w3 T3.out
  go_wp2_with fail
  refine (IX.out _ T3.out).mono ?_
  rintro e w4 ⟨rfl, t4⟩
  have T4 := hide (T3.out.tr t4)
  have SM := hide (sameSent_any [] a none kc 0 w4 (Rc.Mem.nil _ _) (Rc.Mem.nil _ _) (by simp))
  clear a0 a1 a2 a3 i0 i1 i2 i3 i4 IX t4 T3 A3 O3 MI
  go_wp2_with fail
  refine SM.out.mono ?_
  rintro e w5 ⟨rfl, t5⟩
  have T5 := hide (T4.out.tr t5)
  clear SM T4 t5
  go_wp2_with fail
  go_loopw [13] (fun s13 wr => s13 = .int .i64 0 ∧ wr = w5) (fun _ _ => 0)
  case atStart => exact ⟨rfl, rfl⟩
  case round =>
    obtain ⟨rfl, rfl⟩ := hrel
    go_wp2_with fail
    go_ret
    exact FIN.out _ T5.out

set_option maxRecDepth 100000 in
set_option maxHeartbeats 4000000 in
theorem stepZ_1y {c : Cf} {p g b Wb : Nat} {th : Nat → Th} {m : Nat} {T : Int} {oo : Option Addr} {oc : Nat} {wo : Option Addr} {wc : Nat} {w : World} (h : Wl c p g b Wb th m T oo oc wo wc w) (on : Int) (k : Nat) (hk2 : k < 2) (hk : (wrap64 (on.tmod 2 + 2)).tmod 2 = (k : Int)) (M : List It) (mo : Option Addr) (mc : Nat) (ke : ByteArray) (hM : encI.Sl w mo mc M) (hb : ∀ a, mo = some a → M ≠ [] → a.block < b) (hm : m ≤ 10) (hn : 0 < M.length) (hz : itemZ c (M.getD 0 it0) = true) (hT9 : T + M.length ≤ 4611686018427387904) : Calls Tryz.prog 7 #[cp Wb, .agg #[.int .i64 1, .int .i64 on, .slice mo M.length mc, .string ke]] w (RetW c p g b Wb (T + M.length) w) := by
  obtain ⟨q, r, L, s, G0, G1, hc, hp, hr, hd, hlt, hS, hT, h0, h1, fin⟩ := h.two k hk2
  have A0 := hide (al_new w (.cells #[.int .i64 1, .int .i64 on, .slice mo M.length mc, .string ke] 44))
  have T0 := hide ((Touch.refl (fun _ => False) w).alloc (.cells #[.int .i64 1, .int .i64 on, .slice mo M.length mc, .string ke] 44))
  have S0 := hide (al_size w (.cells #[.int .i64 1, .int .i64 on, .slice mo M.length mc, .string ke] 44))
  have HC := hide hc
  have K2 : (k : Int) < 2 := by omega
  have K0 : ¬ (k : Int) < 0 := by omega
  obtain ⟨a0, a1, a2, a3⟩ := st_cells A0.out
  obtain ⟨gg, off, rfl, ci⟩ := items_W (F := G0) hM.mem (fun a ha hne hg => by have := hb a ha hne; have := (hlt _ (.inl hg)).1; omega) 0 hn
  have hM0 : ∀ W, Calm w W → _ := fun W hW => ci W (hW.mono fun _ _ h => h.elim)
  simp only [Nat.zero_mul, Nat.add_zero] at ci hM0
  have gb : gg < b := hb _ rfl (by intro e; rw [e] at hn; simp at hn)
  generalize M.getD 0 it0 = x at *
  have IY := hide (fun W (hW : Calm w W) => itemR_yes x (hp.calm hW) hS hz)
  have IX := hide (fun W (hW : Rr W r G1 c p L s) => ritemR_yes x hW hS hz)
  have MI : Hid (∀ W, Touch G0 w W → _) := hide ci
  have ALN := hide (itemA_len hS s x)
  have FIN : Hid (∀ W, Touch (fun d => G0 d ∨ G1 d) w W → Pr W q G0 c p (itemL L x) (nxt s) → Rr W r G1 c p (itemL L x) (nxt s) → RetW c p g b Wb (T + M.length) w (.returned (.bool true)) W) := hide fun W ht h1' h2' => by
    have es : nxt s = s + 1 := by unfold nxt wrap64; omega
    obtain ⟨th', hw⟩ := fin W _ _ (T + M.length) ht h1' h2' (hS.next x) (allT_item hT hz) (by omega) (by omega) (by omega)
    exact ⟨rfl, ht.mono fun d _ hd => (hlt d hd).1, th', m, oo, oc, wo, wc, hm, hw⟩
  have HLT := hide hlt
  have HD0 := hide hd
  have HR := hide hr
  clear h hp hr hlt fin hc hM hb ci hM0 hz hd hT9
  generalize itemA p g L s x = A at *
  generalize itemL L x = L' at *
  generalize nxt s = s' at *
  generalize M.length = n at *
  have hnz : ¬ (n : Int) = 0 := by omega
  have hnp : 0 < (n : Int) := by omega
  obtain ⟨ki, kx, tm, va, sr⟩ := x
  go_enter Tryz.func7, Tryz.ntmps7
  go_wp2_with fail
  generalize w.alloc (.cells #[.int .i64 1, .int .i64 on, .slice (some ⟨gg, off, none⟩) n mc, .string ke] 44) = w1 at *
  generalize hD : w.heap.size = D at *
  have HD := hide hD
  clear hD a0 a1 a2 a3
  refine wp_region_held (S := Calm w1) (by kernel_rfl) ?_
  have hT0 : Calm w1 { w1 with drawn := w1.drawn + 1 } := (Touch.refl _ w1).drew
  refine wpAnyH_yield 0 33 (cp Wb) rfl rfl (by kernel_rfl) (by kernel_rfl) (by kernel_rfl) (fun _ _ _ h => h) (by kernel_rfl) (fun W hW => by kernel_rfl) (by assumption) rfl rfl ?_
  simp only [Act.put, List.setIfInBounds_toArray, List.set_cons_zero, List.set_cons_succ]
  refine wpAnyH_yield 1 34 (.int .i64 (k : Int)) rfl rfl (by kernel_rfl) (by kernel_rfl) (by kernel_rfl) (fun _ _ _ h => h) (by kernel_rfl) (fun W hW => by kernel_rfl) (by assumption) rfl rfl ?_
  simp only [Act.put, List.setIfInBounds_toArray, List.set_cons_zero, List.set_cons_succ]
  refine wpAnyH_yield 2 35 (cp Wb) rfl rfl (by kernel_rfl) (by kernel_rfl) (by kernel_rfl) (fun _ _ _ h => h) (by kernel_rfl) (fun W hW => by go_simp) (by assumption) rfl rfl ?_
  simp only [Act.put, List.setIfInBounds_toArray, List.set_cons_zero, List.set_cons_succ]
  refine wpAnyH_yield 3 36 (.pointer (some ⟨Wb, 0, none⟩)) rfl rfl (by kernel_rfl) (by kernel_rfl) (by kernel_rfl) (fun _ _ _ h => h) (by kernel_rfl) (fun W hW => by go_simp) (by assumption) rfl rfl ?_
  simp only [Act.put, List.setIfInBounds_toArray, List.set_cons_zero, List.set_cons_succ]
  refine wpAnyH_yield 4 37 (.pointer (some ⟨Wb, k, none⟩)) rfl rfl (by kernel_rfl) (by kernel_rfl) (by kernel_rfl) (fun _ _ _ h => h) (by kernel_rfl) (fun W hW => by go_simp) (by assumption) rfl rfl ?_
  simp only [Act.put, List.setIfInBounds_toArray, List.set_cons_zero, List.set_cons_succ]
  refine wpAnyH_yield 5 38 (cp q) rfl rfl (by kernel_rfl) (by kernel_rfl) (by kernel_rfl) (fun _ _ _ h => h) (by kernel_rfl) (fun W hW => by obtain ⟨k0, -⟩ := HC.out W (T0.out.tr hW); go_simp) (by assumption) rfl rfl ?_
  simp only [Act.put, List.setIfInBounds_toArray, List.set_cons_zero, List.set_cons_succ]
  refine wpAnyH_yield 6 39 (cp Wb) rfl rfl (by kernel_rfl) (by kernel_rfl) (by kernel_rfl) (fun _ _ _ h => h) (by kernel_rfl) (fun W hW => by kernel_rfl) (by assumption) rfl rfl ?_
  simp only [Act.put, List.setIfInBounds_toArray, List.set_cons_zero, List.set_cons_succ]
  refine wpAnyH_yield 7 40 (.int .i64 (k : Int)) rfl rfl (by kernel_rfl) (by kernel_rfl) (by kernel_rfl) (fun _ _ _ h => h) (by kernel_rfl) (fun W hW => by kernel_rfl) (by assumption) rfl rfl ?_
  simp only [Act.put, List.setIfInBounds_toArray, List.set_cons_zero, List.set_cons_succ]
  refine wpAnyH_yield 8 41 (cp Wb) rfl rfl (by kernel_rfl) (by kernel_rfl) (by kernel_rfl) (fun _ _ _ h => h) (by kernel_rfl) (fun W hW => by go_simp) (by assumption) rfl rfl ?_
  simp only [Act.put, List.setIfInBounds_toArray, List.set_cons_zero, List.set_cons_succ]
  refine wpAnyH_yield 9 42 (.pointer (some ⟨Wb, 2, none⟩)) rfl rfl (by kernel_rfl) (by kernel_rfl) (by kernel_rfl) (fun _ _ _ h => h) (by kernel_rfl) (fun W hW => by go_simp) (by assumption) rfl rfl ?_
  simp only [Act.put, List.setIfInBounds_toArray, List.set_cons_zero, List.set_cons_succ]
  refine wpAnyH_yield 10 43 (.pointer (some ⟨Wb, 2 + k, none⟩)) rfl rfl (by kernel_rfl) (by kernel_rfl) (by kernel_rfl) (fun _ _ _ h => h) (by kernel_rfl) (fun W hW => by go_simp) (by assumption) rfl rfl ?_
  simp only [Act.put, List.setIfInBounds_toArray, List.set_cons_zero, List.set_cons_succ]
  refine wpAnyH_yield 11 44 (cp r) rfl rfl (by kernel_rfl) (by kernel_rfl) (by kernel_rfl) (fun _ _ _ h => h) (by kernel_rfl) (fun W hW => by obtain ⟨-, k0⟩ := HC.out W (T0.out.tr hW); go_simp) (by assumption) rfl rfl ?_
  simp only [Act.put, List.setIfInBounds_toArray, List.set_cons_zero, List.set_cons_succ]
  refine wpAnyH_yield 12 6 (cp q) rfl rfl (by kernel_rfl) (by kernel_rfl) (by kernel_rfl) (fun _ _ _ h => h) (by kernel_rfl) (fun W hW => by kernel_rfl) (by assumption) rfl rfl ?_
  simp only [Act.put, List.setIfInBounds_toArray, List.set_cons_zero, List.set_cons_succ]
  refine wpAnyH_yield 13 7 (cp r) rfl rfl (by kernel_rfl) (by kernel_rfl) (by kernel_rfl) (fun _ _ _ h => h) (by kernel_rfl) (fun W hW => by kernel_rfl) (by assumption) rfl rfl ?_
  simp only [Act.put, List.setIfInBounds_toArray, List.set_cons_zero, List.set_cons_succ]
  refine wpAnyH_done (by kernel_rfl) ?_ _
  have A1 := hide (hT0.at A0.out)
  have T1 := hide (T0.out.tr hT0)
  have SZ2 : Hid (({ w1 with drawn := w1.drawn + 1 } : World).heap.size = D + 1) := hide S0.out
  clear A0 T0 S0 HC
  generalize ({ w1 with drawn := w1.drawn + 1 } : World) = w2 at *
  clear hT0
  obtain ⟨a0, a1, a2, a3⟩ := st_cells A1.out
  have T1G : Hid (Touch G0 w w2) := hide (T1.out.mono fun _ _ h => h.elim)
  obtain ⟨i0, i1, i2, i3, i4⟩ := MI.out w2 T1G.out
  go_wp2_with fail
  refine (IY.out _ T1.out).mono ?_
  rintro e w3 ⟨a, kc, rfl, OW, t3, P3⟩
  have T3 := hide (T1G.out.trans t3 fun _ _ h => h)
  have A3 := hide (t3.heap A1.out (fun hg => by have := (HLT.out _ (.inl hg)).2; have := HD.out; omega))
  have O3 := hide OW
  have P3 := hide P3
  have R3 := hide (HR.out.touch T3.out (fun d h1' h2' => HD0.out d h2' h1'))
  have W2S : Hid (w.heap.size ≤ w2.heap.size) := hide T1.out.size
  clear a0 a1 a2 a3 i0 i1 i2 i3 i4 IY t3 A1 T1 OW T1G
  obtain ⟨a0, a1, a2, a3⟩ := st_cells A3.out
  obtain ⟨i0, i1, i2, i3, i4⟩ := MI.out w3 T3.out
  go_wp2_with fail
  refine (IX.out _ R3.out).mono ?_
  rintro e w4 ⟨a', kc', rfl, OW, R4, t4⟩
  have T4 : Hid (Touch (fun d => G0 d ∨ G1 d) w w4) := hide ((T3.out.mono fun _ _ h => .inl h).trans (t4.mono fun _ _ h => .inr h) fun _ _ h => h)
  have O4 : Hid (encSn.Own 65 w4 w2.heap.size (.slice a A.length kc) A) := hide (Rc.Own.touch O3.out t4 fun d h1' h2' => by
    have := (own_lt O3.out h1').1
    have := (HLT.out d (.inr h2')).2
    have := W2S.out
    have := HD.out
    omega)
  have P4 := hide (P3.out.touch t4 (fun d h1' h2' => HD0.out d h1' h2'))
  have R4 := hide R4
  have SM := hide (sameSent_any A a a' kc kc' w4 (Rc.Own.mem O4.out).2.1 (Rc.Own.mem OW).2.1 (by have := ALN.out; omega))
  clear a0 a1 a2 a3 i0 i1 i2 i3 i4 IX t4 T3 A3 O3 MI P3 R3 OW HR
  have BK : Hid (0 < A.length → ∃ gz, a = some ⟨gz, 0, none⟩ ∧ w2.heap.size ≤ gz ∧ gz < w4.heap.size ∧ Bk w4 gz A.length w4) := hide fun h => Bk.of O4.out h
  clear O4
  generalize hln : A.length = ln at *
  clear hln
  go_wp2_with fail
  refine SM.out.mono ?_
  rintro e w5 ⟨rfl, t5⟩
  have T5 : Hid (Touch (fun d => G0 d ∨ G1 d) w w5) := hide (T4.out.trans (t5.mono fun _ _ h => h.elim) fun _ _ h => h)
  have P5 := hide (P4.out.calm t5)
  have R5 := hide (R4.out.calm t5)
  have C45 := hide t5
  clear SM T4 t5 P4 R4
  by_cases hl0 : ln = 0
  · subst hl0
    have F := hide (FIN.out w5 T5.out P5.out R5.out)
    clear BK FIN T5 P5 R5 C45
    go_wp2_with fail
    go_loopw [13] (fun s13 wr => s13 = .int .i64 0 ∧ wr = w5) (fun _ _ => 0)
    case atStart => exact ⟨rfl, rfl⟩
    case round =>
      obtain ⟨rfl, rfl⟩ := hrel
      go_wp2_with fail
      go_ret
      exact F.out
  · obtain ⟨gz, rfl, z1, z2, bk⟩ := BK.out (by omega)
    have BK5 : Hid (Bk w5 gz ln w5) := hide ⟨by obtain ⟨⟨cur, h1', h2'⟩, -⟩ := bk; exact ⟨cur, C45.out.at h1', h2'⟩, Touch.refl _ _⟩
    have FIN2 : Hid (∀ W, Bk w5 gz ln W → RetW c p g b Wb (T + n) w (.returned (.bool true)) W) := hide fun W hW => by
      have fr : w.heap.size ≤ gz := Nat.le_trans W2S.out z1
      have ng : ∀ d, G0 d ∨ G1 d → ¬ d = gz := fun d hd he => by have := (HLT.out d hd).2; have := HD.out; omega
      exact FIN.out W (T5.out.trans hW.2 fun d hd he => by have he : d = gz := he; omega) (P5.out.touch hW.2 fun d hd => ng d (.inl hd)) (R5.out.touch hW.2 fun d hd => ng d (.inr hd))
    have HLN : Hid (ln ≤ 32768) := ALN
    clear bk BK FIN T5 P5 R5 C45 z1 z2
    go_wp2_with fail
    go_loopw [13] (fun s13 wr => ∃ i : Nat, s13 = .int .i64 (i : Int) ∧ i ≤ ln ∧ Hid (Bk w5 gz ln wr)) (fun s13 _ => ln - (intOf s13).toNat)
    case atStart => exact ⟨0, rfl, by omega, BK5⟩
    case round =>
      obtain ⟨i, rfl, hi, HB⟩ := hrel
      clear BK5
      by_cases hlt9 : i < ln
      · have hltz : (i : Int) < (ln : Int) := by omega
        have zl : ¬ (ln : Int) ≤ (i : Int) := by omega
        obtain ⟨⟨⟨u0, f0⟩, ⟨u1, f1⟩, ⟨u2, f2⟩, ⟨u3, f3⟩, ⟨u4, f4⟩, ⟨u5, f5⟩⟩, fz⟩ := HB.out.free hlt9
        have NX := hide (HB.out.next i (.int .i64 (-9)) (.int .i64 0) (.int .i64 0) (.string ⟨#[]⟩) (.int .i64 0) (.int .i64 0))
        have zw : IntKind.i64.wrap ((i : Int) + 1) = ((i + 1 : Nat) : Int) := by rw [IntKind.wrap_i64]; have := HLN.out; omega
        have g0 := fz (i * 6)
        have g1 := fz (i * 6 + 1)
        have g2 := fz (i * 6 + 2)
        have g3 := fz (i * 6 + 3)
        have g4 := fz (i * 6 + 4)
        have g5 := fz (i * 6 + 5)
        clear fz HB FIN2
        go_wp2_with fail
        go_roundw
        case rel => exact ⟨i + 1, by first | rfl | go_num, by omega, NX⟩
        case measure => simp [intOf]; omega
      · have hltz : ¬ (i : Int) < (ln : Int) := by omega
        have F := hide (FIN2.out wr HB.out)
        clear HB FIN2
        go_wp2_with fail
        go_ret
        exact F.out


end Go.Proofs.YtapnjofplilefaaGreat
