/- The document's router: Item. -/
import Derived.Test.YtapnjofplilefaaGreatZD
import Derived.Test.YtapnjofplilefaaGreatZE
import Derived.Test.YtapnjofplilefaaGreatZG0
import Derived.Test.YtapnjofplilefaaGreatZ1
import Derived.Lib.MinMax
namespace Go.Proofs.YtapnjofplilefaaGreat
open Go.RowKit

set_option maxRecDepth 100000 in
set_option maxHeartbeats 4000000 in
theorem ritemR_no {w : World} {q : Nat} {F : Nat → Prop} {c : Cf} {p : Nat} {s : Int} {L : List Int} (x : It) (h : Rr w q F c p L s) (hz : itemZ c x = false) : Calls Tryz.prog 17 #[rp q, itv x] w fun e w' => e = .returned (.tuple #[.slice none 0 0, .int .i64 5]) ∧ Calm w w' := by
  have CI := fun w => hide (ritemZ_any c x w)
  rw [hz] at CI
  obtain ⟨lo, lc, cq, -⟩ := h.ex
  have KQ : Hid (∀ W, Calm w W → W.heap[q]? = some (.cells (rrc c p (.slice lo L.length lc) s) 53 (0, 0))) := hide fun W hW => hW.at cq
  have T0 := hide ((Touch.refl (fun _ => False) w).alloc (.cells (itc x) 60))
  have A0 := hide (al_new w (.cells (itc x) 60))
  obtain ⟨ki, ke, tm, va, sr⟩ := x
  clear hz h
  generalize L.length = n at *
  go_enter Tryz.func17, Tryz.ntmps17
  go_wp2_with fail
  generalize w.alloc (.cells (itc ⟨ki, ke, tm, va, sr⟩) 60) = w1 at *
  generalize hD : w.heap.size = D at *
  have HD := hide hD
  clear hD cq
  refine wp_region_held (S := Calm w1) (by kernel_rfl) ?_
  have hT0 : Calm w1 { w1 with drawn := w1.drawn + 1 } := (Touch.refl _ w1).drew
  refine wpAnyH_yield 0 11 (.pointer (some ⟨q, 0, none⟩)) rfl rfl (by kernel_rfl) (by kernel_rfl) (by kernel_rfl) (fun _ _ _ h => h) (by kernel_rfl) (fun W hW => by kernel_rfl) (by assumption) rfl rfl ?_
  simp only [Act.put, List.setIfInBounds_toArray, List.set_cons_zero, List.set_cons_succ]
  refine wpAnyH_yield 1 12 (.pointer (some ⟨q, 0, none⟩)) rfl rfl (by kernel_rfl) (by kernel_rfl) (by kernel_rfl) (fun _ _ _ h => h) (by kernel_rfl) (fun W hW => by go_simp) (by assumption) rfl rfl ?_
  simp only [Act.put, List.setIfInBounds_toArray, List.set_cons_zero, List.set_cons_succ]
  refine wpAnyH_yield 2 13 (.pointer (some ⟨q, 0, none⟩)) rfl rfl (by kernel_rfl) (by kernel_rfl) (by kernel_rfl) (fun _ _ _ h => h) (by kernel_rfl) (fun W hW => by go_simp) (by assumption) rfl rfl ?_
  simp only [Act.put, List.setIfInBounds_toArray, List.set_cons_zero, List.set_cons_succ]
  refine wpAnyH_yield 3 14 (cfv c) rfl rfl (by kernel_rfl) (by kernel_rfl) (by kernel_rfl) (fun _ _ _ h => h) (by kernel_rfl) (fun W hW => by obtain ⟨⟨k0, k1, k2, k3, k4, k5, k6, k7, k8, k9⟩, -⟩ := rr_cells (KQ.out W (T0.out.tr hW)); go_simp) (by assumption) rfl rfl ?_
  simp only [Act.put, List.setIfInBounds_toArray, List.set_cons_zero, List.set_cons_succ]
  refine wpAnyH_yield 4 15 (itv ⟨ki, ke, tm, va, sr⟩) rfl rfl (by kernel_rfl) (by kernel_rfl) (by kernel_rfl) (fun _ _ _ h => h) (by kernel_rfl) (fun W hW => by obtain ⟨k0, k1, k2, k3, k4⟩ := it_cells (hW.at A0.out); go_simp) (by assumption) rfl rfl ?_
  simp only [Act.put, List.setIfInBounds_toArray, List.set_cons_zero, List.set_cons_succ]
  refine wpAnyH_enter 5 16 33 #[cfv c, itv ⟨ki, ke, tm, va, sr⟩] rfl rfl (by kernel_rfl) (by kernel_rfl) (by kernel_rfl) ?_
  refine ((CI _).out).mono ?_
  rintro r w2 ⟨rfl, T2⟩
  refine ⟨_, rfl, hT0.tr T2, ?_⟩
  simp only [Act.put, List.setIfInBounds_toArray, List.set_cons_zero, List.set_cons_succ]
  have T3 := hT0.tr T2
  refine wpAnyH_yield 6 6 (.bool false) rfl rfl (by kernel_rfl) (by kernel_rfl) (by kernel_rfl) (fun _ _ _ h => h) (by kernel_rfl) (fun W hW => by kernel_rfl) (by assumption) rfl rfl ?_
  simp only [Act.put, List.setIfInBounds_toArray, List.set_cons_zero, List.set_cons_succ]
  refine wpAnyH_done (by kernel_rfl) ?_ _
  have HT := hide (T0.out.tr T3)
  have HI := hide (T3.at A0.out)
  clear hT0 T2 T3 CI T0 A0
  clear KQ HI
  go_wp2_with fail
  go_ret2
  exact ⟨rfl, HT.out⟩

set_option maxRecDepth 100000 in
set_option maxHeartbeats 4000000 in
theorem ritemR_1 {w : World} {q : Nat} {F : Nat → Prop} {c : Cf} {p g : Nat} {s : Int} {L : List Int} (x : It) (h : Rr w q F c p L s) (hS : Sit c p g L) (hz : itemZ c x = true) (hk : x.ki = 1) : Calls Tryz.prog 17 #[rp q, itv x] w fun e w' => ∃ a k, e = .returned (.tuple #[.slice a (itemA p g L s x).length k, .int .i64 0]) ∧ encSn.Own 65 w' w.heap.size (.slice a (itemA p g L s x).length k) (itemA p g L s x) ∧ Rr w' q F c p (itemL L x) (nxt s) ∧ Touch F w w' := by
  have CI := fun w => hide (ritemZ_any c x w)
  rw [hz] at CI
  obtain ⟨lo, lc, cq, -⟩ := h.ex
  have KQ : Hid (∀ W, Calm w W → W.heap[q]? = some (.cells (rrc c p (.slice lo L.length lc) s) 53 (0, 0))) := hide fun W hW => hW.at cq
  have T0 := hide ((Touch.refl (fun _ => False) w).alloc (.cells (itc x) 60))
  have A0 := hide (al_new w (.cells (itc x) 60))
  obtain ⟨ki, ke, tm, va, sr⟩ := x
  have hr0 := hide h
  have H1 := hide hS
  have hk : ki = 1 := hk
  subst hk
  have HS1 := hide (itemZ_1 hz rfl)
  have HA : Hid (itemA p g L s ⟨1, ke, tm, va, sr⟩ = [⟨(wk p g (hsh ke % g) : Nat), 1, s, ke, tm, va⟩] ∧ itemL L ⟨1, ke, tm, va, sr⟩ = L ∧ nxt s = wrap64 (s + 1)) := hide ⟨rfl, rfl, rfl⟩
  generalize itemA p g L s ⟨1, ke, tm, va, sr⟩ = A at *
  generalize itemL L ⟨1, ke, tm, va, sr⟩ = L' at *
  generalize nxt s = s' at *
  have CW := fun w => hide (rworkerZ_any ke (by have := HS1.out; have : ke.size ≤ 256 := this; omega) p g hS.may w)
  have hg := hS.gr
  clear hS hz h HS1
  generalize L.length = n at *
  go_enter Tryz.func17, Tryz.ntmps17
  go_wp2_with fail
  generalize w.alloc (.cells (itc ⟨1, ke, tm, va, sr⟩) 60) = w1 at *
  generalize hD : w.heap.size = D at *
  have HD := hide hD
  clear hD cq
  refine wp_region_held (S := Calm w1) (by kernel_rfl) ?_
  have hT0 : Calm w1 { w1 with drawn := w1.drawn + 1 } := (Touch.refl _ w1).drew
  refine wpAnyH_yield 0 11 (.pointer (some ⟨q, 0, none⟩)) rfl rfl (by kernel_rfl) (by kernel_rfl) (by kernel_rfl) (fun _ _ _ h => h) (by kernel_rfl) (fun W hW => by kernel_rfl) (by assumption) rfl rfl ?_
  simp only [Act.put, List.setIfInBounds_toArray, List.set_cons_zero, List.set_cons_succ]
  refine wpAnyH_yield 1 12 (.pointer (some ⟨q, 0, none⟩)) rfl rfl (by kernel_rfl) (by kernel_rfl) (by kernel_rfl) (fun _ _ _ h => h) (by kernel_rfl) (fun W hW => by go_simp) (by assumption) rfl rfl ?_
  simp only [Act.put, List.setIfInBounds_toArray, List.set_cons_zero, List.set_cons_succ]
  refine wpAnyH_yield 2 13 (.pointer (some ⟨q, 0, none⟩)) rfl rfl (by kernel_rfl) (by kernel_rfl) (by kernel_rfl) (fun _ _ _ h => h) (by kernel_rfl) (fun W hW => by go_simp) (by assumption) rfl rfl ?_
  simp only [Act.put, List.setIfInBounds_toArray, List.set_cons_zero, List.set_cons_succ]
  refine wpAnyH_yield 3 14 (cfv c) rfl rfl (by kernel_rfl) (by kernel_rfl) (by kernel_rfl) (fun _ _ _ h => h) (by kernel_rfl) (fun W hW => by obtain ⟨⟨k0, k1, k2, k3, k4, k5, k6, k7, k8, k9⟩, -⟩ := rr_cells (KQ.out W (T0.out.tr hW)); go_simp) (by assumption) rfl rfl ?_
  simp only [Act.put, List.setIfInBounds_toArray, List.set_cons_zero, List.set_cons_succ]
  refine wpAnyH_yield 4 15 (itv ⟨1, ke, tm, va, sr⟩) rfl rfl (by kernel_rfl) (by kernel_rfl) (by kernel_rfl) (fun _ _ _ h => h) (by kernel_rfl) (fun W hW => by obtain ⟨k0, k1, k2, k3, k4⟩ := it_cells (hW.at A0.out); go_simp) (by assumption) rfl rfl ?_
  simp only [Act.put, List.setIfInBounds_toArray, List.set_cons_zero, List.set_cons_succ]
  refine wpAnyH_enter 5 16 33 #[cfv c, itv ⟨1, ke, tm, va, sr⟩] rfl rfl (by kernel_rfl) (by kernel_rfl) (by kernel_rfl) ?_
  refine ((CI _).out).mono ?_
  rintro r w2 ⟨rfl, T2⟩
  refine ⟨_, rfl, hT0.tr T2, ?_⟩
  simp only [Act.put, List.setIfInBounds_toArray, List.set_cons_zero, List.set_cons_succ]
  have T3 := hT0.tr T2
  refine wpAnyH_yield 6 6 (.bool true) rfl rfl (by kernel_rfl) (by kernel_rfl) (by kernel_rfl) (fun _ _ _ h => h) (by kernel_rfl) (fun W hW => by kernel_rfl) (by assumption) rfl rfl ?_
  simp only [Act.put, List.setIfInBounds_toArray, List.set_cons_zero, List.set_cons_succ]
  refine wpAnyH_done (by kernel_rfl) ?_ _
  have HT := hide (T0.out.tr T3)
  have HI := hide (T3.at A0.out)
  clear hT0 T2 T3 CI T0 A0
  have HR := hide (hr0.out.calm HT.out)
  obtain ⟨hc, hs⟩ := HR.out.count
  obtain ⟨k1, k2⟩ := hc w2 (Touch.refl _ _)
  obtain ⟨R1, T1⟩ := hs w2 (wrap64 (s + 1)) (Touch.refl _ _)
  have HS := hide R1
  have HT1 := hide (Touch.trans (HT.out.mono (S' := F) fun _ _ h => h.elim) T1 fun _ _ h => h)
  have nq : ¬ D = q := fun e => by have := hr0.out.lt q hr0.out.at_; have := HD.out; omega
  have tS : Touch (fun k => k = q) w2 (w2.setCell ⟨q, 12, none⟩ (.int .i64 (wrap64 (s + 1)))) := (Touch.refl (fun k => k = q) w2).setCell (p := ⟨q, 12, none⟩) (fun _ => rfl) _
  have HI1 := hide (tS.heap HI.out nq)
  have HL : Hid (w.heap.size ≤ (w2.setCell ⟨q, 12, none⟩ (.int .i64 (wrap64 (s + 1)))).heap.size) := hide (Nat.le_trans HT.out.size tS.size)
  have AW : Hid (w2.setCell ⟨q, 12, none⟩ (.int .i64 (wrap64 (s + 1))) = w2.setCell ⟨q, 12, none⟩ (.int .i64 (wrap64 (s + 1)))) := hide rfl
  obtain ⟨i0, i1, i2, i3, i4⟩ := it_cells HI.out
  clear hc hs R1 T1 HT HR KQ tS nq
  go_wp2_with fail
  generalize w2.setCell ⟨q, 12, none⟩ (.int .i64 (wrap64 (s + 1))) = w3 at *
  clear k1 k2 i0 i1 i2 i3 i4
  obtain ⟨lo3, lc3, cq3, -⟩ := HS.out.ex
  have KQ : Hid (∀ W, Calm w3 W → W.heap[q]? = some (.cells (rrc c p (.slice lo3 L.length lc3) (wrap64 (s + 1))) 53 (0, 0))) := hide fun W hW => hW.at cq3
  clear cq3
  generalize L.length = n3 at *
  generalize wk p g (hsh ke % g) = K at *
  have CW := hide CW
  refine wp_region_held (S := Calm w3) (by kernel_rfl) ?_
  have hT0 : Calm w3 { w3 with drawn := w3.drawn + 1 } := (Touch.refl _ w3).drew
  refine wpAnyH_yield 0 34 (.pointer (some ⟨D, 1, none⟩)) rfl rfl (by kernel_rfl) (by kernel_rfl) (by kernel_rfl) (fun _ _ _ h => h) (by kernel_rfl) (fun W hW => by kernel_rfl) (by assumption) rfl rfl ?_
  simp only [Act.put, List.setIfInBounds_toArray, List.set_cons_zero, List.set_cons_succ]
  refine wpAnyH_yield 1 35 (.string ke) rfl rfl (by kernel_rfl) (by kernel_rfl) (by kernel_rfl) (fun _ _ _ h => h) (by kernel_rfl) (fun W hW => by obtain ⟨k0, k1, k2, k3, k4⟩ := it_cells (hW.at HI1.out); go_simp) (by assumption) rfl rfl ?_
  simp only [Act.put, List.setIfInBounds_toArray, List.set_cons_zero, List.set_cons_succ]
  refine wpAnyH_yield 2 36 (.pointer (some ⟨q, 0, none⟩)) rfl rfl (by kernel_rfl) (by kernel_rfl) (by kernel_rfl) (fun _ _ _ h => h) (by kernel_rfl) (fun W hW => by kernel_rfl) (by assumption) rfl rfl ?_
  simp only [Act.put, List.setIfInBounds_toArray, List.set_cons_zero, List.set_cons_succ]
  refine wpAnyH_yield 3 37 (.pointer (some ⟨q, 0, none⟩)) rfl rfl (by kernel_rfl) (by kernel_rfl) (by kernel_rfl) (fun _ _ _ h => h) (by kernel_rfl) (fun W hW => by go_simp) (by assumption) rfl rfl ?_
  simp only [Act.put, List.setIfInBounds_toArray, List.set_cons_zero, List.set_cons_succ]
  refine wpAnyH_yield 4 38 (.pointer (some ⟨q, 10, none⟩)) rfl rfl (by kernel_rfl) (by kernel_rfl) (by kernel_rfl) (fun _ _ _ h => h) (by kernel_rfl) (fun W hW => by go_simp) (by assumption) rfl rfl ?_
  simp only [Act.put, List.setIfInBounds_toArray, List.set_cons_zero, List.set_cons_succ]
  refine wpAnyH_yield 5 39 (.int .i64 (p : Int)) rfl rfl (by kernel_rfl) (by kernel_rfl) (by kernel_rfl) (fun _ _ _ h => h) (by kernel_rfl) (fun W hW => by obtain ⟨-, k0, -⟩ := rr_cells (KQ.out W hW); go_simp) (by assumption) rfl rfl ?_
  simp only [Act.put, List.setIfInBounds_toArray, List.set_cons_zero, List.set_cons_succ]
  refine wpAnyH_yield 6 40 (.pointer (some ⟨q, 0, none⟩)) rfl rfl (by kernel_rfl) (by kernel_rfl) (by kernel_rfl) (fun _ _ _ h => h) (by kernel_rfl) (fun W hW => by kernel_rfl) (by assumption) rfl rfl ?_
  simp only [Act.put, List.setIfInBounds_toArray, List.set_cons_zero, List.set_cons_succ]
  refine wpAnyH_yield 7 41 (.pointer (some ⟨q, 0, none⟩)) rfl rfl (by kernel_rfl) (by kernel_rfl) (by kernel_rfl) (fun _ _ _ h => h) (by kernel_rfl) (fun W hW => by go_simp) (by assumption) rfl rfl ?_
  simp only [Act.put, List.setIfInBounds_toArray, List.set_cons_zero, List.set_cons_succ]
  refine wpAnyH_yield 8 42 (.pointer (some ⟨q, 0, none⟩)) rfl rfl (by kernel_rfl) (by kernel_rfl) (by kernel_rfl) (fun _ _ _ h => h) (by kernel_rfl) (fun W hW => by go_simp) (by assumption) rfl rfl ?_
  simp only [Act.put, List.setIfInBounds_toArray, List.set_cons_zero, List.set_cons_succ]
  refine wpAnyH_yield 9 43 (.pointer (some ⟨q, 0, none⟩)) rfl rfl (by kernel_rfl) (by kernel_rfl) (by kernel_rfl) (fun _ _ _ h => h) (by kernel_rfl) (fun W hW => by go_simp) (by assumption) rfl rfl ?_
  simp only [Act.put, List.setIfInBounds_toArray, List.set_cons_zero, List.set_cons_succ]
  refine wpAnyH_yield 10 44 (.int .i64 (g : Int)) rfl rfl (by kernel_rfl) (by kernel_rfl) (by kernel_rfl) (fun _ _ _ h => h) (by kernel_rfl) (fun W hW => by obtain ⟨⟨k0, -⟩, -⟩ := rr_cells (KQ.out W hW); rw [hg] at k0; go_simp) (by assumption) rfl rfl ?_
  simp only [Act.put, List.setIfInBounds_toArray, List.set_cons_zero, List.set_cons_succ]
  refine wpAnyH_enter 11 45 22 #[.string ke, .int .i64 (p : Int), .int .i64 (g : Int)] rfl rfl (by kernel_rfl) (by kernel_rfl) (by kernel_rfl) ?_
  refine ((CW.out _).out).mono ?_
  rintro r w4 ⟨rfl, rfl⟩
  refine ⟨_, rfl, hT0, ?_⟩
  simp only [Act.put, List.setIfInBounds_toArray, List.set_cons_zero, List.set_cons_succ]
  refine wpAnyH_yield 12 8 (.int .i64 (K : Int)) rfl rfl (by kernel_rfl) (by kernel_rfl) (by kernel_rfl) (fun _ _ _ h => h) (by kernel_rfl) (fun W hW => by kernel_rfl) (by assumption) rfl rfl ?_
  simp only [Act.put, List.setIfInBounds_toArray, List.set_cons_zero, List.set_cons_succ]
  refine wpAnyH_done (by kernel_rfl) ?_ _
  generalize ({ w3 with drawn := w3.drawn + 1 } : World) = w4 at *
  obtain ⟨i0, i1, i2, i3, i4⟩ := it_cells (hT0.at HI1.out)
  have RF := hide (HS.out.calm hT0)
  have TF := hide (Touch.trans HT1.out (hT0.mono (S' := F) fun _ _ h => h.elim) fun _ _ h => h)
  have HL2 := hide (Nat.le_trans HL.out hT0.size)
  clear hT0 HT1 HS HI1 KQ CW AW HI HL
  go_wp2_with fail
  go_ret2
  obtain ⟨rfl, rfl, rfl⟩ := HA.out
  have TA := (Touch.refl (fun _ => False) w4).alloc (.cells (snc ⟨(K : Int), 1, s, ke, tm, va⟩) 65)
  exact ⟨_, 1, rfl, Rc.Own.base (own_one w4 ⟨(K : Int), 1, s, ke, tm, va⟩) HL2.out, RF.out.calm TA, Touch.trans TF.out (TA.mono (S' := F) fun _ _ h => h.elim) fun _ _ h => h⟩


set_option maxRecDepth 100000 in
set_option maxHeartbeats 4000000 in
theorem ritemR_3 {w : World} {q : Nat} {F : Nat → Prop} {c : Cf} {p g : Nat} {s : Int} {L : List Int} (x : It) (h : Rr w q F c p L s) (hS : Sit c p g L) (hz : itemZ c x = true) (hk : x.ki = 3) : Calls Tryz.prog 17 #[rp q, itv x] w fun e w' => ∃ a k, e = .returned (.tuple #[.slice a (itemA p g L s x).length k, .int .i64 0]) ∧ encSn.Own 65 w' w.heap.size (.slice a (itemA p g L s x).length k) (itemA p g L s x) ∧ Rr w' q F c p (itemL L x) (nxt s) ∧ Touch F w w' := by
  have CI := fun w => hide (ritemZ_any c x w)
  rw [hz] at CI
  obtain ⟨lo, lc, cq, -⟩ := h.ex
  have KQ : Hid (∀ W, Calm w W → W.heap[q]? = some (.cells (rrc c p (.slice lo L.length lc) s) 53 (0, 0))) := hide fun W hW => hW.at cq
  have T0 := hide ((Touch.refl (fun _ => False) w).alloc (.cells (itc x) 60))
  have A0 := hide (al_new w (.cells (itc x) 60))
  obtain ⟨ki, ke, tm, va, sr⟩ := x
  have hr0 := hide h
  have H1 := hide hS
  have hk : ki = 3 := hk
  subst hk
  have hp := hS.p_le
  have HA : Hid (itemA p g L s ⟨3, ke, tm, va, sr⟩ = allS p ⟨0, 3, s, ⟨#[]⟩, 0, 0⟩ ∧ itemL L ⟨3, ke, tm, va, sr⟩ = L ∧ nxt s = wrap64 (s + 1)) := hide ⟨rfl, rfl, rfl⟩
  have HAL : Hid ((allS p ⟨0, 3, s, ⟨#[]⟩, 0, 0⟩).length = p) := hide (all_len _ _)
  generalize itemA p g L s ⟨3, ke, tm, va, sr⟩ = A at *
  generalize itemL L ⟨3, ke, tm, va, sr⟩ = L' at *
  generalize nxt s = s' at *
  clear hS hz h
  go_enter Tryz.func17, Tryz.ntmps17
  go_wp2_with fail
  generalize w.alloc (.cells (itc ⟨3, ke, tm, va, sr⟩) 60) = w1 at *
  generalize hD : w.heap.size = D at *
  have HD := hide hD
  clear hD cq
  refine wp_region_held (S := Calm w1) (by kernel_rfl) ?_
  have hT0 : Calm w1 { w1 with drawn := w1.drawn + 1 } := (Touch.refl _ w1).drew
  refine wpAnyH_yield 0 11 (.pointer (some ⟨q, 0, none⟩)) rfl rfl (by kernel_rfl) (by kernel_rfl) (by kernel_rfl) (fun _ _ _ h => h) (by kernel_rfl) (fun W hW => by kernel_rfl) (by assumption) rfl rfl ?_
  simp only [Act.put, List.setIfInBounds_toArray, List.set_cons_zero, List.set_cons_succ]
  refine wpAnyH_yield 1 12 (.pointer (some ⟨q, 0, none⟩)) rfl rfl (by kernel_rfl) (by kernel_rfl) (by kernel_rfl) (fun _ _ _ h => h) (by kernel_rfl) (fun W hW => by go_simp) (by assumption) rfl rfl ?_
  simp only [Act.put, List.setIfInBounds_toArray, List.set_cons_zero, List.set_cons_succ]
  refine wpAnyH_yield 2 13 (.pointer (some ⟨q, 0, none⟩)) rfl rfl (by kernel_rfl) (by kernel_rfl) (by kernel_rfl) (fun _ _ _ h => h) (by kernel_rfl) (fun W hW => by go_simp) (by assumption) rfl rfl ?_
  simp only [Act.put, List.setIfInBounds_toArray, List.set_cons_zero, List.set_cons_succ]
  refine wpAnyH_yield 3 14 (cfv c) rfl rfl (by kernel_rfl) (by kernel_rfl) (by kernel_rfl) (fun _ _ _ h => h) (by kernel_rfl) (fun W hW => by obtain ⟨⟨k0, k1, k2, k3, k4, k5, k6, k7, k8, k9⟩, -⟩ := rr_cells (KQ.out W (T0.out.tr hW)); go_simp) (by assumption) rfl rfl ?_
  simp only [Act.put, List.setIfInBounds_toArray, List.set_cons_zero, List.set_cons_succ]
  refine wpAnyH_yield 4 15 (itv ⟨3, ke, tm, va, sr⟩) rfl rfl (by kernel_rfl) (by kernel_rfl) (by kernel_rfl) (fun _ _ _ h => h) (by kernel_rfl) (fun W hW => by obtain ⟨k0, k1, k2, k3, k4⟩ := it_cells (hW.at A0.out); go_simp) (by assumption) rfl rfl ?_
  simp only [Act.put, List.setIfInBounds_toArray, List.set_cons_zero, List.set_cons_succ]
  refine wpAnyH_enter 5 16 33 #[cfv c, itv ⟨3, ke, tm, va, sr⟩] rfl rfl (by kernel_rfl) (by kernel_rfl) (by kernel_rfl) ?_
  refine ((CI _).out).mono ?_
  rintro r w2 ⟨rfl, T2⟩
  refine ⟨_, rfl, hT0.tr T2, ?_⟩
  simp only [Act.put, List.setIfInBounds_toArray, List.set_cons_zero, List.set_cons_succ]
  have T3 := hT0.tr T2
  refine wpAnyH_yield 6 6 (.bool true) rfl rfl (by kernel_rfl) (by kernel_rfl) (by kernel_rfl) (fun _ _ _ h => h) (by kernel_rfl) (fun W hW => by kernel_rfl) (by assumption) rfl rfl ?_
  simp only [Act.put, List.setIfInBounds_toArray, List.set_cons_zero, List.set_cons_succ]
  refine wpAnyH_done (by kernel_rfl) ?_ _
  have HT := hide (T0.out.tr T3)
  have HI := hide (T3.at A0.out)
  clear hT0 T2 T3 CI T0 A0
  have HR := hide (hr0.out.calm HT.out)
  obtain ⟨hc, hs⟩ := HR.out.count
  obtain ⟨k1, k2⟩ := hc w2 (Touch.refl _ _)
  obtain ⟨R1, T1⟩ := hs w2 (wrap64 (s + 1)) (Touch.refl _ _)
  have HS := hide R1
  have HT1 := hide (Touch.trans (HT.out.mono (S' := F) fun _ _ h => h.elim) T1 fun _ _ h => h)
  have nq : ¬ D = q := fun e => by have := hr0.out.lt q hr0.out.at_; have := HD.out; omega
  have tS : Touch (fun k => k = q) w2 (w2.setCell ⟨q, 12, none⟩ (.int .i64 (wrap64 (s + 1)))) := (Touch.refl (fun k => k = q) w2).setCell (p := ⟨q, 12, none⟩) (fun _ => rfl) _
  have HI1 := hide (tS.heap HI.out nq)
  have HL : Hid (w.heap.size ≤ (w2.setCell ⟨q, 12, none⟩ (.int .i64 (wrap64 (s + 1)))).heap.size) := hide (Nat.le_trans HT.out.size tS.size)
  have AW : Hid (w2.setCell ⟨q, 12, none⟩ (.int .i64 (wrap64 (s + 1))) = w2.setCell ⟨q, 12, none⟩ (.int .i64 (wrap64 (s + 1)))) := hide rfl
  obtain ⟨i0, i1, i2, i3, i4⟩ := it_cells HI.out
  clear hc hs R1 T1 HT HR KQ tS nq
  have CA := hide (rall_any p ⟨0, 3, s, ⟨#[]⟩, 0, 0⟩ HS.out hp)
  go_wp2_with fail
  refine CA.out.mono ?_
  rintro e w4 ⟨a, k, rfl, OA, T4⟩
  have RF := hide (HS.out.calm T4)
  have TF := hide (Touch.trans HT1.out (T4.mono (S' := F) fun _ _ h => h.elim) fun _ _ h => h)
  have OA := hide (Rc.Own.base OA HL.out)
  clear T4 k1 k2 i0 i1 i2 i3 i4 HT1 HS HI1 AW HI HL CA
  go_wp2_with fail
  go_ret2
  obtain ⟨rfl, rfl, rfl⟩ := HA.out
  exact ⟨a, k, by rw [HAL.out]; rfl, by rw [HAL.out]; exact OA.out, RF.out, TF.out⟩

set_option maxRecDepth 100000 in
set_option maxHeartbeats 4000000 in
theorem ritemR_2 {w : World} {q : Nat} {F : Nat → Prop} {c : Cf} {p g : Nat} {s : Int} {L : List Int} (x : It) (h : Rr w q F c p L s) (hS : Sit c p g L) (hz : itemZ c x = true) (hk : x.ki = 2) : Calls Tryz.prog 17 #[rp q, itv x] w fun e w' => ∃ a k, e = .returned (.tuple #[.slice a (itemA p g L s x).length k, .int .i64 0]) ∧ encSn.Own 65 w' w.heap.size (.slice a (itemA p g L s x).length k) (itemA p g L s x) ∧ Rr w' q F c p (itemL L x) (nxt s) ∧ Touch F w w' := by
  have CI := fun w => hide (ritemZ_any c x w)
  rw [hz] at CI
  obtain ⟨lo, lc, cq, -⟩ := h.ex
  have KQ : Hid (∀ W, Calm w W → W.heap[q]? = some (.cells (rrc c p (.slice lo L.length lc) s) 53 (0, 0))) := hide fun W hW => hW.at cq
  have T0 := hide ((Touch.refl (fun _ => False) w).alloc (.cells (itc x) 60))
  have A0 := hide (al_new w (.cells (itc x) 60))
  obtain ⟨ki, ke, tm, va, sr⟩ := x
  have hr0 := hide h
  have H1 := hide hS
  have hk : ki = 2 := hk
  subst hk
  have hp := hS.p_le
  obtain ⟨i, rfl⟩ : ∃ i : Nat, sr = (i : Int) := ⟨sr.toNat, by have h2 : 0 ≤ sr := (itemZ_2 hz rfl).1; omega⟩
  have hi : i < L.length := by have h2 : (i : Int) < c.so := (itemZ_2 hz rfl).2; have := hS.so; omega
  have eL : plM L ⟨2, ke, tm, va, (i : Int)⟩ = L.set i (max (L.getD i 0) tm) := by simp [plM]
  have HA : Hid (itemA p g L s ⟨2, ke, tm, va, (i : Int)⟩ = (if mkN L = mkN (L.set i (max (L.getD i 0) tm)) then [] else allS p ⟨0, 2, s, ⟨#[]⟩, mkN (L.set i (max (L.getD i 0) tm)), 0⟩) ∧ itemL L ⟨2, ke, tm, va, (i : Int)⟩ = L.set i (max (L.getD i 0) tm) ∧ nxt s = wrap64 (s + 1)) := hide ⟨by rw [← eL]; rfl, by rw [← eL]; rfl, rfl⟩
  generalize itemA p g L s ⟨2, ke, tm, va, (i : Int)⟩ = A at *
  generalize itemL L ⟨2, ke, tm, va, (i : Int)⟩ = L' at *
  generalize nxt s = s' at *
  have HI9 := hide hi
  clear hS hz h eL hi
  go_enter Tryz.func17, Tryz.ntmps17
  go_wp2_with fail
  generalize w.alloc (.cells (itc ⟨2, ke, tm, va, (i : Int)⟩) 60) = w1 at *
  generalize hD : w.heap.size = D at *
  have HD := hide hD
  clear hD cq
  refine wp_region_held (S := Calm w1) (by kernel_rfl) ?_
  have hT0 : Calm w1 { w1 with drawn := w1.drawn + 1 } := (Touch.refl _ w1).drew
  refine wpAnyH_yield 0 11 (.pointer (some ⟨q, 0, none⟩)) rfl rfl (by kernel_rfl) (by kernel_rfl) (by kernel_rfl) (fun _ _ _ h => h) (by kernel_rfl) (fun W hW => by kernel_rfl) (by assumption) rfl rfl ?_
  simp only [Act.put, List.setIfInBounds_toArray, List.set_cons_zero, List.set_cons_succ]
  refine wpAnyH_yield 1 12 (.pointer (some ⟨q, 0, none⟩)) rfl rfl (by kernel_rfl) (by kernel_rfl) (by kernel_rfl) (fun _ _ _ h => h) (by kernel_rfl) (fun W hW => by go_simp) (by assumption) rfl rfl ?_
  simp only [Act.put, List.setIfInBounds_toArray, List.set_cons_zero, List.set_cons_succ]
  refine wpAnyH_yield 2 13 (.pointer (some ⟨q, 0, none⟩)) rfl rfl (by kernel_rfl) (by kernel_rfl) (by kernel_rfl) (fun _ _ _ h => h) (by kernel_rfl) (fun W hW => by go_simp) (by assumption) rfl rfl ?_
  simp only [Act.put, List.setIfInBounds_toArray, List.set_cons_zero, List.set_cons_succ]
  refine wpAnyH_yield 3 14 (cfv c) rfl rfl (by kernel_rfl) (by kernel_rfl) (by kernel_rfl) (fun _ _ _ h => h) (by kernel_rfl) (fun W hW => by obtain ⟨⟨k0, k1, k2, k3, k4, k5, k6, k7, k8, k9⟩, -⟩ := rr_cells (KQ.out W (T0.out.tr hW)); go_simp) (by assumption) rfl rfl ?_
  simp only [Act.put, List.setIfInBounds_toArray, List.set_cons_zero, List.set_cons_succ]
  refine wpAnyH_yield 4 15 (itv ⟨2, ke, tm, va, (i : Int)⟩) rfl rfl (by kernel_rfl) (by kernel_rfl) (by kernel_rfl) (fun _ _ _ h => h) (by kernel_rfl) (fun W hW => by obtain ⟨k0, k1, k2, k3, k4⟩ := it_cells (hW.at A0.out); go_simp) (by assumption) rfl rfl ?_
  simp only [Act.put, List.setIfInBounds_toArray, List.set_cons_zero, List.set_cons_succ]
  refine wpAnyH_enter 5 16 33 #[cfv c, itv ⟨2, ke, tm, va, (i : Int)⟩] rfl rfl (by kernel_rfl) (by kernel_rfl) (by kernel_rfl) ?_
  refine ((CI _).out).mono ?_
  rintro r w2 ⟨rfl, T2⟩
  refine ⟨_, rfl, hT0.tr T2, ?_⟩
  simp only [Act.put, List.setIfInBounds_toArray, List.set_cons_zero, List.set_cons_succ]
  have T3 := hT0.tr T2
  refine wpAnyH_yield 6 6 (.bool true) rfl rfl (by kernel_rfl) (by kernel_rfl) (by kernel_rfl) (fun _ _ _ h => h) (by kernel_rfl) (fun W hW => by kernel_rfl) (by assumption) rfl rfl ?_
  simp only [Act.put, List.setIfInBounds_toArray, List.set_cons_zero, List.set_cons_succ]
  refine wpAnyH_done (by kernel_rfl) ?_ _
  have HT := hide (T0.out.tr T3)
  have HI := hide (T3.at A0.out)
  clear hT0 T2 T3 CI T0 A0
  have HR := hide (hr0.out.calm HT.out)
  obtain ⟨hc, hs⟩ := HR.out.count
  obtain ⟨k1, k2⟩ := hc w2 (Touch.refl _ _)
  obtain ⟨R1, T1⟩ := hs w2 (wrap64 (s + 1)) (Touch.refl _ _)
  have HS := hide R1
  have HT1 := hide (Touch.trans (HT.out.mono (S' := F) fun _ _ h => h.elim) T1 fun _ _ h => h)
  have nq : ¬ D = q := fun e => by have := hr0.out.lt q hr0.out.at_; have := HD.out; omega
  have tS : Touch (fun k => k = q) w2 (w2.setCell ⟨q, 12, none⟩ (.int .i64 (wrap64 (s + 1)))) := (Touch.refl (fun k => k = q) w2).setCell (p := ⟨q, 12, none⟩) (fun _ => rfl) _
  have HI1 := hide (tS.heap HI.out nq)
  have HL : Hid (w.heap.size ≤ (w2.setCell ⟨q, 12, none⟩ (.int .i64 (wrap64 (s + 1)))).heap.size) := hide (Nat.le_trans HT.out.size tS.size)
  have AW : Hid (w2.setCell ⟨q, 12, none⟩ (.int .i64 (wrap64 (s + 1))) = w2.setCell ⟨q, 12, none⟩ (.int .i64 (wrap64 (s + 1)))) := hide rfl
  obtain ⟨i0, i1, i2, i3, i4⟩ := it_cells HI.out
  clear hc hs R1 T1 HT HR KQ tS nq
  have CA := hide (rwater_any HS.out)
  obtain ⟨b, lcb, fb, nb, hc, hs⟩ := HS.out.place i HI9.out
  have HC := hide hc
  have HSS := hide hs
  have NB := hide nb
  have HIz : Hid ((i : Int) < (L.length : Int)) := hide (by have := HI9.out; omega)
  obtain ⟨L2, hL2⟩ : ∃ L2, L2 = L.set i (max (L.getD i 0) tm) := ⟨_, rfl⟩
  rw [← hL2] at HA
  have HSS : Hid (∀ W, Calm (w2.setCell ⟨q, 12, none⟩ (.int .i64 (wrap64 (s + 1)))) W → Rr (W.setCell ⟨b, i, none⟩ (.int .i64 (max (L.getD i 0) tm))) q F c p L2 (wrap64 (s + 1)) ∧ Touch F (w2.setCell ⟨q, 12, none⟩ (.int .i64 (wrap64 (s + 1)))) (W.setCell ⟨b, i, none⟩ (.int .i64 (max (L.getD i 0) tm)))) := hide fun W hW => by rw [hL2]; exact HSS.out W _ hW
  have hlen : L2.length = L.length := by rw [hL2, List.length_set]
  clear hc hs nb hL2 fb
  go_wp2_with fail
  generalize w2.setCell ⟨q, 12, none⟩ (.int .i64 (wrap64 (s + 1))) = w3 at *
  refine CA.out.mono ?_
  rintro e w3 ⟨rfl, rfl⟩
  clear CA k1 k2 i0 i1 i2 i3 i4 AW HI
  go_wp2_with fail
  have z0 : ¬ (L.length : Int) ≤ (i : Int) := by have := HIz.out; omega
  have z1 := HIz.out
  generalize L.length = n at *
  generalize L.getD i 0 = y at *
  generalize mkN L = M1 at *
  refine wp_region_z 18 (Calm w3) (by kernel_rfl) ?_
  have hT0 : Calm w3 { w3 with drawn := w3.drawn + 1 } := (Touch.refl _ w3).drew
  refine wpAnyZ_yield 0 61 (.pointer (some ⟨q, 0, none⟩)) [18] rfl rfl (by kernel_rfl) (by kernel_rfl) (by kernel_rfl) (by kernel_rfl) (by kernel_rfl) (fun _ _ _ h => h) (by kernel_rfl) (fun W hW => by kernel_rfl) (by assumption) rfl rfl ?_
  simp only [Act.put, List.setIfInBounds_toArray, List.set_cons_zero, List.set_cons_succ]
  refine wpAnyZ_yield 1 62 (.pointer (some ⟨q, 0, none⟩)) [18] rfl rfl (by kernel_rfl) (by kernel_rfl) (by kernel_rfl) (by kernel_rfl) (by kernel_rfl) (fun _ _ _ h => h) (by kernel_rfl) (fun W hW => by go_simp) (by assumption) rfl rfl ?_
  simp only [Act.put, List.setIfInBounds_toArray, List.set_cons_zero, List.set_cons_succ]
  refine wpAnyZ_yield 2 63 (.pointer (some ⟨q, 11, none⟩)) [18] rfl rfl (by kernel_rfl) (by kernel_rfl) (by kernel_rfl) (by kernel_rfl) (by kernel_rfl) (fun _ _ _ h => h) (by kernel_rfl) (fun W hW => by go_simp) (by assumption) rfl rfl ?_
  simp only [Act.put, List.setIfInBounds_toArray, List.set_cons_zero, List.set_cons_succ]
  refine wpAnyZ_yield 3 64 (.slice (some ⟨b, 0, none⟩) n lcb) [18] rfl rfl (by kernel_rfl) (by kernel_rfl) (by kernel_rfl) (by kernel_rfl) (by kernel_rfl) (fun _ _ _ h => h) (by kernel_rfl) (fun W hW => by obtain ⟨k0, -⟩ := HC.out W hW; go_simp) (by assumption) rfl rfl ?_
  simp only [Act.put, List.setIfInBounds_toArray, List.set_cons_zero, List.set_cons_succ]
  refine wpAnyZ_yield 4 65 (.pointer (some ⟨D, 4, none⟩)) [18] rfl rfl (by kernel_rfl) (by kernel_rfl) (by kernel_rfl) (by kernel_rfl) (by kernel_rfl) (fun _ _ _ h => h) (by kernel_rfl) (fun W hW => by kernel_rfl) (by assumption) rfl rfl ?_
  simp only [Act.put, List.setIfInBounds_toArray, List.set_cons_zero, List.set_cons_succ]
  refine wpAnyZ_yield 5 66 (.int .i64 (i : Int)) [18] rfl rfl (by kernel_rfl) (by kernel_rfl) (by kernel_rfl) (by kernel_rfl) (by kernel_rfl) (fun _ _ _ h => h) (by kernel_rfl) (fun W hW => by obtain ⟨k0, k1, k2, k3, k4⟩ := it_cells (hW.at HI1.out); go_simp) (by assumption) rfl rfl ?_
  simp only [Act.put, List.setIfInBounds_toArray, List.set_cons_zero, List.set_cons_succ]
  refine wpAnyZ_yield 6 67 (.pointer (some ⟨q, 0, none⟩)) [18] rfl rfl (by kernel_rfl) (by kernel_rfl) (by kernel_rfl) (by kernel_rfl) (by kernel_rfl) (fun _ _ _ h => h) (by kernel_rfl) (fun W hW => by kernel_rfl) (by assumption) rfl rfl ?_
  simp only [Act.put, List.setIfInBounds_toArray, List.set_cons_zero, List.set_cons_succ]
  refine wpAnyZ_yield 7 68 (.pointer (some ⟨q, 0, none⟩)) [18] rfl rfl (by kernel_rfl) (by kernel_rfl) (by kernel_rfl) (by kernel_rfl) (by kernel_rfl) (fun _ _ _ h => h) (by kernel_rfl) (fun W hW => by go_simp) (by assumption) rfl rfl ?_
  simp only [Act.put, List.setIfInBounds_toArray, List.set_cons_zero, List.set_cons_succ]
  refine wpAnyZ_yield 8 69 (.pointer (some ⟨q, 11, none⟩)) [18] rfl rfl (by kernel_rfl) (by kernel_rfl) (by kernel_rfl) (by kernel_rfl) (by kernel_rfl) (fun _ _ _ h => h) (by kernel_rfl) (fun W hW => by go_simp) (by assumption) rfl rfl ?_
  simp only [Act.put, List.setIfInBounds_toArray, List.set_cons_zero, List.set_cons_succ]
  refine wpAnyZ_yield 9 70 (.slice (some ⟨b, 0, none⟩) n lcb) [18] rfl rfl (by kernel_rfl) (by kernel_rfl) (by kernel_rfl) (by kernel_rfl) (by kernel_rfl) (fun _ _ _ h => h) (by kernel_rfl) (fun W hW => by obtain ⟨k0, -⟩ := HC.out W hW; go_simp) (by assumption) rfl rfl ?_
  simp only [Act.put, List.setIfInBounds_toArray, List.set_cons_zero, List.set_cons_succ]
  refine wpAnyZ_yield 10 71 (.pointer (some ⟨D, 4, none⟩)) [18] rfl rfl (by kernel_rfl) (by kernel_rfl) (by kernel_rfl) (by kernel_rfl) (by kernel_rfl) (fun _ _ _ h => h) (by kernel_rfl) (fun W hW => by kernel_rfl) (by assumption) rfl rfl ?_
  simp only [Act.put, List.setIfInBounds_toArray, List.set_cons_zero, List.set_cons_succ]
  refine wpAnyZ_yield 11 72 (.int .i64 (i : Int)) [18] rfl rfl (by kernel_rfl) (by kernel_rfl) (by kernel_rfl) (by kernel_rfl) (by kernel_rfl) (fun _ _ _ h => h) (by kernel_rfl) (fun W hW => by obtain ⟨k0, k1, k2, k3, k4⟩ := it_cells (hW.at HI1.out); go_simp) (by assumption) rfl rfl ?_
  simp only [Act.put, List.setIfInBounds_toArray, List.set_cons_zero, List.set_cons_succ]
  refine wpAnyZ_yield 12 73 (.pointer (some ⟨b, i, none⟩)) [18] rfl rfl (by kernel_rfl) (by kernel_rfl) (by kernel_rfl) (by kernel_rfl) (by kernel_rfl) (fun _ _ _ h => h) (by kernel_rfl) (fun W hW => by go_simp) (by assumption) rfl rfl ?_
  simp only [Act.put, List.setIfInBounds_toArray, List.set_cons_zero, List.set_cons_succ]
  refine wpAnyZ_yield 13 74 (.int .i64 y) [18] rfl rfl (by kernel_rfl) (by kernel_rfl) (by kernel_rfl) (by kernel_rfl) (by kernel_rfl) (fun _ _ _ h => h) (by kernel_rfl) (fun W hW => by obtain ⟨-, k1, -⟩ := HC.out W hW; go_simp) (by assumption) rfl rfl ?_
  simp only [Act.put, List.setIfInBounds_toArray, List.set_cons_zero, List.set_cons_succ]
  refine wpAnyZ_yield 14 75 (.pointer (some ⟨D, 2, none⟩)) [18] rfl rfl (by kernel_rfl) (by kernel_rfl) (by kernel_rfl) (by kernel_rfl) (by kernel_rfl) (fun _ _ _ h => h) (by kernel_rfl) (fun W hW => by kernel_rfl) (by assumption) rfl rfl ?_
  simp only [Act.put, List.setIfInBounds_toArray, List.set_cons_zero, List.set_cons_succ]
  refine wpAnyZ_yield 15 76 (.int .i64 tm) [18] rfl rfl (by kernel_rfl) (by kernel_rfl) (by kernel_rfl) (by kernel_rfl) (by kernel_rfl) (fun _ _ _ h => h) (by kernel_rfl) (fun W hW => by obtain ⟨k0, k1, k2, k3, k4⟩ := it_cells (hW.at HI1.out); go_simp) (by assumption) rfl rfl ?_
  simp only [Act.put, List.setIfInBounds_toArray, List.set_cons_zero, List.set_cons_succ]
  refine wpAnyZ_yield 16 77 (.int .i64 (max y tm)) [18] rfl rfl (by kernel_rfl) (by kernel_rfl) (by kernel_rfl) (by kernel_rfl) (by kernel_rfl) (fun _ _ _ h => h) (by kernel_rfl) (fun W hW => by go_simp) (by assumption) rfl rfl ?_
  simp only [Act.put, List.setIfInBounds_toArray, List.set_cons_zero, List.set_cons_succ]
  refine wpAnyZ_yield 17 78 (.pointer (some ⟨b, i, none⟩)) [18] rfl rfl (by kernel_rfl) (by kernel_rfl) (by kernel_rfl) (by kernel_rfl) (by kernel_rfl) (fun _ _ _ h => h) (by kernel_rfl) (fun W hW => by go_simp) (by assumption) rfl rfl ?_
  simp only [Act.put, List.setIfInBounds_toArray, List.set_cons_zero, List.set_cons_succ]
  generalize ({ w3 with drawn := w3.drawn + 1 } : World) = wD at *
  refine wpAnyZ_end rfl (by kernel_rfl) (by kernel_rfl) (by kernel_rfl) ?_
  obtain ⟨-, k1, k2⟩ := HC.out _ hT0
  obtain ⟨q1, q2⟩ := HSS.out _ hT0
  have Q1 := hide q1
  have TF := hide (Touch.trans HT1.out q2 fun _ _ h => h)
  have CB := hide (rwater_any q1)
  have HL3 : Hid (w.heap.size ≤ (wD.setCell ⟨b, i, none⟩ (.int .i64 (max y tm))).heap.size) := hide (Nat.le_trans HL.out q2.size)
  clear HSS HC hT0 q1 q2 HT1 HS HI1 HL
  unfold Oper.wp
  go_simp
  go_wp2_with fail
  clear k1 k2
  generalize wD.setCell ⟨b, i, none⟩ (.int .i64 (max y tm)) = w4 at *
  refine CB.out.mono ?_
  rintro e w4 ⟨rfl, rfl⟩
  clear CB
  by_cases hm : M1 = mkN L2
  · have hmb : (M1 == mkN L2) = true := by simp [hm]
    obtain ⟨e1, e2, e3⟩ := HA.out
    rw [if_pos hm] at e1
    have HA2 := hide (And.intro e1 (And.intro e2 e3))
    clear e1 e2 e3
    generalize mkN L2 = M2 at *
    clear hm
    go_wp2_with fail
    go_ret2
    obtain ⟨rfl, rfl, rfl⟩ := HA2.out
    exact ⟨none, 0, rfl, Rc.Own.nil _ _ _, Q1.out, TF.out⟩
  · have hmb : (M1 == mkN L2) = false := by simp [hm]
    have CA := hide (rall_any p ⟨0, 2, s, ⟨#[]⟩, mkN L2, 0⟩ Q1.out hp)
    obtain ⟨e1, e2, e3⟩ := HA.out
    rw [if_neg hm] at e1
    have HAL : Hid ((allS p ⟨0, 2, s, ⟨#[]⟩, mkN L2, 0⟩).length = p) := hide (all_len _ _)
    have HA2 := hide (And.intro e1 (And.intro e2 e3))
    clear e1 e2 e3
    generalize mkN L2 = M2 at *
    go_wp2_with fail
    refine CA.out.mono ?_
    rintro e w5 ⟨a, k, rfl, OA, T4⟩
    have RF := hide (Q1.out.calm T4)
    have TF := hide (Touch.trans TF.out (T4.mono (S' := F) fun _ _ h => h.elim) fun _ _ h => h)
    have OA := hide (Rc.Own.base OA HL3.out)
    clear T4 Q1 HL3 CA
    go_wp2_with fail
    go_ret2
    obtain ⟨rfl, rfl, rfl⟩ := HA2.out
    exact ⟨a, k, by rw [HAL.out]; rfl, by rw [HAL.out]; exact OA.out, RF.out, TF.out⟩

theorem ritemR_yes {w : World} {q : Nat} {F : Nat → Prop} {c : Cf} {p g : Nat} {s : Int} {L : List Int} (x : It) (h : Rr w q F c p L s) (hS : Sit c p g L) (hz : itemZ c x = true) : Calls Tryz.prog 17 #[rp q, itv x] w fun e w' => ∃ a k, e = .returned (.tuple #[.slice a (itemA p g L s x).length k, .int .i64 0]) ∧ encSn.Own 65 w' w.heap.size (.slice a (itemA p g L s x).length k) (itemA p g L s x) ∧ Rr w' q F c p (itemL L x) (nxt s) ∧ Touch F w w' := by
  rcases itemZ_k hz with hk | hk | hk
  · exact ritemR_1 x h hS hz hk
  · exact ritemR_2 x h hS hz hk
  · exact ritemR_3 x h hS hz hk

end Go.Proofs.YtapnjofplilefaaGreat
