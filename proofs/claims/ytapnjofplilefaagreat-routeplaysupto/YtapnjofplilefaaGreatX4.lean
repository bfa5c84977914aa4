/- RoutePlays: the law's step, kinds 3, 4 and none. RoutePlays: marks stay times; rows of what was sent that are written over. -/
import Derived.Test.YtapnjofplilefaaGreatX1
import Derived.Test.YtapnjofplilefaaGreatZR
import Derived.Test.YtapnjofplilefaaGreatZE
import Derived.Test.YtapnjofplilefaaGreatZH
import Derived.Test.YtapnjofplilefaaGreatZK
namespace Go.Proofs.YtapnjofplilefaaGreat
open Go.RowKit

/-- What a step answers. -/
def RetW (c : Cf) (p g b Wb : Nat) (T : Int) (w : World) (e : Ending) (w' : World) : Prop := e = .returned (.bool true) ∧ Touch (fun d => b ≤ d) w w' ∧ ∃ (th : Nat → Th) (m : Nat) (oo : Option Addr) (oc : Nat) (wo : Option Addr) (wc : Nat), m ≤ 10 ∧ Wl c p g b Wb th m T oo oc wo wc w'
theorem st_cells {w : World} {B : Nat} {a b c d : Value} {ty : TypeId} (h : w.heap[B]? = some (.cells #[a, b, c, d] ty (0, 0))) : w.cell? ⟨B, 0, none⟩ = some a ∧ w.cell? ⟨B, 1, none⟩ = some b ∧ w.cell? ⟨B, 2, none⟩ = some c ∧ w.cell? ⟨B, 3, none⟩ = some d := by simp [World.cell?, h]
theorem RetW.calm {c : Cf} {p g b Wb : Nat} {th : Nat → Th} {m : Nat} {T T' : Int} {oo : Option Addr} {oc : Nat} {wo : Option Addr} {wc : Nat} {w w' : World} (h : Wl c p g b Wb th m T oo oc wo wc w) (hm : m ≤ 10) (hT : T ≤ T') (ht : Calm w w') : RetW c p g b Wb T' w (.returned (.bool true)) w' := by
  obtain ⟨q, r, L, s, G0, G1, hc, hp, hr, hd, hlt, hS, hTm, h0, h1, fin⟩ := h.two 0 (by omega)
  obtain ⟨th', hw⟩ := fin w' L s T' (ht.mono fun _ _ h => h.elim) (hp.calm ht) (hr.calm ht) hS hTm h0 (by omega) hT
  exact ⟨rfl, ht.mono fun _ _ h => h.elim, th', m, oo, oc, wo, wc, hm, hw⟩

set_option maxRecDepth 100000 in
set_option maxHeartbeats 4000000 in
theorem stepZ_4 {c : Cf} {p g b Wb : Nat} {th : Nat → Th} {m : Nat} {T : Int} {oo : Option Addr} {oc : Nat} {wo : Option Addr} {wc : Nat} {w : World} (h : Wl c p g b Wb th m T oo oc wo wc w) (on : Int) (k : Nat) (hk2 : k < 2) (hk : (wrap64 (on.tmod 2 + 2)).tmod 2 = (k : Int)) (M : List It) (mo : Option Addr) (mc : Nat) (ke : ByteArray) (hm : m ≤ 10) : Calls Tryz.prog 7 #[cp Wb, .agg #[.int .i64 4, .int .i64 on, .slice mo M.length mc, .string ke]] w (RetW c p g b Wb (T + M.length) w) := by
  obtain ⟨q, r, L, s, G0, G1, hc, hp, hr, hd, hlt, hS, hT, h0, h1, fin⟩ := h.two k hk2
  have A0 := hide (al_new w (.cells #[.int .i64 4, .int .i64 on, .slice mo M.length mc, .string ke] 44))
  have T0 := hide ((Touch.refl (fun _ => False) w).alloc (.cells #[.int .i64 4, .int .i64 on, .slice mo M.length mc, .string ke] 44))
  have S0 := hide (al_size w (.cells #[.int .i64 4, .int .i64 on, .slice mo M.length mc, .string ke] 44))
  have HC := hide hc
  have K2 : (k : Int) < 2 := by omega
  have K0 : ¬ (k : Int) < 0 := by omega
  obtain ⟨a0, a1, a2, a3⟩ := st_cells A0.out
  have ST := hide (fun W (hW : Calm w W) => stands_any router_all (hp.calm hW) (hr.calm hW))
  have FIN : Hid (∀ W, Calm w W → RetW c p g b Wb (T + M.length) w (.returned (.bool true)) W) := hide fun W hW => RetW.calm h hm (by omega) hW
  clear h hp hr hlt fin hc
  generalize M.length = n at *
  go_enter Tryz.func7, Tryz.ntmps7
  go_wp2_with fail
  generalize w.alloc (.cells #[.int .i64 4, .int .i64 on, .slice mo n mc, .string ke] 44) = w1 at *
  generalize hD : w.heap.size = D at *
  have HD := hide hD
  clear hD a0 a1 a2 a3
  refine wp_region_held (S := Calm w1) (by kernel_rfl) ?_
  have hT0 : Calm w1 { w1 with drawn := w1.drawn + 1 } := (Touch.refl _ w1).drew
  refine wpAnyH_yield 0 33 (cp Wb) rfl rfl (by kernel_rfl) (by kernel_rfl) (by kernel_rfl) (fun _ _ _ h => h) (by kernel_rfl) (fun W hW => by kernel_rfl) (by assumption) rfl rfl ?_
  simp only [Act.put, List.setIfInBounds_toArray, List.set_cons_zero, List.set_cons_succ]
  refine wpAnyH_yield 1 34 (.int .i64 (k : Int)) rfl rfl (by kernel_rfl) (by kernel_rfl) (by kernel_rfl) (fun _ _ _ h => h) (by kernel_rfl) (fun W hW => by kernel_rfl) (by assumption) rfl rfl ?_
  simp only [Act.put, List.setIfInBounds_toArray, List.set_cons_zero, List.set_cons_succ]
  refine wpAnyH_yield 2 35 (cp Wb) rfl rfl (by kernel_rfl) (by kernel_rfl) (by kernel_rfl) (fun _ _ _ h => h) (by kernel_rfl) (fun W hW => by go_simp) (by assumption) rfl rfl ?_
  simp only [Act.put, List.setIfInBounds_toArray, List.set_cons_zero, List.set_cons_succ]
  refine wpAnyH_yield 3 36 (.pointer (some ⟨Wb, 0, none⟩)) rfl rfl (by kernel_rfl) (by kernel_rfl) (by kernel_rfl) (fun _ _ _ h => h) (by kernel_rfl) (fun W hW => by go_simp) (by assumption) rfl rfl ?_
  simp only [Act.put, List.setIfInBounds_toArray, List.set_cons_zero, List.set_cons_succ]
  refine wpAnyH_yield 4 37 (.pointer (some ⟨Wb, k, none⟩)) rfl rfl (by kernel_rfl) (by kernel_rfl) (by kernel_rfl) (fun _ _ _ h => h) (by kernel_rfl) (fun W hW => by go_simp) (by assumption) rfl rfl ?_
  simp only [Act.put, List.setIfInBounds_toArray, List.set_cons_zero, List.set_cons_succ]
  refine wpAnyH_yield 5 38 (cp q) rfl rfl (by kernel_rfl) (by kernel_rfl) (by kernel_rfl) (fun _ _ _ h => h) (by kernel_rfl) (fun W hW => by obtain ⟨k0, -⟩ := HC.out W (T0.out.tr hW); go_simp) (by assumption) rfl rfl ?_
  simp only [Act.put, List.setIfInBounds_toArray, List.set_cons_zero, List.set_cons_succ]
  refine wpAnyH_yield 6 39 (cp Wb) rfl rfl (by kernel_rfl) (by kernel_rfl) (by kernel_rfl) (fun _ _ _ h => h) (by kernel_rfl) (fun W hW => by kernel_rfl) (by assumption) rfl rfl ?_
  simp only [Act.put, List.setIfInBounds_toArray, List.set_cons_zero, List.set_cons_succ]
  refine wpAnyH_yield 7 40 (.int .i64 (k : Int)) rfl rfl (by kernel_rfl) (by kernel_rfl) (by kernel_rfl) (fun _ _ _ h => h) (by kernel_rfl) (fun W hW => by kernel_rfl) (by assumption) rfl rfl ?_
  simp only [Act.put, List.setIfInBounds_toArray, List.set_cons_zero, List.set_cons_succ]
  refine wpAnyH_yield 8 41 (cp Wb) rfl rfl (by kernel_rfl) (by kernel_rfl) (by kernel_rfl) (fun _ _ _ h => h) (by kernel_rfl) (fun W hW => by go_simp) (by assumption) rfl rfl ?_
  simp only [Act.put, List.setIfInBounds_toArray, List.set_cons_zero, List.set_cons_succ]
  refine wpAnyH_yield 9 42 (.pointer (some ⟨Wb, 2, none⟩)) rfl rfl (by kernel_rfl) (by kernel_rfl) (by kernel_rfl) (fun _ _ _ h => h) (by kernel_rfl) (fun W hW => by go_simp) (by assumption) rfl rfl ?_
  simp only [Act.put, List.setIfInBounds_toArray, List.set_cons_zero, List.set_cons_succ]
  refine wpAnyH_yield 10 43 (.pointer (some ⟨Wb, 2 + k, none⟩)) rfl rfl (by kernel_rfl) (by kernel_rfl) (by kernel_rfl) (fun _ _ _ h => h) (by kernel_rfl) (fun W hW => by go_simp) (by assumption) rfl rfl ?_
  simp only [Act.put, List.setIfInBounds_toArray, List.set_cons_zero, List.set_cons_succ]
  refine wpAnyH_yield 11 44 (cp r) rfl rfl (by kernel_rfl) (by kernel_rfl) (by kernel_rfl) (fun _ _ _ h => h) (by kernel_rfl) (fun W hW => by obtain ⟨-, k0⟩ := HC.out W (T0.out.tr hW); go_simp) (by assumption) rfl rfl ?_
  simp only [Act.put, List.setIfInBounds_toArray, List.set_cons_zero, List.set_cons_succ]
  refine wpAnyH_yield 12 6 (cp q) rfl rfl (by kernel_rfl) (by kernel_rfl) (by kernel_rfl) (fun _ _ _ h => h) (by kernel_rfl) (fun W hW => by kernel_rfl) (by assumption) rfl rfl ?_
  simp only [Act.put, List.setIfInBounds_toArray, List.set_cons_zero, List.set_cons_succ]
  refine wpAnyH_yield 13 7 (cp r) rfl rfl (by kernel_rfl) (by kernel_rfl) (by kernel_rfl) (fun _ _ _ h => h) (by kernel_rfl) (fun W hW => by kernel_rfl) (by assumption) rfl rfl ?_
  simp only [Act.put, List.setIfInBounds_toArray, List.set_cons_zero, List.set_cons_succ]
  refine wpAnyH_done (by kernel_rfl) ?_ _
  have A1 := hide (hT0.at A0.out)
  have T1 := hide (T0.out.tr hT0)
  have SZ2 : Hid (({ w1 with drawn := w1.drawn + 1 } : World).heap.size = D + 1) := hide S0.out
  clear A0 T0 S0 HC
  generalize ({ w1 with drawn := w1.drawn + 1 } : World) = w2 at *
  clear hT0
  obtain ⟨a0, a1, a2, a3⟩ := st_cells A1.out
  go_wp2_with fail
  refine (ST.out _ T1.out).mono ?_
  rintro e w3 ⟨rfl, t3⟩
  have F := hide (FIN.out _ (T1.out.tr t3))
  clear ST FIN T1 A1 t3 a0 a1 a2 a3
  go_wp2_with fail
  go_ret
  exact F.out

set_option maxRecDepth 100000 in
set_option maxHeartbeats 4000000 in
theorem stepZ_3l {c : Cf} {p g b Wb : Nat} {th : Nat → Th} {m : Nat} {T : Int} {oo : Option Addr} {oc : Nat} {wo : Option Addr} {wc : Nat} {w : World} (h : Wl c p g b Wb th m T oo oc wo wc w) (on : Int) (k : Nat) (hk2 : k < 2) (hk : (wrap64 (on.tmod 2 + 2)).tmod 2 = (k : Int)) (M : List It) (mo : Option Addr) (mc : Nat) (ke : ByteArray) (hm : m ≤ 10) (hx : ke.size < 9223372036854775808) (hl : ¬ ke.size ≤ 256) : Calls Tryz.prog 7 #[cp Wb, .agg #[.int .i64 3, .int .i64 on, .slice mo M.length mc, .string ke]] w (RetW c p g b Wb (T + M.length) w) := by
  obtain ⟨q, r, L, s, G0, G1, hc, hp, hr, hd, hlt, hS, hT, h0, h1, fin⟩ := h.two k hk2
  have A0 := hide (al_new w (.cells #[.int .i64 3, .int .i64 on, .slice mo M.length mc, .string ke] 44))
  have T0 := hide ((Touch.refl (fun _ => False) w).alloc (.cells #[.int .i64 3, .int .i64 on, .slice mo M.length mc, .string ke] 44))
  have S0 := hide (al_size w (.cells #[.int .i64 3, .int .i64 on, .slice mo M.length mc, .string ke] 44))
  have HC := hide hc
  have K2 : (k : Int) < 2 := by omega
  have K0 : ¬ (k : Int) < 0 := by omega
  obtain ⟨a0, a1, a2, a3⟩ := st_cells A0.out
  have WO := hide (fun W (hW : Calm w W) => workR_any ke (hp.calm hW) hS hx)
  simp only [if_neg hl] at WO
  have RW := hide (fun W => rworkerZ_any ke hx p g hS.may W)
  obtain ⟨lo, lc, cr, -⟩ := hr.ex
  have KR : Hid (∀ W, Calm w W → W.heap[r]? = some (.cells (rrc c (p : Int) (.slice lo L.length lc) s) 53 (0, 0))) := hide fun W hW => hW.at cr
  have hg := hS.gr
  have FIN : Hid (∀ W, Calm w W → RetW c p g b Wb (T + M.length) w (.returned (.bool true)) W) := hide fun W hW => RetW.calm h hm (by omega) hW
  generalize wk p g (hsh ke % g) = K at *
  generalize L.length = nl at *
  have hl' : (256 : Int) < (ke.size : Int) := by omega
  have hl2 : 256 < ke.size := by omega
  clear h hp hr hlt fin hc cr hS hl
  generalize M.length = n at *
  go_enter Tryz.func7, Tryz.ntmps7
  go_wp2_with fail
  generalize w.alloc (.cells #[.int .i64 3, .int .i64 on, .slice mo n mc, .string ke] 44) = w1 at *
  generalize hD : w.heap.size = D at *
  have HD := hide hD
  clear hD a0 a1 a2 a3
  refine wp_region_held (S := Calm w1) (by kernel_rfl) ?_
  have hT0 : Calm w1 { w1 with drawn := w1.drawn + 1 } := (Touch.refl _ w1).drew
  refine wpAnyH_yield 0 33 (cp Wb) rfl rfl (by kernel_rfl) (by kernel_rfl) (by kernel_rfl) (fun _ _ _ h => h) (by kernel_rfl) (fun W hW => by kernel_rfl) (by assumption) rfl rfl ?_
  simp only [Act.put, List.setIfInBounds_toArray, List.set_cons_zero, List.set_cons_succ]
  refine wpAnyH_yield 1 34 (.int .i64 (k : Int)) rfl rfl (by kernel_rfl) (by kernel_rfl) (by kernel_rfl) (fun _ _ _ h => h) (by kernel_rfl) (fun W hW => by kernel_rfl) (by assumption) rfl rfl ?_
  simp only [Act.put, List.setIfInBounds_toArray, List.set_cons_zero, List.set_cons_succ]
  refine wpAnyH_yield 2 35 (cp Wb) rfl rfl (by kernel_rfl) (by kernel_rfl) (by kernel_rfl) (fun _ _ _ h => h) (by kernel_rfl) (fun W hW => by go_simp) (by assumption) rfl rfl ?_
  simp only [Act.put, List.setIfInBounds_toArray, List.set_cons_zero, List.set_cons_succ]
  refine wpAnyH_yield 3 36 (.pointer (some ⟨Wb, 0, none⟩)) rfl rfl (by kernel_rfl) (by kernel_rfl) (by kernel_rfl) (fun _ _ _ h => h) (by kernel_rfl) (fun W hW => by go_simp) (by assumption) rfl rfl ?_
  simp only [Act.put, List.setIfInBounds_toArray, List.set_cons_zero, List.set_cons_succ]
  refine wpAnyH_yield 4 37 (.pointer (some ⟨Wb, k, none⟩)) rfl rfl (by kernel_rfl) (by kernel_rfl) (by kernel_rfl) (fun _ _ _ h => h) (by kernel_rfl) (fun W hW => by go_simp) (by assumption) rfl rfl ?_
  simp only [Act.put, List.setIfInBounds_toArray, List.set_cons_zero, List.set_cons_succ]
  refine wpAnyH_yield 5 38 (cp q) rfl rfl (by kernel_rfl) (by kernel_rfl) (by kernel_rfl) (fun _ _ _ h => h) (by kernel_rfl) (fun W hW => by obtain ⟨k0, -⟩ := HC.out W (T0.out.tr hW); go_simp) (by assumption) rfl rfl ?_
  simp only [Act.put, List.setIfInBounds_toArray, List.set_cons_zero, List.set_cons_succ]
  refine wpAnyH_yield 6 39 (cp Wb) rfl rfl (by kernel_rfl) (by kernel_rfl) (by kernel_rfl) (fun _ _ _ h => h) (by kernel_rfl) (fun W hW => by kernel_rfl) (by assumption) rfl rfl ?_
  simp only [Act.put, List.setIfInBounds_toArray, List.set_cons_zero, List.set_cons_succ]
  refine wpAnyH_yield 7 40 (.int .i64 (k : Int)) rfl rfl (by kernel_rfl) (by kernel_rfl) (by kernel_rfl) (fun _ _ _ h => h) (by kernel_rfl) (fun W hW => by kernel_rfl) (by assumption) rfl rfl ?_
  simp only [Act.put, List.setIfInBounds_toArray, List.set_cons_zero, List.set_cons_succ]
  refine wpAnyH_yield 8 41 (cp Wb) rfl rfl (by kernel_rfl) (by kernel_rfl) (by kernel_rfl) (fun _ _ _ h => h) (by kernel_rfl) (fun W hW => by go_simp) (by assumption) rfl rfl ?_
  simp only [Act.put, List.setIfInBounds_toArray, List.set_cons_zero, List.set_cons_succ]
  refine wpAnyH_yield 9 42 (.pointer (some ⟨Wb, 2, none⟩)) rfl rfl (by kernel_rfl) (by kernel_rfl) (by kernel_rfl) (fun _ _ _ h => h) (by kernel_rfl) (fun W hW => by go_simp) (by assumption) rfl rfl ?_
  simp only [Act.put, List.setIfInBounds_toArray, List.set_cons_zero, List.set_cons_succ]
  refine wpAnyH_yield 10 43 (.pointer (some ⟨Wb, 2 + k, none⟩)) rfl rfl (by kernel_rfl) (by kernel_rfl) (by kernel_rfl) (fun _ _ _ h => h) (by kernel_rfl) (fun W hW => by go_simp) (by assumption) rfl rfl ?_
  simp only [Act.put, List.setIfInBounds_toArray, List.set_cons_zero, List.set_cons_succ]
  refine wpAnyH_yield 11 44 (cp r) rfl rfl (by kernel_rfl) (by kernel_rfl) (by kernel_rfl) (fun _ _ _ h => h) (by kernel_rfl) (fun W hW => by obtain ⟨-, k0⟩ := HC.out W (T0.out.tr hW); go_simp) (by assumption) rfl rfl ?_
  simp only [Act.put, List.setIfInBounds_toArray, List.set_cons_zero, List.set_cons_succ]
  refine wpAnyH_yield 12 6 (cp q) rfl rfl (by kernel_rfl) (by kernel_rfl) (by kernel_rfl) (fun _ _ _ h => h) (by kernel_rfl) (fun W hW => by kernel_rfl) (by assumption) rfl rfl ?_
  simp only [Act.put, List.setIfInBounds_toArray, List.set_cons_zero, List.set_cons_succ]
  refine wpAnyH_yield 13 7 (cp r) rfl rfl (by kernel_rfl) (by kernel_rfl) (by kernel_rfl) (fun _ _ _ h => h) (by kernel_rfl) (fun W hW => by kernel_rfl) (by assumption) rfl rfl ?_
  simp only [Act.put, List.setIfInBounds_toArray, List.set_cons_zero, List.set_cons_succ]
  refine wpAnyH_done (by kernel_rfl) ?_ _
  have A1 := hide (hT0.at A0.out)
  have T1 := hide (T0.out.tr hT0)
  have SZ2 : Hid (({ w1 with drawn := w1.drawn + 1 } : World).heap.size = D + 1) := hide S0.out
  clear A0 T0 S0 HC
  generalize ({ w1 with drawn := w1.drawn + 1 } : World) = w2 at *
  clear hT0
  obtain ⟨a0, a1, a2, a3⟩ := st_cells A1.out
  go_wp2_with fail
  refine (WO.out _ T1.out).mono ?_
  rintro e w3 ⟨rfl, t3⟩
  have T3 := hide (T1.out.tr t3)
  have A3 := hide (t3.at A1.out)
  clear a0 a1 a2 a3 WO t3 A1 T1
  obtain ⟨a0, a1, a2, a3⟩ := st_cells A3.out
  go_wp2_with fail
  go_ret
  exact FIN.out _ T3.out

set_option maxRecDepth 100000 in
set_option maxHeartbeats 4000000 in
theorem stepZ_3s {c : Cf} {p g b Wb : Nat} {th : Nat → Th} {m : Nat} {T : Int} {oo : Option Addr} {oc : Nat} {wo : Option Addr} {wc : Nat} {w : World} (h : Wl c p g b Wb th m T oo oc wo wc w) (on : Int) (k : Nat) (hk2 : k < 2) (hk : (wrap64 (on.tmod 2 + 2)).tmod 2 = (k : Int)) (M : List It) (mo : Option Addr) (mc : Nat) (ke : ByteArray) (hm : m ≤ 10) (hx : ke.size < 9223372036854775808) (hl : ke.size ≤ 256) : Calls Tryz.prog 7 #[cp Wb, .agg #[.int .i64 3, .int .i64 on, .slice mo M.length mc, .string ke]] w (RetW c p g b Wb (T + M.length) w) := by
  obtain ⟨q, r, L, s, G0, G1, hc, hp, hr, hd, hlt, hS, hT, h0, h1, fin⟩ := h.two k hk2
  have A0 := hide (al_new w (.cells #[.int .i64 3, .int .i64 on, .slice mo M.length mc, .string ke] 44))
  have T0 := hide ((Touch.refl (fun _ => False) w).alloc (.cells #[.int .i64 3, .int .i64 on, .slice mo M.length mc, .string ke] 44))
  have S0 := hide (al_size w (.cells #[.int .i64 3, .int .i64 on, .slice mo M.length mc, .string ke] 44))
  have HC := hide hc
  have K2 : (k : Int) < 2 := by omega
  have K0 : ¬ (k : Int) < 0 := by omega
  obtain ⟨a0, a1, a2, a3⟩ := st_cells A0.out
  have WO := hide (fun W (hW : Calm w W) => workR_any ke (hp.calm hW) hS hx)
  simp only [if_pos hl] at WO
  have RW := hide (fun W => rworkerZ_any ke hx p g hS.may W)
  obtain ⟨lo, lc, cr, -⟩ := hr.ex
  have KR : Hid (∀ W, Calm w W → W.heap[r]? = some (.cells (rrc c (p : Int) (.slice lo L.length lc) s) 53 (0, 0))) := hide fun W hW => hW.at cr
  have hg := hS.gr
  have FIN : Hid (∀ W, Calm w W → RetW c p g b Wb (T + M.length) w (.returned (.bool true)) W) := hide fun W hW => RetW.calm h hm (by omega) hW
  generalize wk p g (hsh ke % g) = K at *
  generalize L.length = nl at *
  have hl' : ¬ (256 : Int) < (ke.size : Int) := by omega
  have hl2 : ¬ 256 < ke.size := by omega
  clear h hp hr hlt fin hc cr hS hl
  generalize M.length = n at *
  go_enter Tryz.func7, Tryz.ntmps7
  go_wp2_with fail
  generalize w.alloc (.cells #[.int .i64 3, .int .i64 on, .slice mo n mc, .string ke] 44) = w1 at *
  generalize hD : w.heap.size = D at *
  have HD := hide hD
  clear hD a0 a1 a2 a3
  refine wp_region_held (S := Calm w1) (by kernel_rfl) ?_
  have hT0 : Calm w1 { w1 with drawn := w1.drawn + 1 } := (Touch.refl _ w1).drew
  refine wpAnyH_yield 0 33 (cp Wb) rfl rfl (by kernel_rfl) (by kernel_rfl) (by kernel_rfl) (fun _ _ _ h => h) (by kernel_rfl) (fun W hW => by kernel_rfl) (by assumption) rfl rfl ?_
  simp only [Act.put, List.setIfInBounds_toArray, List.set_cons_zero, List.set_cons_succ]
  refine wpAnyH_yield 1 34 (.int .i64 (k : Int)) rfl rfl (by kernel_rfl) (by kernel_rfl) (by kernel_rfl) (fun _ _ _ h => h) (by kernel_rfl) (fun W hW => by kernel_rfl) (by assumption) rfl rfl ?_
  simp only [Act.put, List.setIfInBounds_toArray, List.set_cons_zero, List.set_cons_succ]
  refine wpAnyH_yield 2 35 (cp Wb) rfl rfl (by kernel_rfl) (by kernel_rfl) (by kernel_rfl) (fun _ _ _ h => h) (by kernel_rfl) (fun W hW => by go_simp) (by assumption) rfl rfl ?_
  simp only [Act.put, List.setIfInBounds_toArray, List.set_cons_zero, List.set_cons_succ]
  refine wpAnyH_yield 3 36 (.pointer (some ⟨Wb, 0, none⟩)) rfl rfl (by kernel_rfl) (by kernel_rfl) (by kernel_rfl) (fun _ _ _ h => h) (by kernel_rfl) (fun W hW => by go_simp) (by assumption) rfl rfl ?_
  simp only [Act.put, List.setIfInBounds_toArray, List.set_cons_zero, List.set_cons_succ]
  refine wpAnyH_yield 4 37 (.pointer (some ⟨Wb, k, none⟩)) rfl rfl (by kernel_rfl) (by kernel_rfl) (by kernel_rfl) (fun _ _ _ h => h) (by kernel_rfl) (fun W hW => by go_simp) (by assumption) rfl rfl ?_
  simp only [Act.put, List.setIfInBounds_toArray, List.set_cons_zero, List.set_cons_succ]
  refine wpAnyH_yield 5 38 (cp q) rfl rfl (by kernel_rfl) (by kernel_rfl) (by kernel_rfl) (fun _ _ _ h => h) (by kernel_rfl) (fun W hW => by obtain ⟨k0, -⟩ := HC.out W (T0.out.tr hW); go_simp) (by assumption) rfl rfl ?_
  simp only [Act.put, List.setIfInBounds_toArray, List.set_cons_zero, List.set_cons_succ]
  refine wpAnyH_yield 6 39 (cp Wb) rfl rfl (by kernel_rfl) (by kernel_rfl) (by kernel_rfl) (fun _ _ _ h => h) (by kernel_rfl) (fun W hW => by kernel_rfl) (by assumption) rfl rfl ?_
  simp only [Act.put, List.setIfInBounds_toArray, List.set_cons_zero, List.set_cons_succ]
  refine wpAnyH_yield 7 40 (.int .i64 (k : Int)) rfl rfl (by kernel_rfl) (by kernel_rfl) (by kernel_rfl) (fun _ _ _ h => h) (by kernel_rfl) (fun W hW => by kernel_rfl) (by assumption) rfl rfl ?_
  simp only [Act.put, List.setIfInBounds_toArray, List.set_cons_zero, List.set_cons_succ]
  refine wpAnyH_yield 8 41 (cp Wb) rfl rfl (by kernel_rfl) (by kernel_rfl) (by kernel_rfl) (fun _ _ _ h => h) (by kernel_rfl) (fun W hW => by go_simp) (by assumption) rfl rfl ?_
  simp only [Act.put, List.setIfInBounds_toArray, List.set_cons_zero, List.set_cons_succ]
  refine wpAnyH_yield 9 42 (.pointer (some ⟨Wb, 2, none⟩)) rfl rfl (by kernel_rfl) (by kernel_rfl) (by kernel_rfl) (fun _ _ _ h => h) (by kernel_rfl) (fun W hW => by go_simp) (by assumption) rfl rfl ?_
  simp only [Act.put, List.setIfInBounds_toArray, List.set_cons_zero, List.set_cons_succ]
  refine wpAnyH_yield 10 43 (.pointer (some ⟨Wb, 2 + k, none⟩)) rfl rfl (by kernel_rfl) (by kernel_rfl) (by kernel_rfl) (fun _ _ _ h => h) (by kernel_rfl) (fun W hW => by go_simp) (by assumption) rfl rfl ?_
  simp only [Act.put, List.setIfInBounds_toArray, List.set_cons_zero, List.set_cons_succ]
  refine wpAnyH_yield 11 44 (cp r) rfl rfl (by kernel_rfl) (by kernel_rfl) (by kernel_rfl) (fun _ _ _ h => h) (by kernel_rfl) (fun W hW => by obtain ⟨-, k0⟩ := HC.out W (T0.out.tr hW); go_simp) (by assumption) rfl rfl ?_
  simp only [Act.put, List.setIfInBounds_toArray, List.set_cons_zero, List.set_cons_succ]
  refine wpAnyH_yield 12 6 (cp q) rfl rfl (by kernel_rfl) (by kernel_rfl) (by kernel_rfl) (fun _ _ _ h => h) (by kernel_rfl) (fun W hW => by kernel_rfl) (by assumption) rfl rfl ?_
  simp only [Act.put, List.setIfInBounds_toArray, List.set_cons_zero, List.set_cons_succ]
  refine wpAnyH_yield 13 7 (cp r) rfl rfl (by kernel_rfl) (by kernel_rfl) (by kernel_rfl) (fun _ _ _ h => h) (by kernel_rfl) (fun W hW => by kernel_rfl) (by assumption) rfl rfl ?_
  simp only [Act.put, List.setIfInBounds_toArray, List.set_cons_zero, List.set_cons_succ]
  refine wpAnyH_done (by kernel_rfl) ?_ _
  have A1 := hide (hT0.at A0.out)
  have T1 := hide (T0.out.tr hT0)
  have SZ2 : Hid (({ w1 with drawn := w1.drawn + 1 } : World).heap.size = D + 1) := hide S0.out
  clear A0 T0 S0 HC
  generalize ({ w1 with drawn := w1.drawn + 1 } : World) = w2 at *
  clear hT0
  obtain ⟨a0, a1, a2, a3⟩ := st_cells A1.out
  go_wp2_with fail
  refine (WO.out _ T1.out).mono ?_
  rintro e w3 ⟨rfl, t3⟩
  have T3 := hide (T1.out.tr t3)
  have A3 := hide (t3.at A1.out)
  clear a0 a1 a2 a3 WO t3 A1 T1
  obtain ⟨a0, a1, a2, a3⟩ := st_cells A3.out
  go_wp2_with fail
  refine wp_region_held (S := Calm w3) (by kernel_rfl) ?_
  have hT0 : Calm w3 { w3 with drawn := w3.drawn + 1 } := (Touch.refl _ w3).drew
  refine wpAnyH_yield 0 180 (.int .i64 (K : Int)) rfl rfl (by kernel_rfl) (by kernel_rfl) (by kernel_rfl) (fun _ _ _ h => h) (by kernel_rfl) (fun W hW => by kernel_rfl) (by assumption) rfl rfl ?_
  simp only [Act.put, List.setIfInBounds_toArray, List.set_cons_zero, List.set_cons_succ]
  refine wpAnyH_yield 1 181 (.pointer (some ⟨D, 3, none⟩)) rfl rfl (by kernel_rfl) (by kernel_rfl) (by kernel_rfl) (fun _ _ _ h => h) (by kernel_rfl) (fun W hW => by kernel_rfl) (by assumption) rfl rfl ?_
  simp only [Act.put, List.setIfInBounds_toArray, List.set_cons_zero, List.set_cons_succ]
  refine wpAnyH_yield 2 182 (.string ke) rfl rfl (by kernel_rfl) (by kernel_rfl) (by kernel_rfl) (fun _ _ _ h => h) (by kernel_rfl) (fun W hW => by obtain ⟨-, -, -, k0⟩ := st_cells (hW.at A3.out); go_simp) (by assumption) rfl rfl ?_
  simp only [Act.put, List.setIfInBounds_toArray, List.set_cons_zero, List.set_cons_succ]
  refine wpAnyH_yield 3 183 (cp r) rfl rfl (by kernel_rfl) (by kernel_rfl) (by kernel_rfl) (fun _ _ _ h => h) (by kernel_rfl) (fun W hW => by kernel_rfl) (by assumption) rfl rfl ?_
  simp only [Act.put, List.setIfInBounds_toArray, List.set_cons_zero, List.set_cons_succ]
  refine wpAnyH_yield 4 184 (cp r) rfl rfl (by kernel_rfl) (by kernel_rfl) (by kernel_rfl) (fun _ _ _ h => h) (by kernel_rfl) (fun W hW => by go_simp) (by assumption) rfl rfl ?_
  simp only [Act.put, List.setIfInBounds_toArray, List.set_cons_zero, List.set_cons_succ]
  refine wpAnyH_yield 5 185 (.pointer (some ⟨r, 10, none⟩)) rfl rfl (by kernel_rfl) (by kernel_rfl) (by kernel_rfl) (fun _ _ _ h => h) (by kernel_rfl) (fun W hW => by go_simp) (by assumption) rfl rfl ?_
  simp only [Act.put, List.setIfInBounds_toArray, List.set_cons_zero, List.set_cons_succ]
  refine wpAnyH_yield 6 186 (.int .i64 (p : Int)) rfl rfl (by kernel_rfl) (by kernel_rfl) (by kernel_rfl) (fun _ _ _ h => h) (by kernel_rfl) (fun W hW => by obtain ⟨-, k0, -⟩ := rr_cells (KR.out W (T3.out.tr hW)); go_simp) (by assumption) rfl rfl ?_
  simp only [Act.put, List.setIfInBounds_toArray, List.set_cons_zero, List.set_cons_succ]
  refine wpAnyH_yield 7 187 (cp r) rfl rfl (by kernel_rfl) (by kernel_rfl) (by kernel_rfl) (fun _ _ _ h => h) (by kernel_rfl) (fun W hW => by kernel_rfl) (by assumption) rfl rfl ?_
  simp only [Act.put, List.setIfInBounds_toArray, List.set_cons_zero, List.set_cons_succ]
  refine wpAnyH_yield 8 188 (cp r) rfl rfl (by kernel_rfl) (by kernel_rfl) (by kernel_rfl) (fun _ _ _ h => h) (by kernel_rfl) (fun W hW => by go_simp) (by assumption) rfl rfl ?_
  simp only [Act.put, List.setIfInBounds_toArray, List.set_cons_zero, List.set_cons_succ]
  refine wpAnyH_yield 9 189 (.pointer (some ⟨r, 0, none⟩)) rfl rfl (by kernel_rfl) (by kernel_rfl) (by kernel_rfl) (fun _ _ _ h => h) (by kernel_rfl) (fun W hW => by go_simp) (by assumption) rfl rfl ?_
  simp only [Act.put, List.setIfInBounds_toArray, List.set_cons_zero, List.set_cons_succ]
  refine wpAnyH_yield 10 190 (.pointer (some ⟨r, 0, none⟩)) rfl rfl (by kernel_rfl) (by kernel_rfl) (by kernel_rfl) (fun _ _ _ h => h) (by kernel_rfl) (fun W hW => by go_simp) (by assumption) rfl rfl ?_
  simp only [Act.put, List.setIfInBounds_toArray, List.set_cons_zero, List.set_cons_succ]
  refine wpAnyH_yield 11 191 (.int .i64 (g : Int)) rfl rfl (by kernel_rfl) (by kernel_rfl) (by kernel_rfl) (fun _ _ _ h => h) (by kernel_rfl) (fun W hW => by obtain ⟨⟨k0, -⟩, -⟩ := rr_cells (KR.out W (T3.out.tr hW)); rw [hg] at k0; go_simp) (by assumption) rfl rfl ?_
  simp only [Act.put, List.setIfInBounds_toArray, List.set_cons_zero, List.set_cons_succ]
  refine wpAnyH_enter 12 192 22 #[.string ke, .int .i64 (p : Int), .int .i64 (g : Int)] rfl rfl (by kernel_rfl) (by kernel_rfl) (by kernel_rfl) ?_
  refine ((RW.out _)).mono ?_
  rintro r w4 ⟨rfl, rfl⟩
  refine ⟨_, rfl, hT0, ?_⟩
  simp only [Act.put, List.setIfInBounds_toArray, List.set_cons_zero, List.set_cons_succ]
  refine wpAnyH_yield 13 193 (.bool true) rfl rfl (by kernel_rfl) (by kernel_rfl) (by kernel_rfl) (fun _ _ _ h => h) (by kernel_rfl) (fun W hW => by go_simp) (by assumption) rfl rfl ?_
  simp only [Act.put, List.setIfInBounds_toArray, List.set_cons_zero, List.set_cons_succ]
  refine wpAnyH_yield 14 194 (.bool true) rfl rfl (by kernel_rfl) (by kernel_rfl) (by kernel_rfl) (fun _ _ _ h => h) (by kernel_rfl) (fun W hW => by kernel_rfl) (by assumption) rfl rfl ?_
  simp only [Act.put, List.setIfInBounds_toArray, List.set_cons_zero, List.set_cons_succ]
  refine wpAnyH_yield 15 195 (.int .i64 0) rfl rfl (by kernel_rfl) (by kernel_rfl) (by kernel_rfl) (fun _ _ _ h => h) (by kernel_rfl) (fun W hW => by kernel_rfl) (by assumption) rfl rfl ?_
  simp only [Act.put, List.setIfInBounds_toArray, List.set_cons_zero, List.set_cons_succ]
  refine wpAnyH_yield 16 196 (.bool true) rfl rfl (by kernel_rfl) (by kernel_rfl) (by kernel_rfl) (fun _ _ _ h => h) (by kernel_rfl) (fun W hW => by kernel_rfl) (by assumption) rfl rfl ?_
  simp only [Act.put, List.setIfInBounds_toArray, List.set_cons_zero, List.set_cons_succ]
  refine wpAnyH_yield 17 197 (.bool true) rfl rfl (by kernel_rfl) (by kernel_rfl) (by kernel_rfl) (fun _ _ _ h => h) (by kernel_rfl) (fun W hW => by kernel_rfl) (by assumption) rfl rfl ?_
  simp only [Act.put, List.setIfInBounds_toArray, List.set_cons_zero, List.set_cons_succ]
  refine wpAnyH_yield 18 4 (.bool true) rfl rfl (by kernel_rfl) (by kernel_rfl) (by kernel_rfl) (fun _ _ _ h => h) (by kernel_rfl) (fun W hW => by kernel_rfl) (by assumption) rfl rfl ?_
  simp only [Act.put, List.setIfInBounds_toArray, List.set_cons_zero, List.set_cons_succ]
  refine wpAnyH_done (by kernel_rfl) ?_ _
  have F := hide (FIN.out _ (T3.out.tr hT0))
  clear hT0 A3 T3 KR RW FIN a0 a1 a2 a3
  go_wp2_with fail
  go_ret
  exact F.out

set_option maxRecDepth 100000 in
set_option maxHeartbeats 4000000 in
theorem stepZ_o {c : Cf} {p g b Wb : Nat} {th : Nat → Th} {m : Nat} {T : Int} {oo : Option Addr} {oc : Nat} {wo : Option Addr} {wc : Nat} {w : World} (h : Wl c p g b Wb th m T oo oc wo wc w) (kd : Int) (on : Int) (k : Nat) (hk2 : k < 2) (hk : (wrap64 (on.tmod 2 + 2)).tmod 2 = (k : Int)) (M : List It) (mo : Option Addr) (mc : Nat) (ke : ByteArray) (hm : m ≤ 10) (e1 : kd ≠ 1) (e2 : kd ≠ 2) (e3 : kd ≠ 3) (e4 : kd ≠ 4) (e5 : kd ≠ 5) (e6 : kd ≠ 6) : Calls Tryz.prog 7 #[cp Wb, .agg #[.int .i64 kd, .int .i64 on, .slice mo M.length mc, .string ke]] w (RetW c p g b Wb (T + M.length) w) := by
  obtain ⟨q, r, L, s, G0, G1, hc, hp, hr, hd, hlt, hS, hT, h0, h1, fin⟩ := h.two k hk2
  have A0 := hide (al_new w (.cells #[.int .i64 kd, .int .i64 on, .slice mo M.length mc, .string ke] 44))
  have T0 := hide ((Touch.refl (fun _ => False) w).alloc (.cells #[.int .i64 kd, .int .i64 on, .slice mo M.length mc, .string ke] 44))
  have S0 := hide (al_size w (.cells #[.int .i64 kd, .int .i64 on, .slice mo M.length mc, .string ke] 44))
  have HC := hide hc
  have K2 : (k : Int) < 2 := by omega
  have K0 : ¬ (k : Int) < 0 := by omega
  obtain ⟨a0, a1, a2, a3⟩ := st_cells A0.out
  have FIN : Hid (∀ W, Calm w W → RetW c p g b Wb (T + M.length) w (.returned (.bool true)) W) := hide fun W hW => RetW.calm h hm (by omega) hW
  clear h hp hr hlt fin hc
  generalize M.length = n at *
  have d1 : (kd == 1) = false := by simp [e1]
  have d2 : (kd == 2) = false := by simp [e2]
  have d3 : (kd == 3) = false := by simp [e3]
  have d4 : (kd == 4) = false := by simp [e4]
  have d5 : (kd == 5) = false := by simp [e5]
  have d6 : (kd == 6) = false := by simp [e6]
  clear e1 e2 e3 e4 e5 e6
  go_enter Tryz.func7, Tryz.ntmps7
  go_wp2_with fail
  generalize w.alloc (.cells #[.int .i64 kd, .int .i64 on, .slice mo n mc, .string ke] 44) = w1 at *
  generalize hD : w.heap.size = D at *
  have HD := hide hD
  clear hD a0 a1 a2 a3
  refine wp_region_held (S := Calm w1) (by kernel_rfl) ?_
  have hT0 : Calm w1 { w1 with drawn := w1.drawn + 1 } := (Touch.refl _ w1).drew
  refine wpAnyH_yield 0 33 (cp Wb) rfl rfl (by kernel_rfl) (by kernel_rfl) (by kernel_rfl) (fun _ _ _ h => h) (by kernel_rfl) (fun W hW => by kernel_rfl) (by assumption) rfl rfl ?_
  simp only [Act.put, List.setIfInBounds_toArray, List.set_cons_zero, List.set_cons_succ]
  refine wpAnyH_yield 1 34 (.int .i64 (k : Int)) rfl rfl (by kernel_rfl) (by kernel_rfl) (by kernel_rfl) (fun _ _ _ h => h) (by kernel_rfl) (fun W hW => by kernel_rfl) (by assumption) rfl rfl ?_
  simp only [Act.put, List.setIfInBounds_toArray, List.set_cons_zero, List.set_cons_succ]
  refine wpAnyH_yield 2 35 (cp Wb) rfl rfl (by kernel_rfl) (by kernel_rfl) (by kernel_rfl) (fun _ _ _ h => h) (by kernel_rfl) (fun W hW => by go_simp) (by assumption) rfl rfl ?_
  simp only [Act.put, List.setIfInBounds_toArray, List.set_cons_zero, List.set_cons_succ]
  refine wpAnyH_yield 3 36 (.pointer (some ⟨Wb, 0, none⟩)) rfl rfl (by kernel_rfl) (by kernel_rfl) (by kernel_rfl) (fun _ _ _ h => h) (by kernel_rfl) (fun W hW => by go_simp) (by assumption) rfl rfl ?_
  simp only [Act.put, List.setIfInBounds_toArray, List.set_cons_zero, List.set_cons_succ]
  refine wpAnyH_yield 4 37 (.pointer (some ⟨Wb, k, none⟩)) rfl rfl (by kernel_rfl) (by kernel_rfl) (by kernel_rfl) (fun _ _ _ h => h) (by kernel_rfl) (fun W hW => by go_simp) (by assumption) rfl rfl ?_
  simp only [Act.put, List.setIfInBounds_toArray, List.set_cons_zero, List.set_cons_succ]
  refine wpAnyH_yield 5 38 (cp q) rfl rfl (by kernel_rfl) (by kernel_rfl) (by kernel_rfl) (fun _ _ _ h => h) (by kernel_rfl) (fun W hW => by obtain ⟨k0, -⟩ := HC.out W (T0.out.tr hW); go_simp) (by assumption) rfl rfl ?_
  simp only [Act.put, List.setIfInBounds_toArray, List.set_cons_zero, List.set_cons_succ]
  refine wpAnyH_yield 6 39 (cp Wb) rfl rfl (by kernel_rfl) (by kernel_rfl) (by kernel_rfl) (fun _ _ _ h => h) (by kernel_rfl) (fun W hW => by kernel_rfl) (by assumption) rfl rfl ?_
  simp only [Act.put, List.setIfInBounds_toArray, List.set_cons_zero, List.set_cons_succ]
  refine wpAnyH_yield 7 40 (.int .i64 (k : Int)) rfl rfl (by kernel_rfl) (by kernel_rfl) (by kernel_rfl) (fun _ _ _ h => h) (by kernel_rfl) (fun W hW => by kernel_rfl) (by assumption) rfl rfl ?_
  simp only [Act.put, List.setIfInBounds_toArray, List.set_cons_zero, List.set_cons_succ]
  refine wpAnyH_yield 8 41 (cp Wb) rfl rfl (by kernel_rfl) (by kernel_rfl) (by kernel_rfl) (fun _ _ _ h => h) (by kernel_rfl) (fun W hW => by go_simp) (by assumption) rfl rfl ?_
  simp only [Act.put, List.setIfInBounds_toArray, List.set_cons_zero, List.set_cons_succ]
  refine wpAnyH_yield 9 42 (.pointer (some ⟨Wb, 2, none⟩)) rfl rfl (by kernel_rfl) (by kernel_rfl) (by kernel_rfl) (fun _ _ _ h => h) (by kernel_rfl) (fun W hW => by go_simp) (by assumption) rfl rfl ?_
  simp only [Act.put, List.setIfInBounds_toArray, List.set_cons_zero, List.set_cons_succ]
  refine wpAnyH_yield 10 43 (.pointer (some ⟨Wb, 2 + k, none⟩)) rfl rfl (by kernel_rfl) (by kernel_rfl) (by kernel_rfl) (fun _ _ _ h => h) (by kernel_rfl) (fun W hW => by go_simp) (by assumption) rfl rfl ?_
  simp only [Act.put, List.setIfInBounds_toArray, List.set_cons_zero, List.set_cons_succ]
  refine wpAnyH_yield 11 44 (cp r) rfl rfl (by kernel_rfl) (by kernel_rfl) (by kernel_rfl) (fun _ _ _ h => h) (by kernel_rfl) (fun W hW => by obtain ⟨-, k0⟩ := HC.out W (T0.out.tr hW); go_simp) (by assumption) rfl rfl ?_
  simp only [Act.put, List.setIfInBounds_toArray, List.set_cons_zero, List.set_cons_succ]
  refine wpAnyH_yield 12 6 (cp q) rfl rfl (by kernel_rfl) (by kernel_rfl) (by kernel_rfl) (fun _ _ _ h => h) (by kernel_rfl) (fun W hW => by kernel_rfl) (by assumption) rfl rfl ?_
  simp only [Act.put, List.setIfInBounds_toArray, List.set_cons_zero, List.set_cons_succ]
  refine wpAnyH_yield 13 7 (cp r) rfl rfl (by kernel_rfl) (by kernel_rfl) (by kernel_rfl) (fun _ _ _ h => h) (by kernel_rfl) (fun W hW => by kernel_rfl) (by assumption) rfl rfl ?_
  simp only [Act.put, List.setIfInBounds_toArray, List.set_cons_zero, List.set_cons_succ]
  refine wpAnyH_done (by kernel_rfl) ?_ _
  have A1 := hide (hT0.at A0.out)
  have T1 := hide (T0.out.tr hT0)
  have SZ2 : Hid (({ w1 with drawn := w1.drawn + 1 } : World).heap.size = D + 1) := hide S0.out
  clear A0 T0 S0 HC
  generalize ({ w1 with drawn := w1.drawn + 1 } : World) = w2 at *
  clear hT0
  obtain ⟨a0, a1, a2, a3⟩ := st_cells A1.out
  go_wp2_with fail
  go_ret
  exact FIN.out _ T1.out


end Go.Proofs.YtapnjofplilefaaGreat

namespace Go.Proofs.YtapnjofplilefaaGreat
open Go.RowKit

theorem allT_set {L : List Int} {i : Nat} {t : Int} (h : allT L = true) (ht : timZ t = true) : allT (L.set i (max (L.getD i 0) t)) = true := by
  unfold allT at *
  simp only [List.all_eq_true, List.mem_range, List.length_set] at h ⊢
  intro j hj
  rw [List.getD_eq_getElem?_getD, List.getElem?_set]
  split
  · rename_i e
    subst e
    have := h i hj
    simp only [hj, if_true, Option.getD_some]
    unfold timZ at *
    simp only [Bool.and_eq_true, decide_eq_true_eq] at *
    omega
  · have := h j hj
    rw [List.getD_eq_getElem?_getD] at this
    exact this
theorem allT_item {c : Cf} {L : List Int} {x : It} (h : allT L = true) (hz : itemZ c x = true) : allT (itemL L x) = true := by
  unfold itemL
  split
  · rename_i e
    unfold plM
    exact allT_set h (itemZ_2t hz e)
  · exact h
theorem allT_go {c : Cf} : ∀ (M : List It) {L : List Int}, allT L = true → (∀ x ∈ M, itemZ c x = true) → allT (goL L M) = true
  | [], _, h, _ => h
  | x :: M, L, h, hz => allT_go M (allT_item h (hz x (by simp))) (fun y hy => hz y (by simp [hy]))
theorem taken_z (c : Cf) : ∀ (M : List It), ∀ x ∈ taken c M, itemZ c x = true
  | [], x, hx => by simp [taken] at hx
  | y :: M, x, hx => by
    unfold taken at hx
    rw [List.takeWhile_cons] at hx
    split at hx
    · rename_i hy
      rcases List.mem_cons.1 hx with rfl | h
      · exact hy
      · exact taken_z c M x h
    · cases hx
theorem goS_eq : ∀ (M : List It) (s : Int), 0 ≤ s → s + M.length ≤ 4611686018427387904 → goS s M = s + M.length
  | [], s, _, _ => by simp [goS]
  | x :: M, s, h0, h1 => by
    have e : nxt s = s + 1 := by unfold nxt wrap64; simp at h1; omega
    show goS (nxt s) M = _
    rw [e, goS_eq M (s + 1) (by omega) (by simp at h1; omega)]
    simp; omega

/-- A row of what was sent, of n at least, that may be written over. -/
def Bk (w0 : World) (g n : Nat) (wr : World) : Prop := (∃ cur : Array Value, wr.heap[g]? = some (.cells cur 65 (0, 0)) ∧ n * 6 ≤ cur.size) ∧ Touch (fun d => d = g) w0 wr
theorem Bk.of {w : World} {base n k : Nat} {a : Option Addr} {A : List Sn} (h : encSn.Own 65 w base (.slice a n k) A) (hn : 0 < n) : ∃ g, a = some ⟨g, 0, none⟩ ∧ base ≤ g ∧ g < w.heap.size ∧ Bk w g n w := by
  obtain ⟨-, h | ⟨g, cap, cur, e, h1, h2, h3, -, h5, -⟩⟩ := h
  · injection h.1 with e1 e2 e3
    omega
  · injection e with e1 e2 e3
    have e6 : encSn.n = 6 := rfl
    rw [e6] at h5
    have eA : A.length = n := e2.symm
    exact ⟨g, e1, h1, lt_of_heap h2, ⟨cur, h2, by rw [h5]; exact Nat.mul_le_mul_right 6 (by omega)⟩, Touch.refl _ _⟩
theorem Bk.free {w0 wr : World} {g n i : Nat} (h : Bk w0 g n wr) (hi : i < n) : ((∃ u, wr.cell? ⟨g, i * 6, none⟩ = some u) ∧ (∃ u, wr.cell? ⟨g, i * 6 + 1, none⟩ = some u) ∧ (∃ u, wr.cell? ⟨g, i * 6 + 2, none⟩ = some u) ∧ (∃ u, wr.cell? ⟨g, i * 6 + 3, none⟩ = some u) ∧ (∃ u, wr.cell? ⟨g, i * 6 + 4, none⟩ = some u) ∧ (∃ u, wr.cell? ⟨g, i * 6 + 5, none⟩ = some u)) ∧ ∀ o, wr.frozen? ⟨g, o, none⟩ = false := by
  obtain ⟨⟨cur, h1, h2⟩, -⟩ := h
  refine ⟨⟨⟨cur[i * 6]'(by omega), ?_⟩, ⟨cur[i * 6 + 1]'(by omega), ?_⟩, ⟨cur[i * 6 + 2]'(by omega), ?_⟩, ⟨cur[i * 6 + 3]'(by omega), ?_⟩, ⟨cur[i * 6 + 4]'(by omega), ?_⟩, ⟨cur[i * 6 + 5]'(by omega), ?_⟩⟩, fun o => by simp [World.frozen?, h1]⟩ <;> simp [World.cell?, h1]
abbrev bkW (wr : World) (g i : Nat) (v0 v1 v2 v3 v4 v5 : Value) : World := (((((wr.setCell ⟨g, i * 6, none⟩ v0).setCell ⟨g, i * 6 + 1, none⟩ v1).setCell ⟨g, i * 6 + 2, none⟩ v2).setCell ⟨g, i * 6 + 3, none⟩ v3).setCell ⟨g, i * 6 + 4, none⟩ v4).setCell ⟨g, i * 6 + 5, none⟩ v5
theorem Bk.next {w0 wr : World} {g n : Nat} (h : Bk w0 g n wr) (i : Nat) (v0 v1 v2 v3 v4 v5 : Value) : Bk w0 g n (bkW wr g i v0 v1 v2 v3 v4 v5) := by
  obtain ⟨⟨cur, h1, h2⟩, h4⟩ := h
  have k0 := heap_setCell_row (i := i * 6) h1 v0
  have k1 := heap_setCell_row (i := i * 6 + 1) k0 v1
  have k2 := heap_setCell_row (i := i * 6 + 2) k1 v2
  have k3 := heap_setCell_row (i := i * 6 + 3) k2 v3
  have k4 := heap_setCell_row (i := i * 6 + 4) k3 v4
  have k5 := heap_setCell_row (i := i * 6 + 5) k4 v5
  exact ⟨⟨_, k5, by simpa using h2⟩, (((((h4.setCell (p := ⟨g, i * 6, none⟩) (fun _ => rfl) _).setCell (p := ⟨g, i * 6 + 1, none⟩) (fun _ => rfl) _).setCell (p := ⟨g, i * 6 + 2, none⟩) (fun _ => rfl) _).setCell (p := ⟨g, i * 6 + 3, none⟩) (fun _ => rfl) _).setCell (p := ⟨g, i * 6 + 4, none⟩) (fun _ => rfl) _).setCell (p := ⟨g, i * 6 + 5, none⟩) (fun _ => rfl) _⟩

end Go.Proofs.YtapnjofplilefaaGreat
