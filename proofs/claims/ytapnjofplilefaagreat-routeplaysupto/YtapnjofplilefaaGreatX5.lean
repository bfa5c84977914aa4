/- RoutePlays: the law's step, kind 5. RoutePlays: the law's step, kind 6. RoutePlays: the law's step, kind 6, a pair put aside. -/
import Derived.Test.YtapnjofplilefaaGreatX2
import Derived.Test.YtapnjofplilefaaGreatZI
import Derived.Test.YtapnjofplilefaaGreatCJ0
namespace Go.Proofs.YtapnjofplilefaaGreat
open Go.RowKit

set_option maxRecDepth 100000 in
set_option maxHeartbeats 4000000 in
theorem stepZ_5 {c : Cf} {p g b Wb : Nat} {th : Nat → Th} {m : Nat} {T : Int} {oo : Option Addr} {oc : Nat} {wo : Option Addr} {wc : Nat} {w : World} (h : Wl c p g b Wb th m T oo oc wo wc w) (on : Int) (k : Nat) (hk2 : k < 2) (hk : (wrap64 (on.tmod 2 + 2)).tmod 2 = (k : Int)) (M : List It) (mo : Option Addr) (mc : Nat) (ke : ByteArray) (hm : m ≤ 10) (hT9 : T ≤ 4611686018427387904) : Calls Tryz.prog 7 #[cp Wb, .agg #[.int .i64 5, .int .i64 on, .slice mo M.length mc, .string ke]] w (RetW c p g b Wb (T + M.length) w) := by
  obtain ⟨q, r, L, s, G0, G1, hc, hp, hr, hd, hlt, hS, hT, h0, h1, fin⟩ := h.two2 k hk2
  have A0 := hide (al_new w (.cells #[.int .i64 5, .int .i64 on, .slice mo M.length mc, .string ke] 44))
  have T0 := hide ((Touch.refl (fun _ => False) w).alloc (.cells #[.int .i64 5, .int .i64 on, .slice mo M.length mc, .string ke] 44))
  have S0 := hide (al_size w (.cells #[.int .i64 5, .int .i64 on, .slice mo M.length mc, .string ke] 44))
  have HC := hide hc
  have K2 : (k : Int) < 2 := by omega
  have K0 : ¬ (k : Int) < 0 := by omega
  obtain ⟨a0, a1, a2, a3⟩ := st_cells A0.out
  have MA := hide (fun W (hW : Calm w W) => marksR_any (hp.calm hW))
  have SQ := hide (fun W (hW : Calm w W) => seqR_any (hp.calm hW))
  have FR : Hid (∀ W a kc, encJ.Sl W a kc L → Calls Tryz.prog 10 #[cfv c, .int .i64 (p : Int), .slice a L.length kc, .int .i64 s] W fun e w' => ∃ q', e = .returned (.tuple #[cp q', .int .i64 0]) ∧ Pr w' q' (fun d => W.heap.size ≤ d ∧ d < w'.heap.size) c p L s ∧ Calm W w') := hide fun W a kc hs => by
    have hl := hr.len
    refine (fromR_any c p L a kc s W hs (by omega)).mono fun e w' hh => ?_
    rcases hh with ⟨hn, -⟩ | ⟨-, q', e1, e2, e3⟩
    · exact absurd (from_stands hp.job hS hT h0 (by omega)) hn
    · exact ⟨q', e1, e2, e3⟩
  obtain ⟨lo, lc, cr, -⟩ := hr.ex
  have KR : Hid (∀ W, Calm w W → W.heap[r]? = some (.cells (rrc c (p : Int) (.slice lo L.length lc) s) 53 (0, 0))) := hide fun W hW => hW.at cr
  have LL : Hid (L.length ≤ 64 ∧ 0 < L.length) := hide ⟨hr.len, List.length_pos_iff.2 hr.ne⟩
  have FIN : Hid (∀ W q' G', Calm w W → Pr W q' G' c p L s → (∀ d, G' d → w.heap.size ≤ d) → RetW c p g b Wb (T + M.length) w (.returned (.bool true)) (W.setCell ⟨Wb, k, none⟩ (cp q')) ∧ (∃ u, W.cell? ⟨Wb, k, none⟩ = some u) ∧ W.frozen? ⟨Wb, k, none⟩ = false) := hide fun W q' G' hW hP hg => by
    obtain ⟨-, -, eL, es, -⟩ := fin
    obtain ⟨⟨th', hw⟩, t, u, f, -⟩ := h.renew k hk2 (T' := T + M.length) (by omega) hW (by rw [eL, es]; exact hP) hg
    exact ⟨⟨rfl, t, th', m, oo, oc, wo, wc, hm, hw⟩, u, f⟩
  clear h hp hr hlt fin hc cr hS hT hT9
  generalize hnl : L.length = nl at *
  have HNL := hide hnl
  clear hnl
  generalize M.length = n at *
  go_enter Tryz.func7, Tryz.ntmps7
  go_wp2_with fail
  generalize w.alloc (.cells #[.int .i64 5, .int .i64 on, .slice mo n mc, .string ke] 44) = w1 at *
  generalize hD : w.heap.size = D at *
  have HD := hide hD
  clear hD a0 a1 a2 a3
  refine wp_region_held (S := Calm w1) (by kernel_rfl) ?_
  have hT0 : Calm w1 { w1 with drawn := w1.drawn + 1 } := (Touch.refl _ w1).drew
  refine wpAnyH_yield 0 33 (cp Wb) rfl rfl (by kernel_rfl) (by kernel_rfl) (by kernel_rfl) (fun _ _ _ h => h) (by kernel_rfl) (fun W hW => by kernel_rfl) (by assumption) rfl rfl ?_
  simp only [Act.put, List.setIfInBounds_toArray, List.set_cons_zero, List.set_cons_succ]
  refine wpAnyH_yield 1 34 (.int .i64 (k : Int)) rfl rfl (by kernel_rfl) (by kernel_rfl) (by kernel_rfl) (fun _ _ _ h => h) (by kernel_rfl) (fun W hW => by kernel_rfl) (by assumption) rfl rfl ?_
  simp only [Act.put, List.setIfInBounds_toArray, List.set_cons_zero, List.set_cons_succ]
  refine wpAnyH_yield 2 35 (cp Wb) rfl rfl (by kernel_rfl) (by kernel_rfl) (by kernel_rfl) (fun _ _ _ h => h) (by kernel_rfl) (fun W hW => by go_simp) (by assumption) rfl rfl ?_
  simp only [Act.put, List.setIfInBounds_toArray, List.set_cons_zero, List.set_cons_succ]
  refine wpAnyH_yield 3 36 (.pointer (some ⟨Wb, 0, none⟩)) rfl rfl (by kernel_rfl) (by kernel_rfl) (by kernel_rfl) (fun _ _ _ h => h) (by kernel_rfl) (fun W hW => by go_simp) (by assumption) rfl rfl ?_
  simp only [Act.put, List.setIfInBounds_toArray, List.set_cons_zero, List.set_cons_succ]
  refine wpAnyH_yield 4 37 (.pointer (some ⟨Wb, k, none⟩)) rfl rfl (by kernel_rfl) (by kernel_rfl) (by kernel_rfl) (fun _ _ _ h => h) (by kernel_rfl) (fun W hW => by go_simp) (by assumption) rfl rfl ?_
  simp only [Act.put, List.setIfInBounds_toArray, List.set_cons_zero, List.set_cons_succ]
  refine wpAnyH_yield 5 38 (cp q) rfl rfl (by kernel_rfl) (by kernel_rfl) (by kernel_rfl) (fun _ _ _ h => h) (by kernel_rfl) (fun W hW => by obtain ⟨k0, -⟩ := HC.out W (T0.out.tr hW); go_simp) (by assumption) rfl rfl ?_
  simp only [Act.put, List.setIfInBounds_toArray, List.set_cons_zero, List.set_cons_succ]
  refine wpAnyH_yield 6 39 (cp Wb) rfl rfl (by kernel_rfl) (by kernel_rfl) (by kernel_rfl) (fun _ _ _ h => h) (by kernel_rfl) (fun W hW => by kernel_rfl) (by assumption) rfl rfl ?_
  simp only [Act.put, List.setIfInBounds_toArray, List.set_cons_zero, List.set_cons_succ]
  refine wpAnyH_yield 7 40 (.int .i64 (k : Int)) rfl rfl (by kernel_rfl) (by kernel_rfl) (by kernel_rfl) (fun _ _ _ h => h) (by kernel_rfl) (fun W hW => by kernel_rfl) (by assumption) rfl rfl ?_
  simp only [Act.put, List.setIfInBounds_toArray, List.set_cons_zero, List.set_cons_succ]
  refine wpAnyH_yield 8 41 (cp Wb) rfl rfl (by kernel_rfl) (by kernel_rfl) (by kernel_rfl) (fun _ _ _ h => h) (by kernel_rfl) (fun W hW => by go_simp) (by assumption) rfl rfl ?_
  simp only [Act.put, List.setIfInBounds_toArray, List.set_cons_zero, List.set_cons_succ]
  refine wpAnyH_yield 9 42 (.pointer (some ⟨Wb, 2, none⟩)) rfl rfl (by kernel_rfl) (by kernel_rfl) (by kernel_rfl) (fun _ _ _ h => h) (by kernel_rfl) (fun W hW => by go_simp) (by assumption) rfl rfl ?_
  simp only [Act.put, List.setIfInBounds_toArray, List.set_cons_zero, List.set_cons_succ]
  refine wpAnyH_yield 10 43 (.pointer (some ⟨Wb, 2 + k, none⟩)) rfl rfl (by kernel_rfl) (by kernel_rfl) (by kernel_rfl) (fun _ _ _ h => h) (by kernel_rfl) (fun W hW => by go_simp) (by assumption) rfl rfl ?_
  simp only [Act.put, List.setIfInBounds_toArray, List.set_cons_zero, List.set_cons_succ]
  refine wpAnyH_yield 11 44 (cp r) rfl rfl (by kernel_rfl) (by kernel_rfl) (by kernel_rfl) (fun _ _ _ h => h) (by kernel_rfl) (fun W hW => by obtain ⟨-, k0⟩ := HC.out W (T0.out.tr hW); go_simp) (by assumption) rfl rfl ?_
  simp only [Act.put, List.setIfInBounds_toArray, List.set_cons_zero, List.set_cons_succ]
  refine wpAnyH_yield 12 6 (cp q) rfl rfl (by kernel_rfl) (by kernel_rfl) (by kernel_rfl) (fun _ _ _ h => h) (by kernel_rfl) (fun W hW => by kernel_rfl) (by assumption) rfl rfl ?_
  simp only [Act.put, List.setIfInBounds_toArray, List.set_cons_zero, List.set_cons_succ]
  refine wpAnyH_yield 13 7 (cp r) rfl rfl (by kernel_rfl) (by kernel_rfl) (by kernel_rfl) (fun _ _ _ h => h) (by kernel_rfl) (fun W hW => by kernel_rfl) (by assumption) rfl rfl ?_
  simp only [Act.put, List.setIfInBounds_toArray, List.set_cons_zero, List.set_cons_succ]
  refine wpAnyH_done (by kernel_rfl) ?_ _
  have A1 := hide (hT0.at A0.out)
  have T1 := hide (T0.out.tr hT0)
  have SZ2 : Hid (({ w1 with drawn := w1.drawn + 1 } : World).heap.size = D + 1) := hide S0.out
  clear A0 T0 S0 HC
  generalize ({ w1 with drawn := w1.drawn + 1 } : World) = w2 at *
  clear hT0
  obtain ⟨a0, a1, a2, a3⟩ := st_cells A1.out
  go_wp2_with fail
  refine (MA.out _ T1.out).mono ?_
  rintro e w3 ⟨a, kc, rfl, O3, t3⟩
  obtain ⟨gm, rfl, z1, z2, bj⟩ := Bj.of O3 LL.out.2
  have T3 := hide (T1.out.tr t3)
  have O3 := hide O3
  have BJ := hide bj
  clear MA t3 bj T1 A1 a0 a1 a2 a3
  go_wp2_with fail
  refine wp_region_held (S := Calm w3) (by kernel_rfl) ?_
  have hT0 : Calm w3 { w3 with drawn := w3.drawn + 1 } := (Touch.refl _ w3).drew
  refine wpAnyH_yield 0 208 (cp r) rfl rfl (by kernel_rfl) (by kernel_rfl) (by kernel_rfl) (fun _ _ _ h => h) (by kernel_rfl) (fun W hW => by kernel_rfl) (by assumption) rfl rfl ?_
  simp only [Act.put, List.setIfInBounds_toArray, List.set_cons_zero, List.set_cons_succ]
  refine wpAnyH_yield 1 209 (cp r) rfl rfl (by kernel_rfl) (by kernel_rfl) (by kernel_rfl) (fun _ _ _ h => h) (by kernel_rfl) (fun W hW => by go_simp) (by assumption) rfl rfl ?_
  simp only [Act.put, List.setIfInBounds_toArray, List.set_cons_zero, List.set_cons_succ]
  refine wpAnyH_yield 2 210 (.pointer (some ⟨r, 0, none⟩)) rfl rfl (by kernel_rfl) (by kernel_rfl) (by kernel_rfl) (fun _ _ _ h => h) (by kernel_rfl) (fun W hW => by go_simp) (by assumption) rfl rfl ?_
  simp only [Act.put, List.setIfInBounds_toArray, List.set_cons_zero, List.set_cons_succ]
  refine wpAnyH_yield 3 211 (cfv c) rfl rfl (by kernel_rfl) (by kernel_rfl) (by kernel_rfl) (fun _ _ _ h => h) (by kernel_rfl) (fun W hW => by obtain ⟨⟨k0, k1, k2, k3, k4, k5, k6, k7, k8, k9⟩, -⟩ := rr_cells (KR.out W (T3.out.tr hW)); go_simp) (by assumption) rfl rfl ?_
  simp only [Act.put, List.setIfInBounds_toArray, List.set_cons_zero, List.set_cons_succ]
  refine wpAnyH_yield 4 212 (cp r) rfl rfl (by kernel_rfl) (by kernel_rfl) (by kernel_rfl) (fun _ _ _ h => h) (by kernel_rfl) (fun W hW => by kernel_rfl) (by assumption) rfl rfl ?_
  simp only [Act.put, List.setIfInBounds_toArray, List.set_cons_zero, List.set_cons_succ]
  refine wpAnyH_yield 5 213 (cp r) rfl rfl (by kernel_rfl) (by kernel_rfl) (by kernel_rfl) (fun _ _ _ h => h) (by kernel_rfl) (fun W hW => by go_simp) (by assumption) rfl rfl ?_
  simp only [Act.put, List.setIfInBounds_toArray, List.set_cons_zero, List.set_cons_succ]
  refine wpAnyH_yield 6 214 (.pointer (some ⟨r, 10, none⟩)) rfl rfl (by kernel_rfl) (by kernel_rfl) (by kernel_rfl) (fun _ _ _ h => h) (by kernel_rfl) (fun W hW => by go_simp) (by assumption) rfl rfl ?_
  simp only [Act.put, List.setIfInBounds_toArray, List.set_cons_zero, List.set_cons_succ]
  refine wpAnyH_yield 7 215 (.int .i64 (p : Int)) rfl rfl (by kernel_rfl) (by kernel_rfl) (by kernel_rfl) (fun _ _ _ h => h) (by kernel_rfl) (fun W hW => by obtain ⟨-, k0, -⟩ := rr_cells (KR.out W (T3.out.tr hW)); go_simp) (by assumption) rfl rfl ?_
  simp only [Act.put, List.setIfInBounds_toArray, List.set_cons_zero, List.set_cons_succ]
  refine wpAnyH_yield 8 216 (.slice (some ⟨gm, 0, none⟩) nl kc) rfl rfl (by kernel_rfl) (by kernel_rfl) (by kernel_rfl) (fun _ _ _ h => h) (by kernel_rfl) (fun W hW => by kernel_rfl) (by assumption) rfl rfl ?_
  simp only [Act.put, List.setIfInBounds_toArray, List.set_cons_zero, List.set_cons_succ]
  refine wpAnyH_yield 9 217 (cp q) rfl rfl (by kernel_rfl) (by kernel_rfl) (by kernel_rfl) (fun _ _ _ h => h) (by kernel_rfl) (fun W hW => by kernel_rfl) (by assumption) rfl rfl ?_
  simp only [Act.put, List.setIfInBounds_toArray, List.set_cons_zero, List.set_cons_succ]
  refine wpAnyH_enter 10 218 16 #[cp q] rfl rfl (by kernel_rfl) (by kernel_rfl) (by kernel_rfl) ?_
  refine ((SQ.out _ (T3.out.tr hT0))).mono ?_
  rintro r w4 ⟨rfl, t4⟩
  refine ⟨_, rfl, hT0.tr t4, ?_⟩
  simp only [Act.put, List.setIfInBounds_toArray, List.set_cons_zero, List.set_cons_succ]
  have h4 := hT0.tr t4
  have S4 : encJ.Sl w4 (some ⟨gm, 0, none⟩) kc L := Rc.Sl.calm (Rc.Own.sl O3.out) h4
  have C5 := FR.out w4 _ kc S4
  refine wpAnyH_enter 11 219 10 #[cfv c, .int .i64 (p : Int), .slice (some ⟨gm, 0, none⟩) nl kc, .int .i64 s] rfl rfl (by kernel_rfl) (by kernel_rfl) (by kernel_rfl) ?_
  refine C5.mono ?_
  rintro rr w5 ⟨q', rfl, P5, t5⟩
  have h5 := h4.tr t5
  refine ⟨_, rfl, h5, ?_⟩
  simp only [Act.put, List.setIfInBounds_toArray, List.set_cons_zero, List.set_cons_succ]
  refine wpAnyH_yield 12 207 (.tuple #[cp q', .int .i64 0]) rfl rfl (by kernel_rfl) (by kernel_rfl) (by kernel_rfl) (fun _ _ _ h => h) (by kernel_rfl) (fun W hW => by kernel_rfl) (by assumption) rfl rfl ?_
  simp only [Act.put, List.setIfInBounds_toArray, List.set_cons_zero, List.set_cons_succ]
  refine wpAnyH_yield 13 220 (cp q') rfl rfl (by kernel_rfl) (by kernel_rfl) (by kernel_rfl) (fun _ _ _ h => h) (by kernel_rfl) (fun W hW => by kernel_rfl) (by assumption) rfl rfl ?_
  simp only [Act.put, List.setIfInBounds_toArray, List.set_cons_zero, List.set_cons_succ]
  refine wpAnyH_yield 14 221 (.int .i64 0) rfl rfl (by kernel_rfl) (by kernel_rfl) (by kernel_rfl) (fun _ _ _ h => h) (by kernel_rfl) (fun W hW => by kernel_rfl) (by assumption) rfl rfl ?_
  simp only [Act.put, List.setIfInBounds_toArray, List.set_cons_zero, List.set_cons_succ]
  refine wpAnyH_yield 15 25 (cp q') rfl rfl (by kernel_rfl) (by kernel_rfl) (by kernel_rfl) (fun _ _ _ h => h) (by kernel_rfl) (fun W hW => by kernel_rfl) (by assumption) rfl rfl ?_
  simp only [Act.put, List.setIfInBounds_toArray, List.set_cons_zero, List.set_cons_succ]
  refine wpAnyH_yield 16 26 (.int .i64 0) rfl rfl (by kernel_rfl) (by kernel_rfl) (by kernel_rfl) (fun _ _ _ h => h) (by kernel_rfl) (fun W hW => by kernel_rfl) (by assumption) rfl rfl ?_
  simp only [Act.put, List.setIfInBounds_toArray, List.set_cons_zero, List.set_cons_succ]
  refine wpAnyH_done (by kernel_rfl) ?_ _
  have T5 := hide (T3.out.tr h5)
  have BJ5 : Hid (Bj w5 gm nl w5) := hide ⟨by obtain ⟨⟨cur, h1', h2'⟩, -⟩ := BJ.out; exact ⟨cur, h5.at h1', h2'⟩, Touch.refl _ _⟩
  have NGM : Hid (∀ d, (w4.heap.size ≤ d ∧ d < w5.heap.size) → ¬ d = gm ∧ w.heap.size ≤ d) := hide fun d hd => by
    have := h4.size
    have := T3.out.size
    exact ⟨by omega, by omega⟩
  have WGM : Hid (w.heap.size ≤ gm) := hide (by have := T3.out.size; have : w2.heap.size ≤ gm := z1; have := SZ2.out; have := HD.out; omega)
  have FIN2 : Hid (∀ W, Bj w5 gm nl W → RetW c p g b Wb (T + n) w (.returned (.bool true)) (W.setCell ⟨Wb, k, none⟩ (cp q')) ∧ (∃ u, W.cell? ⟨Wb, k, none⟩ = some u) ∧ W.frozen? ⟨Wb, k, none⟩ = false) := hide fun W hW => FIN.out W q' _ (T5.out.trans hW.2 fun d hd e => by have := WGM.out; have e : d = gm := e; omega) (P5.touch hW.2 fun d hd e => (NGM.out d hd).1 e) fun d hd => by have := (NGM.out d hd).2; have := HD.out; omega
  clear hT0 h4 S4 C5 P5 t5 h5 t4 T3 O3 BJ SQ KR FR FIN NGM WGM T5 z1 z2 HNL
  go_wp2_with fail
  go_loopw [27] (fun s27 wr => ∃ i : Nat, s27 = .int .i64 (i : Int) ∧ i ≤ nl ∧ Hid (Bj w5 gm nl wr)) (fun s27 _ => nl - (intOf s27).toNat)
  case atStart => exact ⟨0, rfl, by omega, BJ5⟩
  case round =>
    obtain ⟨i, rfl, hi, HB⟩ := hrel
    clear BJ5
    by_cases hlt9 : i < nl
    · have hltz : (i : Int) < (nl : Int) := by omega
      have zl : ¬ (nl : Int) ≤ (i : Int) := by omega
      obtain ⟨⟨u0, f0⟩, g0⟩ := HB.out.free hlt9
      have NX := hide (HB.out.next i (.int .i64 99))
      have zw : IntKind.i64.wrap ((i : Int) + 1) = ((i + 1 : Nat) : Int) := by rw [IntKind.wrap_i64]; have := LL.out; omega
      clear HB FIN2
      go_wp2_with fail
      go_roundw
      case rel => exact ⟨i + 1, by first | rfl | go_num, by omega, NX⟩
      case measure => simp [intOf]; omega
    · have hltz : ¬ (i : Int) < (nl : Int) := by omega
      obtain ⟨F, ⟨u, hu⟩, hf⟩ := FIN2.out wr HB.out
      have F := hide F
      clear HB FIN2
      go_wp2_with fail
      go_ret
      exact F.out


end Go.Proofs.YtapnjofplilefaaGreat

namespace Go.Proofs.YtapnjofplilefaaGreat
open Go.RowKit

set_option maxRecDepth 100000 in
set_option maxHeartbeats 4000000 in
theorem stepZ_6a {c : Cf} {p g b Wb : Nat} {th : Nat → Th} {m : Nat} {T : Int} {oo : Option Addr} {oc : Nat} {wo : Option Addr} {wc : Nat} {w : World} (h : Wl c p g b Wb th m T oo oc wo wc w) (on : Int) (k : Nat) (hk2 : k < 2) (hk : (wrap64 (on.tmod 2 + 2)).tmod 2 = (k : Int)) (M : List It) (mo : Option Addr) (mc : Nat) (ke : ByteArray) (hm : m ≤ 10) (hm9 : ¬ m < 10) : Calls Tryz.prog 7 #[cp Wb, .agg #[.int .i64 6, .int .i64 on, .slice mo M.length mc, .string ke]] w (RetW c p g b Wb (T + M.length) w) := by
  obtain ⟨q, r, L, s, G0, G1, hc, hp, hr, hd, hlt, hS, hT, h0, h1, fin⟩ := h.two2 k hk2
  have A0 := hide (al_new w (.cells #[.int .i64 6, .int .i64 on, .slice mo M.length mc, .string ke] 44))
  have T0 := hide ((Touch.refl (fun _ => False) w).alloc (.cells #[.int .i64 6, .int .i64 on, .slice mo M.length mc, .string ke] 44))
  have S0 := hide (al_size w (.cells #[.int .i64 6, .int .i64 on, .slice mo M.length mc, .string ke] 44))
  have HC := hide hc
  have K2 : (k : Int) < 2 := by omega
  have K0 : ¬ (k : Int) < 0 := by omega
  obtain ⟨a0, a1, a2, a3⟩ := st_cells A0.out
  have CP0 := hide (fun W (hW : Calm w W) => copyR_any (hp.calm hW))
  have FN0 : Hid (∀ W q' N, w.heap.size ≤ N → Calm w W → Pr W q' (fun d => N ≤ d ∧ d < W.heap.size) c p L s → RetW c p g b Wb (T + M.length) w (.returned (.bool true)) (W.setCell ⟨Wb, k, none⟩ (cp q')) ∧ (∃ u, W.cell? ⟨Wb, k, none⟩ = some u) ∧ W.frozen? ⟨Wb, k, none⟩ = false ∧ (W.setCell ⟨Wb, k, none⟩ (cp q')).cell? ⟨Wb, k, none⟩ = some (cp q')) := hide fun W q' N hN hW hP => by
    obtain ⟨-, -, eL, es, -⟩ := fin
    obtain ⟨⟨th', hw⟩, t, u, f, cc⟩ := h.renew k hk2 (T' := T + M.length) (by omega) hW (by rw [eL, es]; exact hP) (fun d (hd : N ≤ d ∧ d < W.heap.size) => Nat.le_trans hN hd.1)
    exact ⟨⟨rfl, t, th', m, oo, oc, wo, wc, hm, hw⟩, u, f, cc⟩
  have KW : Hid (∀ W, Calm w W → W.cell? ⟨Wb, 4, none⟩ = some (.slice oo m oc)) := hide fun W hW => (wl_cell (hW.at h.own)).2.2.2.2.1
  have hmz : ¬ (m : Int) < 10 := by omega
  clear h hp hr hlt fin hc hd
  generalize M.length = n at *
  go_enter Tryz.func7, Tryz.ntmps7
  go_wp2_with fail
  generalize w.alloc (.cells #[.int .i64 6, .int .i64 on, .slice mo n mc, .string ke] 44) = w1 at *
  generalize hD : w.heap.size = D at *
  have HD := hide hD
  clear hD a0 a1 a2 a3
  refine wp_region_held (S := Calm w1) (by kernel_rfl) ?_
  have hT0 : Calm w1 { w1 with drawn := w1.drawn + 1 } := (Touch.refl _ w1).drew
  refine wpAnyH_yield 0 33 (cp Wb) rfl rfl (by kernel_rfl) (by kernel_rfl) (by kernel_rfl) (fun _ _ _ h => h) (by kernel_rfl) (fun W hW => by kernel_rfl) (by assumption) rfl rfl ?_
  simp only [Act.put, List.setIfInBounds_toArray, List.set_cons_zero, List.set_cons_succ]
  refine wpAnyH_yield 1 34 (.int .i64 (k : Int)) rfl rfl (by kernel_rfl) (by kernel_rfl) (by kernel_rfl) (fun _ _ _ h => h) (by kernel_rfl) (fun W hW => by kernel_rfl) (by assumption) rfl rfl ?_
  simp only [Act.put, List.setIfInBounds_toArray, List.set_cons_zero, List.set_cons_succ]
  refine wpAnyH_yield 2 35 (cp Wb) rfl rfl (by kernel_rfl) (by kernel_rfl) (by kernel_rfl) (fun _ _ _ h => h) (by kernel_rfl) (fun W hW => by go_simp) (by assumption) rfl rfl ?_
  simp only [Act.put, List.setIfInBounds_toArray, List.set_cons_zero, List.set_cons_succ]
  refine wpAnyH_yield 3 36 (.pointer (some ⟨Wb, 0, none⟩)) rfl rfl (by kernel_rfl) (by kernel_rfl) (by kernel_rfl) (fun _ _ _ h => h) (by kernel_rfl) (fun W hW => by go_simp) (by assumption) rfl rfl ?_
  simp only [Act.put, List.setIfInBounds_toArray, List.set_cons_zero, List.set_cons_succ]
  refine wpAnyH_yield 4 37 (.pointer (some ⟨Wb, k, none⟩)) rfl rfl (by kernel_rfl) (by kernel_rfl) (by kernel_rfl) (fun _ _ _ h => h) (by kernel_rfl) (fun W hW => by go_simp) (by assumption) rfl rfl ?_
  simp only [Act.put, List.setIfInBounds_toArray, List.set_cons_zero, List.set_cons_succ]
  refine wpAnyH_yield 5 38 (cp q) rfl rfl (by kernel_rfl) (by kernel_rfl) (by kernel_rfl) (fun _ _ _ h => h) (by kernel_rfl) (fun W hW => by obtain ⟨k0, -⟩ := HC.out W (T0.out.tr hW); go_simp) (by assumption) rfl rfl ?_
  simp only [Act.put, List.setIfInBounds_toArray, List.set_cons_zero, List.set_cons_succ]
  refine wpAnyH_yield 6 39 (cp Wb) rfl rfl (by kernel_rfl) (by kernel_rfl) (by kernel_rfl) (fun _ _ _ h => h) (by kernel_rfl) (fun W hW => by kernel_rfl) (by assumption) rfl rfl ?_
  simp only [Act.put, List.setIfInBounds_toArray, List.set_cons_zero, List.set_cons_succ]
  refine wpAnyH_yield 7 40 (.int .i64 (k : Int)) rfl rfl (by kernel_rfl) (by kernel_rfl) (by kernel_rfl) (fun _ _ _ h => h) (by kernel_rfl) (fun W hW => by kernel_rfl) (by assumption) rfl rfl ?_
  simp only [Act.put, List.setIfInBounds_toArray, List.set_cons_zero, List.set_cons_succ]
  refine wpAnyH_yield 8 41 (cp Wb) rfl rfl (by kernel_rfl) (by kernel_rfl) (by kernel_rfl) (fun _ _ _ h => h) (by kernel_rfl) (fun W hW => by go_simp) (by assumption) rfl rfl ?_
  simp only [Act.put, List.setIfInBounds_toArray, List.set_cons_zero, List.set_cons_succ]
  refine wpAnyH_yield 9 42 (.pointer (some ⟨Wb, 2, none⟩)) rfl rfl (by kernel_rfl) (by kernel_rfl) (by kernel_rfl) (fun _ _ _ h => h) (by kernel_rfl) (fun W hW => by go_simp) (by assumption) rfl rfl ?_
  simp only [Act.put, List.setIfInBounds_toArray, List.set_cons_zero, List.set_cons_succ]
  refine wpAnyH_yield 10 43 (.pointer (some ⟨Wb, 2 + k, none⟩)) rfl rfl (by kernel_rfl) (by kernel_rfl) (by kernel_rfl) (fun _ _ _ h => h) (by kernel_rfl) (fun W hW => by go_simp) (by assumption) rfl rfl ?_
  simp only [Act.put, List.setIfInBounds_toArray, List.set_cons_zero, List.set_cons_succ]
  refine wpAnyH_yield 11 44 (cp r) rfl rfl (by kernel_rfl) (by kernel_rfl) (by kernel_rfl) (fun _ _ _ h => h) (by kernel_rfl) (fun W hW => by obtain ⟨-, k0⟩ := HC.out W (T0.out.tr hW); go_simp) (by assumption) rfl rfl ?_
  simp only [Act.put, List.setIfInBounds_toArray, List.set_cons_zero, List.set_cons_succ]
  refine wpAnyH_yield 12 6 (cp q) rfl rfl (by kernel_rfl) (by kernel_rfl) (by kernel_rfl) (fun _ _ _ h => h) (by kernel_rfl) (fun W hW => by kernel_rfl) (by assumption) rfl rfl ?_
  simp only [Act.put, List.setIfInBounds_toArray, List.set_cons_zero, List.set_cons_succ]
  refine wpAnyH_yield 13 7 (cp r) rfl rfl (by kernel_rfl) (by kernel_rfl) (by kernel_rfl) (fun _ _ _ h => h) (by kernel_rfl) (fun W hW => by kernel_rfl) (by assumption) rfl rfl ?_
  simp only [Act.put, List.setIfInBounds_toArray, List.set_cons_zero, List.set_cons_succ]
  refine wpAnyH_done (by kernel_rfl) ?_ _
  have A1 := hide (hT0.at A0.out)
  have T1 := hide (T0.out.tr hT0)
  have SZ2 : Hid (({ w1 with drawn := w1.drawn + 1 } : World).heap.size = D + 1) := hide S0.out
  clear A0 T0 S0 HC
  generalize ({ w1 with drawn := w1.drawn + 1 } : World) = w2 at *
  clear hT0
  obtain ⟨a0, a1, a2, a3⟩ := st_cells A1.out
  have CP := hide (fun W (hW : Calm w2 W) => CP0.out W (T1.out.tr hW))
  have FN := hide (fun W q' N (hN : w2.heap.size ≤ N) (hW : Calm w2 W) => FN0.out W q' N (by have := T1.out.size; have := HD.out; omega) (T1.out.tr hW))
  have k4 := KW.out w2 T1.out
  clear CP0 FN0 KW A1
  go_wp2_with fail
  refine wp_region_z 7 (Calm w2) (by kernel_rfl) ?_
  have hT0 : Calm w2 { w2 with drawn := w2.drawn + 1 } := (Touch.refl _ w2).drew
  refine wpAnyZ_yield 0 272 (cp Wb) [4, 5, 6, 7] rfl rfl (by kernel_rfl) (by kernel_rfl) (by kernel_rfl) (by kernel_rfl) (by kernel_rfl) (fun _ _ _ h => h) (by kernel_rfl) (fun W hW => by kernel_rfl) (by assumption) rfl rfl ?_
  simp only [Act.put, List.setIfInBounds_toArray, List.set_cons_zero, List.set_cons_succ]
  refine wpAnyZ_yield 1 273 (.int .i64 (k : Int)) [6, 7] rfl rfl (by kernel_rfl) (by kernel_rfl) (by kernel_rfl) (by kernel_rfl) (by kernel_rfl) (fun _ _ _ h => h) (by kernel_rfl) (fun W hW => by kernel_rfl) (by assumption) rfl rfl ?_
  simp only [Act.put, List.setIfInBounds_toArray, List.set_cons_zero, List.set_cons_succ]
  refine wpAnyZ_yield 2 274 (cp q) [3, 7] rfl rfl (by kernel_rfl) (by kernel_rfl) (by kernel_rfl) (by kernel_rfl) (by kernel_rfl) (fun _ _ _ h => h) (by kernel_rfl) (fun W hW => by kernel_rfl) (by assumption) rfl rfl ?_
  simp only [Act.put, List.setIfInBounds_toArray, List.set_cons_zero, List.set_cons_succ]
  refine wpAnyZ_yield 4 276 (cp Wb) [5, 6, 7] rfl rfl (by kernel_rfl) (by kernel_rfl) (by kernel_rfl) (by kernel_rfl) (by kernel_rfl) (fun _ _ _ h => h) (by kernel_rfl) (fun W hW => by go_simp) (by assumption) rfl rfl ?_
  simp only [Act.put, List.setIfInBounds_toArray, List.set_cons_zero, List.set_cons_succ]
  refine wpAnyZ_yield 5 277 (.pointer (some ⟨Wb, 0, none⟩)) [6, 7] rfl rfl (by kernel_rfl) (by kernel_rfl) (by kernel_rfl) (by kernel_rfl) (by kernel_rfl) (fun _ _ _ h => h) (by kernel_rfl) (fun W hW => by go_simp) (by assumption) rfl rfl ?_
  simp only [Act.put, List.setIfInBounds_toArray, List.set_cons_zero, List.set_cons_succ]
  refine wpAnyZ_enter 3 275 25 #[cp q] rfl rfl (by decide) (by kernel_rfl) (by kernel_rfl) (by kernel_rfl) ?_
  refine (CP.out _ hT0).mono ?_
  rintro rr w6 ⟨q', rfl, P6, t6⟩
  have h6 := hT0.tr t6
  refine ⟨_, rfl, h6, ?_⟩
  simp only [Act.put, List.setIfInBounds_toArray, List.set_cons_zero, List.set_cons_succ]
  refine wpAnyZ_yield 6 278 (.pointer (some ⟨Wb, k, none⟩)) [7] rfl rfl (by kernel_rfl) (by kernel_rfl) (by kernel_rfl) (by kernel_rfl) (by kernel_rfl) (fun _ _ _ h => h) (by kernel_rfl) (fun W hW => by go_simp) (by assumption) rfl rfl ?_
  simp only [Act.put, List.setIfInBounds_toArray, List.set_cons_zero, List.set_cons_succ]
  refine wpAnyZ_end rfl (by kernel_rfl) (by kernel_rfl) (by kernel_rfl) ?_
  obtain ⟨F, ⟨u, hu⟩, hf, hc9⟩ := FN.out w6 q' _ hT0.size h6 P6
  have F := hide F
  clear hT0 P6 t6 h6 CP FN
  unfold Oper.wp
  go_simp
  go_wp2_with fail
  go_ret
  exact F.out


end Go.Proofs.YtapnjofplilefaaGreat

namespace Go.Proofs.YtapnjofplilefaaGreat
open Go.RowKit

set_option maxRecDepth 100000 in
set_option maxHeartbeats 4000000 in
theorem stepZ_6b {c : Cf} {p g b Wb : Nat} {th : Nat → Th} {m : Nat} {T : Int} {oo : Option Addr} {oc : Nat} {wo : Option Addr} {wc : Nat} {w : World} (h : Wl c p g b Wb th m T oo oc wo wc w) (on : Int) (k : Nat) (hk2 : k < 2) (hk : (wrap64 (on.tmod 2 + 2)).tmod 2 = (k : Int)) (M : List It) (mo : Option Addr) (mc : Nat) (ke : ByteArray) (hm : m ≤ 10) (hm9 : m < 10) : Calls Tryz.prog 7 #[cp Wb, .agg #[.int .i64 6, .int .i64 on, .slice mo M.length mc, .string ke]] w (RetW c p g b Wb (T + M.length) w) := by
  obtain ⟨q, r, L, s, G0, G1, hc, hp, hr, hd, hlt, hS, hT, h0, h1, fin⟩ := h.two2 k hk2
  have A0 := hide (al_new w (.cells #[.int .i64 6, .int .i64 on, .slice mo M.length mc, .string ke] 44))
  have T0 := hide ((Touch.refl (fun _ => False) w).alloc (.cells #[.int .i64 6, .int .i64 on, .slice mo M.length mc, .string ke] 44))
  have S0 := hide (al_size w (.cells #[.int .i64 6, .int .i64 on, .slice mo M.length mc, .string ke] 44))
  have HC := hide hc
  have K2 : (k : Int) < 2 := by omega
  have K0 : ¬ (k : Int) < 0 := by omega
  obtain ⟨a0, a1, a2, a3⟩ := st_cells A0.out
  have HW := hide h
  have HFIN := hide fin
  have HHP := hide hp
  have HHR := hide hr
  have HHL := hide hlt
  have hmz : (m : Int) < 10 := by omega
  have KW : Hid (∀ W, Calm w W → W.cell? ⟨Wb, 4, none⟩ = some (.slice oo m oc)) := hide fun W hW => (wl_cell (hW.at h.own)).2.2.2.2.1
  clear h hp hr hlt fin hc hd
  generalize M.length = n at *
  go_enter Tryz.func7, Tryz.ntmps7
  go_wp2_with fail
  generalize w.alloc (.cells #[.int .i64 6, .int .i64 on, .slice mo n mc, .string ke] 44) = w1 at *
  generalize hD : w.heap.size = D at *
  have HD := hide hD
  clear hD a0 a1 a2 a3
  refine wp_region_held (S := Calm w1) (by kernel_rfl) ?_
  have hT0 : Calm w1 { w1 with drawn := w1.drawn + 1 } := (Touch.refl _ w1).drew
  refine wpAnyH_yield 0 33 (cp Wb) rfl rfl (by kernel_rfl) (by kernel_rfl) (by kernel_rfl) (fun _ _ _ h => h) (by kernel_rfl) (fun W hW => by kernel_rfl) (by assumption) rfl rfl ?_
  simp only [Act.put, List.setIfInBounds_toArray, List.set_cons_zero, List.set_cons_succ]
  refine wpAnyH_yield 1 34 (.int .i64 (k : Int)) rfl rfl (by kernel_rfl) (by kernel_rfl) (by kernel_rfl) (fun _ _ _ h => h) (by kernel_rfl) (fun W hW => by kernel_rfl) (by assumption) rfl rfl ?_
  simp only [Act.put, List.setIfInBounds_toArray, List.set_cons_zero, List.set_cons_succ]
  refine wpAnyH_yield 2 35 (cp Wb) rfl rfl (by kernel_rfl) (by kernel_rfl) (by kernel_rfl) (fun _ _ _ h => h) (by kernel_rfl) (fun W hW => by go_simp) (by assumption) rfl rfl ?_
  simp only [Act.put, List.setIfInBounds_toArray, List.set_cons_zero, List.set_cons_succ]
  refine wpAnyH_yield 3 36 (.pointer (some ⟨Wb, 0, none⟩)) rfl rfl (by kernel_rfl) (by kernel_rfl) (by kernel_rfl) (fun _ _ _ h => h) (by kernel_rfl) (fun W hW => by go_simp) (by assumption) rfl rfl ?_
  simp only [Act.put, List.setIfInBounds_toArray, List.set_cons_zero, List.set_cons_succ]
  refine wpAnyH_yield 4 37 (.pointer (some ⟨Wb, k, none⟩)) rfl rfl (by kernel_rfl) (by kernel_rfl) (by kernel_rfl) (fun _ _ _ h => h) (by kernel_rfl) (fun W hW => by go_simp) (by assumption) rfl rfl ?_
  simp only [Act.put, List.setIfInBounds_toArray, List.set_cons_zero, List.set_cons_succ]
  refine wpAnyH_yield 5 38 (cp q) rfl rfl (by kernel_rfl) (by kernel_rfl) (by kernel_rfl) (fun _ _ _ h => h) (by kernel_rfl) (fun W hW => by obtain ⟨k0, -⟩ := HC.out W (T0.out.tr hW); go_simp) (by assumption) rfl rfl ?_
  simp only [Act.put, List.setIfInBounds_toArray, List.set_cons_zero, List.set_cons_succ]
  refine wpAnyH_yield 6 39 (cp Wb) rfl rfl (by kernel_rfl) (by kernel_rfl) (by kernel_rfl) (fun _ _ _ h => h) (by kernel_rfl) (fun W hW => by kernel_rfl) (by assumption) rfl rfl ?_
  simp only [Act.put, List.setIfInBounds_toArray, List.set_cons_zero, List.set_cons_succ]
  refine wpAnyH_yield 7 40 (.int .i64 (k : Int)) rfl rfl (by kernel_rfl) (by kernel_rfl) (by kernel_rfl) (fun _ _ _ h => h) (by kernel_rfl) (fun W hW => by kernel_rfl) (by assumption) rfl rfl ?_
  simp only [Act.put, List.setIfInBounds_toArray, List.set_cons_zero, List.set_cons_succ]
  refine wpAnyH_yield 8 41 (cp Wb) rfl rfl (by kernel_rfl) (by kernel_rfl) (by kernel_rfl) (fun _ _ _ h => h) (by kernel_rfl) (fun W hW => by go_simp) (by assumption) rfl rfl ?_
  simp only [Act.put, List.setIfInBounds_toArray, List.set_cons_zero, List.set_cons_succ]
  refine wpAnyH_yield 9 42 (.pointer (some ⟨Wb, 2, none⟩)) rfl rfl (by kernel_rfl) (by kernel_rfl) (by kernel_rfl) (fun _ _ _ h => h) (by kernel_rfl) (fun W hW => by go_simp) (by assumption) rfl rfl ?_
  simp only [Act.put, List.setIfInBounds_toArray, List.set_cons_zero, List.set_cons_succ]
  refine wpAnyH_yield 10 43 (.pointer (some ⟨Wb, 2 + k, none⟩)) rfl rfl (by kernel_rfl) (by kernel_rfl) (by kernel_rfl) (fun _ _ _ h => h) (by kernel_rfl) (fun W hW => by go_simp) (by assumption) rfl rfl ?_
  simp only [Act.put, List.setIfInBounds_toArray, List.set_cons_zero, List.set_cons_succ]
  refine wpAnyH_yield 11 44 (cp r) rfl rfl (by kernel_rfl) (by kernel_rfl) (by kernel_rfl) (fun _ _ _ h => h) (by kernel_rfl) (fun W hW => by obtain ⟨-, k0⟩ := HC.out W (T0.out.tr hW); go_simp) (by assumption) rfl rfl ?_
  simp only [Act.put, List.setIfInBounds_toArray, List.set_cons_zero, List.set_cons_succ]
  refine wpAnyH_yield 12 6 (cp q) rfl rfl (by kernel_rfl) (by kernel_rfl) (by kernel_rfl) (fun _ _ _ h => h) (by kernel_rfl) (fun W hW => by kernel_rfl) (by assumption) rfl rfl ?_
  simp only [Act.put, List.setIfInBounds_toArray, List.set_cons_zero, List.set_cons_succ]
  refine wpAnyH_yield 13 7 (cp r) rfl rfl (by kernel_rfl) (by kernel_rfl) (by kernel_rfl) (fun _ _ _ h => h) (by kernel_rfl) (fun W hW => by kernel_rfl) (by assumption) rfl rfl ?_
  simp only [Act.put, List.setIfInBounds_toArray, List.set_cons_zero, List.set_cons_succ]
  refine wpAnyH_done (by kernel_rfl) ?_ _
  have A1 := hide (hT0.at A0.out)
  have T1 := hide (T0.out.tr hT0)
  have SZ2 : Hid (({ w1 with drawn := w1.drawn + 1 } : World).heap.size = D + 1) := hide S0.out
  clear A0 T0 S0 HC
  generalize ({ w1 with drawn := w1.drawn + 1 } : World) = w2 at *
  clear hT0
  obtain ⟨a0, a1, a2, a3⟩ := st_cells A1.out
  have k4 := KW.out w2 T1.out
  have W2 : Hid (w.heap.size ≤ w2.heap.size) := hide T1.out.size
  have own2 := T1.out.at HW.out.own
  have hWb : Wb < w.heap.size := lt_of_heap HW.out.own
  have hbb : b ≤ w2.heap.size := by have := HW.out.lo; have := W2.out; omega
  obtain ⟨a1, p1, w3', hr1, o1, t1, nb1⟩ := qold_app q (Rc.Own.calm HW.out.old T1.out) hbb (by omega)
  have nbOld : ∀ d, (Value.slice oo m oc).ownBlock = some d → d ≠ Wb := fun d hd e => by
    obtain ⟨-, cur, hc9⟩ := Rc.own_block HW.out.old hd
    rw [e, HW.out.own] at hc9
    injection hc9 with hc9
    injection hc9 with _ e9
    exact absurd e9 (by decide)
  have own3' := t1.heap own2 (fun hd => nbOld Wb hd rfl)
  have own3 := heap_setCell_row (i := 4) own3' (.slice a1 (m + 1) p1)
  have T3s := (Touch.refl (fun d => d = Wb) w3').setCell (p := ⟨Wb, 4, none⟩) (fun _ => rfl) (.slice a1 (m + 1) p1)
  obtain ⟨u4, y4⟩ : (∃ u, w3'.cell? ⟨Wb, 4, none⟩ = some u) ∧ w3'.frozen? ⟨Wb, 4, none⟩ = false := ⟨⟨_, (wl_cell own3').2.2.2.2.1⟩, (wl_cell own3').2.2.2.2.2.2 4⟩
  obtain ⟨uu, hu4⟩ := u4
  obtain ⟨w3, e3⟩ : ∃ w3, w3'.setCell ⟨Wb, 4, none⟩ (.slice a1 (m + 1) p1) = w3 := ⟨_, rfl⟩
  rw [e3] at own3 T3s
  have own3 : w3.heap[Wb]? = some (.cells (worldC (th 0).a (th 1).a (th 2).a (th 3).a (.slice a1 (m + 1) p1) (.slice wo m wc)) 34 (0, 0)) := by rw [own3]; simp
  have T23 : Touch (fun d => d = Wb ∨ (Value.slice oo m oc).ownBlock = some d) w2 w3 := (t1.mono fun _ _ h => .inr h).trans (T3s.mono fun _ _ h => .inl h) fun _ _ h => h
  have nA1 : ∀ d, (Value.slice a1 (m + 1) p1).ownBlock = some d → d ≠ Wb := fun d hd e => by
    rcases nb1 d hd with h9 | h9
    · exact nbOld d h9 e
    · have := W2.out; omega
  have o13 := Rc.Own.touch o1 T3s (fun d hd e => nA1 d hd e)
  have nbWas : ∀ d, (Value.slice wo m wc).ownBlock = some d → d ≠ Wb ∧ ¬ (Value.slice oo m oc).ownBlock = some d := fun d hd => by
    obtain ⟨-, cur, hc9⟩ := Rc.own_block HW.out.was hd
    refine ⟨fun e => ?_, fun h9 => ?_⟩
    · rw [e, HW.out.own] at hc9
      injection hc9 with hc9
      injection hc9 with _ e9
      exact absurd e9 (by decide)
    · obtain ⟨-, cur2, hc8⟩ := Rc.own_block HW.out.old h9
      rw [hc8] at hc9
      injection hc9 with hc9
      injection hc9 with _ e9
      exact absurd e9 (by decide)
  have ow3 := Rc.Own.touch (Rc.Own.calm HW.out.was T1.out) T23 (fun d hd e => e.elim (nbWas d hd).1 (nbWas d hd).2)
  obtain ⟨eq9, er9, eL9, es9, nS9⟩ := HFIN.out
  have TW3 : Touch (fun d => d = Wb ∨ (Value.slice oo m oc).ownBlock = some d ∨ (Value.slice wo m wc).ownBlock = some d) w w3 := (T1.out.mono fun _ _ h => h.elim).trans (T23.mono fun _ _ h => h.imp id .inl) fun _ _ h => h
  have P3 := hide (HHP.out.touch TW3 fun d hd e => (nS9 d e).1 hd)
  have R3 := hide (HHR.out.touch TW3 fun d hd e => (nS9 d e).2 hd)
  have SZ3 : Hid (w2.heap.size ≤ w3.heap.size) := hide T23.size
  have HR1 := hide hr1
  have HO3 := hide own3
  have HO1 := hide o13
  have HOW := hide ow3
  have HTW := hide TW3
  have HNA := hide nA1
  have HNB := hide nb1
  have HNW := hide nbWas
  clear own2 o1 t1 own3' own3 T3s T23 o13 ow3 TW3 nA1 nb1 nbOld nbWas eq9 er9 eL9 es9 nS9 KW T1 A1 hr1
  go_wp2_with (at_builtin; refine Rc.wpList_appR rfl (.tmp 255) (.tmp 257) 31 31 rfl _ _ _ rfl rfl HR1.out ?_)
  clear HR1 hu4 y4 k4
  refine wp_region_z 11 (Touch (fun d => (Value.slice wo m wc).ownBlock = some d) w3) (by kernel_rfl) ?_
  have cT0 : Calm w3 { w3 with drawn := w3.drawn + 1 } := (Touch.refl _ w3).drew
  have hT0 : Touch (fun d => (Value.slice wo m wc).ownBlock = some d) w3 { w3 with drawn := w3.drawn + 1 } := (Touch.refl _ w3).drew
  refine wpAnyZ_yield 0 261 (cp Wb) [9, 10, 11] rfl rfl (by kernel_rfl) (by kernel_rfl) (by kernel_rfl) (by kernel_rfl) (by kernel_rfl) (fun _ _ _ h => h) (by kernel_rfl) (fun W hW => by kernel_rfl) (by assumption) rfl rfl ?_
  simp only [Act.put, List.setIfInBounds_toArray, List.set_cons_zero, List.set_cons_succ]
  refine wpAnyZ_yield 1 262 (cp Wb) [2, 3, 4, 8, 11] rfl rfl (by kernel_rfl) (by kernel_rfl) (by kernel_rfl) (by kernel_rfl) (by kernel_rfl) (fun _ _ _ h => h) (by kernel_rfl) (fun W hW => by kernel_rfl) (by assumption) rfl rfl ?_
  simp only [Act.put, List.setIfInBounds_toArray, List.set_cons_zero, List.set_cons_succ]
  refine wpAnyZ_yield 2 263 (cp Wb) [3, 4, 8, 11] rfl rfl (by kernel_rfl) (by kernel_rfl) (by kernel_rfl) (by kernel_rfl) (by kernel_rfl) (fun _ _ _ h => h) (by kernel_rfl) (fun W hW => by go_simp) (by assumption) rfl rfl ?_
  simp only [Act.put, List.setIfInBounds_toArray, List.set_cons_zero, List.set_cons_succ]
  refine wpAnyZ_yield 3 264 (.pointer (some ⟨Wb, 5, none⟩)) [4, 8, 11] rfl rfl (by kernel_rfl) (by kernel_rfl) (by kernel_rfl) (by kernel_rfl) (by kernel_rfl) (fun _ _ _ h => h) (by kernel_rfl) (fun W hW => by go_simp) (by assumption) rfl rfl ?_
  simp only [Act.put, List.setIfInBounds_toArray, List.set_cons_zero, List.set_cons_succ]
  refine wpAnyZ_yield 4 265 (.slice wo m wc) [8, 11] rfl rfl (by kernel_rfl) (by kernel_rfl) (by kernel_rfl) (by kernel_rfl) (by kernel_rfl) (fun _ _ _ h => h) (by kernel_rfl) (fun W hW => by have k5 := (wl_cell (Touch.heap hW HO3.out (fun h9 => (HNW.out _ h9).1 rfl))).2.2.2.2.2.1; go_simp) (by assumption) rfl rfl ?_
  simp only [Act.put, List.setIfInBounds_toArray, List.set_cons_zero, List.set_cons_succ]
  refine wpAnyZ_yield 5 266 (cp r) [6, 7, 8, 11] rfl rfl (by kernel_rfl) (by kernel_rfl) (by kernel_rfl) (by kernel_rfl) (by kernel_rfl) (fun _ _ _ h => h) (by kernel_rfl) (fun W hW => by kernel_rfl) (by assumption) rfl rfl ?_
  simp only [Act.put, List.setIfInBounds_toArray, List.set_cons_zero, List.set_cons_succ]
  generalize ({ w3 with drawn := w3.drawn + 1 } : World) = wD at *
  refine wpAnyZ_enter 6 267 24 #[cp r] rfl rfl (by decide) (by kernel_rfl) (by kernel_rfl) (by kernel_rfl) ?_
  refine (rcopyZ_any (R3.out.calm cT0)).mono ?_
  rintro rr w4a ⟨r', rfl, hr', R4, t4⟩
  have c4 := cT0.tr t4
  refine ⟨_, rfl, c4.mono fun _ _ h => h.elim, ?_⟩
  simp only [Act.put, List.setIfInBounds_toArray, List.set_cons_zero, List.set_cons_succ]
  refine wpAnyZ_value 7 268 (.slice (some ⟨w4a.heap.size, 0, none⟩) 1 1) (w' := w4a.alloc (.cells #[cp r'] 29)) rfl rfl (by decide) (by kernel_rfl) (by kernel_rfl) (by go_simp) ((c4.mono fun _ _ h => h.elim).alloc _) ?_
  simp only [Act.put, List.setIfInBounds_toArray, List.set_cons_zero, List.set_cons_succ]
  obtain ⟨a2, p2, w4b, hr2, o2, t2, nb2⟩ := qwas_app r' (Rc.Own.calm HOW.out c4) (by have := c4.size; have := SZ3.out; omega) (by omega)
  have h4b : Touch (fun d => (Value.slice wo m wc).ownBlock = some d) w3 w4b := (c4.mono fun _ _ h => h.elim).trans t2 fun _ _ h => h
  refine wpAnyZ_value 8 269 (.slice a2 (m + 1) p2) (w' := w4b) rfl rfl (by decide) (by kernel_rfl) (by kernel_rfl) (exec_apk (.tmp 265) (.tmp 268) 32 32 rfl _ _ _ rfl rfl hr2) h4b ?_
  simp only [Act.put, List.setIfInBounds_toArray, List.set_cons_zero, List.set_cons_succ]
  refine wpAnyZ_yield 9 270 (cp Wb) [10, 11] rfl rfl (by kernel_rfl) (by kernel_rfl) (by kernel_rfl) (by kernel_rfl) (by kernel_rfl) (fun _ _ _ h => h) (by kernel_rfl) (fun W hW => by go_simp) (by assumption) rfl rfl ?_
  simp only [Act.put, List.setIfInBounds_toArray, List.set_cons_zero, List.set_cons_succ]
  refine wpAnyZ_yield 10 271 (.pointer (some ⟨Wb, 5, none⟩)) [11] rfl rfl (by kernel_rfl) (by kernel_rfl) (by kernel_rfl) (by kernel_rfl) (by kernel_rfl) (fun _ _ _ h => h) (by kernel_rfl) (fun W hW => by go_simp) (by assumption) rfl rfl ?_
  simp only [Act.put, List.setIfInBounds_toArray, List.set_cons_zero, List.set_cons_succ]
  refine wpAnyZ_end rfl (by kernel_rfl) (by kernel_rfl) (by kernel_rfl) ?_
  have nWas : ∀ d, (Value.slice wo m wc).ownBlock = some d → d ≠ Wb := fun d hd => (HNW.out d hd).1
  have own4b := h4b.heap HO3.out (fun hd => nWas Wb hd rfl)
  have own4 := heap_setCell_row (i := 5) own4b (.slice a2 (m + 1) p2)
  have T4s := (Touch.refl (fun d => d = Wb) w4b).setCell (p := ⟨Wb, 5, none⟩) (fun _ => rfl) (.slice a2 (m + 1) p2)
  obtain ⟨uu, hu5⟩ : ∃ u, w4b.cell? ⟨Wb, 5, none⟩ = some u := ⟨_, (wl_cell own4b).2.2.2.2.2.1⟩
  have y5 : w4b.frozen? ⟨Wb, 5, none⟩ = false := (wl_cell own4b).2.2.2.2.2.2 5
  obtain ⟨w4, e4⟩ : ∃ w4, w4b.setCell ⟨Wb, 5, none⟩ (.slice a2 (m + 1) p2) = w4 := ⟨_, rfl⟩
  rw [e4] at own4 T4s
  have own4 : w4.heap[Wb]? = some (.cells (worldC (th 0).a (th 1).a (th 2).a (th 3).a (.slice a1 (m + 1) p1) (.slice a2 (m + 1) p2)) 34 (0, 0)) := by rw [own4]; simp
  have szD : w3.heap.size ≤ wD.heap.size := cT0.size
  have sz4a : wD.heap.size ≤ w4a.heap.size := t4.size
  have sz4b : w4a.heap.size ≤ w4b.heap.size := t2.size
  have sz4 : w4b.heap.size ≤ w4.heap.size := T4s.size
  have sz3 := SZ3.out
  have sz2 := W2.out
  have nA2 : ∀ d, (Value.slice a2 (m + 1) p2).ownBlock = some d → d ≠ Wb := fun d hd e => by
    rcases nb2 d hd with h9 | h9
    · exact nWas d h9 e
    · omega
  have lA1 : ∀ d, (Value.slice a1 (m + 1) p1).ownBlock = some d → d < w3.heap.size := fun d hd => (own_lt HO1.out hd).2
  have lA2 : ∀ d, (Value.slice a2 (m + 1) p2).ownBlock = some d → d < w4b.heap.size := fun d hd => (own_lt o2 hd).2
  have lW : ∀ d, (Value.slice wo m wc).ownBlock = some d → d < w3.heap.size := fun d hd => (own_lt HOW.out hd).2
  have nA12 : ∀ d, (Value.slice a1 (m + 1) p1).ownBlock = some d → ¬ (Value.slice wo m wc).ownBlock = some d := fun d hd h9 => by
    obtain ⟨-, cur, hc9⟩ := Rc.own_block HO1.out hd
    obtain ⟨-, cur2, hc8⟩ := Rc.own_block HOW.out h9
    rw [hc8] at hc9
    injection hc9 with hc9
    injection hc9 with _ e9
    exact absurd e9 (by decide)
  have o14 := Rc.Own.touch (Rc.Own.touch HO1.out h4b (fun d hd e => nA12 d hd e)) T4s (fun d hd e => HNA.out d hd e)
  have o24 := Rc.Own.touch o2 T4s (fun d hd e => nA2 d hd e)
  have r4 : Rr w4 r' (fun g => wD.heap.size ≤ g ∧ g < w4a.heap.size) c p L s := (R4.touch t2 (fun d (hd : wD.heap.size ≤ d ∧ d < w4a.heap.size) e => by have := lW d e; omega)).touch T4s (fun d (hd : wD.heap.size ≤ d ∧ d < w4a.heap.size) e => by have e : d = Wb := e; omega)
  have T34 : Touch (fun d => d = Wb ∨ (Value.slice wo m wc).ownBlock = some d) w3 w4 := (h4b.mono fun _ _ h => .inr h).trans (T4s.mono fun _ _ h => .inl h) fun _ _ h => h
  have TW4 : Touch (fun d => d = Wb ∨ (Value.slice oo m oc).ownBlock = some d ∨ (Value.slice wo m wc).ownBlock = some d) w w4 := HTW.out.trans (T34.mono fun _ _ h => h.imp id .inr) fun _ _ h => h
  have p4 : Pr w4 q G0 c p L s := P3.out.touch T34 (fun d hd e => by
    have := HFIN.out.2.2.2.2 d (e.imp id .inr)
    exact this.1 hd)
  have CP := hide (fun W (hW : Calm w4 W) => copyR_any (p4.calm hW))
  have FN : Hid (∀ W q' N, w4.heap.size ≤ N → Calm w4 W → Pr W q' (fun d => N ≤ d ∧ d < W.heap.size) c p L s → RetW c p g b Wb (T + n) w (.returned (.bool true)) (W.setCell ⟨Wb, k, none⟩ (cp q')) ∧ (∃ u, W.cell? ⟨Wb, k, none⟩ = some u) ∧ W.frozen? ⟨Wb, k, none⟩ = false ∧ (W.setCell ⟨Wb, k, none⟩ (cp q')).cell? ⟨Wb, k, none⟩ = some (cp q')) := hide fun W q' N hN hW hP => by
    obtain ⟨eq9, er9, eL9, es9, nS9⟩ := HFIN.out
    have o6 := hW.at own4
    have own7 := wl_put o6 k q' hk2
    have T7 := (Touch.refl (fun d => d = Wb) W).setCell (p := ⟨Wb, k, none⟩) (fun _ => rfl) (cp q')
    have sW := hW.size
    have TW7 : Touch (fun d => d = Wb ∨ (Value.slice oo m oc).ownBlock = some d ∨ (Value.slice wo m wc).ownBlock = some d) w (W.setCell ⟨Wb, k, none⟩ (cp q')) := (TW4.trans (hW.mono fun _ _ h => h.elim) fun _ _ h => h).trans (T7.mono fun _ _ h => .inl h) fun _ _ h => h
    obtain ⟨th', hw⟩ := HW.out.push k hk2 (T' := T + n) (by omega) (G' := fun d => N ≤ d ∧ d < W.heap.size) (F' := fun g => wD.heap.size ≤ g ∧ g < w4a.heap.size) TW7 own7
      (Rc.Own.touch (Rc.Own.calm (by rw [eq9]; exact o14) hW) T7 (fun d hd e => HNA.out d hd e)) (Rc.Own.touch (Rc.Own.calm o24 hW) T7 (fun d hd e => nA2 d hd e))
      (by rw [eL9, es9]; exact hP.touch T7 (fun d (hd : N ≤ d ∧ d < W.heap.size) e => by have e : d = Wb := e; omega)) (by rw [eL9, es9]; exact (r4.calm hW).touch T7 (fun d (hd : wD.heap.size ≤ d ∧ d < w4a.heap.size) e => by have e : d = Wb := e; omega))
      (fun d (hd : N ≤ d ∧ d < W.heap.size) => by omega) (fun d (hd : wD.heap.size ≤ d ∧ d < w4a.heap.size) => by omega) (fun d (hd : N ≤ d ∧ d < W.heap.size) (h9 : wD.heap.size ≤ d ∧ d < w4a.heap.size) => by omega)
      (fun d hd => ⟨(HNB.out d hd).imp id fun h9 => by omega, fun (h9 : N ≤ d ∧ d < W.heap.size) => by have := lA1 d hd; omega, fun (h9 : wD.heap.size ≤ d ∧ d < w4a.heap.size) => by have := lA1 d hd; omega⟩)
      (fun d hd => ⟨(nb2 d hd).imp id fun h9 => by omega, fun (h9 : N ≤ d ∧ d < W.heap.size) => by have := lA2 d hd; omega, fun (h9 : wD.heap.size ≤ d ∧ d < w4a.heap.size) => by
        rcases nb2 d hd with h8 | h8
        · have := lW d h8; omega
        · omega⟩)
    obtain ⟨c0, c1, -⟩ := wl_cell own7
    obtain ⟨d0, d1, -, -, -, -, df⟩ := wl_cell o6
    refine ⟨⟨rfl, TW7.mono fun d _ e => ?_, th', m + 1, _, _, _, _, by omega, hw⟩, ?_, df k, ?_⟩
    · rcases e with e | e | e
      · rw [e]; exact HW.out.lo
      · exact (own_lt HW.out.old e).1
      · exact (own_lt HW.out.was e).1
    · rcases (show k = 0 ∨ k = 1 by omega) with rfl | rfl
      · exact ⟨_, d0⟩
      · exact ⟨_, d1⟩
    · rcases (show k = 0 ∨ k = 1 by omega) with rfl | rfl
      · exact c0
      · exact c1
  clear nWas own4b own4 T4s szD sz4a sz4b sz4 sz3 sz2 nA2 lA1 lA2 lW nA12 o14 o24 r4 T34 TW4 p4 h4b o2 nb2 t2 hr2 c4 t4 R4 hr' cT0 hT0 P3 R3 HO3 HO1 HOW HTW HNA HNB HNW HW HFIN HHP HHR HHL hbb hWb
  unfold Oper.wp
  go_simp
  go_wp2_with fail
  clear hu5 y5 e4 e3
  refine wp_region_z 7 (Calm w4) (by kernel_rfl) ?_
  have hT0 : Calm w4 { w4 with drawn := w4.drawn + 1 } := (Touch.refl _ w4).drew
  refine wpAnyZ_yield 0 272 (cp Wb) [4, 5, 6, 7] rfl rfl (by kernel_rfl) (by kernel_rfl) (by kernel_rfl) (by kernel_rfl) (by kernel_rfl) (fun _ _ _ h => h) (by kernel_rfl) (fun W hW => by kernel_rfl) (by assumption) rfl rfl ?_
  simp only [Act.put, List.setIfInBounds_toArray, List.set_cons_zero, List.set_cons_succ]
  refine wpAnyZ_yield 1 273 (.int .i64 (k : Int)) [6, 7] rfl rfl (by kernel_rfl) (by kernel_rfl) (by kernel_rfl) (by kernel_rfl) (by kernel_rfl) (fun _ _ _ h => h) (by kernel_rfl) (fun W hW => by kernel_rfl) (by assumption) rfl rfl ?_
  simp only [Act.put, List.setIfInBounds_toArray, List.set_cons_zero, List.set_cons_succ]
  refine wpAnyZ_yield 2 274 (cp q) [3, 7] rfl rfl (by kernel_rfl) (by kernel_rfl) (by kernel_rfl) (by kernel_rfl) (by kernel_rfl) (fun _ _ _ h => h) (by kernel_rfl) (fun W hW => by kernel_rfl) (by assumption) rfl rfl ?_
  simp only [Act.put, List.setIfInBounds_toArray, List.set_cons_zero, List.set_cons_succ]
  refine wpAnyZ_yield 4 276 (cp Wb) [5, 6, 7] rfl rfl (by kernel_rfl) (by kernel_rfl) (by kernel_rfl) (by kernel_rfl) (by kernel_rfl) (fun _ _ _ h => h) (by kernel_rfl) (fun W hW => by go_simp) (by assumption) rfl rfl ?_
  simp only [Act.put, List.setIfInBounds_toArray, List.set_cons_zero, List.set_cons_succ]
  refine wpAnyZ_yield 5 277 (.pointer (some ⟨Wb, 0, none⟩)) [6, 7] rfl rfl (by kernel_rfl) (by kernel_rfl) (by kernel_rfl) (by kernel_rfl) (by kernel_rfl) (fun _ _ _ h => h) (by kernel_rfl) (fun W hW => by go_simp) (by assumption) rfl rfl ?_
  simp only [Act.put, List.setIfInBounds_toArray, List.set_cons_zero, List.set_cons_succ]
  refine wpAnyZ_enter 3 275 25 #[cp q] rfl rfl (by decide) (by kernel_rfl) (by kernel_rfl) (by kernel_rfl) ?_
  refine (CP.out _ hT0).mono ?_
  rintro rr w6 ⟨q', rfl, P6, t6⟩
  have h6 := hT0.tr t6
  refine ⟨_, rfl, h6, ?_⟩
  simp only [Act.put, List.setIfInBounds_toArray, List.set_cons_zero, List.set_cons_succ]
  refine wpAnyZ_yield 6 278 (.pointer (some ⟨Wb, k, none⟩)) [7] rfl rfl (by kernel_rfl) (by kernel_rfl) (by kernel_rfl) (by kernel_rfl) (by kernel_rfl) (fun _ _ _ h => h) (by kernel_rfl) (fun W hW => by go_simp) (by assumption) rfl rfl ?_
  simp only [Act.put, List.setIfInBounds_toArray, List.set_cons_zero, List.set_cons_succ]
  refine wpAnyZ_end rfl (by kernel_rfl) (by kernel_rfl) (by kernel_rfl) ?_
  obtain ⟨F, ⟨u, hu⟩, hf, hc9⟩ := FN.out w6 q' _ hT0.size h6 P6
  have F := hide F
  clear hT0 P6 t6 h6 CP FN
  unfold Oper.wp
  go_simp
  go_wp2_with fail
  go_ret
  exact F.out


end Go.Proofs.YtapnjofplilefaaGreat
