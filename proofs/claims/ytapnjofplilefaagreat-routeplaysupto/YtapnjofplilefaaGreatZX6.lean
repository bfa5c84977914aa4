/- RoutePlays: the law's step, kind 2. -/
import Derived.Test.YtapnjofplilefaaGreatZX5
import Derived.Test.YtapnjofplilefaaGreatS2
import Derived.Deep.CutRange
namespace Go.Proofs.YtapnjofplilefaaGreat
open Go.RowKit

set_option maxRecDepth 100000 in
set_option maxHeartbeats 4000000 in
theorem stepZ_2 {c : Cf} {p g b Wb : Nat} {th : Nat → Th} {m : Nat} {T : Int} {oo : Option Addr} {oc : Nat} {wo : Option Addr} {wc : Nat} {w : World} (h : Wl c p g b Wb th m T oo oc wo wc w) (on : Int) (k : Nat) (hk2 : k < 2) (hk : (wrap64 (on.tmod 2 + 2)).tmod 2 = (k : Int)) (M : List It) (mo : Option Addr) (mc : Nat) (ke : ByteArray) (hM : encI.Sl w mo mc M) (hb : ∀ a, mo = some a → M ≠ [] → a.block < b) (hm : m ≤ 10) (hl9 : M.length ≤ 10000000) (hT9 : T + M.length ≤ 4611686018427387904) : Calls Tryz.prog 7 #[cp Wb, .agg #[.int .i64 2, .int .i64 on, .slice mo M.length mc, .string ke]] w (RetW c p g b Wb (T + M.length) w) := by
  obtain ⟨q, r, L, s, G0, G1, hc, hp, hr, hd, hlt, hS, hT, h0, h1, fin⟩ := h.two k hk2
  have A0 := hide (al_new w (.cells #[.int .i64 2, .int .i64 on, .slice mo M.length mc, .string ke] 44))
  have T0 := hide ((Touch.refl (fun _ => False) w).alloc (.cells #[.int .i64 2, .int .i64 on, .slice mo M.length mc, .string ke] 44))
  have S0 := hide (al_size w (.cells #[.int .i64 2, .int .i64 on, .slice mo M.length mc, .string ke] 44))
  have HC := hide hc
  have K2 : (k : Int) < 2 := by omega
  have K0 : ¬ (k : Int) < 0 := by omega
  obtain ⟨a0, a1, a2, a3⟩ := st_cells A0.out
  have hMF : ∀ a, mo = some a → M ≠ [] → ¬ G0 a.block ∧ ¬ G1 a.block := fun a ha hne => ⟨fun hg => by have := hb a ha hne; have := (hlt _ (.inl hg)).1; omega, fun hg => by have := hb a ha hne; have := (hlt _ (.inr hg)).1; omega⟩
  have IY : Hid (∀ W gl kk, Calm w W → ¬ G0 gl → encI.Sl W (some ⟨gl, 0, none⟩) kk M → Calls Tryz.prog 19 #[cp q, .slice (some ⟨gl, 0, none⟩) M.length kk] W fun e w' => ∃ a k, e = .returned (.tuple #[.slice a (goA p g L s (taken c M)).length k, .int .i64 ((taken c M).length : Nat), .int .i64 (itemsE c M : Nat)]) ∧ encSn.Own 65 w' W.heap.size (.slice a (goA p g L s (taken c M)).length k) (goA p g L s (taken c M)) ∧ Touch G0 W w' ∧ Pr w' q G0 c p (goL L (taken c M)) (goS s (taken c M))) := hide fun W gl kk hW hg hs => (itemsR_any M _ kk (hp.calm hW) hS hs (fun a ha _ => by injection ha with ha; subst ha; exact hg) hl9).mono fun _ _ ⟨a, k, e1, e2, e3, e4, _⟩ => ⟨a, k, e1, e2, e3, e4⟩
  have IX : Hid (∀ W, Rr W r G1 c p L s → encI.Mem W mo M → Calls Tryz.prog 20 #[rp r, .slice mo M.length mc] W fun e w' => ∃ a k, e = .returned (.tuple #[.slice a (goA p g L s (taken c M)).length k, .int .i64 ((taken c M).length : Nat), .int .i64 (itemsE c M : Nat)]) ∧ encSn.Own 65 w' W.heap.size (.slice a (goA p g L s (taken c M)).length k) (goA p g L s (taken c M)) ∧ Rr w' r G1 c p (goL L (taken c M)) (goS s (taken c M)) ∧ Touch G1 W w') := hide fun W hW hm => ritems_any hW hS M mo mc hm (fun a ha hne => (hMF a ha hne).2) hl9
  have ALN : Hid ((goA p g L s (taken c M)).length ≤ 140737488355328) := hide (by
    have h1' := goA_len (taken c M) s hS
    have h2' := taken_le c M
    have := Nat.mul_le_mul_right 32768 (Nat.le_trans h2' hl9)
    omega)
  have FIN : Hid (∀ W, Touch (fun d => G0 d ∨ G1 d) w W → Pr W q G0 c p (goL L (taken c M)) (goS s (taken c M)) → Rr W r G1 c p (goL L (taken c M)) (goS s (taken c M)) → RetW c p g b Wb (T + M.length) w (.returned (.bool true)) W) := hide fun W ht h1' h2' => by
    have hl := taken_le c M
    have es := goS_eq (taken c M) s h0 (by omega)
    obtain ⟨th', hw⟩ := fin W _ _ (T + M.length) ht h1' h2' (hS.go _) (allT_go _ hT (taken_z c M)) (by omega) (by omega) (by omega)
    exact ⟨rfl, ht.mono fun d _ hd => (hlt d hd).1, th', m, oo, oc, wo, wc, hm, hw⟩
  have HLT := hide hlt
  have HD0 := hide hd
  have HR := hide hr
  have HMM := hide hM
  have HMF := hide hMF
  clear h hp hr hlt fin hc hM hb hd hT9 hMF
  generalize goA p g L s (taken c M) = A at *
  generalize goL L (taken c M) = L' at *
  generalize goS s (taken c M) = s' at *
  generalize (taken c M).length = tn at *
  generalize itemsE c M = E at *
  obtain ⟨n, hn⟩ : ∃ n, n = M.length := ⟨_, rfl⟩
  simp only [← hn] at A0 T0 S0 a0 a1 a2 a3 hl9 IY IX FIN ⊢
  have HN := hide hn.symm
  clear hn
  go_enter Tryz.func7, Tryz.ntmps7
  go_wp2_with fail
  generalize w.alloc (.cells #[.int .i64 2, .int .i64 on, .slice mo n mc, .string ke] 44) = w1 at *
  generalize hD : w.heap.size = D at *
  have HD := hide hD
  clear hD a0 a1 a2 a3
  refine wp_region_held (S := Calm w1) (by kernel_rfl) ?_
  have hT0 : Calm w1 { w1 with drawn := w1.drawn + 1 } := (Touch.refl _ w1).drew
  refine wpAnyH_yield 0 33 (cp Wb) rfl rfl (by kernel_rfl) (by kernel_rfl) (by kernel_rfl) (fun _ _ _ h => h) (by kernel_rfl) (fun W hW => by kernel_rfl) (by assumption) rfl rfl ?_
  simp only [Act.put, List.setIfInBounds_toArray, List.set_cons_zero, List.set_cons_succ]
  refine wpAnyH_yield 1 34 (.int .i64 (k : Int)) rfl rfl (by kernel_rfl) (by kernel_rfl) (by kernel_rfl) (fun _ _ _ h => h) (by kernel_rfl) (fun W hW => by kernel_rfl) (by assumption) rfl rfl ?_
  simp only [Act.put, List.setIfInBounds_toArray, List.set_cons_zero, List.set_cons_succ]
  refine wpAnyH_yield 2 35 (cp Wb) rfl rfl (by kernel_rfl) (by kernel_rfl) (by kernel_rfl) (fun _ _ _ h => h) (by kernel_rfl) (fun W hW => by go_simp) (by assumption) rfl rfl ?_
  simp only [Act.put, List.setIfInBounds_toArray, List.set_cons_zero, List.set_cons_succ]
  refine wpAnyH_yield 3 36 (.pointer (some ⟨Wb, 0, none⟩)) rfl rfl (by kernel_rfl) (by kernel_rfl) (by kernel_rfl) (fun _ _ _ h => h) (by kernel_rfl) (fun W hW => by go_simp) (by assumption) rfl rfl ?_
  simp only [Act.put, List.setIfInBounds_toArray, List.set_cons_zero, List.set_cons_succ]
  refine wpAnyH_yield 4 37 (.pointer (some ⟨Wb, k, none⟩)) rfl rfl (by kernel_rfl) (by kernel_rfl) (by kernel_rfl) (fun _ _ _ h => h) (by kernel_rfl) (fun W hW => by go_simp) (by assumption) rfl rfl ?_
  simp only [Act.put, List.setIfInBounds_toArray, List.set_cons_zero, List.set_cons_succ]
  refine wpAnyH_yield 5 38 (cp q) rfl rfl (by kernel_rfl) (by kernel_rfl) (by kernel_rfl) (fun _ _ _ h => h) (by kernel_rfl) (fun W hW => by obtain ⟨k0, -⟩ := HC.out W (T0.out.tr hW); go_simp) (by assumption) rfl rfl ?_
  simp only [Act.put, List.setIfInBounds_toArray, List.set_cons_zero, List.set_cons_succ]
  refine wpAnyH_yield 6 39 (cp Wb) rfl rfl (by kernel_rfl) (by kernel_rfl) (by kernel_rfl) (fun _ _ _ h => h) (by kernel_rfl) (fun W hW => by kernel_rfl) (by assumption) rfl rfl ?_
  simp only [Act.put, List.setIfInBounds_toArray, List.set_cons_zero, List.set_cons_succ]
  refine wpAnyH_yield 7 40 (.int .i64 (k : Int)) rfl rfl (by kernel_rfl) (by kernel_rfl) (by kernel_rfl) (fun _ _ _ h => h) (by kernel_rfl) (fun W hW => by kernel_rfl) (by assumption) rfl rfl ?_
  simp only [Act.put, List.setIfInBounds_toArray, List.set_cons_zero, List.set_cons_succ]
  refine wpAnyH_yield 8 41 (cp Wb) rfl rfl (by kernel_rfl) (by kernel_rfl) (by kernel_rfl) (fun _ _ _ h => h) (by kernel_rfl) (fun W hW => by go_simp) (by assumption) rfl rfl ?_
  simp only [Act.put, List.setIfInBounds_toArray, List.set_cons_zero, List.set_cons_succ]
  refine wpAnyH_yield 9 42 (.pointer (some ⟨Wb, 2, none⟩)) rfl rfl (by kernel_rfl) (by kernel_rfl) (by kernel_rfl) (fun _ _ _ h => h) (by kernel_rfl) (fun W hW => by go_simp) (by assumption) rfl rfl ?_
  simp only [Act.put, List.setIfInBounds_toArray, List.set_cons_zero, List.set_cons_succ]
  refine wpAnyH_yield 10 43 (.pointer (some ⟨Wb, 2 + k, none⟩)) rfl rfl (by kernel_rfl) (by kernel_rfl) (by kernel_rfl) (fun _ _ _ h => h) (by kernel_rfl) (fun W hW => by go_simp) (by assumption) rfl rfl ?_
  simp only [Act.put, List.setIfInBounds_toArray, List.set_cons_zero, List.set_cons_succ]
  refine wpAnyH_yield 11 44 (cp r) rfl rfl (by kernel_rfl) (by kernel_rfl) (by kernel_rfl) (fun _ _ _ h => h) (by kernel_rfl) (fun W hW => by obtain ⟨-, k0⟩ := HC.out W (T0.out.tr hW); go_simp) (by assumption) rfl rfl ?_
  simp only [Act.put, List.setIfInBounds_toArray, List.set_cons_zero, List.set_cons_succ]
  refine wpAnyH_yield 12 6 (cp q) rfl rfl (by kernel_rfl) (by kernel_rfl) (by kernel_rfl) (fun _ _ _ h => h) (by kernel_rfl) (fun W hW => by kernel_rfl) (by assumption) rfl rfl ?_
  simp only [Act.put, List.setIfInBounds_toArray, List.set_cons_zero, List.set_cons_succ]
  refine wpAnyH_yield 13 7 (cp r) rfl rfl (by kernel_rfl) (by kernel_rfl) (by kernel_rfl) (fun _ _ _ h => h) (by kernel_rfl) (fun W hW => by kernel_rfl) (by assumption) rfl rfl ?_
  simp only [Act.put, List.setIfInBounds_toArray, List.set_cons_zero, List.set_cons_succ]
  refine wpAnyH_done (by kernel_rfl) ?_ _
  have A1 := hide (hT0.at A0.out)
  have T1 := hide (T0.out.tr hT0)
  have SZ2 : Hid (({ w1 with drawn := w1.drawn + 1 } : World).heap.size = D + 1) := hide S0.out
  clear A0 T0 S0 HC
  generalize ({ w1 with drawn := w1.drawn + 1 } : World) = w2 at *
  clear hT0
  obtain ⟨a0, a1, a2, a3⟩ := st_cells A1.out
  have DW : Hid (w2.heap.size = D + 1) := SZ2
  clear a0 a1 a2 a3
  have a0 := (st_cells A1.out).1
  go_upto_region 16 with fail
  clear a0
  go_cut [14] from 92 to 101 (fun s14 wx => ∃ gl k', s14 = .slice (some ⟨gl, 0, none⟩) n k' ∧ Lf wx (D + 1) gl k' M ∧ Calm w2 wx)
  case first =>
    refine wp_region_held (S := Calm w2) (by kernel_rfl) ?_
    have hT0 : Calm w2 { w2 with drawn := w2.drawn + 1 } := (Touch.refl _ w2).drew
    have OWF : w2.heap.size = D + 1 := DW.out
    refine wpAnyH_yield 0 92 (.pointer (some ⟨D, 2, none⟩)) rfl rfl (by kernel_rfl) (by kernel_rfl) (by kernel_rfl) (fun _ _ _ h => h) (by kernel_rfl) (fun W hW => by kernel_rfl) (by assumption) rfl rfl ?_
    simp only [Act.put, List.setIfInBounds_toArray, List.set_cons_zero, List.set_cons_succ]
    refine wpAnyH_yield 1 93 (.slice mo n mc) rfl rfl (by kernel_rfl) (by kernel_rfl) (by kernel_rfl) (fun _ _ _ h => h) (by kernel_rfl) (fun W hW => by obtain ⟨-, -, k0, -⟩ := st_cells (hW.at A1.out); go_simp) (by assumption) rfl rfl ?_
    simp only [Act.put, List.setIfInBounds_toArray, List.set_cons_zero, List.set_cons_succ]
    refine wpAnyH_yield 3 95 (.agg (itc it42)) rfl rfl (by kernel_rfl) (by kernel_rfl) (by kernel_rfl) (fun _ _ _ h => h) (by kernel_rfl) (fun W hW => by kernel_rfl) (by assumption) rfl rfl ?_
    simp only [Act.put, List.setIfInBounds_toArray, List.set_cons_zero, List.set_cons_succ]
    refine wpAnyH_yield 6 98 (.pointer (some ⟨D, 2, none⟩)) rfl rfl (by kernel_rfl) (by kernel_rfl) (by kernel_rfl) (fun _ _ _ h => h) (by kernel_rfl) (fun W hW => by kernel_rfl) (by assumption) rfl rfl ?_
    simp only [Act.put, List.setIfInBounds_toArray, List.set_cons_zero, List.set_cons_succ]
    refine wpAnyH_yield 7 99 (.slice mo n mc) rfl rfl (by kernel_rfl) (by kernel_rfl) (by kernel_rfl) (fun _ _ _ h => h) (by kernel_rfl) (fun W hW => by obtain ⟨-, -, k0, -⟩ := st_cells (hW.at A1.out); go_simp) (by assumption) rfl rfl ?_
    simp only [Act.put, List.setIfInBounds_toArray, List.set_cons_zero, List.set_cons_succ]
    refine wpAnyH_yield 8 100 (.int .i64 (n : Int)) rfl rfl (by kernel_rfl) (by kernel_rfl) (by kernel_rfl) (fun _ _ _ h => h) (by kernel_rfl) (fun W hW => by go_simp) (by assumption) rfl rfl ?_
    simp only [Act.put, List.setIfInBounds_toArray, List.set_cons_zero, List.set_cons_succ]
    generalize ({ w2 with drawn := w2.drawn + 1 } : World) = wD at *
    have MS : encI.Sl wD mo mc M := Rc.Sl.calm HMM.out (T1.out.tr hT0)
    refine wpAnyH_two 2 4 (by kernel_rfl) ?_ ?_
    · obtain ⟨a1, p1, w3, hr1, o1, t1⟩ := in_copy MS (by have := HN.out; omega)
      rw [HN.out] at hr1
      have h2 : Calm w2 w3 := hT0.tr t1
      refine wpOp_value 2 94 (.slice a1 n p1) (w' := w3) rfl rfl (by kernel_rfl) (exec_apk (.const (.slice none 0 0)) (.tmp 93) 42 42 rfl _ _ _ rfl rfl hr1) ?_
      refine ⟨h2, ?_⟩
      simp only [Act.put, List.setIfInBounds_toArray, List.set_cons_zero, List.set_cons_succ]
      have h3 : Calm w2 (w3.alloc (.cells (itc it42) 60)) := h2.alloc _
      refine wpAnyH_value 4 96 (.slice (some ⟨w3.heap.size, 0, none⟩) 1 1) (w' := w3.alloc (.cells (itc it42) 60)) rfl rfl (by kernel_rfl) (by kernel_rfl) (by go_simp) h3 ?_
      simp only [Act.put, List.setIfInBounds_toArray, List.set_cons_zero, List.set_cons_succ]
      have OWN : encI.Own 60 (w3.alloc (.cells (itc it42) 60)) (D + 1) (.slice a1 M.length p1) M := Rc.Own.base (Rc.Own.calm o1 ((Touch.refl (fun _ => False) w3).alloc _)) (by have := hT0.size; have := DW.out; omega)
      have MEM : encI.Mem (w3.alloc (.cells (itc it42) 60)) (some ⟨w3.heap.size, 0, none⟩) [it42] := Rc.Mem.new w3 [it42] 60
      have BASE : D + 1 ≤ ((w3.alloc (.cells (itc it42) 60))).heap.size := by have := h3.size; have := DW.out; omega
      have HC := h3
      clear MS o1 t1 h2 h3 hr1
      obtain ⟨a3, p3, w4, hr3, o3, t3⟩ := in_apps (c2 := 1) OWN MEM (fun h => (nomatch h)) BASE (by have := HN.out; simp; omega)
      obtain ⟨gl, rfl, LE⟩ := Lf.made o3
      have h4 : Calm w2 w4 := HC.trans t3 fun gb hk hf => by have := (own_lt OWN hf).1; have := OWF; omega
      rw [HN.out] at hr3
      generalize hLL : (M ++ [it42]).length = LL at *
      refine wpAnyH_value 5 97 (.slice (some ⟨gl, 0, none⟩) LL p3) (w' := w4) rfl rfl (by kernel_rfl) (by kernel_rfl) (exec_apk (.tmp 94) (.tmp 96) 42 42 rfl _ _ _ rfl rfl hr3) h4 ?_
      simp only [Act.put, List.setIfInBounds_toArray, List.set_cons_zero, List.set_cons_succ]
      have LC := LE.cap
      have RN := lf_run (g := gl) (k := p3) (n := n) (m := LL) (by have := HN.out; omega) (n : Int) rfl
      refine wpAnyH_yield 9 101 (.slice (some ⟨gl, 0, none⟩) n p3) rfl rfl (by kernel_rfl) (by kernel_rfl) (by kernel_rfl) (fun _ _ _ h => h) (by kernel_rfl) (fun W hW => by go_simp) (by assumption) rfl rfl ?_
      simp only [Act.put, List.setIfInBounds_toArray, List.set_cons_zero, List.set_cons_succ]
      refine wpAnyH_yield 10 14 (.slice (some ⟨gl, 0, none⟩) n p3) rfl rfl (by kernel_rfl) (by kernel_rfl) (by kernel_rfl) (fun _ _ _ h => h) (by kernel_rfl) (fun W hW => by kernel_rfl) (by assumption) rfl rfl ?_
      simp only [Act.put, List.setIfInBounds_toArray, List.set_cons_zero, List.set_cons_succ]
      refine wpAnyH_done (by kernel_rfl) ?_ _
      have HL := hide LE
      have H4 := hide h4
      clear OWN MEM BASE HC hr3 o3 t3 h4 LE LC RN hLL
      go_wp2_with fail
      go_meet
      case rel => exact ⟨gl, p3, rfl, HL.out, H4.out⟩
    · have h2 : Calm w2 (wD.alloc (.cells (itc it42) 60)) := hT0.alloc _
      refine wpOp_value 4 96 (.slice (some ⟨wD.heap.size, 0, none⟩) 1 1) (w' := wD.alloc (.cells (itc it42) 60)) rfl rfl (by kernel_rfl) (by go_simp) ?_
      refine ⟨h2, ?_⟩
      simp only [Act.put, List.setIfInBounds_toArray, List.set_cons_zero, List.set_cons_succ]
      obtain ⟨a1, p1, w3, hr1, o1, t1⟩ := in_copy (Rc.Sl.calm MS ((Touch.refl (fun _ => False) wD).alloc (.cells (itc it42) 60))) (by have := HN.out; omega)
      rw [HN.out] at hr1
      have h3 : Calm w2 w3 := h2.tr t1
      refine wpAnyH_value 2 94 (.slice a1 n p1) (w' := w3) rfl rfl (by kernel_rfl) (by kernel_rfl) (exec_apk (.const (.slice none 0 0)) (.tmp 93) 42 42 rfl _ _ _ rfl rfl hr1) h3 ?_
      simp only [Act.put, List.setIfInBounds_toArray, List.set_cons_zero, List.set_cons_succ]
      have OWN : encI.Own 60 w3 (D + 1) (.slice a1 M.length p1) M := Rc.Own.base o1 (by have := h2.size; have := DW.out; omega)
      have MEM : encI.Mem w3 (some ⟨wD.heap.size, 0, none⟩) [it42] := Rc.Mem.calm (Rc.Mem.new wD [it42] 60) t1
      have BASE : D + 1 ≤ (w3).heap.size := by have := h3.size; have := DW.out; omega
      have HC := h3
      clear MS o1 t1 h2 h3 hr1
      obtain ⟨a3, p3, w4, hr3, o3, t3⟩ := in_apps (c2 := 1) OWN MEM (fun h => (nomatch h)) BASE (by have := HN.out; simp; omega)
      obtain ⟨gl, rfl, LE⟩ := Lf.made o3
      have h4 : Calm w2 w4 := HC.trans t3 fun gb hk hf => by have := (own_lt OWN hf).1; have := OWF; omega
      rw [HN.out] at hr3
      generalize hLL : (M ++ [it42]).length = LL at *
      refine wpAnyH_value 5 97 (.slice (some ⟨gl, 0, none⟩) LL p3) (w' := w4) rfl rfl (by kernel_rfl) (by kernel_rfl) (exec_apk (.tmp 94) (.tmp 96) 42 42 rfl _ _ _ rfl rfl hr3) h4 ?_
      simp only [Act.put, List.setIfInBounds_toArray, List.set_cons_zero, List.set_cons_succ]
      have LC := LE.cap
      have RN := lf_run (g := gl) (k := p3) (n := n) (m := LL) (by have := HN.out; omega) (n : Int) rfl
      refine wpAnyH_yield 9 101 (.slice (some ⟨gl, 0, none⟩) n p3) rfl rfl (by kernel_rfl) (by kernel_rfl) (by kernel_rfl) (fun _ _ _ h => h) (by kernel_rfl) (fun W hW => by go_simp) (by assumption) rfl rfl ?_
      simp only [Act.put, List.setIfInBounds_toArray, List.set_cons_zero, List.set_cons_succ]
      refine wpAnyH_yield 10 14 (.slice (some ⟨gl, 0, none⟩) n p3) rfl rfl (by kernel_rfl) (by kernel_rfl) (by kernel_rfl) (fun _ _ _ h => h) (by kernel_rfl) (fun W hW => by kernel_rfl) (by assumption) rfl rfl ?_
      simp only [Act.put, List.setIfInBounds_toArray, List.set_cons_zero, List.set_cons_succ]
      refine wpAnyH_done (by kernel_rfl) ?_ _
      have HL := hide LE
      have H4 := hide h4
      clear OWN MEM BASE HC hr3 o3 t3 h4 LE LC RN hLL
      go_wp2_with fail
      go_meet
      case rel => exact ⟨gl, p3, rfl, HL.out, H4.out⟩
  case rest =>
    obtain ⟨gl, kk, rfl, LE, TE⟩ := hcut
    have A2 := hide (TE.at A1.out)
    have T2 := hide (T1.out.tr TE)
    have HLE := hide LE
    have HGL : Hid (¬ G0 gl ∧ ¬ G1 gl ∧ gl ≠ D) := hide (by
      have := LE.at_.1
      exact ⟨fun hg => by have := (HLT.out _ (.inl hg)).2; omega, fun hg => by have := (HLT.out _ (.inr hg)).2; omega, by omega⟩)
    have CY := hide (IY.out wc gl kk T2.out HGL.out.1 (by have := LE.sl; exact this))
    have HK : Hid (n + 1 ≤ kk) := hide (by have := LE.cap; have := HN.out; omega)
    clear A1 T1 TE LE IY DW SZ2
    generalize hln : A.length = ln at *
    have HLN := hide hln
    clear hln
    go_wp2_with fail
    refine CY.out.mono ?_
    rintro e w3 ⟨a, kc, rfl, O3, t3, P3⟩
    have T3 := hide ((T2.out.mono (S' := G0) fun _ _ h => h.elim).trans t3 fun _ _ h => h)
    have SZc : Hid (w.heap.size ≤ wc.heap.size) := hide T2.out.size
    have A3 := hide (t3.heap A2.out (fun hg => by have := (HLT.out _ (.inl hg)).2; omega))
    have O3 := hide O3
    have P3 := hide P3
    have L3 := hide (HLE.out.touch t3 HGL.out.1)
    have R3 := hide (HR.out.touch T3.out (fun d h1' h2' => HD0.out d h2' h1'))
    have CX := hide (IX.out w3 R3.out (Rc.Mem.touch HMM.out.mem T3.out (fun a ha hne => (HMF.out a ha hne).1)))
    have k2 := (st_cells A3.out).2.2.1
    clear T2 t3 A2 HLE CY IX
    go_wp2_with fail
    refine CX.out.mono ?_
    rintro e w4 ⟨a', kc', rfl, OW, R4, t4⟩
    have T4 : Hid (Touch (fun d => G0 d ∨ G1 d) w w4) := hide ((T3.out.mono fun _ _ h => .inl h).trans (t4.mono fun _ _ h => .inr h) fun _ _ h => h)
    have A4 := hide (t4.heap A3.out (fun hg => by have := (HLT.out _ (.inr hg)).2; omega))
    have O4 : Hid (encSn.Own 65 w4 wc.heap.size (.slice a ln kc) A) := hide (Rc.Own.touch O3.out t4 fun d h1' h2' => by
      have := (own_lt O3.out h1').1
      have := (HLT.out d (.inr h2')).2
      have := SZc.out
      have := HD.out
      omega)
    have P4 := hide (P3.out.touch t4 (fun d h1' h2' => HD0.out d h1' h2'))
    have R4 := hide R4
    have L4 := hide (L3.out.touch t4 HGL.out.2.1)
    have SM : Hid (∀ W, Calm w4 W → Calls Tryz.prog 18 #[.slice a ln kc, .slice a' ln kc'] W fun e w' => e = .returned (.bool true) ∧ Calm W w') := hide fun W hW => by
      have := sameSent_any A a a' kc kc' W (Rc.Mem.calm (Rc.Own.mem O4.out).2.1 hW) (Rc.Mem.calm (Rc.Own.mem OW).2.1 hW) (by rw [HLN.out]; exact ALN.out)
      rw [HLN.out] at this
      exact this
    have KL : Hid (∀ j, j < n → ∀ W, Calm w4 W → W.cell? ⟨gl, j * 5, none⟩ = some (.int .i64 (M.getD j it0).ki) ∧ W.cell? ⟨gl, j * 5 + 1, none⟩ = some (.string (M.getD j it0).ke) ∧ W.cell? ⟨gl, j * 5 + 2, none⟩ = some (.int .i64 (M.getD j it0).tm) ∧ W.cell? ⟨gl, j * 5 + 3, none⟩ = some (.int .i64 (M.getD j it0).va) ∧ W.cell? ⟨gl, j * 5 + 4, none⟩ = some (.int .i64 (M.getD j it0).sr)) := hide fun j hj W hW => by
      obtain ⟨g', off', e', c'⟩ := items_W (F := fun _ => False) L4.out.sl.mem (fun _ _ _ h => h) j (by have := HN.out; omega)
      injection e' with e'
      injection e' with e1 e2
      subst e1 e2
      have := c' W hW
      simpa using this
    have KM : Hid (∀ j, j < n → ∃ gg off, mo = some ⟨gg, off, none⟩ ∧ ∀ W, Touch (fun d => G0 d ∨ G1 d) w W → W.cell? ⟨gg, off + j * 5, none⟩ = some (.int .i64 (M.getD j it0).ki) ∧ W.cell? ⟨gg, off + j * 5 + 1, none⟩ = some (.string (M.getD j it0).ke) ∧ W.cell? ⟨gg, off + j * 5 + 2, none⟩ = some (.int .i64 (M.getD j it0).tm) ∧ W.cell? ⟨gg, off + j * 5 + 3, none⟩ = some (.int .i64 (M.getD j it0).va) ∧ W.cell? ⟨gg, off + j * 5 + 4, none⟩ = some (.int .i64 (M.getD j it0).sr)) := hide fun j hj => items_W HMM.out.mem (fun a ha hne hg => hg.elim (HMF.out a ha hne).1 (HMF.out a ha hne).2) j (by have := HN.out; omega)
    have MK : Hid (∀ W, Calm w4 W → W.cell? ⟨gl, n * 5 + 4, none⟩ = some (.int .i64 4242)) := hide fun W hW => by
      have := (L4.out.calm hW).mark
      rw [HN.out] at this
      exact this
    have FIN2 : Hid (∀ W, Calm w4 W → RetW c p g b Wb (T + n) w (.returned (.bool true)) W) := hide fun W hW => FIN.out W (T4.out.trans (hW.mono fun _ _ h => h.elim) fun _ _ h => h) (P4.out.calm hW) (R4.out.calm hW)
    clear k2 CX OW t4 T3 A3 O3 P3 L3 R3 O4 P4 R4 L4 FIN HR HMM HMF
    go_wp2_with fail
    go_loopw [21] (fun s21 wr => ∃ i : Nat, s21 = .int .i64 (i : Int) ∧ i ≤ n ∧ Hid (Calm w4 wr)) (fun s21 _ => n - (intOf s21).toNat)
    case atStart => exact ⟨0, rfl, by omega, hide (Touch.refl _ _)⟩
    case round =>
      obtain ⟨i, rfl, hi, HW⟩ := hrel
      by_cases hlt9 : i < n
      · have hltz : (i : Int) < (n : Int) := by omega
        have zl : ¬ (n : Int) ≤ (i : Int) := by omega
        have zw : IntKind.i64.wrap ((i : Int) + 1) = ((i + 1 : Nat) : Int) := by rw [IntKind.wrap_i64]; omega
        obtain ⟨gg, off, rfl, cm⟩ := KM.out i hlt9
        have CM : Hid (∀ W, Calm wr W → _) := hide fun W (hW : Calm wr W) => cm W (T4.out.trans ((HW.out.tr hW).mono fun _ _ h => h.elim) fun _ _ h => h)
        have CL := hide fun W (hW : Calm wr W) => KL.out i hlt9 W (HW.out.tr hW)
        have AW := hide (HW.out.at A4.out)
        clear KM cm KL SM MK FIN2 T4 A4
        generalize M.getD i it0 = x at *
        obtain ⟨ki, kx, tm, va, sr⟩ := x
        go_wp2_with fail
        refine wp_region_held (S := Calm wr) (by kernel_rfl) ?_
        have hT0 : Calm wr { wr with drawn := wr.drawn + 1 } := (Touch.refl _ wr).drew
        refine wpAnyH_yield 0 123 (.slice (some ⟨gl, 0, none⟩) n kk) rfl rfl (by kernel_rfl) (by kernel_rfl) (by kernel_rfl) (fun _ _ _ h => h) (by kernel_rfl) (fun W hW => by kernel_rfl) (by assumption) rfl rfl ?_
        simp only [Act.put, List.setIfInBounds_toArray, List.set_cons_zero, List.set_cons_succ]
        refine wpAnyH_yield 1 124 (.int .i64 (i : Int)) rfl rfl (by kernel_rfl) (by kernel_rfl) (by kernel_rfl) (fun _ _ _ h => h) (by kernel_rfl) (fun W hW => by kernel_rfl) (by assumption) rfl rfl ?_
        simp only [Act.put, List.setIfInBounds_toArray, List.set_cons_zero, List.set_cons_succ]
        refine wpAnyH_yield 2 125 (.pointer (some ⟨gl, i * 5, none⟩)) rfl rfl (by kernel_rfl) (by kernel_rfl) (by kernel_rfl) (fun _ _ _ h => h) (by kernel_rfl) (fun W hW => by go_simp) (by assumption) rfl rfl ?_
        simp only [Act.put, List.setIfInBounds_toArray, List.set_cons_zero, List.set_cons_succ]
        refine wpAnyH_yield 3 126 (itv ⟨ki, kx, tm, va, sr⟩) rfl rfl (by kernel_rfl) (by kernel_rfl) (by kernel_rfl) (fun _ _ _ h => h) (by kernel_rfl) (fun W hW => by obtain ⟨k0, k1, k2, k3, k4⟩ := CL.out W hW; go_simp) (by assumption) rfl rfl ?_
        simp only [Act.put, List.setIfInBounds_toArray, List.set_cons_zero, List.set_cons_succ]
        refine wpAnyH_yield 4 127 (.pointer (some ⟨D, 2, none⟩)) rfl rfl (by kernel_rfl) (by kernel_rfl) (by kernel_rfl) (fun _ _ _ h => h) (by kernel_rfl) (fun W hW => by kernel_rfl) (by assumption) rfl rfl ?_
        simp only [Act.put, List.setIfInBounds_toArray, List.set_cons_zero, List.set_cons_succ]
        refine wpAnyH_yield 5 128 (.slice (some ⟨gg, off, none⟩) n mc) rfl rfl (by kernel_rfl) (by kernel_rfl) (by kernel_rfl) (fun _ _ _ h => h) (by kernel_rfl) (fun W hW => by obtain ⟨-, -, k0, -⟩ := st_cells (hW.at AW.out); go_simp) (by assumption) rfl rfl ?_
        simp only [Act.put, List.setIfInBounds_toArray, List.set_cons_zero, List.set_cons_succ]
        refine wpAnyH_yield 6 129 (.int .i64 (i : Int)) rfl rfl (by kernel_rfl) (by kernel_rfl) (by kernel_rfl) (fun _ _ _ h => h) (by kernel_rfl) (fun W hW => by kernel_rfl) (by assumption) rfl rfl ?_
        simp only [Act.put, List.setIfInBounds_toArray, List.set_cons_zero, List.set_cons_succ]
        refine wpAnyH_yield 7 130 (.pointer (some ⟨gg, off + i * 5, none⟩)) rfl rfl (by kernel_rfl) (by kernel_rfl) (by kernel_rfl) (fun _ _ _ h => h) (by kernel_rfl) (fun W hW => by go_simp) (by assumption) rfl rfl ?_
        simp only [Act.put, List.setIfInBounds_toArray, List.set_cons_zero, List.set_cons_succ]
        refine wpAnyH_yield 8 131 (itv ⟨ki, kx, tm, va, sr⟩) rfl rfl (by kernel_rfl) (by kernel_rfl) (by kernel_rfl) (fun _ _ _ h => h) (by kernel_rfl) (fun W hW => by obtain ⟨k0, k1, k2, k3, k4⟩ := CM.out W hW; go_simp) (by assumption) rfl rfl ?_
        simp only [Act.put, List.setIfInBounds_toArray, List.set_cons_zero, List.set_cons_succ]
        refine wpAnyH_yield 9 132 (.bool false) rfl rfl (by kernel_rfl) (by kernel_rfl) (by kernel_rfl) (fun _ _ _ h => h) (by kernel_rfl) (fun W hW => by go_simp) (by assumption) rfl rfl ?_
        simp only [Act.put, List.setIfInBounds_toArray, List.set_cons_zero, List.set_cons_succ]
        refine wpAnyH_done (by kernel_rfl) ?_ _
        have HW2 := hide (HW.out.tr hT0)
        clear hT0 CM CL AW HW
        go_wp2_with fail
        go_roundw
        case rel => exact ⟨i + 1, by first | rfl | go_num, by omega, HW2⟩
        case measure => simp [intOf]; omega
      · have hltz : ¬ (i : Int) < (n : Int) := by omega
        have AW := hide (HW.out.at A4.out)
        have SW := hide fun W (hW : Calm wr W) => SM.out W (HW.out.tr hW)
        have MW := hide fun W (hW : Calm wr W) => MK.out W (HW.out.tr hW)
        have FW := hide fun W (hW : Calm wr W) => FIN2.out W (HW.out.tr hW)
        have RN := lf_run (g := gl) (k := kk) (n := n + 1) (m := n) HK.out ((n : Int) + 1) (by omega)
        have zw : IntKind.i64.wrap ((n : Int) + 1) = (n : Int) + 1 := by rw [IntKind.wrap_i64]; omega
        have zn : ¬ (n : Int) + 1 ≤ (n : Int) := by omega
        clear KM KL SM MK FIN2 T4 A4 HW
        go_wp2_with fail
        refine wp_region_held (S := Calm wr) (by kernel_rfl) ?_
        have hT0 : Calm wr { wr with drawn := wr.drawn + 1 } := (Touch.refl _ wr).drew
        refine wpAnyH_yield 0 133 (.slice a ln kc) rfl rfl (by kernel_rfl) (by kernel_rfl) (by kernel_rfl) (fun _ _ _ h => h) (by kernel_rfl) (fun W hW => by kernel_rfl) (by assumption) rfl rfl ?_
        simp only [Act.put, List.setIfInBounds_toArray, List.set_cons_zero, List.set_cons_succ]
        refine wpAnyH_yield 1 134 (.slice a' ln kc') rfl rfl (by kernel_rfl) (by kernel_rfl) (by kernel_rfl) (fun _ _ _ h => h) (by kernel_rfl) (fun W hW => by kernel_rfl) (by assumption) rfl rfl ?_
        simp only [Act.put, List.setIfInBounds_toArray, List.set_cons_zero, List.set_cons_succ]
        refine wpAnyH_enter 2 135 18 #[.slice a ln kc, .slice a' ln kc'] rfl rfl (by kernel_rfl) (by kernel_rfl) (by kernel_rfl) ?_
        refine ((SW.out _ hT0)).mono ?_
        rintro r w5 ⟨rfl, t5⟩
        refine ⟨_, rfl, hT0.tr t5, ?_⟩
        simp only [Act.put, List.setIfInBounds_toArray, List.set_cons_zero, List.set_cons_succ]
        have h5 := hT0.tr t5
        refine wpAnyH_yield 3 136 (.bool true) rfl rfl (by kernel_rfl) (by kernel_rfl) (by kernel_rfl) (fun _ _ _ h => h) (by kernel_rfl) (fun W hW => by kernel_rfl) (by assumption) rfl rfl ?_
        simp only [Act.put, List.setIfInBounds_toArray, List.set_cons_zero, List.set_cons_succ]
        refine wpAnyH_yield 4 137 (.int .i64 (tn : Int)) rfl rfl (by kernel_rfl) (by kernel_rfl) (by kernel_rfl) (fun _ _ _ h => h) (by kernel_rfl) (fun W hW => by kernel_rfl) (by assumption) rfl rfl ?_
        simp only [Act.put, List.setIfInBounds_toArray, List.set_cons_zero, List.set_cons_succ]
        refine wpAnyH_yield 5 138 (.int .i64 (tn : Int)) rfl rfl (by kernel_rfl) (by kernel_rfl) (by kernel_rfl) (fun _ _ _ h => h) (by kernel_rfl) (fun W hW => by kernel_rfl) (by assumption) rfl rfl ?_
        simp only [Act.put, List.setIfInBounds_toArray, List.set_cons_zero, List.set_cons_succ]
        refine wpAnyH_yield 6 139 (.bool true) rfl rfl (by kernel_rfl) (by kernel_rfl) (by kernel_rfl) (fun _ _ _ h => h) (by kernel_rfl) (fun W hW => by go_simp) (by assumption) rfl rfl ?_
        simp only [Act.put, List.setIfInBounds_toArray, List.set_cons_zero, List.set_cons_succ]
        refine wpAnyH_yield 7 140 (.bool true) rfl rfl (by kernel_rfl) (by kernel_rfl) (by kernel_rfl) (fun _ _ _ h => h) (by kernel_rfl) (fun W hW => by kernel_rfl) (by assumption) rfl rfl ?_
        simp only [Act.put, List.setIfInBounds_toArray, List.set_cons_zero, List.set_cons_succ]
        refine wpAnyH_yield 8 141 (.bool true) rfl rfl (by kernel_rfl) (by kernel_rfl) (by kernel_rfl) (fun _ _ _ h => h) (by kernel_rfl) (fun W hW => by kernel_rfl) (by assumption) rfl rfl ?_
        simp only [Act.put, List.setIfInBounds_toArray, List.set_cons_zero, List.set_cons_succ]
        refine wpAnyH_yield 9 142 (.int .i64 (E : Int)) rfl rfl (by kernel_rfl) (by kernel_rfl) (by kernel_rfl) (fun _ _ _ h => h) (by kernel_rfl) (fun W hW => by kernel_rfl) (by assumption) rfl rfl ?_
        simp only [Act.put, List.setIfInBounds_toArray, List.set_cons_zero, List.set_cons_succ]
        refine wpAnyH_yield 10 143 (.int .i64 (E : Int)) rfl rfl (by kernel_rfl) (by kernel_rfl) (by kernel_rfl) (fun _ _ _ h => h) (by kernel_rfl) (fun W hW => by kernel_rfl) (by assumption) rfl rfl ?_
        simp only [Act.put, List.setIfInBounds_toArray, List.set_cons_zero, List.set_cons_succ]
        refine wpAnyH_yield 11 144 (.bool true) rfl rfl (by kernel_rfl) (by kernel_rfl) (by kernel_rfl) (fun _ _ _ h => h) (by kernel_rfl) (fun W hW => by go_simp) (by assumption) rfl rfl ?_
        simp only [Act.put, List.setIfInBounds_toArray, List.set_cons_zero, List.set_cons_succ]
        refine wpAnyH_yield 12 145 (.bool true) rfl rfl (by kernel_rfl) (by kernel_rfl) (by kernel_rfl) (fun _ _ _ h => h) (by kernel_rfl) (fun W hW => by kernel_rfl) (by assumption) rfl rfl ?_
        simp only [Act.put, List.setIfInBounds_toArray, List.set_cons_zero, List.set_cons_succ]
        refine wpAnyH_yield 13 146 (.bool true) rfl rfl (by kernel_rfl) (by kernel_rfl) (by kernel_rfl) (fun _ _ _ h => h) (by kernel_rfl) (fun W hW => by kernel_rfl) (by assumption) rfl rfl ?_
        simp only [Act.put, List.setIfInBounds_toArray, List.set_cons_zero, List.set_cons_succ]
        refine wpAnyH_yield 14 147 (.slice (some ⟨gl, 0, none⟩) n kk) rfl rfl (by kernel_rfl) (by kernel_rfl) (by kernel_rfl) (fun _ _ _ h => h) (by kernel_rfl) (fun W hW => by kernel_rfl) (by assumption) rfl rfl ?_
        simp only [Act.put, List.setIfInBounds_toArray, List.set_cons_zero, List.set_cons_succ]
        refine wpAnyH_yield 15 148 (.pointer (some ⟨D, 2, none⟩)) rfl rfl (by kernel_rfl) (by kernel_rfl) (by kernel_rfl) (fun _ _ _ h => h) (by kernel_rfl) (fun W hW => by kernel_rfl) (by assumption) rfl rfl ?_
        simp only [Act.put, List.setIfInBounds_toArray, List.set_cons_zero, List.set_cons_succ]
        refine wpAnyH_yield 16 149 (.slice mo n mc) rfl rfl (by kernel_rfl) (by kernel_rfl) (by kernel_rfl) (fun _ _ _ h => h) (by kernel_rfl) (fun W hW => by obtain ⟨-, -, k0, -⟩ := st_cells (hW.at AW.out); go_simp) (by assumption) rfl rfl ?_
        simp only [Act.put, List.setIfInBounds_toArray, List.set_cons_zero, List.set_cons_succ]
        refine wpAnyH_yield 17 150 (.int .i64 (n : Int)) rfl rfl (by kernel_rfl) (by kernel_rfl) (by kernel_rfl) (fun _ _ _ h => h) (by kernel_rfl) (fun W hW => by go_simp) (by assumption) rfl rfl ?_
        simp only [Act.put, List.setIfInBounds_toArray, List.set_cons_zero, List.set_cons_succ]
        refine wpAnyH_yield 18 151 (.int .i64 ((n : Int) + 1)) rfl rfl (by kernel_rfl) (by kernel_rfl) (by kernel_rfl) (fun _ _ _ h => h) (by kernel_rfl) (fun W hW => by go_simp) (by assumption) rfl rfl ?_
        simp only [Act.put, List.setIfInBounds_toArray, List.set_cons_zero, List.set_cons_succ]
        refine wpAnyH_yield 19 152 (.slice (some ⟨gl, 0, none⟩) (n + 1) kk) rfl rfl (by kernel_rfl) (by kernel_rfl) (by kernel_rfl) (fun _ _ _ h => h) (by kernel_rfl) (fun W hW => by go_simp) (by assumption) rfl rfl ?_
        simp only [Act.put, List.setIfInBounds_toArray, List.set_cons_zero, List.set_cons_succ]
        refine wpAnyH_yield 20 153 (.pointer (some ⟨D, 2, none⟩)) rfl rfl (by kernel_rfl) (by kernel_rfl) (by kernel_rfl) (fun _ _ _ h => h) (by kernel_rfl) (fun W hW => by kernel_rfl) (by assumption) rfl rfl ?_
        simp only [Act.put, List.setIfInBounds_toArray, List.set_cons_zero, List.set_cons_succ]
        refine wpAnyH_yield 21 154 (.slice mo n mc) rfl rfl (by kernel_rfl) (by kernel_rfl) (by kernel_rfl) (fun _ _ _ h => h) (by kernel_rfl) (fun W hW => by obtain ⟨-, -, k0, -⟩ := st_cells (hW.at AW.out); go_simp) (by assumption) rfl rfl ?_
        simp only [Act.put, List.setIfInBounds_toArray, List.set_cons_zero, List.set_cons_succ]
        refine wpAnyH_yield 22 155 (.int .i64 (n : Int)) rfl rfl (by kernel_rfl) (by kernel_rfl) (by kernel_rfl) (fun _ _ _ h => h) (by kernel_rfl) (fun W hW => by go_simp) (by assumption) rfl rfl ?_
        simp only [Act.put, List.setIfInBounds_toArray, List.set_cons_zero, List.set_cons_succ]
        refine wpAnyH_yield 23 156 (.pointer (some ⟨gl, n * 5, none⟩)) rfl rfl (by kernel_rfl) (by kernel_rfl) (by kernel_rfl) (fun _ _ _ h => h) (by kernel_rfl) (fun W hW => by go_simp) (by assumption) rfl rfl ?_
        simp only [Act.put, List.setIfInBounds_toArray, List.set_cons_zero, List.set_cons_succ]
        refine wpAnyH_yield 24 157 (.pointer (some ⟨gl, n * 5 + 4, none⟩)) rfl rfl (by kernel_rfl) (by kernel_rfl) (by kernel_rfl) (fun _ _ _ h => h) (by kernel_rfl) (fun W hW => by go_simp) (by assumption) rfl rfl ?_
        simp only [Act.put, List.setIfInBounds_toArray, List.set_cons_zero, List.set_cons_succ]
        refine wpAnyH_yield 25 158 (.int .i64 4242) rfl rfl (by kernel_rfl) (by kernel_rfl) (by kernel_rfl) (fun _ _ _ h => h) (by kernel_rfl) (fun W hW => by have k0 := MW.out W hW; go_simp) (by assumption) rfl rfl ?_
        simp only [Act.put, List.setIfInBounds_toArray, List.set_cons_zero, List.set_cons_succ]
        refine wpAnyH_yield 26 159 (.bool true) rfl rfl (by kernel_rfl) (by kernel_rfl) (by kernel_rfl) (fun _ _ _ h => h) (by kernel_rfl) (fun W hW => by go_simp) (by assumption) rfl rfl ?_
        simp only [Act.put, List.setIfInBounds_toArray, List.set_cons_zero, List.set_cons_succ]
        refine wpAnyH_yield 27 160 (.bool true) rfl rfl (by kernel_rfl) (by kernel_rfl) (by kernel_rfl) (fun _ _ _ h => h) (by kernel_rfl) (fun W hW => by kernel_rfl) (by assumption) rfl rfl ?_
        simp only [Act.put, List.setIfInBounds_toArray, List.set_cons_zero, List.set_cons_succ]
        refine wpAnyH_yield 28 4 (.bool true) rfl rfl (by kernel_rfl) (by kernel_rfl) (by kernel_rfl) (fun _ _ _ h => h) (by kernel_rfl) (fun W hW => by kernel_rfl) (by assumption) rfl rfl ?_
        simp only [Act.put, List.setIfInBounds_toArray, List.set_cons_zero, List.set_cons_succ]
        refine wpAnyH_done (by kernel_rfl) ?_ _
        have F := hide (FW.out _ h5)
        clear hT0 h5 t5 AW SW MW FW
        go_wp2_with fail
        go_ret
        exact F.out


end Go.Proofs.YtapnjofplilefaaGreat
