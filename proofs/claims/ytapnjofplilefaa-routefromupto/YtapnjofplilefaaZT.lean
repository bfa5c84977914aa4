/- The law's RouteFrom: the walk. -/
import Derived.Test.YtapnjofplilefaaZ2
import Derived.Test.YtapnjofplilefaaZG
import Derived.Test.YtapnjofplilefaaZK
import Derived.Test.YtapnjofplilefaaS2
import Derived.Deep.CutRange
namespace Go.Proofs.Ytapnjofplilefaa
open Go.RowKit

theorem mem_lt {w : World} {a : Option Addr} {N : List It} (h : encI.Mem w a N) (hne : N ≠ []) (b : Addr) (hb : a = some b) : b.block < w.heap.size := by
  obtain ⟨g, off, e, c⟩ := Rc.Mem.at h 0 (List.length_pos_iff.2 hne)
  rw [hb] at e
  injection e with e
  subst e
  exact lt_of_cell (c 0 _ rfl)

section
variable {Pk : World → Nat → (Nat → Prop) → Cf → Nat → List Int → Int → Prop}

set_option maxRecDepth 100000 in
set_option maxHeartbeats 8000000 in
theorem from15_walk (I : Rpi Pk) (c : Cf) (wr : Int) (M : List Int) (mo : Option Addr) (mc : Nat) (s : Int) (N : List It) (no : Option Addr) (nc : Nat) (w : World) (hM : encJ.Sl w mo mc M) (hN : encI.Sl w no nc N) (hl : M.length ≤ 1048576) (hl2 : N.length ≤ 1048576) : Calls Try.prog 3 #[.agg (rrc c wr (.slice mo M.length mc) s), .slice no N.length nc] w fun e w' => e = .returned (.bool true) ∧ Calm w w' := by
  have HMM := hide hM
  have HNN := hide hN
  have KN := fun w => hide (known15_any I w)
  have A0 := hide (al_new w (.cells (rrc c wr (.slice mo M.length mc) s) 27))
  have T0 := hide ((Touch.refl (fun _ => False) w).alloc (.cells (rrc c wr (.slice mo M.length mc) s) 27))
  have S0 := hide (al_size w (.cells (rrc c wr (.slice mo M.length mc) s) 27))
  clear hM hN
  obtain ⟨n, hn⟩ : ∃ n, n = M.length := ⟨_, rfl⟩
  rw [← hn] at A0 T0 S0 hl ⊢
  have HN := hide hn.symm
  clear hn
  go_enter Try.func3, Try.ntmps3
  go_wp2_with fail
  generalize w.alloc (.cells (rrc c wr (.slice mo n mc) s) 27) = w1 at *
  generalize hB : w.heap.size = B at *
  have HB := hide hB
  clear hB
  go_cut [5] from 17 to 25 (fun s5 wx => ∃ g k, s5 = .slice (some ⟨g, 0, none⟩) n k ∧ Le wx (B + 1) g k M ∧ Calm w1 wx)
  case first =>
    refine wp_region_held (S := Calm w1) (by kernel_rfl) ?_
    have hT0 : Calm w1 { w1 with drawn := w1.drawn + 1 } := (Touch.refl _ w1).drew
    have hb0 : w1.heap.size = B + 1 := S0.out
    refine wpAnyH_yield 0 17 (.pointer (some ⟨B, 11, none⟩)) rfl rfl (by kernel_rfl) (by kernel_rfl) (by kernel_rfl) (fun _ _ _ h => h) (by kernel_rfl) (fun W hW => by kernel_rfl) (by assumption) rfl rfl ?_
    simp only [Act.put, List.setIfInBounds_toArray, List.set_cons_zero, List.set_cons_succ]
    refine wpAnyH_yield 1 18 (.slice mo n mc) rfl rfl (by kernel_rfl) (by kernel_rfl) (by kernel_rfl) (fun _ _ _ h => h) (by kernel_rfl) (fun W hW => by obtain ⟨-, -, k0, -⟩ := rr_cells (hW.at A0.out); go_simp) (by assumption) rfl rfl ?_
    simp only [Act.put, List.setIfInBounds_toArray, List.set_cons_zero, List.set_cons_succ]
    refine wpAnyH_yield 5 22 (.pointer (some ⟨B, 11, none⟩)) rfl rfl (by kernel_rfl) (by kernel_rfl) (by kernel_rfl) (fun _ _ _ h => h) (by kernel_rfl) (fun W hW => by kernel_rfl) (by assumption) rfl rfl ?_
    simp only [Act.put, List.setIfInBounds_toArray, List.set_cons_zero, List.set_cons_succ]
    refine wpAnyH_yield 6 23 (.slice mo n mc) rfl rfl (by kernel_rfl) (by kernel_rfl) (by kernel_rfl) (fun _ _ _ h => h) (by kernel_rfl) (fun W hW => by obtain ⟨-, -, k0, -⟩ := rr_cells (hW.at A0.out); go_simp) (by assumption) rfl rfl ?_
    simp only [Act.put, List.setIfInBounds_toArray, List.set_cons_zero, List.set_cons_succ]
    refine wpAnyH_yield 7 24 (.int .i64 (n : Int)) rfl rfl (by kernel_rfl) (by kernel_rfl) (by kernel_rfl) (fun _ _ _ h => h) (by kernel_rfl) (fun W hW => by go_simp) (by assumption) rfl rfl ?_
    simp only [Act.put, List.setIfInBounds_toArray, List.set_cons_zero, List.set_cons_succ]
    generalize ({ w1 with drawn := w1.drawn + 1 } : World) = wD at *
    have MS : encJ.Sl wD mo mc M := Rc.Sl.calm HMM.out (T0.out.tr hT0)
    refine wpAnyH_two 2 3 (by kernel_rfl) ?_ ?_
    · obtain ⟨a1, p1, w2, hr1, o1, t1⟩ := jn_copy MS (by have := HN.out; omega)
      rw [HN.out] at hr1
      have h2 : Calm w1 w2 := hT0.tr t1
      refine wpOp_value 2 19 (.slice a1 n p1) (w' := w2) rfl rfl (by kernel_rfl) (exec_apk (.const (.slice none 0 0)) (.tmp 18) 25 25 rfl _ _ _ rfl rfl hr1) ?_
      refine ⟨h2, ?_⟩
      simp only [Act.put, List.setIfInBounds_toArray, List.set_cons_zero, List.set_cons_succ]
      have h3 : Calm w1 (w2.alloc (.cells #[.int .i64 4242] 2)) := h2.alloc _
      refine wpAnyH_value 3 20 (.slice (some ⟨w2.heap.size, 0, none⟩) 1 1) (w' := w2.alloc (.cells #[.int .i64 4242] 2)) rfl rfl (by kernel_rfl) (by kernel_rfl) (by go_simp) h3 ?_
      simp only [Act.put, List.setIfInBounds_toArray, List.set_cons_zero, List.set_cons_succ]
      have OWN : encJ.Own 2 (w2.alloc (.cells #[.int .i64 4242] 2)) (B + 1) (.slice a1 M.length p1) M := Rc.Own.base (Rc.Own.calm o1 ((Touch.refl (fun _ => False) w2).alloc _)) (by have := hT0.size; omega)
      have MEM : encJ.Mem (w2.alloc (.cells #[.int .i64 4242] 2)) (some ⟨w2.heap.size, 0, none⟩) [4242] := Rc.Mem.new w2 [4242] 2
      have BASE : B + 1 ≤ (w2.alloc (.cells #[.int .i64 4242] 2)).heap.size := by have := h3.size; omega
      have HC := h3
      clear MS o1 t1 h2 h3 hr1
      obtain ⟨a3, p3, w4, hr3, o3, t3⟩ := jn_apps (c2 := 1) OWN MEM (fun h => (nomatch h)) BASE (by have := HN.out; simp; omega)
      obtain ⟨gl, rfl, LE⟩ := Le.made o3
      have h4 : Calm w1 w4 := HC.trans t3 fun gb hk hf => by have := (own_lt OWN hf).1; omega
      rw [HN.out] at hr3
      generalize hLL : (M ++ [4242]).length = LL at *
      refine wpAnyH_value 4 21 (.slice (some ⟨gl, 0, none⟩) LL p3) (w' := w4) rfl rfl (by kernel_rfl) (by kernel_rfl) (exec_apk (.tmp 19) (.tmp 20) 25 25 rfl _ _ _ rfl rfl hr3) h4 ?_
      simp only [Act.put, List.setIfInBounds_toArray, List.set_cons_zero, List.set_cons_succ]
      have LC := LE.cap
      have RN := le_run (g := gl) (k := p3) (n := n) (m := LL) (by have := HN.out; omega) (n : Int) rfl
      refine wpAnyH_yield 8 25 (.slice (some ⟨gl, 0, none⟩) n p3) rfl rfl (by kernel_rfl) (by kernel_rfl) (by kernel_rfl) (fun _ _ _ h => h) (by kernel_rfl) (fun W hW => by go_simp) (by assumption) rfl rfl ?_
      simp only [Act.put, List.setIfInBounds_toArray, List.set_cons_zero, List.set_cons_succ]
      refine wpAnyH_yield 9 5 (.slice (some ⟨gl, 0, none⟩) n p3) rfl rfl (by kernel_rfl) (by kernel_rfl) (by kernel_rfl) (fun _ _ _ h => h) (by kernel_rfl) (fun W hW => by kernel_rfl) (by assumption) rfl rfl ?_
      simp only [Act.put, List.setIfInBounds_toArray, List.set_cons_zero, List.set_cons_succ]
      refine wpAnyH_done (by kernel_rfl) ?_ _
      have HL := hide LE
      have H4 := hide h4
      clear OWN MEM BASE HC hr3 o3 t3 h4 LE LC RN hLL
      go_wp2_with fail
      go_meet
      case rel => exact ⟨gl, p3, rfl, HL.out, H4.out⟩
    · have h2 : Calm w1 (wD.alloc (.cells #[.int .i64 4242] 2)) := hT0.alloc _
      refine wpOp_value 3 20 (.slice (some ⟨wD.heap.size, 0, none⟩) 1 1) (w' := wD.alloc (.cells #[.int .i64 4242] 2)) rfl rfl (by kernel_rfl) (by go_simp) ?_
      refine ⟨h2, ?_⟩
      simp only [Act.put, List.setIfInBounds_toArray, List.set_cons_zero, List.set_cons_succ]
      obtain ⟨a1, p1, w2, hr1, o1, t1⟩ := jn_copy (Rc.Sl.calm MS ((Touch.refl (fun _ => False) wD).alloc (.cells #[.int .i64 4242] 2))) (by have := HN.out; omega)
      rw [HN.out] at hr1
      have h3 : Calm w1 w2 := h2.tr t1
      refine wpAnyH_value 2 19 (.slice a1 n p1) (w' := w2) rfl rfl (by kernel_rfl) (by kernel_rfl) (exec_apk (.const (.slice none 0 0)) (.tmp 18) 25 25 rfl _ _ _ rfl rfl hr1) h3 ?_
      simp only [Act.put, List.setIfInBounds_toArray, List.set_cons_zero, List.set_cons_succ]
      have OWN : encJ.Own 2 w2 (B + 1) (.slice a1 M.length p1) M := Rc.Own.base o1 (by have := h2.size; omega)
      have MEM : encJ.Mem w2 (some ⟨wD.heap.size, 0, none⟩) [4242] := Rc.Mem.calm (Rc.Mem.new wD [4242] 2) t1
      have BASE : B + 1 ≤ w2.heap.size := by have := h3.size; omega
      have HC := h3
      clear MS o1 t1 h2 h3 hr1
      obtain ⟨a3, p3, w4, hr3, o3, t3⟩ := jn_apps (c2 := 1) OWN MEM (fun h => (nomatch h)) BASE (by have := HN.out; simp; omega)
      obtain ⟨gl, rfl, LE⟩ := Le.made o3
      have h4 : Calm w1 w4 := HC.trans t3 fun gb hk hf => by have := (own_lt OWN hf).1; omega
      rw [HN.out] at hr3
      generalize hLL : (M ++ [4242]).length = LL at *
      refine wpAnyH_value 4 21 (.slice (some ⟨gl, 0, none⟩) LL p3) (w' := w4) rfl rfl (by kernel_rfl) (by kernel_rfl) (exec_apk (.tmp 19) (.tmp 20) 25 25 rfl _ _ _ rfl rfl hr3) h4 ?_
      simp only [Act.put, List.setIfInBounds_toArray, List.set_cons_zero, List.set_cons_succ]
      have LC := LE.cap
      have RN := le_run (g := gl) (k := p3) (n := n) (m := LL) (by have := HN.out; omega) (n : Int) rfl
      refine wpAnyH_yield 8 25 (.slice (some ⟨gl, 0, none⟩) n p3) rfl rfl (by kernel_rfl) (by kernel_rfl) (by kernel_rfl) (fun _ _ _ h => h) (by kernel_rfl) (fun W hW => by go_simp) (by assumption) rfl rfl ?_
      simp only [Act.put, List.setIfInBounds_toArray, List.set_cons_zero, List.set_cons_succ]
      refine wpAnyH_yield 9 5 (.slice (some ⟨gl, 0, none⟩) n p3) rfl rfl (by kernel_rfl) (by kernel_rfl) (by kernel_rfl) (fun _ _ _ h => h) (by kernel_rfl) (fun W hW => by kernel_rfl) (by assumption) rfl rfl ?_
      simp only [Act.put, List.setIfInBounds_toArray, List.set_cons_zero, List.set_cons_succ]
      refine wpAnyH_done (by kernel_rfl) ?_ _
      have HL := hide LE
      have H4 := hide h4
      clear OWN MEM BASE HC hr3 o3 t3 h4 LE LC RN hLL
      go_wp2_with fail
      go_meet
      case rel => exact ⟨gl, p3, rfl, HL.out, H4.out⟩
  case rest =>
    obtain ⟨gl, k, rfl, LE, TE⟩ := hcut
    have A1 := TE.at A0.out
    have HK : Hid (n + 1 ≤ k) := hide (by have := LE.cap; have := HN.out; omega)
    obtain ⟨⟨c0, c1, c2, c3, c4, c5, c6, c7, c8, c9⟩, c10, c11, c12⟩ := rr_cells A1
    have HA1 := hide A1
    have T1 := hide (T0.out.tr TE)
    have HLE := hide LE
    clear A0 A1 T0 TE LE
    by_cases hz : fromE c wr M s = 0
    · obtain ⟨p, g, rfl, SI, -⟩ := Sit.fro hz
      have SI := hide SI
      have CF := hide (I.from_yes c p M (some ⟨gl, 0, none⟩) k s wc HLE.out.sl (by have := HN.out; omega) hz)
      rw [HN.out] at CF
      have DF : Hid (∀ W, Calm wc W → Calls Try.prog 7 #[cfv c, .int .i64 (p : Int), .slice mo n mc, .int .i64 s] W fun e w' => ∃ r, e = .returned (.tuple #[rp r, .int .i64 0]) ∧ W.heap.size ≤ r ∧ Rr w' r (fun g => W.heap.size ≤ g ∧ g < w'.heap.size) c p M s ∧ Calm W w') := hide fun W hW => by
        have := rfromZ_any c p M mo mc s W (Rc.Mem.calm HMM.out.mem (T1.out.tr hW))
        rw [HN.out] at this
        refine this.mono fun e w' h => ?_
        rcases h with ⟨h, -⟩ | ⟨-, h⟩
        · exact absurd hz h
        · exact h
      clear hz
      go_wp2_with fail
      refine CF.out.mono ?_
      rintro e w2 ⟨q, rfl, PQ, T2⟩
      obtain ⟨⟨c0, c1, c2, c3, c4, c5, c6, c7, c8, c9⟩, c10, c11, c12⟩ := rr_cells (T2.at HA1.out)
      have D2 := hide (DF.out w2 T2)
      have PQ := hide PQ
      have T2 := hide T2
      clear CF DF
      go_wp2_with fail
      refine D2.out.mono ?_
      rintro e w3 ⟨r, rfl, hr, RQ, T3⟩
      clear D2 c0 c1 c2 c3 c4 c5 c6 c7 c8 c9 c10 c11 c12
      have PQ3 := hide (I.calm PQ.out T3)
      have RQ3 := hide RQ
      have HSZ : Hid (B + 1 ≤ wc.heap.size ∧ wc.heap.size ≤ w2.heap.size ∧ w2.heap.size ≤ w3.heap.size ∧ gl < wc.heap.size ∧ w.heap.size = B) := hide ⟨lt_of_heap HA1.out, T2.out.size, T3.size, HLE.out.at_.2, HB.out⟩
      have LE3 := hide (HLE.out.calm (T2.out.tr T3))
      have KB : Hid (∀ W, Calm w3 W → W.cell? ⟨B, 11, none⟩ = some (.slice mo n mc)) := hide fun W hW => (rr_cells (((T2.out.tr T3).tr hW).at HA1.out)).2.2.1
      have KM : Hid (∀ W, Calm w3 W → W.cell? ⟨gl, n, none⟩ = some (.int .i64 4242)) := hide fun W hW => by rw [← HN.out]; exact (LE3.out.calm hW).mark
      have CM : Hid (∀ W, Calm w3 W → Calls Try.prog 8 #[.slice (some ⟨gl, 0, none⟩) n k, .slice mo n mc] W fun e w' => e = .returned (.bool true) ∧ Calm W w') := hide fun W hW => by
        have := sameMarks_any M (some ⟨gl, 0, none⟩) mo k mc W (LE3.out.calm hW).sl.mem (Rc.Mem.calm HMM.out.mem ((T1.out.tr (T2.out.tr T3)).tr hW)) (by have := HN.out; omega)
        rwa [HN.out] at this
      have T3 := hide (T1.out.tr (T2.out.tr T3))
      clear RQ PQ T2 hr T1
      go_wp2_with fail
      refine wp_region_held (S := Calm w3) (by kernel_rfl) ?_
      have hT0 : Calm w3 { w3 with drawn := w3.drawn + 1 } := (Touch.refl _ w3).drew
      have RN := le_run (g := gl) (k := k) (n := n + 1) (m := n) HK.out ((n : Int) + 1) (by omega)
      have nz : ¬ (n : Int) + 1 ≤ (n : Int) := by omega
      have nw : IntKind.i64.wrap ((n : Int) + 1) = (n : Int) + 1 := by rw [IntKind.wrap_i64]; omega
      refine wpAnyH_yield 0 49 (.int .i64 0) rfl rfl (by kernel_rfl) (by kernel_rfl) (by kernel_rfl) (fun _ _ _ h => h) (by kernel_rfl) (fun W hW => by kernel_rfl) (by assumption) rfl rfl ?_
      simp only [Act.put, List.setIfInBounds_toArray, List.set_cons_zero, List.set_cons_succ]
      refine wpAnyH_yield 1 50 (.int .i64 0) rfl rfl (by kernel_rfl) (by kernel_rfl) (by kernel_rfl) (fun _ _ _ h => h) (by kernel_rfl) (fun W hW => by kernel_rfl) (by assumption) rfl rfl ?_
      simp only [Act.put, List.setIfInBounds_toArray, List.set_cons_zero, List.set_cons_succ]
      refine wpAnyH_yield 2 51 (.bool false) rfl rfl (by kernel_rfl) (by kernel_rfl) (by kernel_rfl) (fun _ _ _ h => h) (by kernel_rfl) (fun W hW => by go_simp) (by assumption) rfl rfl ?_
      simp only [Act.put, List.setIfInBounds_toArray, List.set_cons_zero, List.set_cons_succ]
      refine wpAnyH_yield 3 52 (.bool false) rfl rfl (by kernel_rfl) (by kernel_rfl) (by kernel_rfl) (fun _ _ _ h => h) (by kernel_rfl) (fun W hW => by kernel_rfl) (by assumption) rfl rfl ?_
      simp only [Act.put, List.setIfInBounds_toArray, List.set_cons_zero, List.set_cons_succ]
      refine wpAnyH_yield 4 53 (cp q) rfl rfl (by kernel_rfl) (by kernel_rfl) (by kernel_rfl) (fun _ _ _ h => h) (by kernel_rfl) (fun W hW => by kernel_rfl) (by assumption) rfl rfl ?_
      simp only [Act.put, List.setIfInBounds_toArray, List.set_cons_zero, List.set_cons_succ]
      refine wpAnyH_yield 5 54 (.bool false) rfl rfl (by kernel_rfl) (by kernel_rfl) (by kernel_rfl) (fun _ _ _ h => h) (by kernel_rfl) (fun W hW => by go_simp) (by assumption) rfl rfl ?_
      simp only [Act.put, List.setIfInBounds_toArray, List.set_cons_zero, List.set_cons_succ]
      refine wpAnyH_yield 6 55 (rp r) rfl rfl (by kernel_rfl) (by kernel_rfl) (by kernel_rfl) (fun _ _ _ h => h) (by kernel_rfl) (fun W hW => by kernel_rfl) (by assumption) rfl rfl ?_
      simp only [Act.put, List.setIfInBounds_toArray, List.set_cons_zero, List.set_cons_succ]
      refine wpAnyH_yield 7 56 (.bool false) rfl rfl (by kernel_rfl) (by kernel_rfl) (by kernel_rfl) (fun _ _ _ h => h) (by kernel_rfl) (fun W hW => by go_simp) (by assumption) rfl rfl ?_
      simp only [Act.put, List.setIfInBounds_toArray, List.set_cons_zero, List.set_cons_succ]
      refine wpAnyH_yield 8 57 (.bool false) rfl rfl (by kernel_rfl) (by kernel_rfl) (by kernel_rfl) (fun _ _ _ h => h) (by kernel_rfl) (fun W hW => by go_simp) (by assumption) rfl rfl ?_
      simp only [Act.put, List.setIfInBounds_toArray, List.set_cons_zero, List.set_cons_succ]
      refine wpAnyH_yield 9 58 (.bool false) rfl rfl (by kernel_rfl) (by kernel_rfl) (by kernel_rfl) (fun _ _ _ h => h) (by kernel_rfl) (fun W hW => by go_simp) (by assumption) rfl rfl ?_
      simp only [Act.put, List.setIfInBounds_toArray, List.set_cons_zero, List.set_cons_succ]
      refine wpAnyH_yield 10 59 (.bool false) rfl rfl (by kernel_rfl) (by kernel_rfl) (by kernel_rfl) (fun _ _ _ h => h) (by kernel_rfl) (fun W hW => by kernel_rfl) (by assumption) rfl rfl ?_
      simp only [Act.put, List.setIfInBounds_toArray, List.set_cons_zero, List.set_cons_succ]
      refine wpAnyH_yield 11 60 (.slice (some ⟨gl, 0, none⟩) n k) rfl rfl (by kernel_rfl) (by kernel_rfl) (by kernel_rfl) (fun _ _ _ h => h) (by kernel_rfl) (fun W hW => by kernel_rfl) (by assumption) rfl rfl ?_
      simp only [Act.put, List.setIfInBounds_toArray, List.set_cons_zero, List.set_cons_succ]
      refine wpAnyH_yield 12 61 (.pointer (some ⟨B, 11, none⟩)) rfl rfl (by kernel_rfl) (by kernel_rfl) (by kernel_rfl) (fun _ _ _ h => h) (by kernel_rfl) (fun W hW => by kernel_rfl) (by assumption) rfl rfl ?_
      simp only [Act.put, List.setIfInBounds_toArray, List.set_cons_zero, List.set_cons_succ]
      refine wpAnyH_yield 13 62 (.slice mo n mc) rfl rfl (by kernel_rfl) (by kernel_rfl) (by kernel_rfl) (fun _ _ _ h => h) (by kernel_rfl) (fun W hW => by have c0 := KB.out W hW; go_simp) (by assumption) rfl rfl ?_
      simp only [Act.put, List.setIfInBounds_toArray, List.set_cons_zero, List.set_cons_succ]
      refine wpAnyH_enter 14 63 8 #[.slice (some ⟨gl, 0, none⟩) n k, .slice mo n mc] rfl rfl (by kernel_rfl) (by kernel_rfl) (by kernel_rfl) ?_
      refine ((CM.out _ hT0)).mono ?_
      rintro r w5 ⟨rfl, T5⟩
      refine ⟨_, rfl, hT0.tr T5, ?_⟩
      simp only [Act.put, List.setIfInBounds_toArray, List.set_cons_zero, List.set_cons_succ]
      have hT1 := hT0.tr T5
      refine wpAnyH_yield 15 64 (.bool false) rfl rfl (by kernel_rfl) (by kernel_rfl) (by kernel_rfl) (fun _ _ _ h => h) (by kernel_rfl) (fun W hW => by go_simp) (by assumption) rfl rfl ?_
      simp only [Act.put, List.setIfInBounds_toArray, List.set_cons_zero, List.set_cons_succ]
      refine wpAnyH_yield 16 65 (.bool false) rfl rfl (by kernel_rfl) (by kernel_rfl) (by kernel_rfl) (fun _ _ _ h => h) (by kernel_rfl) (fun W hW => by go_simp) (by assumption) rfl rfl ?_
      simp only [Act.put, List.setIfInBounds_toArray, List.set_cons_zero, List.set_cons_succ]
      refine wpAnyH_yield 17 66 (.bool false) rfl rfl (by kernel_rfl) (by kernel_rfl) (by kernel_rfl) (fun _ _ _ h => h) (by kernel_rfl) (fun W hW => by kernel_rfl) (by assumption) rfl rfl ?_
      simp only [Act.put, List.setIfInBounds_toArray, List.set_cons_zero, List.set_cons_succ]
      refine wpAnyH_yield 18 67 (.slice (some ⟨gl, 0, none⟩) n k) rfl rfl (by kernel_rfl) (by kernel_rfl) (by kernel_rfl) (fun _ _ _ h => h) (by kernel_rfl) (fun W hW => by kernel_rfl) (by assumption) rfl rfl ?_
      simp only [Act.put, List.setIfInBounds_toArray, List.set_cons_zero, List.set_cons_succ]
      refine wpAnyH_yield 19 68 (.pointer (some ⟨B, 11, none⟩)) rfl rfl (by kernel_rfl) (by kernel_rfl) (by kernel_rfl) (fun _ _ _ h => h) (by kernel_rfl) (fun W hW => by kernel_rfl) (by assumption) rfl rfl ?_
      simp only [Act.put, List.setIfInBounds_toArray, List.set_cons_zero, List.set_cons_succ]
      refine wpAnyH_yield 20 69 (.slice mo n mc) rfl rfl (by kernel_rfl) (by kernel_rfl) (by kernel_rfl) (fun _ _ _ h => h) (by kernel_rfl) (fun W hW => by have c0 := KB.out W hW; go_simp) (by assumption) rfl rfl ?_
      simp only [Act.put, List.setIfInBounds_toArray, List.set_cons_zero, List.set_cons_succ]
      refine wpAnyH_yield 21 70 (.int .i64 (n : Int)) rfl rfl (by kernel_rfl) (by kernel_rfl) (by kernel_rfl) (fun _ _ _ h => h) (by kernel_rfl) (fun W hW => by go_simp) (by assumption) rfl rfl ?_
      simp only [Act.put, List.setIfInBounds_toArray, List.set_cons_zero, List.set_cons_succ]
      refine wpAnyH_yield 22 71 (.int .i64 ((n : Int) + 1)) rfl rfl (by kernel_rfl) (by kernel_rfl) (by kernel_rfl) (fun _ _ _ h => h) (by kernel_rfl) (fun W hW => by go_simp) (by assumption) rfl rfl ?_
      simp only [Act.put, List.setIfInBounds_toArray, List.set_cons_zero, List.set_cons_succ]
      refine wpAnyH_yield 23 72 (.slice (some ⟨gl, 0, none⟩) (n + 1) k) rfl rfl (by kernel_rfl) (by kernel_rfl) (by kernel_rfl) (fun _ _ _ h => h) (by kernel_rfl) (fun W hW => by go_simp) (by assumption) rfl rfl ?_
      simp only [Act.put, List.setIfInBounds_toArray, List.set_cons_zero, List.set_cons_succ]
      refine wpAnyH_yield 24 73 (.pointer (some ⟨B, 11, none⟩)) rfl rfl (by kernel_rfl) (by kernel_rfl) (by kernel_rfl) (fun _ _ _ h => h) (by kernel_rfl) (fun W hW => by kernel_rfl) (by assumption) rfl rfl ?_
      simp only [Act.put, List.setIfInBounds_toArray, List.set_cons_zero, List.set_cons_succ]
      refine wpAnyH_yield 25 74 (.slice mo n mc) rfl rfl (by kernel_rfl) (by kernel_rfl) (by kernel_rfl) (fun _ _ _ h => h) (by kernel_rfl) (fun W hW => by have c0 := KB.out W hW; go_simp) (by assumption) rfl rfl ?_
      simp only [Act.put, List.setIfInBounds_toArray, List.set_cons_zero, List.set_cons_succ]
      refine wpAnyH_yield 26 75 (.int .i64 (n : Int)) rfl rfl (by kernel_rfl) (by kernel_rfl) (by kernel_rfl) (fun _ _ _ h => h) (by kernel_rfl) (fun W hW => by go_simp) (by assumption) rfl rfl ?_
      simp only [Act.put, List.setIfInBounds_toArray, List.set_cons_zero, List.set_cons_succ]
      refine wpAnyH_yield 27 76 (.pointer (some ⟨gl, n, none⟩)) rfl rfl (by kernel_rfl) (by kernel_rfl) (by kernel_rfl) (fun _ _ _ h => h) (by kernel_rfl) (fun W hW => by go_simp) (by assumption) rfl rfl ?_
      simp only [Act.put, List.setIfInBounds_toArray, List.set_cons_zero, List.set_cons_succ]
      refine wpAnyH_yield 28 77 (.int .i64 4242) rfl rfl (by kernel_rfl) (by kernel_rfl) (by kernel_rfl) (fun _ _ _ h => h) (by kernel_rfl) (fun W hW => by have c0 := KM.out W hW; go_simp) (by assumption) rfl rfl ?_
      simp only [Act.put, List.setIfInBounds_toArray, List.set_cons_zero, List.set_cons_succ]
      refine wpAnyH_yield 29 78 (.bool false) rfl rfl (by kernel_rfl) (by kernel_rfl) (by kernel_rfl) (fun _ _ _ h => h) (by kernel_rfl) (fun W hW => by go_simp) (by assumption) rfl rfl ?_
      simp only [Act.put, List.setIfInBounds_toArray, List.set_cons_zero, List.set_cons_succ]
      refine wpAnyH_yield 30 79 (.bool false) rfl rfl (by kernel_rfl) (by kernel_rfl) (by kernel_rfl) (fun _ _ _ h => h) (by kernel_rfl) (fun W hW => by go_simp) (by assumption) rfl rfl ?_
      simp only [Act.put, List.setIfInBounds_toArray, List.set_cons_zero, List.set_cons_succ]
      refine wpAnyH_done (by kernel_rfl) ?_ _
      have HT1 := hide (T3.out.tr hT1)
      have HT35 := hide hT1
      clear hT0 hT1 T5 RN nz nw CM KB KM
      go_wp2_with fail
      generalize w5 = w4 at *
      have PQ4 := hide (I.calm PQ3.out HT35.out)
      have RQ4 := hide (RQ3.out.calm HT35.out)
      have LE4 := hide (LE3.out.calm HT35.out)
      have SZ4 := hide HT35.out.size
      clear PQ3 RQ3 LE3 HT35 T3 HA1 HLE
      go_loopw [10] (fun s10 wx => ∃ i : Nat, s10 = .int .i64 (i : Int) ∧ i ≤ n ∧ Hid (∃ X, encJ.Own 2 wx (B + 1) (.slice (some ⟨gl, 0, none⟩) (n + 1) k) X) ∧ Touch (fun g => g = gl) w4 wx) (fun s10 _ => n - (intOf s10).toNat)
      case atStart => exact ⟨0, rfl, by omega, hide ⟨_, by have := LE4.out.own; rwa [HN.out] at this⟩, Touch.refl _ _⟩
      case round =>
        obtain ⟨i, rfl, hi, HX, TE⟩ := hrel
        by_cases hlt : i < n
        · have hltz : (i : Int) < (n : Int) := by omega
          have z0 : ¬ (n : Int) ≤ (i : Int) := by omega
          obtain ⟨X, hX⟩ := HX.out
          obtain ⟨b, eb, hb1, hb2, ⟨u, hu⟩, hf, hs⟩ := jn_at hX i (by omega)
          injection eb with eb
          injection eb with eb
          subst eb
          obtain ⟨o3, t3⟩ := hs 99
          have O3 := hide o3
          have T3 := hide (TE.trans t3 fun _ _ h => h)
          clear HX hX o3 t3 hs TE PQ4 RQ4 LE4
          go_wp2_with fail
          go_roundw
          case rel => exact ⟨i + 1, by go_num, by omega, hide ⟨_, O3.out⟩, T3.out⟩
          case measure => simp [intOf]; omega
        · have hltz : ¬ (i : Int) < (n : Int) := by omega
          obtain rfl : i = n := by omega
          have PQ5 := hide (I.touch PQ4.out TE fun g hg e => by have := hg.1; have := HSZ.out; omega)
          have RQ5 := hide (RQ4.out.touch TE fun g hg e => by have := hg.1; have := HSZ.out; omega)
          have T5 := hide (Touch.trans HT1.out TE fun g hg e => by have := LE4.out.at_; have := HSZ.out; omega)
          have SZ5 := hide (Nat.le_trans SZ4.out TE.size)
          have CS := hide (stands_any I PQ5.out RQ5.out)
          clear PQ4 RQ4 LE4 HX TE HT1 SZ4
          go_wp2_with fail
          refine CS.out.mono ?_
          rintro e w6 ⟨rfl, T6⟩
          have PQ6 := hide (I.calm PQ5.out T6)
          have RQ6 := hide (RQ5.out.calm T6)
          have T66 := hide (T5.out.tr T6)
          have SZ6 := hide (Nat.le_trans SZ5.out T6.size)
          have CI := hide (I.items N no nc PQ6.out SI.out (Rc.Sl.calm HNN.out T66.out) (fun a ha hne hg => by have := mem_lt HNN.out.mem hne a ha; have := hg.1; have := HSZ.out; omega) (by omega))
          clear CS PQ5 RQ5 T5 T6
          go_wp2_with fail
          refine CI.out.mono ?_
          rintro e w7 ⟨a7, k7, rfl, O7, T7, G', PQ7, hG'⟩
          have T77 := hide (Touch.trans T66.out T7 fun g hg e => by have := e.1; have := HSZ.out; omega)
          have RQ7 := hide (RQ6.out.touch T7 fun g hg e => by have := hg.1; have := e.2; have := HSZ.out; omega)
          have CJ := hide (ritems_any RQ7.out SI.out N no nc (Rc.Mem.calm HNN.out.mem T77.out) (fun a ha hne hg => by have := mem_lt HNN.out.mem hne a ha; have := hg.1; have := HSZ.out; omega) (by omega))
          have O7 := hide O7
          have PQ7 := hide PQ7
          have HG' : Hid (∀ g, G' g → wc.heap.size ≤ g ∧ (g < w2.heap.size ∨ w3.heap.size ≤ g)) := hide fun g hg => by
            have := HSZ.out
            have := SZ6.out
            rcases hG' g hg with h | h
            · exact ⟨h.1, .inl h.2⟩
            · exact ⟨by omega, .inr (by omega)⟩
          have SZ7 := hide (Nat.le_trans SZ6.out T7.size)
          have HF7 : Hid (∀ g, w6.heap.size ≤ g → ¬ (w2.heap.size ≤ g ∧ g < w3.heap.size)) := hide fun g h1 h2 => by have := SZ6.out; omega
          clear CI PQ6 RQ6 T7 hG' T66
          generalize hA : goA p g M s (taken c N) = A at *
          have HA := hide hA
          have HAL : Hid (A.length ≤ 1048576 * 32768) := hide (by
            have h1 := goA_len (taken c N) s SI.out
            have h2 := taken_le c N
            have h3 := Nat.mul_le_mul_right 32768 (Nat.le_trans h2 hl2)
            rw [hA] at h1
            omega)
          clear hA
          go_wp2_with fail
          refine CJ.out.mono ?_
          rintro e w8 ⟨a8, k8, rfl, O8, RQ8, T8⟩
          have T88 := hide (Touch.trans T77.out T8 fun g hg e => by have := e.1; have := HSZ.out; omega)
          have PQ8 := hide (I.touch PQ7.out T8 fun g hg e => by have := HG'.out g hg; have := HSZ.out; omega)
          have O78 := Rc.Own.touch O7.out T8 fun g hg e => HF7.out g (own_lt O7.out hg).1 e
          have CE := hide (sameSent_any A a7 a8 k7 k8 w8 (Rc.Own.mem O78).2.1 (Rc.Own.mem O8).2.1 (by have := HAL.out; omega))
          have RQ8 := hide RQ8
          clear CJ O7 O8 T8 T77 PQ7 RQ7 O78
          go_wp2_with fail
          refine CE.out.mono ?_
          rintro e w9 ⟨rfl, T9⟩
          have CS := hide (stands_any I (I.calm PQ8.out T9) (RQ8.out.calm T9))
          have T99 := hide (T88.out.tr T9)
          clear CE PQ8 RQ8 T9 T88
          go_wp2_with fail
          refine CS.out.mono ?_
          rintro e w10 ⟨rfl, T10⟩
          have T10 := hide (T99.out.tr T10)
          clear CS T99
          go_wp2_with fail
          refine (KN _).out.mono ?_
          rintro e w11 ⟨rfl, T11⟩
          have T11 := hide (T10.out.tr T11)
          clear T10 KN
          go_wp2_with fail
          go_ret
          exact ⟨rfl, T11.out⟩
    · obtain ⟨E, hE⟩ : ∃ E : Nat, E = fromE c wr M s := ⟨_, rfl⟩
      have CF := hide (I.from_no c wr M (some ⟨gl, 0, none⟩) k s wc HLE.out.sl (by have := HN.out; omega) hz)
      rw [HN.out, ← hE] at CF
      have DF : Hid (∀ W, Calm wc W → Calls Try.prog 7 #[cfv c, .int .i64 wr, .slice mo n mc, .int .i64 s] W fun e w' => e = .returned (.tuple #[.pointer none, .int .i64 (E : Nat)]) ∧ Calm W w') := hide fun W hW => by
        have := rfromZ_any c wr M mo mc s W (Rc.Mem.calm HMM.out.mem (T1.out.tr hW))
        rw [HN.out, ← hE] at this
        refine this.mono fun e w' h => ?_
        rcases h with ⟨-, h⟩ | ⟨h, -⟩
        · exact h
        · exact absurd (hE ▸ h) hz
      clear hz hE
      go_wp2_with fail
      refine CF.out.mono ?_
      rintro e w2 ⟨rfl, T2⟩
      obtain ⟨⟨c0, c1, c2, c3, c4, c5, c6, c7, c8, c9⟩, c10, c11, c12⟩ := rr_cells (T2.at HA1.out)
      have D2 := hide (DF.out w2 T2)
      have T2 := hide T2
      clear CF DF
      go_wp2_with fail
      refine D2.out.mono ?_
      rintro e w3 ⟨rfl, T3⟩
      clear D2 c0 c1 c2 c3 c4 c5 c6 c7 c8 c9 c10 c11 c12
      have LE3 := hide (HLE.out.calm (T2.out.tr T3))
      have KB : Hid (∀ W, Calm w3 W → W.cell? ⟨B, 11, none⟩ = some (.slice mo n mc)) := hide fun W hW => (rr_cells (((T2.out.tr T3).tr hW).at HA1.out)).2.2.1
      have KM : Hid (∀ W, Calm w3 W → W.cell? ⟨gl, n, none⟩ = some (.int .i64 4242)) := hide fun W hW => by rw [← HN.out]; exact (LE3.out.calm hW).mark
      have CM : Hid (∀ W, Calm w3 W → Calls Try.prog 8 #[.slice (some ⟨gl, 0, none⟩) n k, .slice mo n mc] W fun e w' => e = .returned (.bool true) ∧ Calm W w') := hide fun W hW => by
        have := sameMarks_any M (some ⟨gl, 0, none⟩) mo k mc W (LE3.out.calm hW).sl.mem (Rc.Mem.calm HMM.out.mem ((T1.out.tr (T2.out.tr T3)).tr hW)) (by have := HN.out; omega)
        rwa [HN.out] at this
      have T3 := hide (T1.out.tr (T2.out.tr T3))
      clear T2 T1
      go_wp2_with fail
      refine wp_region_held (S := Calm w3) (by kernel_rfl) ?_
      have hT0 : Calm w3 { w3 with drawn := w3.drawn + 1 } := (Touch.refl _ w3).drew
      have RN := le_run (g := gl) (k := k) (n := n + 1) (m := n) HK.out ((n : Int) + 1) (by omega)
      have nz : ¬ (n : Int) + 1 ≤ (n : Int) := by omega
      have nw : IntKind.i64.wrap ((n : Int) + 1) = (n : Int) + 1 := by rw [IntKind.wrap_i64]; omega
      refine wpAnyH_yield 0 49 (.int .i64 (E : Int)) rfl rfl (by kernel_rfl) (by kernel_rfl) (by kernel_rfl) (fun _ _ _ h => h) (by kernel_rfl) (fun W hW => by kernel_rfl) (by assumption) rfl rfl ?_
      simp only [Act.put, List.setIfInBounds_toArray, List.set_cons_zero, List.set_cons_succ]
      refine wpAnyH_yield 1 50 (.int .i64 (E : Int)) rfl rfl (by kernel_rfl) (by kernel_rfl) (by kernel_rfl) (fun _ _ _ h => h) (by kernel_rfl) (fun W hW => by kernel_rfl) (by assumption) rfl rfl ?_
      simp only [Act.put, List.setIfInBounds_toArray, List.set_cons_zero, List.set_cons_succ]
      refine wpAnyH_yield 2 51 (.bool false) rfl rfl (by kernel_rfl) (by kernel_rfl) (by kernel_rfl) (fun _ _ _ h => h) (by kernel_rfl) (fun W hW => by go_simp) (by assumption) rfl rfl ?_
      simp only [Act.put, List.setIfInBounds_toArray, List.set_cons_zero, List.set_cons_succ]
      refine wpAnyH_yield 3 52 (.bool false) rfl rfl (by kernel_rfl) (by kernel_rfl) (by kernel_rfl) (fun _ _ _ h => h) (by kernel_rfl) (fun W hW => by kernel_rfl) (by assumption) rfl rfl ?_
      simp only [Act.put, List.setIfInBounds_toArray, List.set_cons_zero, List.set_cons_succ]
      refine wpAnyH_yield 4 53 (.pointer none) rfl rfl (by kernel_rfl) (by kernel_rfl) (by kernel_rfl) (fun _ _ _ h => h) (by kernel_rfl) (fun W hW => by kernel_rfl) (by assumption) rfl rfl ?_
      simp only [Act.put, List.setIfInBounds_toArray, List.set_cons_zero, List.set_cons_succ]
      refine wpAnyH_yield 5 54 (.bool true) rfl rfl (by kernel_rfl) (by kernel_rfl) (by kernel_rfl) (fun _ _ _ h => h) (by kernel_rfl) (fun W hW => by go_simp) (by assumption) rfl rfl ?_
      simp only [Act.put, List.setIfInBounds_toArray, List.set_cons_zero, List.set_cons_succ]
      refine wpAnyH_yield 6 55 (.pointer none) rfl rfl (by kernel_rfl) (by kernel_rfl) (by kernel_rfl) (fun _ _ _ h => h) (by kernel_rfl) (fun W hW => by kernel_rfl) (by assumption) rfl rfl ?_
      simp only [Act.put, List.setIfInBounds_toArray, List.set_cons_zero, List.set_cons_succ]
      refine wpAnyH_yield 7 56 (.bool true) rfl rfl (by kernel_rfl) (by kernel_rfl) (by kernel_rfl) (fun _ _ _ h => h) (by kernel_rfl) (fun W hW => by go_simp) (by assumption) rfl rfl ?_
      simp only [Act.put, List.setIfInBounds_toArray, List.set_cons_zero, List.set_cons_succ]
      refine wpAnyH_yield 8 57 (.bool false) rfl rfl (by kernel_rfl) (by kernel_rfl) (by kernel_rfl) (fun _ _ _ h => h) (by kernel_rfl) (fun W hW => by go_simp) (by assumption) rfl rfl ?_
      simp only [Act.put, List.setIfInBounds_toArray, List.set_cons_zero, List.set_cons_succ]
      refine wpAnyH_yield 9 58 (.bool false) rfl rfl (by kernel_rfl) (by kernel_rfl) (by kernel_rfl) (fun _ _ _ h => h) (by kernel_rfl) (fun W hW => by go_simp) (by assumption) rfl rfl ?_
      simp only [Act.put, List.setIfInBounds_toArray, List.set_cons_zero, List.set_cons_succ]
      refine wpAnyH_yield 10 59 (.bool false) rfl rfl (by kernel_rfl) (by kernel_rfl) (by kernel_rfl) (fun _ _ _ h => h) (by kernel_rfl) (fun W hW => by kernel_rfl) (by assumption) rfl rfl ?_
      simp only [Act.put, List.setIfInBounds_toArray, List.set_cons_zero, List.set_cons_succ]
      refine wpAnyH_yield 11 60 (.slice (some ⟨gl, 0, none⟩) n k) rfl rfl (by kernel_rfl) (by kernel_rfl) (by kernel_rfl) (fun _ _ _ h => h) (by kernel_rfl) (fun W hW => by kernel_rfl) (by assumption) rfl rfl ?_
      simp only [Act.put, List.setIfInBounds_toArray, List.set_cons_zero, List.set_cons_succ]
      refine wpAnyH_yield 12 61 (.pointer (some ⟨B, 11, none⟩)) rfl rfl (by kernel_rfl) (by kernel_rfl) (by kernel_rfl) (fun _ _ _ h => h) (by kernel_rfl) (fun W hW => by kernel_rfl) (by assumption) rfl rfl ?_
      simp only [Act.put, List.setIfInBounds_toArray, List.set_cons_zero, List.set_cons_succ]
      refine wpAnyH_yield 13 62 (.slice mo n mc) rfl rfl (by kernel_rfl) (by kernel_rfl) (by kernel_rfl) (fun _ _ _ h => h) (by kernel_rfl) (fun W hW => by have c0 := KB.out W hW; go_simp) (by assumption) rfl rfl ?_
      simp only [Act.put, List.setIfInBounds_toArray, List.set_cons_zero, List.set_cons_succ]
      refine wpAnyH_enter 14 63 8 #[.slice (some ⟨gl, 0, none⟩) n k, .slice mo n mc] rfl rfl (by kernel_rfl) (by kernel_rfl) (by kernel_rfl) ?_
      refine ((CM.out _ hT0)).mono ?_
      rintro r w5 ⟨rfl, T5⟩
      refine ⟨_, rfl, hT0.tr T5, ?_⟩
      simp only [Act.put, List.setIfInBounds_toArray, List.set_cons_zero, List.set_cons_succ]
      have hT1 := hT0.tr T5
      refine wpAnyH_yield 15 64 (.bool false) rfl rfl (by kernel_rfl) (by kernel_rfl) (by kernel_rfl) (fun _ _ _ h => h) (by kernel_rfl) (fun W hW => by go_simp) (by assumption) rfl rfl ?_
      simp only [Act.put, List.setIfInBounds_toArray, List.set_cons_zero, List.set_cons_succ]
      refine wpAnyH_yield 16 65 (.bool false) rfl rfl (by kernel_rfl) (by kernel_rfl) (by kernel_rfl) (fun _ _ _ h => h) (by kernel_rfl) (fun W hW => by go_simp) (by assumption) rfl rfl ?_
      simp only [Act.put, List.setIfInBounds_toArray, List.set_cons_zero, List.set_cons_succ]
      refine wpAnyH_yield 17 66 (.bool false) rfl rfl (by kernel_rfl) (by kernel_rfl) (by kernel_rfl) (fun _ _ _ h => h) (by kernel_rfl) (fun W hW => by kernel_rfl) (by assumption) rfl rfl ?_
      simp only [Act.put, List.setIfInBounds_toArray, List.set_cons_zero, List.set_cons_succ]
      refine wpAnyH_yield 18 67 (.slice (some ⟨gl, 0, none⟩) n k) rfl rfl (by kernel_rfl) (by kernel_rfl) (by kernel_rfl) (fun _ _ _ h => h) (by kernel_rfl) (fun W hW => by kernel_rfl) (by assumption) rfl rfl ?_
      simp only [Act.put, List.setIfInBounds_toArray, List.set_cons_zero, List.set_cons_succ]
      refine wpAnyH_yield 19 68 (.pointer (some ⟨B, 11, none⟩)) rfl rfl (by kernel_rfl) (by kernel_rfl) (by kernel_rfl) (fun _ _ _ h => h) (by kernel_rfl) (fun W hW => by kernel_rfl) (by assumption) rfl rfl ?_
      simp only [Act.put, List.setIfInBounds_toArray, List.set_cons_zero, List.set_cons_succ]
      refine wpAnyH_yield 20 69 (.slice mo n mc) rfl rfl (by kernel_rfl) (by kernel_rfl) (by kernel_rfl) (fun _ _ _ h => h) (by kernel_rfl) (fun W hW => by have c0 := KB.out W hW; go_simp) (by assumption) rfl rfl ?_
      simp only [Act.put, List.setIfInBounds_toArray, List.set_cons_zero, List.set_cons_succ]
      refine wpAnyH_yield 21 70 (.int .i64 (n : Int)) rfl rfl (by kernel_rfl) (by kernel_rfl) (by kernel_rfl) (fun _ _ _ h => h) (by kernel_rfl) (fun W hW => by go_simp) (by assumption) rfl rfl ?_
      simp only [Act.put, List.setIfInBounds_toArray, List.set_cons_zero, List.set_cons_succ]
      refine wpAnyH_yield 22 71 (.int .i64 ((n : Int) + 1)) rfl rfl (by kernel_rfl) (by kernel_rfl) (by kernel_rfl) (fun _ _ _ h => h) (by kernel_rfl) (fun W hW => by go_simp) (by assumption) rfl rfl ?_
      simp only [Act.put, List.setIfInBounds_toArray, List.set_cons_zero, List.set_cons_succ]
      refine wpAnyH_yield 23 72 (.slice (some ⟨gl, 0, none⟩) (n + 1) k) rfl rfl (by kernel_rfl) (by kernel_rfl) (by kernel_rfl) (fun _ _ _ h => h) (by kernel_rfl) (fun W hW => by go_simp) (by assumption) rfl rfl ?_
      simp only [Act.put, List.setIfInBounds_toArray, List.set_cons_zero, List.set_cons_succ]
      refine wpAnyH_yield 24 73 (.pointer (some ⟨B, 11, none⟩)) rfl rfl (by kernel_rfl) (by kernel_rfl) (by kernel_rfl) (fun _ _ _ h => h) (by kernel_rfl) (fun W hW => by kernel_rfl) (by assumption) rfl rfl ?_
      simp only [Act.put, List.setIfInBounds_toArray, List.set_cons_zero, List.set_cons_succ]
      refine wpAnyH_yield 25 74 (.slice mo n mc) rfl rfl (by kernel_rfl) (by kernel_rfl) (by kernel_rfl) (fun _ _ _ h => h) (by kernel_rfl) (fun W hW => by have c0 := KB.out W hW; go_simp) (by assumption) rfl rfl ?_
      simp only [Act.put, List.setIfInBounds_toArray, List.set_cons_zero, List.set_cons_succ]
      refine wpAnyH_yield 26 75 (.int .i64 (n : Int)) rfl rfl (by kernel_rfl) (by kernel_rfl) (by kernel_rfl) (fun _ _ _ h => h) (by kernel_rfl) (fun W hW => by go_simp) (by assumption) rfl rfl ?_
      simp only [Act.put, List.setIfInBounds_toArray, List.set_cons_zero, List.set_cons_succ]
      refine wpAnyH_yield 27 76 (.pointer (some ⟨gl, n, none⟩)) rfl rfl (by kernel_rfl) (by kernel_rfl) (by kernel_rfl) (fun _ _ _ h => h) (by kernel_rfl) (fun W hW => by go_simp) (by assumption) rfl rfl ?_
      simp only [Act.put, List.setIfInBounds_toArray, List.set_cons_zero, List.set_cons_succ]
      refine wpAnyH_yield 28 77 (.int .i64 4242) rfl rfl (by kernel_rfl) (by kernel_rfl) (by kernel_rfl) (fun _ _ _ h => h) (by kernel_rfl) (fun W hW => by have c0 := KM.out W hW; go_simp) (by assumption) rfl rfl ?_
      simp only [Act.put, List.setIfInBounds_toArray, List.set_cons_zero, List.set_cons_succ]
      refine wpAnyH_yield 29 78 (.bool false) rfl rfl (by kernel_rfl) (by kernel_rfl) (by kernel_rfl) (fun _ _ _ h => h) (by kernel_rfl) (fun W hW => by go_simp) (by assumption) rfl rfl ?_
      simp only [Act.put, List.setIfInBounds_toArray, List.set_cons_zero, List.set_cons_succ]
      refine wpAnyH_yield 30 79 (.bool false) rfl rfl (by kernel_rfl) (by kernel_rfl) (by kernel_rfl) (fun _ _ _ h => h) (by kernel_rfl) (fun W hW => by go_simp) (by assumption) rfl rfl ?_
      simp only [Act.put, List.setIfInBounds_toArray, List.set_cons_zero, List.set_cons_succ]
      refine wpAnyH_done (by kernel_rfl) ?_ _
      have HT1 := hide (T3.out.tr hT1)
      have HT35 := hide hT1
      clear hT0 hT1 T5 RN nz nw CM KB KM
      clear HT35 T3 LE3 HLE HA1
      go_wp2_with fail
      refine (KN _).out.mono ?_
      rintro e w6 ⟨rfl, T6⟩
      have T6 := hide (HT1.out.tr T6)
      clear HT1 KN
      go_wp2_with fail
      go_ret
      exact ⟨rfl, T6.out⟩
end

end Go.Proofs.Ytapnjofplilefaa
