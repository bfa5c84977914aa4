/- The document's Touch. -/
import Derived.Test.YtbhofihikimgeaaRRMB
namespace Go.Proofs.YtbhofihikimgeaaRR
open Go.RowKit

/-- How many lie ahead of the span. -/
def fromR (L : List Wn) (s : Sp) : Nat := (L.filter fun x => !over x.sp s && decide (x.b ≤ s.a)).length
/-- How many overlap it. -/
def ovR (L : List Wn) (s : Sp) : Nat := (L.filter fun x => over x.sp s).length
/-- Is it refused? -/
def badT (L : List Wn) (s : Sp) : Bool := !(apartR L && decide (s.a < s.b))

theorem fromR_next (L : List Wn) (s : Sp) (k : Nat) (hk : k < L.length) : fromR (L.take (k + 1)) s = fromR (L.take k) s + (!over (L.getD k wn0).sp s && decide ((L.getD k wn0).b ≤ s.a)).toNat := by
  unfold fromR
  rw [List.take_succ_eq_append_getElem hk, List.filter_append, List.length_append, List.getD_eq_getElem?_getD, List.getElem?_eq_getElem hk]
  simp only [Option.getD_some, List.filter_cons, List.filter_nil]
  split
  · rename_i h; rw [h]; rfl
  · rename_i h; rw [Bool.not_eq_true] at h; rw [h]; rfl
theorem ovR_next (L : List Wn) (s : Sp) (k : Nat) (hk : k < L.length) : ovR (L.take (k + 1)) s = ovR (L.take k) s + (over (L.getD k wn0).sp s).toNat := by
  unfold ovR
  rw [List.take_succ_eq_append_getElem hk, List.filter_append, List.length_append, List.getD_eq_getElem?_getD, List.getElem?_eq_getElem hk]
  simp only [Option.getD_some, List.filter_cons, List.filter_nil]
  split
  · rename_i h; rw [h]; rfl
  · rename_i h; rw [Bool.not_eq_true] at h; rw [h]; rfl
theorem fromR_le (L : List Wn) (s : Sp) : fromR L s ≤ L.length := List.length_filter_le ..
theorem ovR_le (L : List Wn) (s : Sp) : ovR L s ≤ L.length := List.length_filter_le ..

/-- What Touch tells. -/
def tch1 (L : List Wn) (s : Sp) : Int := if badT L s then 0 else (fromR L s : Nat)
def tch2 (L : List Wn) (s : Sp) : Int := if badT L s then 0 else ((fromR L s + ovR L s : Nat) : Int)
def tch3 (L : List Wn) (s : Sp) : Int := if badT L s then 190 else 0

set_option maxRecDepth 100000 in
set_option maxHeartbeats 2000000 in
theorem rtouch_any (ao : Option Addr) (cap : Nat) (L : List Wn) (s : Sp) (w : World) (hm : encW.Mem w ao L) (hn : L.length ≤ 140737488355328) :
    Calls Try.prog 8 #[.slice ao L.length cap, spv s] w fun e w' => e = .returned (.tuple #[.int .i64 (tch1 L s), .int .i64 (tch2 L s), .int .i64 (tch3 L s)]) ∧ Calm w w' := by
  have CA := fun w' (h : Calm w w') => hide (rapart_any ao cap L w' (Rc.Mem.calm hm h) hn)
  have CO := fun x y w => hide (roverlap_any x y w)
  have HA : Hid (∀ k, k < L.length → ∀ W, Calm w W → _) := hide fun k hk W hW => wn_at (Rc.Mem.calm hm hW) k hk
  have N1 := hide (fromR_next L s)
  have N2 := hide (ovR_next L s)
  have L1 : Hid (∀ k, fromR (L.take k) s ≤ L.length) := hide fun k => Nat.le_trans (fromR_le _ _) (by rw [List.length_take]; omega)
  have L2 : Hid (∀ k, ovR (L.take k) s ≤ L.length) := hide fun k => Nat.le_trans (ovR_le _ _) (by rw [List.length_take]; omega)
  have E1 : Hid (fromR (L.take L.length) s = fromR L s) := hide (by rw [List.take_length])
  have E2 : Hid (ovR (L.take L.length) s = ovR L s) := hide (by rw [List.take_length])
  have Z1 : Hid (fromR (L.take 0) s = 0) := hide rfl
  have Z2 : Hid (ovR (L.take 0) s = 0) := hide rfl
  unfold tch1 tch2 tch3 badT
  generalize apartR L = ap at *
  generalize hN : L.length = n at *
  clear hN hm
  generalize hs : decide (s.a < s.b) = sb at *
  cases ap with
  | false =>
    clear hs
    go_enter Try.func8, Try.ntmps8
    go_wp2_with fail
    have T0 : Calm w (w.alloc (.cells (spc s) 24)) := (Touch.refl _ _).alloc _
    refine (CA _ T0).out.mono ?_
    rintro e w1 ⟨rfl, T1⟩
    have HT := hide (T0.tr T1)
    clear T1
    go_wp2_with fail
    go_ret3
    exact ⟨rfl, HT.out⟩
  | true =>
    cases sb with
    | false =>
      have hs' : s.b ≤ s.a := by have := of_decide_eq_false hs; omega
      clear hs
      go_enter Try.func8, Try.ntmps8
      go_wp2_with fail
      have T0 : Calm w (w.alloc (.cells (spc s) 24)) := (Touch.refl _ _).alloc _
      have A0 := al_new w (.cells (spc s) 24)
      refine (CA _ T0).out.mono ?_
      rintro e w1 ⟨rfl, T1⟩
      obtain ⟨c0, c1⟩ := sp_cells (T1.at A0)
      have HT := hide (T0.tr T1)
      clear T1 A0
      go_wp2_with fail
      go_ret3
      exact ⟨rfl, HT.out⟩
    | true =>
      have hs' : ¬ s.b ≤ s.a := by have := of_decide_eq_true hs; omega
      clear hs
      go_enter Try.func8, Try.ntmps8
      go_wp2_with fail
      have T0 : Calm w (w.alloc (.cells (spc s) 24)) := (Touch.refl _ _).alloc _
      have A0 := al_new w (.cells (spc s) 24)
      refine (CA _ T0).out.mono ?_
      rintro e w1 ⟨rfl, T1⟩
      have HD := hide (T1.at A0)
      obtain ⟨c0, c1⟩ := sp_cells HD.out
      have HT := hide (T0.tr T1)
      clear T1 A0 T0 CA
      generalize w.heap.size = D at *
      go_wp2_with fail
      clear c0 c1
      go_loopw [8, 9, 10] (fun f c i wr => ∃ k : Nat, i = .int .i64 k ∧ k ≤ n ∧ f = .int .i64 (fromR (L.take k) s : Nat) ∧ c = .int .i64 (ovR (L.take k) s : Nat) ∧ Calm w1 wr) (fun _ _ i _ => n - (intOf i).toNat)
      case atStart => exact ⟨0, rfl, Nat.zero_le _, by rw [Z1.out]; rfl, by rw [Z2.out]; rfl, Touch.refl _ _⟩
      case round =>
        obtain ⟨k, rfl, hk, rfl, rfl, T2⟩ := hrel
        by_cases hlt : k < n
        · obtain ⟨b, off, rfl, -⟩ := HA.out k hlt w1 HT.out
          have KY : Hid (∀ W, Calm w W → W.cell? ⟨b, off + k * 9, none⟩ = some (.int .i64 (L.getD k wn0).a) ∧ W.cell? ⟨b, off + k * 9 + 1, none⟩ = some (.int .i64 (L.getD k wn0).b)) := hide fun W hW => by
            obtain ⟨b', off', e, ⟨c0, c1, -⟩, -⟩ := HA.out k hlt W hW
            injection e with e
            injection e with e1 e2
            subst e1 e2
            exact ⟨c0, c1⟩
          have M1 := N1.out k hlt
          have M2 := N2.out k hlt
          have l1 := L1.out k
          have l2 := L2.out k
          generalize L.getD k wn0 = y at *
          generalize fromR (L.take k) s = f at *
          generalize ovR (L.take k) s = c at *
          have C1 := fun w => CO y.sp s w
          generalize over y.sp s = ov at *
          have H2 := hide T2
          have HM1 := hide M1
          have HM2 := hide M2
          clear T2 M1 M2 HA N1 N2 L1 L2 E1 E2 Z1 Z2
          have hki : (k : Int) < (n : Int) := by omega
          go_wp2_with fail
          refine wp_region_held (S := Calm w1) (by kernel_rfl) ?_
          have hT0 : Calm w1 { wr with drawn := wr.drawn + 1 } := H2.out.drew
          refine wpAnyH_yield 0 29 (.slice (some ⟨b, off, none⟩) n cap) rfl rfl (by kernel_rfl) (by kernel_rfl) (by kernel_rfl) (fun _ _ _ h => h) (by kernel_rfl) (fun W hW => by kernel_rfl) (by assumption) rfl rfl ?_
          simp only [Act.put, List.setIfInBounds_toArray, List.set_cons_zero, List.set_cons_succ]
          refine wpAnyH_yield 1 30 (.int .i64 (k : Int)) rfl rfl (by kernel_rfl) (by kernel_rfl) (by kernel_rfl) (fun _ _ _ h => h) (by kernel_rfl) (fun W hW => by kernel_rfl) (by assumption) rfl rfl ?_
          simp only [Act.put, List.setIfInBounds_toArray, List.set_cons_zero, List.set_cons_succ]
          refine wpAnyH_yield 2 31 (.pointer (some ⟨b, off + k * 9, none⟩)) rfl rfl (by kernel_rfl) (by kernel_rfl) (by kernel_rfl) (fun _ _ _ h => h) (by kernel_rfl) (fun W hW => by go_simp) (by assumption) rfl rfl ?_
          simp only [Act.put, List.setIfInBounds_toArray, List.set_cons_zero, List.set_cons_succ]
          refine wpAnyH_yield 3 32 (.pointer (some ⟨b, off + k * 9, none⟩)) rfl rfl (by kernel_rfl) (by kernel_rfl) (by kernel_rfl) (fun _ _ _ h => h) (by kernel_rfl) (fun W hW => by go_simp) (by assumption) rfl rfl ?_
          simp only [Act.put, List.setIfInBounds_toArray, List.set_cons_zero, List.set_cons_succ]
          refine wpAnyH_yield 4 33 (spv y.sp) rfl rfl (by kernel_rfl) (by kernel_rfl) (by kernel_rfl) (fun _ _ _ h => h) (by kernel_rfl) (fun W hW => by obtain ⟨c0, c1⟩ := KY.out W (HT.out.tr hW); go_simp) (by assumption) rfl rfl ?_
          simp only [Act.put, List.setIfInBounds_toArray, List.set_cons_zero, List.set_cons_succ]
          refine wpAnyH_yield 5 34 (spv s) rfl rfl (by kernel_rfl) (by kernel_rfl) (by kernel_rfl) (fun _ _ _ h => h) (by kernel_rfl) (fun W hW => by obtain ⟨c0, c1⟩ := sp_cells (hW.at HD.out); go_simp) (by assumption) rfl rfl ?_
          simp only [Act.put, List.setIfInBounds_toArray, List.set_cons_zero, List.set_cons_succ]
          refine wpAnyH_enter 6 35 15 #[spv y.sp, spv s] rfl rfl (by kernel_rfl) (by kernel_rfl) (by kernel_rfl) ?_
          refine ((C1 _).out).mono ?_
          rintro r w5 ⟨rfl, T5⟩
          have h5 := hT0.tr T5
          refine ⟨_, rfl, h5, ?_⟩
          simp only [Act.put, List.setIfInBounds_toArray, List.set_cons_zero, List.set_cons_succ]
          refine wpAnyH_yield 7 11 (.bool ov) rfl rfl (by kernel_rfl) (by kernel_rfl) (by kernel_rfl) (fun _ _ _ h => h) (by kernel_rfl) (fun W hW => by kernel_rfl) (by assumption) rfl rfl ?_
          simp only [Act.put, List.setIfInBounds_toArray, List.set_cons_zero, List.set_cons_succ]
          refine wpAnyH_done (by kernel_rfl) ?_ _
          have H3 := hide h5
          clear hT0 T5 h5 H2 C1
          cases ov with
          | true =>
            go_wp2_with fail
            go_roundw
            case rel => exact ⟨k + 1, by go_num, by omega, by rw [HM1.out]; rfl, by rw [HM2.out]; rfl, H3.out⟩
            case measure => simp [intOf]; omega
          | false =>
            generalize hd : decide (y.b ≤ s.a) = dd at *
            go_wp2_with fail
            refine wp_region_held (S := Calm w1) (by kernel_rfl) ?_
            have hT0 : Calm w1 { w5 with drawn := w5.drawn + 1 } := H3.out.drew
            refine wpAnyH_yield 0 39 (.slice (some ⟨b, off, none⟩) n cap) rfl rfl (by kernel_rfl) (by kernel_rfl) (by kernel_rfl) (fun _ _ _ h => h) (by kernel_rfl) (fun W hW => by kernel_rfl) (by assumption) rfl rfl ?_
            simp only [Act.put, List.setIfInBounds_toArray, List.set_cons_zero, List.set_cons_succ]
            refine wpAnyH_yield 1 40 (.int .i64 (k : Int)) rfl rfl (by kernel_rfl) (by kernel_rfl) (by kernel_rfl) (fun _ _ _ h => h) (by kernel_rfl) (fun W hW => by kernel_rfl) (by assumption) rfl rfl ?_
            simp only [Act.put, List.setIfInBounds_toArray, List.set_cons_zero, List.set_cons_succ]
            refine wpAnyH_yield 2 41 (.pointer (some ⟨b, off + k * 9, none⟩)) rfl rfl (by kernel_rfl) (by kernel_rfl) (by kernel_rfl) (fun _ _ _ h => h) (by kernel_rfl) (fun W hW => by go_simp) (by assumption) rfl rfl ?_
            simp only [Act.put, List.setIfInBounds_toArray, List.set_cons_zero, List.set_cons_succ]
            refine wpAnyH_yield 3 42 (.pointer (some ⟨b, off + k * 9, none⟩)) rfl rfl (by kernel_rfl) (by kernel_rfl) (by kernel_rfl) (fun _ _ _ h => h) (by kernel_rfl) (fun W hW => by go_simp) (by assumption) rfl rfl ?_
            simp only [Act.put, List.setIfInBounds_toArray, List.set_cons_zero, List.set_cons_succ]
            refine wpAnyH_yield 4 43 (.pointer (some ⟨b, off + k * 9 + 1, none⟩)) rfl rfl (by kernel_rfl) (by kernel_rfl) (by kernel_rfl) (fun _ _ _ h => h) (by kernel_rfl) (fun W hW => by go_simp) (by assumption) rfl rfl ?_
            simp only [Act.put, List.setIfInBounds_toArray, List.set_cons_zero, List.set_cons_succ]
            refine wpAnyH_yield 5 44 (.int .i64 y.b) rfl rfl (by kernel_rfl) (by kernel_rfl) (by kernel_rfl) (fun _ _ _ h => h) (by kernel_rfl) (fun W hW => by obtain ⟨c0, c1⟩ := KY.out W (HT.out.tr hW); go_simp) (by assumption) rfl rfl ?_
            simp only [Act.put, List.setIfInBounds_toArray, List.set_cons_zero, List.set_cons_succ]
            refine wpAnyH_yield 6 45 (.pointer (some ⟨D, 0, none⟩)) rfl rfl (by kernel_rfl) (by kernel_rfl) (by kernel_rfl) (fun _ _ _ h => h) (by kernel_rfl) (fun W hW => by go_simp) (by assumption) rfl rfl ?_
            simp only [Act.put, List.setIfInBounds_toArray, List.set_cons_zero, List.set_cons_succ]
            refine wpAnyH_yield 7 46 (.int .i64 s.a) rfl rfl (by kernel_rfl) (by kernel_rfl) (by kernel_rfl) (fun _ _ _ h => h) (by kernel_rfl) (fun W hW => by obtain ⟨c0, c1⟩ := sp_cells (hW.at HD.out); go_simp) (by assumption) rfl rfl ?_
            simp only [Act.put, List.setIfInBounds_toArray, List.set_cons_zero, List.set_cons_succ]
            refine wpAnyH_yield 8 47 (.bool dd) rfl rfl (by kernel_rfl) (by kernel_rfl) (by kernel_rfl) (fun _ _ _ h => h) (by kernel_rfl) (fun W hW => by go_simp) (by assumption) rfl rfl ?_
            simp only [Act.put, List.setIfInBounds_toArray, List.set_cons_zero, List.set_cons_succ]
            refine wpAnyH_done (by kernel_rfl) ?_ _
            have H4 := hide hT0
            clear hT0 H3 hd
            cases dd with
            | true =>
              go_wp2_with fail
              go_roundw
              case rel => exact ⟨k + 1, by go_num, by omega, by rw [HM1.out]; rfl, by rw [HM2.out]; rfl, H4.out⟩
              case measure => simp [intOf]; omega
            | false =>
              go_wp2_with fail
              go_roundw
              case rel => exact ⟨k + 1, by go_num, by omega, by rw [HM1.out]; rfl, by rw [HM2.out]; rfl, H4.out⟩
              case measure => simp [intOf]; omega
        · have e : k = n := by omega
          subst e
          have l1 := L1.out k
          have l2 := L2.out k
          rw [E1.out] at l1 ⊢
          rw [E2.out] at l2 ⊢
          have H2 := hide T2
          clear T2 HA N1 N2 L1 L2 E1 E2 Z1 Z2
          generalize hf : fromR L s = f at *
          generalize hc : ovR L s = c at *
          have HF := hide hf
          have HC := hide hc
          clear hf hc
          go_wp2_with fail
          go_ret3
          refine ⟨?_, HT.out.tr H2.out⟩
          rw [HF.out, HC.out]
          simp

end Go.Proofs.YtbhofihikimgeaaRR
