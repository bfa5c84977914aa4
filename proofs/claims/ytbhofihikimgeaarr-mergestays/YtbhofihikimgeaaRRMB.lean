/- The document's Apart. -/
import Derived.Test.YtbhofihikimgeaaRRMW
namespace Go.Proofs.YtbhofihikimgeaaRR
open Go.RowKit

/-- A window that may be in a row. -/
def okW (x : Wn) : Bool := decide (x.a < x.b) && (inC x.t.c && (inC x.n && inC x.p))
/-- One may stand ahead of the other. -/
def pairOk (x y : Wn) : Bool := !over x.sp y.sp && decide (x.a < y.a)
/-- The window number i, and all ahead of it. -/
def rowAt (L : List Wn) (i : Nat) : Bool := okW (L.getD i wn0) && (List.range i).all fun k => pairOk (L.getD k wn0) (L.getD i wn0)
/-- Is it a row of sessions? -/
def apartR (L : List Wn) : Bool := (List.range L.length).all fun i => rowAt L i

theorem apart_yes {L : List Wn} (h : ∀ i, i < L.length → rowAt L i = true) : apartR L = true := by
  unfold apartR; rw [List.all_eq_true]; intro i hi; exact h i (List.mem_range.1 hi)
theorem apart_no {L : List Wn} {i : Nat} (hi : i < L.length) (h : rowAt L i = false) : apartR L = false := by
  cases hh : apartR L with
  | false => rfl
  | true =>
    unfold apartR at hh
    rw [List.all_eq_true] at hh
    rw [hh i (List.mem_range.2 hi)] at h
    cases h
theorem rowAt_no1 {L : List Wn} {i : Nat} (h : okW (L.getD i wn0) = false) : rowAt L i = false := by unfold rowAt; rw [h]; rfl
theorem rowAt_no2 {L : List Wn} {i k : Nat} (hk : k < i) (h : pairOk (L.getD k wn0) (L.getD i wn0) = false) : rowAt L i = false := by
  unfold rowAt
  cases hh : (List.range i).all fun k => pairOk (L.getD k wn0) (L.getD i wn0) with
  | false => simp
  | true =>
    rw [List.all_eq_true] at hh
    have := hh k (List.mem_range.2 hk)
    rw [h] at this
    cases this
theorem rowAt_yes {L : List Wn} {i : Nat} (h : okW (L.getD i wn0) = true) (h2 : ∀ k, k < i → pairOk (L.getD k wn0) (L.getD i wn0) = true) : rowAt L i = true := by
  unfold rowAt
  rw [h, Bool.true_and, List.all_eq_true]
  intro k hk
  exact h2 k (List.mem_range.1 hk)

set_option maxRecDepth 100000 in
set_option maxHeartbeats 2000000 in
theorem rapart_any (ao : Option Addr) (cap : Nat) (L : List Wn) (w : World) (hm : encW.Mem w ao L) (hn : L.length ≤ 140737488355328) :
    Calls Try.prog 12 #[.slice ao L.length cap] w fun e w' => e = .returned (.bool (apartR L)) ∧ Calm w w' := by
  have CC := fun n w => hide (rcounts_any n w)
  have CO := fun x y w => hide (roverlap_any x y w)
  have HA : Hid (∀ k, k < L.length → ∀ W, Calm w W → _) := hide fun k hk W hW => wn_at (Rc.Mem.calm hm hW) k hk
  have HY := hide (@apart_yes L)
  have HN : Hid (∀ i, i < L.length → rowAt L i = false → apartR L = false) := hide fun i h g => apart_no h g
  have R1 : Hid (∀ i, okW (L.getD i wn0) = false → rowAt L i = false) := hide fun i h => rowAt_no1 h
  have R2 : Hid (∀ i k, k < i → pairOk (L.getD k wn0) (L.getD i wn0) = false → rowAt L i = false) := hide fun i k h g => rowAt_no2 h g
  have R3 : Hid (∀ i, okW (L.getD i wn0) = true → (∀ k, k < i → pairOk (L.getD k wn0) (L.getD i wn0) = true) → rowAt L i = true) := hide fun i h g => rowAt_yes h g
  generalize hap : apartR L = ap at *
  generalize hN : L.length = n at *
  clear hap hN hm
  go_enter Try.func12, Try.ntmps12
  go_wp2_with fail
  go_loopw [3] (fun i wr => ∃ k : Nat, i = .int .i64 k ∧ k ≤ n ∧ (∀ j, j < k → rowAt L j = true) ∧ Calm w wr) (fun i _ => n - (intOf i).toNat)
  case atStart => exact ⟨0, rfl, Nat.zero_le _, fun j hj => absurd hj (by omega), Touch.refl _ _⟩
  case round =>
    obtain ⟨i, rfl, hi, hall, T0⟩ := hrel
    by_cases hlt : i < n
    · obtain ⟨b, off, rfl, ⟨c0, c1, c2⟩, ⟨c3, c4, c5, c6⟩, c7, c8⟩ := HA.out i hlt wr T0
      have N1 : Hid (okW (L.getD i wn0) = false → false = ap) := hide fun h => (HN.out i hlt (R1.out i h)).symm
      have N2 : Hid (∀ k, k < i → pairOk (L.getD k wn0) (L.getD i wn0) = false → false = ap) := hide fun k hk h => (HN.out i hlt (R2.out i k hk h)).symm
      have Y1 : Hid (okW (L.getD i wn0) = true → (∀ k, k < i → pairOk (L.getD k wn0) (L.getD i wn0) = true) → ∀ j, j < i + 1 → rowAt L j = true) := hide fun h h2 j hj => by
        rcases Nat.lt_or_ge j i with h3 | h3
        · exact hall j h3
        · obtain rfl : j = i := by omega
          exact R3.out _ h h2
      have HAk : Hid (∀ k, k < i → ∀ W, Calm w W → _) := hide fun k hk W hW => HA.out k (by omega) W hW
      generalize L.getD i wn0 = x at *
      clear HY HN R1 R2 R3 hall HA
      have HT := hide T0
      clear T0
      unfold okW at N1 Y1
      generalize h0 : decide (x.a < x.b) = b0 at *
      generalize h1 : inC x.t.c = b1 at *
      generalize h2 : inC x.n = b2 at *
      generalize h3 : inC x.p = b3 at *
      have C1 := fun w => CC x.t.c w
      have C2 := fun w => CC x.n w
      have C3 := fun w => CC x.p w
      rw [h1] at C1
      rw [h2] at C2
      rw [h3] at C3
      clear h1 h2 h3 CC
      cases b0 with
      | false =>
        have h0' : x.b ≤ x.a := by have := of_decide_eq_false h0; omega
        clear h0
        go_wp2_with fail
        go_ret
        exact ⟨by rw [← N1.out rfl]; rfl, HT.out.alloc _⟩
      | true =>
        have h0' : ¬ x.b ≤ x.a := by have := of_decide_eq_true h0; omega
        clear h0
        cases b1 with
        | false =>
          go_wp2_with fail
          refine (C1 _).out.mono ?_
          rintro e w2 ⟨rfl, hq⟩
          subst hq
          go_wp2_with fail
          go_ret
          exact ⟨by rw [← N1.out rfl]; rfl, HT.out.alloc _⟩
        | true =>
          go_wp2_with fail
          refine (C1 _).out.mono ?_
          rintro e w2 ⟨rfl, hq⟩
          subst hq
          go_wp2_with fail
          refine (C2 _).out.mono ?_
          rintro e w2 ⟨rfl, hq⟩
          subst hq
          cases b2 with
          | false =>
            go_wp2_with fail
            go_ret
            exact ⟨by rw [← N1.out rfl]; rfl, HT.out.alloc _⟩
          | true =>
            go_wp2_with fail
            refine (C3 _).out.mono ?_
            rintro e w2 ⟨rfl, hq⟩
            subst hq
            cases b3 with
            | false =>
              go_wp2_with fail
              go_ret
              exact ⟨by rw [← N1.out rfl]; rfl, HT.out.alloc _⟩
            | true =>
              clear c0 c1 c2 c3 c4 c5 c6 c7 c8 C1 C2 C3 h0'
              go_wp2_with fail
              have A0 := al_new wr (.cells (wnc x) 43)
              have T1 := HT.out.alloc (.cells (wnc x) 43)
              generalize wr.alloc (.cells (wnc x) 43) = w1 at *
              generalize wr.heap.size = D at *
              have HD := hide A0
              have HT1 := hide T1
              clear A0 T1 HT
              go_loopw [5] (fun j wz => ∃ k : Nat, j = .int .i64 k ∧ k ≤ i ∧ (∀ m, m < k → pairOk (L.getD m wn0) x = true) ∧ Calm w1 wz) (fun j _ => i - (intOf j).toNat)
              case atStart => exact ⟨0, rfl, Nat.zero_le _, fun m hm => absurd hm (by omega), Touch.refl _ _⟩
              case round =>
                obtain ⟨k, rfl, hk, hall, T0⟩ := hrel
                by_cases hlk : k < i
                · have KY : Hid (∀ W, Calm w W → W.cell? ⟨b, off + k * 9, none⟩ = some (.int .i64 (L.getD k wn0).a) ∧ W.cell? ⟨b, off + k * 9 + 1, none⟩ = some (.int .i64 (L.getD k wn0).b)) := hide fun W hW => by
                    obtain ⟨b', off', e, ⟨c0, c1, -⟩, -⟩ := HAk.out k hlk W hW
                    injection e with e
                    injection e with e1 e2
                    subst e1 e2
                    exact ⟨c0, c1⟩
                  have M1 : Hid (pairOk (L.getD k wn0) x = false → false = ap) := hide fun h => N2.out k hlk h
                  have M2 : Hid (pairOk (L.getD k wn0) x = true → ∀ m, m < k + 1 → pairOk (L.getD m wn0) x = true) := hide fun h m hm => by
                    rcases Nat.lt_or_ge m k with h3 | h3
                    · exact hall m h3
                    · obtain rfl : m = k := by omega
                      exact h
                  generalize L.getD k wn0 = y at *
                  have H2 := hide T0
                  clear T0 hall
                  have C1 := fun w => CO y.sp x.sp w
                  unfold pairOk at M1 M2
                  have hki : (k : Int) < (i : Int) := by omega
                  have hkn : (k : Int) < (n : Int) := by omega
                  have hsp : over y.sp x.sp = over y.sp x.sp := rfl
                  generalize over y.sp x.sp = ov at *
                  clear hsp
                  go_wp2_with fail
                  refine wp_region_held (S := Calm w1) (by kernel_rfl) ?_
                  have hT0 : Calm w1 { wr with drawn := wr.drawn + 1 } := H2.out.drew
                  refine wpAnyH_yield 0 48 (.slice (some ⟨b, off, none⟩) n cap) rfl rfl (by kernel_rfl) (by kernel_rfl) (by kernel_rfl) (fun _ _ _ h => h) (by kernel_rfl) (fun W hW => by kernel_rfl) (by assumption) rfl rfl ?_
                  simp only [Act.put, List.setIfInBounds_toArray, List.set_cons_zero, List.set_cons_succ]
                  refine wpAnyH_yield 1 49 (.int .i64 (k : Int)) rfl rfl (by kernel_rfl) (by kernel_rfl) (by kernel_rfl) (fun _ _ _ h => h) (by kernel_rfl) (fun W hW => by kernel_rfl) (by assumption) rfl rfl ?_
                  simp only [Act.put, List.setIfInBounds_toArray, List.set_cons_zero, List.set_cons_succ]
                  refine wpAnyH_yield 2 50 (.pointer (some ⟨b, off + k * 9, none⟩)) rfl rfl (by kernel_rfl) (by kernel_rfl) (by kernel_rfl) (fun _ _ _ h => h) (by kernel_rfl) (fun W hW => by go_simp) (by assumption) rfl rfl ?_
                  simp only [Act.put, List.setIfInBounds_toArray, List.set_cons_zero, List.set_cons_succ]
                  refine wpAnyH_yield 3 51 (.pointer (some ⟨b, off + k * 9, none⟩)) rfl rfl (by kernel_rfl) (by kernel_rfl) (by kernel_rfl) (fun _ _ _ h => h) (by kernel_rfl) (fun W hW => by go_simp) (by assumption) rfl rfl ?_
                  simp only [Act.put, List.setIfInBounds_toArray, List.set_cons_zero, List.set_cons_succ]
                  refine wpAnyH_yield 4 52 (spv y.sp) rfl rfl (by kernel_rfl) (by kernel_rfl) (by kernel_rfl) (fun _ _ _ h => h) (by kernel_rfl) (fun W hW => by obtain ⟨c0, c1⟩ := KY.out W (HT1.out.tr hW); go_simp) (by assumption) rfl rfl ?_
                  simp only [Act.put, List.setIfInBounds_toArray, List.set_cons_zero, List.set_cons_succ]
                  refine wpAnyH_yield 5 53 (.pointer (some ⟨D, 0, none⟩)) rfl rfl (by kernel_rfl) (by kernel_rfl) (by kernel_rfl) (fun _ _ _ h => h) (by kernel_rfl) (fun W hW => by go_simp) (by assumption) rfl rfl ?_
                  simp only [Act.put, List.setIfInBounds_toArray, List.set_cons_zero, List.set_cons_succ]
                  refine wpAnyH_yield 6 54 (spv x.sp) rfl rfl (by kernel_rfl) (by kernel_rfl) (by kernel_rfl) (fun _ _ _ h => h) (by kernel_rfl) (fun W hW => by obtain ⟨⟨c0, c1, c2⟩, -⟩ := wn_cells (hW.at HD.out); go_simp) (by assumption) rfl rfl ?_
                  simp only [Act.put, List.setIfInBounds_toArray, List.set_cons_zero, List.set_cons_succ]
                  refine wpAnyH_enter 7 55 15 #[spv y.sp, spv x.sp] rfl rfl (by kernel_rfl) (by kernel_rfl) (by kernel_rfl) ?_
                  refine ((C1 _).out).mono ?_
                  rintro r w5 ⟨rfl, T5⟩
                  have h5 := hT0.tr T5
                  refine ⟨_, rfl, h5, ?_⟩
                  simp only [Act.put, List.setIfInBounds_toArray, List.set_cons_zero, List.set_cons_succ]
                  refine wpAnyH_yield 8 6 (.bool ov) rfl rfl (by kernel_rfl) (by kernel_rfl) (by kernel_rfl) (fun _ _ _ h => h) (by kernel_rfl) (fun W hW => by kernel_rfl) (by assumption) rfl rfl ?_
                  simp only [Act.put, List.setIfInBounds_toArray, List.set_cons_zero, List.set_cons_succ]
                  refine wpAnyH_done (by kernel_rfl) ?_ _
                  have H3 := hide h5
                  clear hT0 T5 h5 H2 C1
                  cases ov with
                  | true =>
                    go_wp2_with fail
                    refine wp_region_held (S := Calm w1) (by kernel_rfl) ?_
                    have hT0 : Calm w1 { w5 with drawn := w5.drawn + 1 } := H3.out.drew
                    refine wpAnyH_yield 0 56 (.bool true) rfl rfl (by kernel_rfl) (by kernel_rfl) (by kernel_rfl) (fun _ _ _ h => h) (by kernel_rfl) (fun W hW => by kernel_rfl) (by assumption) rfl rfl ?_
                    simp only [Act.put, List.setIfInBounds_toArray, List.set_cons_zero, List.set_cons_succ]
                    refine wpAnyH_yield 1 57 (.bool true) rfl rfl (by kernel_rfl) (by kernel_rfl) (by kernel_rfl) (fun _ _ _ h => h) (by kernel_rfl) (fun W hW => by kernel_rfl) (by assumption) rfl rfl ?_
                    simp only [Act.put, List.setIfInBounds_toArray, List.set_cons_zero, List.set_cons_succ]
                    refine wpAnyH_skip 2 58 rfl rfl (by kernel_rfl) (by kernel_rfl) (by kernel_rfl) (fun _ _ _ h => h) (by kernel_rfl) (by assumption) rfl rfl ?_
                    simp only [Act.put, List.setIfInBounds_toArray, List.set_cons_zero, List.set_cons_succ]
                    refine wpAnyH_skip 3 59 rfl rfl (by kernel_rfl) (by kernel_rfl) (by kernel_rfl) (fun _ _ _ h => h) (by kernel_rfl) (by assumption) rfl rfl ?_
                    simp only [Act.put, List.setIfInBounds_toArray, List.set_cons_zero, List.set_cons_succ]
                    refine wpAnyH_skip 4 60 rfl rfl (by kernel_rfl) (by kernel_rfl) (by kernel_rfl) (fun _ _ _ h => h) (by kernel_rfl) (by assumption) rfl rfl ?_
                    simp only [Act.put, List.setIfInBounds_toArray, List.set_cons_zero, List.set_cons_succ]
                    refine wpAnyH_skip 5 61 rfl rfl (by kernel_rfl) (by kernel_rfl) (by kernel_rfl) (fun _ _ _ h => h) (by kernel_rfl) (by assumption) rfl rfl ?_
                    simp only [Act.put, List.setIfInBounds_toArray, List.set_cons_zero, List.set_cons_succ]
                    refine wpAnyH_skip 6 62 rfl rfl (by kernel_rfl) (by kernel_rfl) (by kernel_rfl) (fun _ _ _ h => h) (by kernel_rfl) (by assumption) rfl rfl ?_
                    simp only [Act.put, List.setIfInBounds_toArray, List.set_cons_zero, List.set_cons_succ]
                    refine wpAnyH_skip 7 63 rfl rfl (by kernel_rfl) (by kernel_rfl) (by kernel_rfl) (fun _ _ _ h => h) (by kernel_rfl) (by assumption) rfl rfl ?_
                    simp only [Act.put, List.setIfInBounds_toArray, List.set_cons_zero, List.set_cons_succ]
                    refine wpAnyH_skip 8 64 rfl rfl (by kernel_rfl) (by kernel_rfl) (by kernel_rfl) (fun _ _ _ h => h) (by kernel_rfl) (by assumption) rfl rfl ?_
                    simp only [Act.put, List.setIfInBounds_toArray, List.set_cons_zero, List.set_cons_succ]
                    refine wpAnyH_skip 9 65 rfl rfl (by kernel_rfl) (by kernel_rfl) (by kernel_rfl) (fun _ _ _ h => h) (by kernel_rfl) (by assumption) rfl rfl ?_
                    simp only [Act.put, List.setIfInBounds_toArray, List.set_cons_zero, List.set_cons_succ]
                    refine wpAnyH_skip 10 66 rfl rfl (by kernel_rfl) (by kernel_rfl) (by kernel_rfl) (fun _ _ _ h => h) (by kernel_rfl) (by assumption) rfl rfl ?_
                    simp only [Act.put, List.setIfInBounds_toArray, List.set_cons_zero, List.set_cons_succ]
                    refine wpAnyH_skip 11 67 rfl rfl (by kernel_rfl) (by kernel_rfl) (by kernel_rfl) (fun _ _ _ h => h) (by kernel_rfl) (by assumption) rfl rfl ?_
                    simp only [Act.put, List.setIfInBounds_toArray, List.set_cons_zero, List.set_cons_succ]
                    refine wpAnyH_yield 12 68 (.bool true) rfl rfl (by kernel_rfl) (by kernel_rfl) (by kernel_rfl) (fun _ _ _ h => h) (by kernel_rfl) (fun W hW => by kernel_rfl) (by assumption) rfl rfl ?_
                    simp only [Act.put, List.setIfInBounds_toArray, List.set_cons_zero, List.set_cons_succ]
                    refine wpAnyH_done (by kernel_rfl) ?_ _
                    have H4 := hide hT0
                    clear hT0 H3
                    go_wp2_with fail
                    go_ret
                    exact ⟨by rw [← M1.out rfl]; rfl, HT1.out.tr H4.out⟩
                  | false =>
                    generalize hd : decide (y.a < x.a) = dd at *
                    have hd' : decide (x.a ≤ y.a) = !dd := by
                      rw [← hd]
                      by_cases h : y.a < x.a
                      · rw [decide_eq_true h]; exact decide_eq_false (by omega)
                      · rw [decide_eq_false h]; exact decide_eq_true (by omega)
                    clear hd
                    go_wp2_with fail
                    refine wp_region_held (S := Calm w1) (by kernel_rfl) ?_
                    have hT0 : Calm w1 { w5 with drawn := w5.drawn + 1 } := H3.out.drew
                    refine wpAnyH_yield 0 56 (.bool false) rfl rfl (by kernel_rfl) (by kernel_rfl) (by kernel_rfl) (fun _ _ _ h => h) (by kernel_rfl) (fun W hW => by kernel_rfl) (by assumption) rfl rfl ?_
                    simp only [Act.put, List.setIfInBounds_toArray, List.set_cons_zero, List.set_cons_succ]
                    refine wpAnyH_yield 1 57 (.bool false) rfl rfl (by kernel_rfl) (by kernel_rfl) (by kernel_rfl) (fun _ _ _ h => h) (by kernel_rfl) (fun W hW => by kernel_rfl) (by assumption) rfl rfl ?_
                    simp only [Act.put, List.setIfInBounds_toArray, List.set_cons_zero, List.set_cons_succ]
                    refine wpAnyH_yield 2 58 (.slice (some ⟨b, off, none⟩) n cap) rfl rfl (by kernel_rfl) (by kernel_rfl) (by kernel_rfl) (fun _ _ _ h => h) (by kernel_rfl) (fun W hW => by kernel_rfl) (by assumption) rfl rfl ?_
                    simp only [Act.put, List.setIfInBounds_toArray, List.set_cons_zero, List.set_cons_succ]
                    refine wpAnyH_yield 3 59 (.int .i64 (k : Int)) rfl rfl (by kernel_rfl) (by kernel_rfl) (by kernel_rfl) (fun _ _ _ h => h) (by kernel_rfl) (fun W hW => by kernel_rfl) (by assumption) rfl rfl ?_
                    simp only [Act.put, List.setIfInBounds_toArray, List.set_cons_zero, List.set_cons_succ]
                    refine wpAnyH_yield 4 60 (.pointer (some ⟨b, off + k * 9, none⟩)) rfl rfl (by kernel_rfl) (by kernel_rfl) (by kernel_rfl) (fun _ _ _ h => h) (by kernel_rfl) (fun W hW => by go_simp) (by assumption) rfl rfl ?_
                    simp only [Act.put, List.setIfInBounds_toArray, List.set_cons_zero, List.set_cons_succ]
                    refine wpAnyH_yield 5 61 (.pointer (some ⟨b, off + k * 9, none⟩)) rfl rfl (by kernel_rfl) (by kernel_rfl) (by kernel_rfl) (fun _ _ _ h => h) (by kernel_rfl) (fun W hW => by go_simp) (by assumption) rfl rfl ?_
                    simp only [Act.put, List.setIfInBounds_toArray, List.set_cons_zero, List.set_cons_succ]
                    refine wpAnyH_yield 6 62 (.pointer (some ⟨b, off + k * 9, none⟩)) rfl rfl (by kernel_rfl) (by kernel_rfl) (by kernel_rfl) (fun _ _ _ h => h) (by kernel_rfl) (fun W hW => by go_simp) (by assumption) rfl rfl ?_
                    simp only [Act.put, List.setIfInBounds_toArray, List.set_cons_zero, List.set_cons_succ]
                    refine wpAnyH_yield 7 63 (.int .i64 y.a) rfl rfl (by kernel_rfl) (by kernel_rfl) (by kernel_rfl) (fun _ _ _ h => h) (by kernel_rfl) (fun W hW => by obtain ⟨c0, c1⟩ := KY.out W (HT1.out.tr hW); go_simp) (by assumption) rfl rfl ?_
                    simp only [Act.put, List.setIfInBounds_toArray, List.set_cons_zero, List.set_cons_succ]
                    refine wpAnyH_yield 8 64 (.pointer (some ⟨D, 0, none⟩)) rfl rfl (by kernel_rfl) (by kernel_rfl) (by kernel_rfl) (fun _ _ _ h => h) (by kernel_rfl) (fun W hW => by go_simp) (by assumption) rfl rfl ?_
                    simp only [Act.put, List.setIfInBounds_toArray, List.set_cons_zero, List.set_cons_succ]
                    refine wpAnyH_yield 9 65 (.pointer (some ⟨D, 0, none⟩)) rfl rfl (by kernel_rfl) (by kernel_rfl) (by kernel_rfl) (fun _ _ _ h => h) (by kernel_rfl) (fun W hW => by go_simp) (by assumption) rfl rfl ?_
                    simp only [Act.put, List.setIfInBounds_toArray, List.set_cons_zero, List.set_cons_succ]
                    refine wpAnyH_yield 10 66 (.int .i64 x.a) rfl rfl (by kernel_rfl) (by kernel_rfl) (by kernel_rfl) (fun _ _ _ h => h) (by kernel_rfl) (fun W hW => by obtain ⟨⟨c0, c1, c2⟩, -⟩ := wn_cells (hW.at HD.out); go_simp) (by assumption) rfl rfl ?_
                    simp only [Act.put, List.setIfInBounds_toArray, List.set_cons_zero, List.set_cons_succ]
                    refine wpAnyH_yield 11 67 (.bool (!dd)) rfl rfl (by kernel_rfl) (by kernel_rfl) (by kernel_rfl) (fun _ _ _ h => h) (by kernel_rfl) (fun W hW => by go_simp) (by assumption) rfl rfl ?_
                    simp only [Act.put, List.setIfInBounds_toArray, List.set_cons_zero, List.set_cons_succ]
                    refine wpAnyH_yield 12 68 (.bool (!dd)) rfl rfl (by kernel_rfl) (by kernel_rfl) (by kernel_rfl) (fun _ _ _ h => h) (by kernel_rfl) (fun W hW => by kernel_rfl) (by assumption) rfl rfl ?_
                    simp only [Act.put, List.setIfInBounds_toArray, List.set_cons_zero, List.set_cons_succ]
                    refine wpAnyH_done (by kernel_rfl) ?_ _
                    have H4 := hide hT0
                    clear hT0 H3 hd'
                    cases dd with
                    | true =>
                      go_wp2_with fail
                      go_roundw
                      case rel => exact ⟨k + 1, by go_num, by omega, M2.out rfl, H4.out⟩
                      case measure => simp [intOf]; omega
                    | false =>
                      go_wp2_with fail
                      go_ret
                      exact ⟨by rw [← M1.out rfl]; rfl, HT1.out.tr H4.out⟩
                · have e : k = i := by omega
                  subst e
                  have Y2 := hide (Y1.out rfl hall)
                  have H2 := hide T0
                  clear T0 hall Y1 N1 N2 HAk
                  go_wp2_with fail
                  go_roundw
                  case rel => exact ⟨k + 1, by go_num, by omega, Y2.out, HT1.out.tr H2.out⟩
                  case measure => simp [intOf]; omega
    · have e : i = n := by omega
      subst e
      have hap : true = ap := (HY.out hall).symm
      have HT := hide T0
      clear T0 hall HA HY HN R1 R2 R3
      go_wp2_with fail
      go_ret
      exact ⟨by rw [← hap]; rfl, HT.out⟩

end Go.Proofs.YtbhofihikimgeaaRR
