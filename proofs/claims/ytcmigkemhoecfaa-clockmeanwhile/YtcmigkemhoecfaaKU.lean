/- Places that hold two clocks alike, or none: plays, tells, goes, Copy. -/
import Derived.Test.YtcmigkemhoecfaaKT
namespace Go.Proofs.Ytcmigkemhoecfaa
open Go.RowKit

/-- Two clocks. -/
structure Pr where
  q : Nat
  r : Nat
  G : Nat → Prop
  F : Nat → Prop
  L : List Int
  H : List Hd
abbrev cvO : Option Pr → Value
  | none => .pointer none
  | some p => cp p.q
abbrev rvO : Option Pr → Value
  | none => .pointer none
  | some p => cp p.r
/-- The blocks of what a place holds. -/
def fpO : Option Pr → Nat → Prop
  | none => fun _ => False
  | some p => fun g => p.G g ∨ p.F g
def okO (Pk : World → Nat → (Nat → Prop) → List Int → List Hd → Prop) (N : Nat) (w : World) : Option Pr → Prop
  | none => True
  | some p => Pair Pk w p.q p.r p.G p.F p.L p.H ∧ p.H.length ≤ N

section
variable {Pk : World → Nat → (Nat → Prop) → List Int → List Hd → Prop}

theorem okO_touch (I : Pki Pk) {w w' : World} {S : Nat → Prop} {N : Nat} {o : Option Pr} (h : okO Pk N w o) (ht : Touch S w w') (hS : ∀ g, fpO o g → ¬ S g) : okO Pk N w' o := by
  cases o with
  | none => trivial
  | some p => exact ⟨h.1.touch I ht hS, h.2⟩
theorem okO_more {w : World} {N M : Nat} {o : Option Pr} (h : okO Pk N w o) (hm : N ≤ M) : okO Pk M w o := by
  cases o with
  | none => trivial
  | some p => exact ⟨h.1, Nat.le_trans h.2 hm⟩
theorem okO_lt (I : Pki Pk) {w : World} {N : Nat} {o : Option Pr} (h : okO Pk N w o) : ∀ g, fpO o g → g < w.heap.size := by
  cases o with
  | none => exact fun _ h => h.elim
  | some p => exact fun g hg => hg.elim (I.lt h.1.p g) (h.1.r.lt g)

theorem tellsO (I : Pki Pk) (J : Pkn (.pointer none)) {N : Nat} (o : Option Pr) (w : World) (h : okO Pk N w o) (hN : N ≤ capH) : Calls Try.prog 18 #[cvO o, rvO o] w fun e w' => e = .returned (.bool true) ∧ Calm w w' := by
  cases o with
  | none => exact tells_any _ _ _ _ _ _ w (told_nil J w)
  | some p => exact tells_any _ _ _ _ _ _ w (told_of I h.1.p h.1.r (Nat.le_trans h.2 hN))
theorem goesO (I : Pki Pk) (J : Pkn (.pointer none)) {N : Nat} (o : Option Pr) (lv : Int) (w : World) (h : okO Pk N w o) (hN : N ≤ capH) : Calls Try.prog 19 #[cvO o, rvO o, .int .i64 lv] w fun e w' => e = .returned (.bool true) ∧ Calm w w' := by
  cases o with
  | none => exact goes_any _ _ lv none 0 [] w (fun W _ => J.holds W) (want_nil w) (by simp)
  | some p =>
    obtain ⟨ho, hc, hw⟩ := want_of h.1.r
    have hl : p.H.length ≤ capH := Nat.le_trans h.2 hN
    have hl2 : p.H.length ≤ 4600000000000 := hl
    exact goes_any _ _ lv ho hc p.H w (fun W hW => I.holds (I.calm h.1.p hW) hl) hw (by omega)

set_option maxRecDepth 100000 in
set_option maxHeartbeats 4000000 in
theorem plays_nil (J : Pkn (.pointer none)) (s : Stp) (w : World) : Calls Try.prog 17 #[.pointer none, .pointer none, .agg (stpc s)] w fun e w' => e = .returned (.bool true) ∧ Calm w w' := by
  have CN := fun x w => hide (num13_any x w)
  have T0 := hide ((Touch.refl (fun _ => False) w).alloc (.cells (stpc s) 39))
  have A0 := hide (al_new w (.cells (stpc s) 39))
  have KC : Hid (∀ W, Calm (w.alloc (.cells (stpc s) 39)) W → W.cell? ⟨w.heap.size, 0, none⟩ = some (.int .i64 s.k) ∧ W.cell? ⟨w.heap.size, 3, none⟩ = some (.int .i64 s.src) ∧ W.cell? ⟨w.heap.size, 4, none⟩ = some (.int .i64 s.lv) ∧ W.cell? ⟨w.heap.size, 5, none⟩ = some (.string s.nm) ∧ W.cell? ⟨w.heap.size, 6, none⟩ = some (.int .i64 s.t)) := hide fun W hW => stp_cells (hW.at A0.out)
  obtain ⟨y0, y3, y4, y5, y6⟩ := KC.out _ (Touch.refl _ _)
  clear A0
  by_cases k1 : s.k = 1
  · have C1 := hide (J.set s.src s.t)
    have C2 := hide (rset_nil s.src s.t)
    go_enter Try.func17, Try.ntmps17
    go_wp2_with fail
    refine (C1.out _).mono ?_
    rintro x w1 ⟨rfl, t1⟩
    have TT := hide (T0.out.tr t1)
    obtain ⟨z0, z3, z4, z5, z6⟩ := KC.out _ t1
    clear C1 t1 T0 y0 y3 y4 y5 y6
    go_wp2_with fail
    refine (C2.out _).mono ?_
    rintro x w2 ⟨rfl, hw2⟩
    subst hw2
    clear C2 KC z0 z3 z4 z5 z6
    go_wp2_with fail
    refine ((CN _ _).out).mono ?_
    rintro x w3 ⟨rfl, hw3⟩
    subst hw3
    go_wp2_with fail
    go_ret
    exact ⟨rfl, TT.out⟩
  by_cases k2 : s.k = 2
  · have C1 := hide (J.hold s.nm s.t)
    have C2 := hide (rhold_nil s.nm s.t)
    go_enter Try.func17, Try.ntmps17
    go_wp2_with fail
    clear y0 y3 y4 y5 y6
    generalize w.alloc (.cells (stpc s) 39) = w0 at *
    generalize w.heap.size = B at *
    refine wp_region_held (S := Calm w0) (by kernel_rfl) ?_
    have hT0 : Calm w0 { w0 with drawn := w0.drawn + 1 } := (Touch.refl _ w0).drew
    refine wpAnyH_yield 0 53 (.pointer none) rfl rfl (by kernel_rfl) (by kernel_rfl) (by kernel_rfl) (fun _ _ _ h => h) (by kernel_rfl) (fun W hW => by kernel_rfl) (by assumption) rfl rfl ?_
    simp only [Act.put, List.setIfInBounds_toArray, List.set_cons_zero, List.set_cons_succ]
    refine wpAnyH_yield 1 54 (.pointer (some ⟨B, 5, none⟩)) rfl rfl (by kernel_rfl) (by kernel_rfl) (by kernel_rfl) (fun _ _ _ h => h) (by kernel_rfl) (fun W hW => by go_simp) (by assumption) rfl rfl ?_
    simp only [Act.put, List.setIfInBounds_toArray, List.set_cons_zero, List.set_cons_succ]
    refine wpAnyH_yield 2 55 (.string s.nm) rfl rfl (by kernel_rfl) (by kernel_rfl) (by kernel_rfl) (fun _ _ _ h => h) (by kernel_rfl) (fun W hW => by obtain ⟨-, -, -, z5, -⟩ := KC.out W hW; go_simp) (by assumption) rfl rfl ?_
    simp only [Act.put, List.setIfInBounds_toArray, List.set_cons_zero, List.set_cons_succ]
    refine wpAnyH_yield 3 56 (.pointer (some ⟨B, 6, none⟩)) rfl rfl (by kernel_rfl) (by kernel_rfl) (by kernel_rfl) (fun _ _ _ h => h) (by kernel_rfl) (fun W hW => by go_simp) (by assumption) rfl rfl ?_
    simp only [Act.put, List.setIfInBounds_toArray, List.set_cons_zero, List.set_cons_succ]
    refine wpAnyH_yield 4 57 (.int .i64 s.t) rfl rfl (by kernel_rfl) (by kernel_rfl) (by kernel_rfl) (fun _ _ _ h => h) (by kernel_rfl) (fun W hW => by obtain ⟨-, -, -, -, z6⟩ := KC.out W hW; go_simp) (by assumption) rfl rfl ?_
    simp only [Act.put, List.setIfInBounds_toArray, List.set_cons_zero, List.set_cons_succ]
    refine wpAnyH_yield 7 60 (.pointer none) rfl rfl (by kernel_rfl) (by kernel_rfl) (by kernel_rfl) (fun _ _ _ h => h) (by kernel_rfl) (fun W hW => by kernel_rfl) (by assumption) rfl rfl ?_
    simp only [Act.put, List.setIfInBounds_toArray, List.set_cons_zero, List.set_cons_succ]
    refine wpAnyH_yield 8 61 (.pointer (some ⟨B, 5, none⟩)) rfl rfl (by kernel_rfl) (by kernel_rfl) (by kernel_rfl) (fun _ _ _ h => h) (by kernel_rfl) (fun W hW => by go_simp) (by assumption) rfl rfl ?_
    simp only [Act.put, List.setIfInBounds_toArray, List.set_cons_zero, List.set_cons_succ]
    refine wpAnyH_yield 9 62 (.string s.nm) rfl rfl (by kernel_rfl) (by kernel_rfl) (by kernel_rfl) (fun _ _ _ h => h) (by kernel_rfl) (fun W hW => by obtain ⟨-, -, -, z5, -⟩ := KC.out W hW; go_simp) (by assumption) rfl rfl ?_
    simp only [Act.put, List.setIfInBounds_toArray, List.set_cons_zero, List.set_cons_succ]
    refine wpAnyH_yield 10 63 (.pointer (some ⟨B, 6, none⟩)) rfl rfl (by kernel_rfl) (by kernel_rfl) (by kernel_rfl) (fun _ _ _ h => h) (by kernel_rfl) (fun W hW => by go_simp) (by assumption) rfl rfl ?_
    simp only [Act.put, List.setIfInBounds_toArray, List.set_cons_zero, List.set_cons_succ]
    refine wpAnyH_yield 11 64 (.int .i64 s.t) rfl rfl (by kernel_rfl) (by kernel_rfl) (by kernel_rfl) (fun _ _ _ h => h) (by kernel_rfl) (fun W hW => by obtain ⟨-, -, -, -, z6⟩ := KC.out W hW; go_simp) (by assumption) rfl rfl ?_
    simp only [Act.put, List.setIfInBounds_toArray, List.set_cons_zero, List.set_cons_succ]
    refine wpAnyH_enter 5 58 21 #[.pointer none, .string s.nm, .int .i64 s.t] rfl rfl (by kernel_rfl) (by kernel_rfl) (by kernel_rfl) ?_
    refine (C1.out _).mono ?_
    rintro x w1 ⟨rfl, t1⟩
    have h1 := hT0.tr t1
    refine ⟨_, rfl, h1, ?_⟩
    simp only [Act.put, List.setIfInBounds_toArray, List.set_cons_zero, List.set_cons_succ]
    refine wpAnyH_enter 6 59 12 #[.int .i64 1] rfl rfl (by kernel_rfl) (by kernel_rfl) (by kernel_rfl) ?_
    refine ((CN _ _).out).mono ?_
    rintro x w2 ⟨rfl, hw2⟩
    subst hw2
    refine ⟨_, rfl, h1, ?_⟩
    simp only [Act.put, List.setIfInBounds_toArray, List.set_cons_zero, List.set_cons_succ]
    refine wpAnyH_enter 12 65 22 #[.pointer none, .string s.nm, .int .i64 s.t] rfl rfl (by kernel_rfl) (by kernel_rfl) (by kernel_rfl) ?_
    refine (C2.out _).mono ?_
    rintro x w3 ⟨rfl, hw3⟩
    subst hw3
    refine ⟨_, rfl, h1, ?_⟩
    simp only [Act.put, List.setIfInBounds_toArray, List.set_cons_zero, List.set_cons_succ]
    refine wpAnyH_yield 13 66 (.bool true) rfl rfl (by kernel_rfl) (by kernel_rfl) (by kernel_rfl) (fun _ _ _ h => h) (by kernel_rfl) (fun W hW => by go_simp) (by assumption) rfl rfl ?_
    simp only [Act.put, List.setIfInBounds_toArray, List.set_cons_zero, List.set_cons_succ]
    refine wpAnyH_yield 14 6 (.bool true) rfl rfl (by kernel_rfl) (by kernel_rfl) (by kernel_rfl) (fun _ _ _ h => h) (by kernel_rfl) (fun W hW => by kernel_rfl) (by assumption) rfl rfl ?_
    simp only [Act.put, List.setIfInBounds_toArray, List.set_cons_zero, List.set_cons_succ]
    refine wpAnyH_done (by kernel_rfl) ?_ _
    have TT := hide (T0.out.tr h1)
    clear hT0 t1 h1 C1 C2 KC
    go_wp2_with fail
    go_ret
    exact ⟨rfl, TT.out⟩
  by_cases k3 : s.k = 3
  · have C1 := hide (J.free s.nm)
    have C2 := hide (rfree_nil s.nm)
    go_enter Try.func17, Try.ntmps17
    go_wp2_with fail
    clear y0 y3 y4 y5 y6
    generalize w.alloc (.cells (stpc s) 39) = w0 at *
    generalize w.heap.size = B at *
    refine wp_region_held (S := Calm w0) (by kernel_rfl) ?_
    have hT0 : Calm w0 { w0 with drawn := w0.drawn + 1 } := (Touch.refl _ w0).drew
    refine wpAnyH_yield 0 69 (.pointer none) rfl rfl (by kernel_rfl) (by kernel_rfl) (by kernel_rfl) (fun _ _ _ h => h) (by kernel_rfl) (fun W hW => by kernel_rfl) (by assumption) rfl rfl ?_
    simp only [Act.put, List.setIfInBounds_toArray, List.set_cons_zero, List.set_cons_succ]
    refine wpAnyH_yield 1 70 (.pointer (some ⟨B, 5, none⟩)) rfl rfl (by kernel_rfl) (by kernel_rfl) (by kernel_rfl) (fun _ _ _ h => h) (by kernel_rfl) (fun W hW => by go_simp) (by assumption) rfl rfl ?_
    simp only [Act.put, List.setIfInBounds_toArray, List.set_cons_zero, List.set_cons_succ]
    refine wpAnyH_yield 2 71 (.string s.nm) rfl rfl (by kernel_rfl) (by kernel_rfl) (by kernel_rfl) (fun _ _ _ h => h) (by kernel_rfl) (fun W hW => by obtain ⟨-, -, -, z5, -⟩ := KC.out W hW; go_simp) (by assumption) rfl rfl ?_
    simp only [Act.put, List.setIfInBounds_toArray, List.set_cons_zero, List.set_cons_succ]
    refine wpAnyH_yield 4 73 (.pointer none) rfl rfl (by kernel_rfl) (by kernel_rfl) (by kernel_rfl) (fun _ _ _ h => h) (by kernel_rfl) (fun W hW => by kernel_rfl) (by assumption) rfl rfl ?_
    simp only [Act.put, List.setIfInBounds_toArray, List.set_cons_zero, List.set_cons_succ]
    refine wpAnyH_yield 5 74 (.pointer (some ⟨B, 5, none⟩)) rfl rfl (by kernel_rfl) (by kernel_rfl) (by kernel_rfl) (fun _ _ _ h => h) (by kernel_rfl) (fun W hW => by go_simp) (by assumption) rfl rfl ?_
    simp only [Act.put, List.setIfInBounds_toArray, List.set_cons_zero, List.set_cons_succ]
    refine wpAnyH_yield 6 75 (.string s.nm) rfl rfl (by kernel_rfl) (by kernel_rfl) (by kernel_rfl) (fun _ _ _ h => h) (by kernel_rfl) (fun W hW => by obtain ⟨-, -, -, z5, -⟩ := KC.out W hW; go_simp) (by assumption) rfl rfl ?_
    simp only [Act.put, List.setIfInBounds_toArray, List.set_cons_zero, List.set_cons_succ]
    refine wpAnyH_enter 3 72 28 #[.pointer none, .string s.nm] rfl rfl (by kernel_rfl) (by kernel_rfl) (by kernel_rfl) ?_
    refine (C1.out _).mono ?_
    rintro x w1 ⟨rfl, t1⟩
    have h1 := hT0.tr t1
    refine ⟨_, rfl, h1, ?_⟩
    simp only [Act.put, List.setIfInBounds_toArray, List.set_cons_zero, List.set_cons_succ]
    refine wpAnyH_enter 7 76 39 #[.pointer none, .string s.nm] rfl rfl (by kernel_rfl) (by kernel_rfl) (by kernel_rfl) ?_
    refine (C2.out _).mono ?_
    rintro x w3 ⟨rfl, hw3⟩
    subst hw3
    refine ⟨_, rfl, h1, ?_⟩
    simp only [Act.put, List.setIfInBounds_toArray, List.set_cons_zero, List.set_cons_succ]
    refine wpAnyH_yield 8 77 (.bool true) rfl rfl (by kernel_rfl) (by kernel_rfl) (by kernel_rfl) (fun _ _ _ h => h) (by kernel_rfl) (fun W hW => by go_simp) (by assumption) rfl rfl ?_
    simp only [Act.put, List.setIfInBounds_toArray, List.set_cons_zero, List.set_cons_succ]
    refine wpAnyH_yield 9 6 (.bool true) rfl rfl (by kernel_rfl) (by kernel_rfl) (by kernel_rfl) (fun _ _ _ h => h) (by kernel_rfl) (fun W hW => by kernel_rfl) (by assumption) rfl rfl ?_
    simp only [Act.put, List.setIfInBounds_toArray, List.set_cons_zero, List.set_cons_succ]
    refine wpAnyH_done (by kernel_rfl) ?_ _
    have TT := hide (T0.out.tr h1)
    clear hT0 t1 h1 C1 C2 KC
    go_wp2_with fail
    go_ret
    exact ⟨rfl, TT.out⟩
  by_cases k4 : s.k = 4
  · have CT := hide (tells_any (.pointer none) (.pointer none) [] [] _ _ _ (told_nil J (w.alloc (.cells (stpc s) 39))))
    clear KC
    go_enter Try.func17, Try.ntmps17
    go_wp2_with fail
    refine CT.out.mono ?_
    rintro x w1 ⟨rfl, t1⟩
    have TT := hide (T0.out.tr t1)
    clear t1 CT
    go_wp2_with fail
    go_ret
    exact ⟨rfl, TT.out⟩
  by_cases k5 : s.k = 5
  · have CG := hide (goes_any (.pointer none) (.pointer none) s.lv none 0 [] (w.alloc (.cells (stpc s) 39)) (fun W _ => J.holds W) (want_nil _) (by simp))
    clear KC
    go_enter Try.func17, Try.ntmps17
    go_wp2_with fail
    refine CG.out.mono ?_
    rintro x w1 ⟨rfl, t1⟩
    have TT := hide (T0.out.tr t1)
    clear t1 CG
    go_wp2_with fail
    go_ret
    exact ⟨rfl, TT.out⟩
  · clear KC
    go_enter Try.func17, Try.ntmps17
    go_wp2_with fail
    go_ret
    exact ⟨rfl, T0.out⟩

theorem playsO (I : Pki Pk) (J : Pkn (.pointer none)) {N : Nat} (o : Option Pr) (s : Stp) (w : World) (h : okO Pk N w o) (hN : N ≤ capH) : Calls Try.prog 17 #[cvO o, rvO o, .agg (stpc s)] w fun e w' => e = .returned (.bool true) ∧ Touch (fpO o) w w' ∧ ∃ o', okO Pk (N + 1) w' o' ∧ cvO o' = cvO o ∧ rvO o' = rvO o ∧ ∀ g, fpO o' g → fpO o g ∨ w.heap.size ≤ g := by
  cases o with
  | none => exact (plays_nil J s w).mono fun e w' h => ⟨h.1, h.2, none, trivial, rfl, rfl, fun _ h => h.elim⟩
  | some p =>
    refine (plays_any I p.q p.r p.G p.F p.L p.H s w h.1 (Nat.le_trans h.2 hN)).mono fun e w' ⟨h1, h2⟩ => ?_
    obtain ⟨t, G', F', L', H', pr, hl, sub⟩ := h2
    exact ⟨h1, t, some ⟨p.q, p.r, G', F', L', H'⟩, ⟨pr, by have := h.2; show H'.length ≤ N + 1; omega⟩, rfl, rfl, sub⟩

/-- What a Copy of the program's leaves. -/
def cpO (Pk : World → Nat → (Nat → Prop) → List Int → List Hd → Prop) (w : World) (o : Option Pr) (v : Value) (w' : World) : Prop := match o with
  | none => v = .pointer none
  | some p => ∃ q', v = cp q' ∧ Pk w' q' (fun g => w.heap.size ≤ g ∧ g < w'.heap.size) p.L p.H
theorem copyO_c (I : Pki Pk) (J : Pkn (.pointer none)) {N : Nat} (o : Option Pr) (w : World) (h : okO Pk N w o) (hN : N ≤ capH) : Calls Try.prog 15 #[cvO o] w fun e w' => ∃ v, e = .returned v ∧ Calm w w' ∧ cpO Pk w o v w' := by
  cases o with
  | none => exact (J.copy w).mono fun e w' h => ⟨_, h.1, h.2, rfl⟩
  | some p => exact (I.copy h.1.p (Nat.le_trans h.2 hN)).mono fun e w' ⟨q', h1, h2, h3⟩ => ⟨_, h1, h3, q', rfl, h2⟩
theorem copyO_r (I : Pki Pk) {N : Nat} (o : Option Pr) (w0 : World) (v : Value) (w1 w : World) (hc : cpO Pk w0 o v w1) (hs0 : w0.heap.size ≤ w1.heap.size) (ht : Touch (fun g => g < w0.heap.size) w1 w) (h : okO Pk N w o) (hN : N ≤ capH) : Calls Try.prog 16 #[rvO o] w fun e w' => ∃ o', e = .returned (rvO o') ∧ cvO o' = v ∧ Calm w w' ∧ okO Pk N w' o' ∧ ∀ g, fpO o' g → w0.heap.size ≤ g := by
  cases o with
  | none => exact (rcopy_nil w).mono fun e w' h => ⟨none, h.1, hc.symm, by rw [h.2]; exact Touch.refl _ _, trivial, fun _ h => h.elim⟩
  | some p =>
    obtain ⟨q', rfl, pk⟩ := hc
    have hl2 : p.H.length ≤ 4600000000000 := Nat.le_trans h.2 hN
    have pk2 := I.touch pk ht fun g hg hs => by omega
    refine (rcopy_any p.r p.F p.L p.H w h.1.r (by have := I.len h.1.p; omega) (by omega)).mono fun e w' ⟨r', h1, h2, h3, h4⟩ => ?_
    have hs := ht.size
    refine ⟨some ⟨q', r', _, _, p.L, p.H⟩, h1, rfl, h4, ⟨⟨I.calm pk2 h4, h3, fun g hg hf => ?_⟩, h.2⟩, fun g hg => ?_⟩
    · have := hg.2; have := hf.1; omega
    · rcases hg with hg | hg
      · exact hg.1
      · have := hg.1
        omega

end
end Go.Proofs.Ytcmigkemhoecfaa
