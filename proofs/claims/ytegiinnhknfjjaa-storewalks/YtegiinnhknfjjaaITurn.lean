/- The program's turned: a heavy side gives a key to the top. -/
import Derived.Test.YtegiinnhknfjjaaINode
namespace Go.Proofs.Ytegiinnhknfjjaa.IM
open Go.RowKit

theorem low_of {m n : Nat} (h : Low n) (hm : m ≤ n) : Low m := ⟨Nat.le_trans hm h.le⟩

theorem twice_wrap {n : Nat} (h : Low n) : wrap64 (2 * ((n + 1 : Nat) : Int)) = ((2 * (n + 1) : Nat) : Int) := by have := h.le; unfold wrap64; omega

set_option maxRecDepth 100000 in
set_option maxHeartbeats 1000000 in
theorem turned0_any (b : Nat) (k : Int) (v : Int) (x y hp lp : Option Addr) (H Lt : List (Int × Int)) (w : World) (hn : Nd w b k v x y) (hh : TL w (.pointer hp) H) (hl : TL w (.pointer lp) Lt) (hne : H ≠ []) (low : Low (H.length + 1 + Lt.length)) :
    Calls Try.prog 86 #[.pointer (some ⟨b, 0, none⟩), .int .i64 0, .pointer hp, .pointer lp] w fun e w' => ∃ b', e = .returned (.pointer (some ⟨b', 0, none⟩)) ∧ TL w' (.pointer (some ⟨b', 0, none⟩)) (row 0 (k, v) H Lt) ∧ Calm w w' := by
  cases hh with
  | nil => exact absurd rfl hne
  | @node h k1 v1 p1 q1 A B hb h1 h2 =>
  clear hne
  have HN := hide hn
  have HH : Hid (Nd w h k1 v1 p1 q1) := hide ⟨_, hb⟩
  have HL := hide hl
  have HI := hide h2
  have HO := hide h1
  have HB := hide hb
  have LOW : Hid (Low (A.length + 1 + B.length + 1 + Lt.length)) := hide (by refine low_of low ?_; simp; omega)
  have WI := hide (fun (W : World) (h : Calm w W) => weight_any (.pointer q1) B W (h2.calm h) (low_of LOW.out (by omega)))
  have WO := hide (fun (W : World) (h : Calm w W) => weight_any (.pointer p1) A W (h1.calm h) (low_of LOW.out (by omega)))
  have TW := hide (twice_wrap (n := A.length) (low_of LOW.out (by omega)))
  clear low hn hl h1 h2 hb
  have hc1 : (B.length + 1 : Nat) < 2 * (A.length + 1) → ((B.length + 1 : Nat) : Int) < wrap64 (2 * ((A.length + 1 : Nat) : Int)) := fun h => by rw [TW.out]; omega
  have hc2 : ¬ (B.length + 1 : Nat) < 2 * (A.length + 1) → ¬ ((B.length + 1 : Nat) : Int) < wrap64 (2 * ((A.length + 1 : Nat) : Int)) := fun h => by rw [TW.out]; omega
  clear TW
  generalize ((B.length + 1 : Nat) : Int) = m1 at *
  generalize ((A.length + 1 : Nat) : Int) = m2 at *
  have HC1 := hide hc1
  have HC2 := hide hc2
  clear hc1 hc2
  have hcase : (B.length + 1 : Nat) < 2 * (A.length + 1) ∨ ¬ ((B.length + 1 : Nat) < 2 * (A.length + 1)) := Nat.lt_or_ge _ _ |>.imp_right Nat.not_lt.2
  go_enter Try.func86, Try.ntmps86
  go_wp2_with fail
  refine wp_region_held (S := Calm w) (by kernel_rfl) ?_
  have hT0 : Calm w { w with drawn := w.drawn + 1 } := (Touch.refl (fun _ => False) w).drew
  refine wpAnyH_yield 0 13 (.pointer (some ⟨h, 0, none⟩)) rfl rfl (by kernel_rfl) (by kernel_rfl) (by kernel_rfl) (fun _ _ _ h => h) (by kernel_rfl) (fun W hW => by kernel_rfl) (by assumption) rfl rfl ?_
  simp only [Act.put, List.setIfInBounds_toArray, List.set_cons_zero, List.set_cons_succ]
  refine wpAnyH_yield 1 14 (.int .i64 0) rfl rfl (by kernel_rfl) (by kernel_rfl) (by kernel_rfl) (fun _ _ _ h => h) (by kernel_rfl) (fun W hW => by kernel_rfl) (by assumption) rfl rfl ?_
  simp only [Act.put, List.setIfInBounds_toArray, List.set_cons_zero, List.set_cons_succ]
  refine wpAnyH_yield 2 15 (.int .i64 1) rfl rfl (by kernel_rfl) (by kernel_rfl) (by kernel_rfl) (fun _ _ _ h => h) (by kernel_rfl) (fun W hW => by kernel_rfl) (by assumption) rfl rfl ?_
  simp only [Act.put, List.setIfInBounds_toArray, List.set_cons_zero, List.set_cons_succ]
  refine wpAnyH_yield 3 16 (.pointer (some ⟨h, 0, none⟩)) rfl rfl (by kernel_rfl) (by kernel_rfl) (by kernel_rfl) (fun _ _ _ h => h) (by kernel_rfl) (fun W hW => by kernel_rfl) (by assumption) rfl rfl ?_
  simp only [Act.put, List.setIfInBounds_toArray, List.set_cons_zero, List.set_cons_succ]
  refine wpAnyH_yield 4 17 (.pointer (some ⟨h, 3, none⟩)) rfl rfl (by kernel_rfl) (by kernel_rfl) (by kernel_rfl) (fun _ _ _ h => h) (by kernel_rfl) (fun W hW => by go_simp) (by assumption) rfl rfl ?_
  simp only [Act.put, List.setIfInBounds_toArray, List.set_cons_zero, List.set_cons_succ]
  refine wpAnyH_yield 5 18 (.pointer (some ⟨h, 4, none⟩)) rfl rfl (by kernel_rfl) (by kernel_rfl) (by kernel_rfl) (fun _ _ _ h => h) (by kernel_rfl) (fun W hW => by go_simp) (by assumption) rfl rfl ?_
  simp only [Act.put, List.setIfInBounds_toArray, List.set_cons_zero, List.set_cons_succ]
  refine wpAnyH_yield 6 19 (.pointer q1) rfl rfl (by kernel_rfl) (by kernel_rfl) (by kernel_rfl) (fun _ _ _ h => h) (by kernel_rfl) (fun W hW => by obtain ⟨c0, c1, c2, c3, c4⟩ := cells5 (hW.at HB.out); go_simp) (by assumption) rfl rfl ?_
  simp only [Act.put, List.setIfInBounds_toArray, List.set_cons_zero, List.set_cons_succ]
  refine wpAnyH_yield 7 20 (.pointer (some ⟨h, 0, none⟩)) rfl rfl (by kernel_rfl) (by kernel_rfl) (by kernel_rfl) (fun _ _ _ h => h) (by kernel_rfl) (fun W hW => by kernel_rfl) (by assumption) rfl rfl ?_
  simp only [Act.put, List.setIfInBounds_toArray, List.set_cons_zero, List.set_cons_succ]
  refine wpAnyH_yield 8 21 (.int .i64 0) rfl rfl (by kernel_rfl) (by kernel_rfl) (by kernel_rfl) (fun _ _ _ h => h) (by kernel_rfl) (fun W hW => by kernel_rfl) (by assumption) rfl rfl ?_
  simp only [Act.put, List.setIfInBounds_toArray, List.set_cons_zero, List.set_cons_succ]
  refine wpAnyH_yield 9 22 (.pointer (some ⟨h, 0, none⟩)) rfl rfl (by kernel_rfl) (by kernel_rfl) (by kernel_rfl) (fun _ _ _ h => h) (by kernel_rfl) (fun W hW => by kernel_rfl) (by assumption) rfl rfl ?_
  simp only [Act.put, List.setIfInBounds_toArray, List.set_cons_zero, List.set_cons_succ]
  refine wpAnyH_yield 10 23 (.pointer (some ⟨h, 3, none⟩)) rfl rfl (by kernel_rfl) (by kernel_rfl) (by kernel_rfl) (fun _ _ _ h => h) (by kernel_rfl) (fun W hW => by go_simp) (by assumption) rfl rfl ?_
  simp only [Act.put, List.setIfInBounds_toArray, List.set_cons_zero, List.set_cons_succ]
  refine wpAnyH_yield 11 24 (.pointer (some ⟨h, 3, none⟩)) rfl rfl (by kernel_rfl) (by kernel_rfl) (by kernel_rfl) (fun _ _ _ h => h) (by kernel_rfl) (fun W hW => by go_simp) (by assumption) rfl rfl ?_
  simp only [Act.put, List.setIfInBounds_toArray, List.set_cons_zero, List.set_cons_succ]
  refine wpAnyH_yield 12 25 (.pointer p1) rfl rfl (by kernel_rfl) (by kernel_rfl) (by kernel_rfl) (fun _ _ _ h => h) (by kernel_rfl) (fun W hW => by obtain ⟨c0, c1, c2, c3, c4⟩ := cells5 (hW.at HB.out); go_simp) (by assumption) rfl rfl ?_
  simp only [Act.put, List.setIfInBounds_toArray, List.set_cons_zero, List.set_cons_succ]
  refine wpAnyH_yield 13 9 (.pointer q1) rfl rfl (by kernel_rfl) (by kernel_rfl) (by kernel_rfl) (fun _ _ _ h => h) (by kernel_rfl) (fun W hW => by kernel_rfl) (by assumption) rfl rfl ?_
  simp only [Act.put, List.setIfInBounds_toArray, List.set_cons_zero, List.set_cons_succ]
  refine wpAnyH_yield 14 10 (.pointer p1) rfl rfl (by kernel_rfl) (by kernel_rfl) (by kernel_rfl) (fun _ _ _ h => h) (by kernel_rfl) (fun W hW => by kernel_rfl) (by assumption) rfl rfl ?_
  simp only [Act.put, List.setIfInBounds_toArray, List.set_cons_zero, List.set_cons_succ]
  refine wpAnyH_done (by kernel_rfl) ?_ _
  generalize ({ w with drawn := w.drawn + 1 } : World) = w1 at *
  go_wp2_with fail
  refine (WI.out _ hT0).mono ?_
  rintro e w' ⟨rfl, hq⟩
  obtain rfl := hq.symm
  clear hq
  go_wp2_with fail
  refine (WO.out _ hT0).mono ?_
  rintro e w' ⟨rfl, hq⟩
  obtain rfl := hq.symm
  clear hq
  rcases hcase with hc | hc
  · have hc' := HC1.out hc
    clear hc
    go_wp2_with fail
    refine (pair0_any _ _ _).mono ?_
    rintro e w2 ⟨rfl, t2⟩
    have t02 := hT0.tr t2
    go_wp2_with fail
    have OV := over_any b k v x y q1 lp B Lt w2 (HN.out.calm t02) (HI.out.calm t02) (HL.out.calm t02) (low_of LOW.out (by omega))
    refine OV.mono ?_
    clear OV
    rintro e w3 ⟨b3, rfl, tl3, -, t3⟩
    have t03 := t02.tr t3
    go_wp2_with fail
    refine (pair0_any _ _ _).mono ?_
    rintro e w4 ⟨rfl, t4⟩
    have t04 := t03.tr t4
    go_wp2_with fail
    have OV := over_any h k1 v1 p1 q1 p1 (some ⟨b3, 0, none⟩) A (B ++ (k, v) :: Lt) w4 (HH.out.calm t04) (HO.out.calm t04) (tl3.calm t4) (low_of LOW.out (by simp; omega))
    refine OV.mono ?_
    clear OV
    rintro e w5 ⟨b5, rfl, tl5, -, t5⟩
    go_wp2_with fail
    go_ret
    refine ⟨_, rfl, ?_, t04.tr t5⟩
    simpa [row0] using tl5
  · have hc' := HC2.out hc
    have hi := HI.out
    clear HI WI WO HC1 HC2
    cases hi with
    | nil => exact absurd (show ([] : List (Int × Int)).length + 1 < 2 * (A.length + 1) by simp; omega) hc
    | @node i k2 v2 p2 q2 C D hb2 h3 h4 =>
    have HI : Hid (Nd w i k2 v2 p2 q2) := hide ⟨_, hb2⟩
    have HC := hide h3
    have HD := hide h4
    obtain ⟨-, -, -, c3, c4⟩ := cells5 (hT0.at hb2)
    have HB2 := hide hb2
    clear h3 h4 hb2 hc
    go_wp2_with fail
    refine (pair0_any _ _ _).mono ?_
    rintro e w2 ⟨rfl, t2⟩
    have t02 := hT0.tr t2
    go_wp2_with fail
    have OV := over_any h k1 v1 p1 (some ⟨i, 0, none⟩) p1 p2 A C w2 (HH.out.calm t02) (HO.out.calm t02) (HC.out.calm t02) (low_of LOW.out (by simp; omega))
    refine OV.mono ?_
    clear OV
    rintro e w3 ⟨b3, rfl, tl3, -, t3⟩
    have t03 := t02.tr t3
    clear c3 c4
    obtain ⟨-, -, -, c3, c4⟩ := cells5 (t03.at HB2.out)
    go_wp2_with fail
    refine (pair0_any _ _ _).mono ?_
    rintro e w4 ⟨rfl, t4⟩
    have t04 := t03.tr t4
    go_wp2_with fail
    have OV := over_any b k v x y q2 lp D Lt w4 (HN.out.calm t04) (HD.out.calm t04) (HL.out.calm t04) (low_of LOW.out (by simp; omega))
    refine OV.mono ?_
    clear OV
    rintro e w5 ⟨b5, rfl, tl5, -, t5⟩
    have t05 := t04.tr t5
    go_wp2_with fail
    refine (pair0_any _ _ _).mono ?_
    rintro e w6 ⟨rfl, t6⟩
    have t06 := t05.tr t6
    have t36 := (t4.tr t5).tr t6
    go_wp2_with fail
    have OV := over_any i k2 v2 p2 q2 (some ⟨b3, 0, none⟩) (some ⟨b5, 0, none⟩) (A ++ (k1, v1) :: C) (D ++ (k, v) :: Lt) w6 (HI.out.calm t06) (tl3.calm t36) (tl5.calm t6) (low_of LOW.out (by simp; omega))
    refine OV.mono ?_
    clear OV
    rintro e w7 ⟨b7, rfl, tl7, -, t7⟩
    go_wp2_with fail
    go_ret
    refine ⟨_, rfl, ?_, t06.tr t7⟩
    simpa [row0] using tl7

set_option maxRecDepth 100000 in
set_option maxHeartbeats 1000000 in
theorem turned1_any (b : Nat) (k : Int) (v : Int) (x y hp lp : Option Addr) (H Lt : List (Int × Int)) (w : World) (hn : Nd w b k v x y) (hh : TL w (.pointer hp) H) (hl : TL w (.pointer lp) Lt) (hne : H ≠ []) (low : Low (H.length + 1 + Lt.length)) :
    Calls Try.prog 86 #[.pointer (some ⟨b, 0, none⟩), .int .i64 1, .pointer hp, .pointer lp] w fun e w' => ∃ b', e = .returned (.pointer (some ⟨b', 0, none⟩)) ∧ TL w' (.pointer (some ⟨b', 0, none⟩)) (row 1 (k, v) H Lt) ∧ Calm w w' := by
  cases hh with
  | nil => exact absurd rfl hne
  | @node h k1 v1 p1 q1 A B hb h1 h2 =>
  clear hne
  have HN := hide hn
  have HH : Hid (Nd w h k1 v1 p1 q1) := hide ⟨_, hb⟩
  have HL := hide hl
  have HI := hide h1
  have HO := hide h2
  have HB := hide hb
  have LOW : Hid (Low (A.length + 1 + B.length + 1 + Lt.length)) := hide (by refine low_of low ?_; simp; omega)
  have WI := hide (fun (W : World) (h : Calm w W) => weight_any (.pointer p1) A W (h1.calm h) (low_of LOW.out (by omega)))
  have WO := hide (fun (W : World) (h : Calm w W) => weight_any (.pointer q1) B W (h2.calm h) (low_of LOW.out (by omega)))
  have TW := hide (twice_wrap (n := B.length) (low_of LOW.out (by omega)))
  clear low hn hl h1 h2 hb
  have hc1 : (A.length + 1 : Nat) < 2 * (B.length + 1) → ((A.length + 1 : Nat) : Int) < wrap64 (2 * ((B.length + 1 : Nat) : Int)) := fun h => by rw [TW.out]; omega
  have hc2 : ¬ (A.length + 1 : Nat) < 2 * (B.length + 1) → ¬ ((A.length + 1 : Nat) : Int) < wrap64 (2 * ((B.length + 1 : Nat) : Int)) := fun h => by rw [TW.out]; omega
  clear TW
  generalize ((A.length + 1 : Nat) : Int) = m1 at *
  generalize ((B.length + 1 : Nat) : Int) = m2 at *
  have HC1 := hide hc1
  have HC2 := hide hc2
  clear hc1 hc2
  have hcase : (A.length + 1 : Nat) < 2 * (B.length + 1) ∨ ¬ ((A.length + 1 : Nat) < 2 * (B.length + 1)) := Nat.lt_or_ge _ _ |>.imp_right Nat.not_lt.2
  go_enter Try.func86, Try.ntmps86
  go_wp2_with fail
  refine wp_region_held (S := Calm w) (by kernel_rfl) ?_
  have hT0 : Calm w { w with drawn := w.drawn + 1 } := (Touch.refl (fun _ => False) w).drew
  refine wpAnyH_yield 0 13 (.pointer (some ⟨h, 0, none⟩)) rfl rfl (by kernel_rfl) (by kernel_rfl) (by kernel_rfl) (fun _ _ _ h => h) (by kernel_rfl) (fun W hW => by kernel_rfl) (by assumption) rfl rfl ?_
  simp only [Act.put, List.setIfInBounds_toArray, List.set_cons_zero, List.set_cons_succ]
  refine wpAnyH_yield 1 14 (.int .i64 1) rfl rfl (by kernel_rfl) (by kernel_rfl) (by kernel_rfl) (fun _ _ _ h => h) (by kernel_rfl) (fun W hW => by kernel_rfl) (by assumption) rfl rfl ?_
  simp only [Act.put, List.setIfInBounds_toArray, List.set_cons_zero, List.set_cons_succ]
  refine wpAnyH_yield 2 15 (.int .i64 0) rfl rfl (by kernel_rfl) (by kernel_rfl) (by kernel_rfl) (fun _ _ _ h => h) (by kernel_rfl) (fun W hW => by kernel_rfl) (by assumption) rfl rfl ?_
  simp only [Act.put, List.setIfInBounds_toArray, List.set_cons_zero, List.set_cons_succ]
  refine wpAnyH_yield 3 16 (.pointer (some ⟨h, 0, none⟩)) rfl rfl (by kernel_rfl) (by kernel_rfl) (by kernel_rfl) (fun _ _ _ h => h) (by kernel_rfl) (fun W hW => by kernel_rfl) (by assumption) rfl rfl ?_
  simp only [Act.put, List.setIfInBounds_toArray, List.set_cons_zero, List.set_cons_succ]
  refine wpAnyH_yield 4 17 (.pointer (some ⟨h, 3, none⟩)) rfl rfl (by kernel_rfl) (by kernel_rfl) (by kernel_rfl) (fun _ _ _ h => h) (by kernel_rfl) (fun W hW => by go_simp) (by assumption) rfl rfl ?_
  simp only [Act.put, List.setIfInBounds_toArray, List.set_cons_zero, List.set_cons_succ]
  refine wpAnyH_yield 5 18 (.pointer (some ⟨h, 3, none⟩)) rfl rfl (by kernel_rfl) (by kernel_rfl) (by kernel_rfl) (fun _ _ _ h => h) (by kernel_rfl) (fun W hW => by go_simp) (by assumption) rfl rfl ?_
  simp only [Act.put, List.setIfInBounds_toArray, List.set_cons_zero, List.set_cons_succ]
  refine wpAnyH_yield 6 19 (.pointer p1) rfl rfl (by kernel_rfl) (by kernel_rfl) (by kernel_rfl) (fun _ _ _ h => h) (by kernel_rfl) (fun W hW => by obtain ⟨c0, c1, c2, c3, c4⟩ := cells5 (hW.at HB.out); go_simp) (by assumption) rfl rfl ?_
  simp only [Act.put, List.setIfInBounds_toArray, List.set_cons_zero, List.set_cons_succ]
  refine wpAnyH_yield 7 20 (.pointer (some ⟨h, 0, none⟩)) rfl rfl (by kernel_rfl) (by kernel_rfl) (by kernel_rfl) (fun _ _ _ h => h) (by kernel_rfl) (fun W hW => by kernel_rfl) (by assumption) rfl rfl ?_
  simp only [Act.put, List.setIfInBounds_toArray, List.set_cons_zero, List.set_cons_succ]
  refine wpAnyH_yield 8 21 (.int .i64 1) rfl rfl (by kernel_rfl) (by kernel_rfl) (by kernel_rfl) (fun _ _ _ h => h) (by kernel_rfl) (fun W hW => by kernel_rfl) (by assumption) rfl rfl ?_
  simp only [Act.put, List.setIfInBounds_toArray, List.set_cons_zero, List.set_cons_succ]
  refine wpAnyH_yield 9 22 (.pointer (some ⟨h, 0, none⟩)) rfl rfl (by kernel_rfl) (by kernel_rfl) (by kernel_rfl) (fun _ _ _ h => h) (by kernel_rfl) (fun W hW => by kernel_rfl) (by assumption) rfl rfl ?_
  simp only [Act.put, List.setIfInBounds_toArray, List.set_cons_zero, List.set_cons_succ]
  refine wpAnyH_yield 10 23 (.pointer (some ⟨h, 3, none⟩)) rfl rfl (by kernel_rfl) (by kernel_rfl) (by kernel_rfl) (fun _ _ _ h => h) (by kernel_rfl) (fun W hW => by go_simp) (by assumption) rfl rfl ?_
  simp only [Act.put, List.setIfInBounds_toArray, List.set_cons_zero, List.set_cons_succ]
  refine wpAnyH_yield 11 24 (.pointer (some ⟨h, 4, none⟩)) rfl rfl (by kernel_rfl) (by kernel_rfl) (by kernel_rfl) (fun _ _ _ h => h) (by kernel_rfl) (fun W hW => by go_simp) (by assumption) rfl rfl ?_
  simp only [Act.put, List.setIfInBounds_toArray, List.set_cons_zero, List.set_cons_succ]
  refine wpAnyH_yield 12 25 (.pointer q1) rfl rfl (by kernel_rfl) (by kernel_rfl) (by kernel_rfl) (fun _ _ _ h => h) (by kernel_rfl) (fun W hW => by obtain ⟨c0, c1, c2, c3, c4⟩ := cells5 (hW.at HB.out); go_simp) (by assumption) rfl rfl ?_
  simp only [Act.put, List.setIfInBounds_toArray, List.set_cons_zero, List.set_cons_succ]
  refine wpAnyH_yield 13 9 (.pointer p1) rfl rfl (by kernel_rfl) (by kernel_rfl) (by kernel_rfl) (fun _ _ _ h => h) (by kernel_rfl) (fun W hW => by kernel_rfl) (by assumption) rfl rfl ?_
  simp only [Act.put, List.setIfInBounds_toArray, List.set_cons_zero, List.set_cons_succ]
  refine wpAnyH_yield 14 10 (.pointer q1) rfl rfl (by kernel_rfl) (by kernel_rfl) (by kernel_rfl) (fun _ _ _ h => h) (by kernel_rfl) (fun W hW => by kernel_rfl) (by assumption) rfl rfl ?_
  simp only [Act.put, List.setIfInBounds_toArray, List.set_cons_zero, List.set_cons_succ]
  refine wpAnyH_done (by kernel_rfl) ?_ _
  generalize ({ w with drawn := w.drawn + 1 } : World) = w1 at *
  go_wp2_with fail
  refine (WI.out _ hT0).mono ?_
  rintro e w' ⟨rfl, hq⟩
  obtain rfl := hq.symm
  clear hq
  go_wp2_with fail
  refine (WO.out _ hT0).mono ?_
  rintro e w' ⟨rfl, hq⟩
  obtain rfl := hq.symm
  clear hq
  rcases hcase with hc | hc
  · have hc' := HC1.out hc
    clear hc
    go_wp2_with fail
    refine (pair1_any _ _ _).mono ?_
    rintro e w2 ⟨rfl, t2⟩
    have t02 := hT0.tr t2
    go_wp2_with fail
    have OV := over_any b k v x y lp p1 Lt A w2 (HN.out.calm t02) (HL.out.calm t02) (HI.out.calm t02) (low_of LOW.out (by omega))
    refine OV.mono ?_
    clear OV
    rintro e w3 ⟨b3, rfl, tl3, -, t3⟩
    have t03 := t02.tr t3
    go_wp2_with fail
    refine (pair1_any _ _ _).mono ?_
    rintro e w4 ⟨rfl, t4⟩
    have t04 := t03.tr t4
    go_wp2_with fail
    have OV := over_any h k1 v1 p1 q1 (some ⟨b3, 0, none⟩) q1 (Lt ++ (k, v) :: A) B w4 (HH.out.calm t04) (tl3.calm t4) (HO.out.calm t04) (low_of LOW.out (by simp; omega))
    refine OV.mono ?_
    clear OV
    rintro e w5 ⟨b5, rfl, tl5, -, t5⟩
    go_wp2_with fail
    go_ret
    refine ⟨_, rfl, ?_, t04.tr t5⟩
    simpa [row1] using tl5
  · have hc' := HC2.out hc
    have hi := HI.out
    clear HI WI WO HC1 HC2
    cases hi with
    | nil => exact absurd (show ([] : List (Int × Int)).length + 1 < 2 * (B.length + 1) by simp; omega) hc
    | @node i k2 v2 p2 q2 C D hb2 h3 h4 =>
    have HI : Hid (Nd w i k2 v2 p2 q2) := hide ⟨_, hb2⟩
    have HC := hide h3
    have HD := hide h4
    obtain ⟨-, -, -, c3, c4⟩ := cells5 (hT0.at hb2)
    have HB2 := hide hb2
    clear h3 h4 hb2 hc
    go_wp2_with fail
    refine (pair1_any _ _ _).mono ?_
    rintro e w2 ⟨rfl, t2⟩
    have t02 := hT0.tr t2
    go_wp2_with fail
    have OV := over_any h k1 v1 (some ⟨i, 0, none⟩) q1 q2 q1 D B w2 (HH.out.calm t02) (HD.out.calm t02) (HO.out.calm t02) (low_of LOW.out (by simp; omega))
    refine OV.mono ?_
    clear OV
    rintro e w3 ⟨b3, rfl, tl3, -, t3⟩
    have t03 := t02.tr t3
    clear c3 c4
    obtain ⟨-, -, -, c3, c4⟩ := cells5 (t03.at HB2.out)
    go_wp2_with fail
    refine (pair1_any _ _ _).mono ?_
    rintro e w4 ⟨rfl, t4⟩
    have t04 := t03.tr t4
    go_wp2_with fail
    have OV := over_any b k v x y lp p2 Lt C w4 (HN.out.calm t04) (HL.out.calm t04) (HC.out.calm t04) (low_of LOW.out (by simp; omega))
    refine OV.mono ?_
    clear OV
    rintro e w5 ⟨b5, rfl, tl5, -, t5⟩
    have t05 := t04.tr t5
    go_wp2_with fail
    refine (pair1_any _ _ _).mono ?_
    rintro e w6 ⟨rfl, t6⟩
    have t06 := t05.tr t6
    have t36 := (t4.tr t5).tr t6
    go_wp2_with fail
    have OV := over_any i k2 v2 p2 q2 (some ⟨b5, 0, none⟩) (some ⟨b3, 0, none⟩) (Lt ++ (k, v) :: C) (D ++ (k1, v1) :: B) w6 (HI.out.calm t06) (tl5.calm t6) (tl3.calm t36) (low_of LOW.out (by simp; omega))
    refine OV.mono ?_
    clear OV
    rintro e w7 ⟨b7, rfl, tl7, -, t7⟩
    go_wp2_with fail
    go_ret
    refine ⟨_, rfl, ?_, t06.tr t7⟩
    simpa [row1] using tl7

end Go.Proofs.Ytegiinnhknfjjaa.IM
