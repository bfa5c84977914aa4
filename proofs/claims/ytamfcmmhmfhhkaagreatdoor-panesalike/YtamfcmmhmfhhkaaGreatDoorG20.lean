/- The program's turned: a heavy side gives a key to the top. The program's balanced, with. The program's with, cut, joined. Lists in order, and a key among them: what is ahead of it, it, what is behind it. No memory. -/
import Derived.Test.YtamfcmmhmfhhkaaGreatDoorG19
import Derived.Test.YtamfcmmhmfhhkaaGreatDoorG0
namespace Go.Proofs.YtamfcmmhmfhhkaaGreatDoor.LM
open Go.RowKit

theorem low_of {m n : Nat} (h : Low n) (hm : m ≤ n) : Low m := ⟨Nat.le_trans hm h.le⟩

theorem twice_wrap {n : Nat} (h : Low n) : wrap64 (2 * ((n + 1 : Nat) : Int)) = ((2 * (n + 1) : Nat) : Int) := by have := h.le; unfold wrap64; omega

set_option maxRecDepth 100000 in
set_option maxHeartbeats 1000000 in
theorem turned0_any (b : Nat) (k : ByteArray) (v : (Option Addr × Nat × Nat)) (x y hp lp : Option Addr) (H Lt : List (ByteArray × (Option Addr × Nat × Nat))) (w : World) (hn : Nd w b k v x y) (hh : TL w (.pointer hp) H) (hl : TL w (.pointer lp) Lt) (hne : H ≠ []) (low : Low (H.length + 1 + Lt.length)) :
    Calls Tryz.prog 96 #[.pointer (some ⟨b, 0, none⟩), .int .i64 0, .pointer hp, .pointer lp] w fun e w' => ∃ b', e = .returned (.pointer (some ⟨b', 0, none⟩)) ∧ TL w' (.pointer (some ⟨b', 0, none⟩)) (row 0 (k, v) H Lt) ∧ Calm w w' := by
  cases hh with
  | nil => exact absurd rfl hne
  | @node h k1 v1 p1 q1 A B hb h1 h2 =>
  clear hne
  have HN := hide hn
  have HH : Hid (Nd w h k1 v1 p1 q1) := hide ⟨_, hb⟩
  have HL := hide hl
  have HI := hide h2
  have HO := hide h1
  have HB := hide hb
  have LOW : Hid (Low (A.length + 1 + B.length + 1 + Lt.length)) := hide (by refine low_of low ?_; simp; omega)
  have WI := hide (fun (W : World) (h : Calm w W) => weight_any (.pointer q1) B W (h2.calm h) (low_of LOW.out (by omega)))
  have WO := hide (fun (W : World) (h : Calm w W) => weight_any (.pointer p1) A W (h1.calm h) (low_of LOW.out (by omega)))
  have TW := hide (twice_wrap (n := A.length) (low_of LOW.out (by omega)))
  clear low hn hl h1 h2 hb
  have hc1 : (B.length + 1 : Nat) < 2 * (A.length + 1) → ((B.length + 1 : Nat) : Int) < wrap64 (2 * ((A.length + 1 : Nat) : Int)) := fun h => by rw [TW.out]; omega
  have hc2 : ¬ (B.length + 1 : Nat) < 2 * (A.length + 1) → ¬ ((B.length + 1 : Nat) : Int) < wrap64 (2 * ((A.length + 1 : Nat) : Int)) := fun h => by rw [TW.out]; omega
  clear TW
  generalize ((B.length + 1 : Nat) : Int) = m1 at *
  generalize ((A.length + 1 : Nat) : Int) = m2 at *
  have HC1 := hide hc1
  have HC2 := hide hc2
  clear hc1 hc2
  have hcase : (B.length + 1 : Nat) < 2 * (A.length + 1) ∨ ¬ ((B.length + 1 : Nat) < 2 * (A.length + 1)) := Nat.lt_or_ge _ _ |>.imp_right Nat.not_lt.2
  go_enter Tryz.func96, Tryz.ntmps96
  go_wp2_with fail
  refine wp_region_held (S := Calm w) (by kernel_rfl) ?_
  have hT0 : Calm w { w with drawn := w.drawn + 1 } := (Touch.refl (fun _ => False) w).drew
  refine wpAnyH_yield 0 13 (.pointer (some ⟨h, 0, none⟩)) rfl rfl (by kernel_rfl) (by kernel_rfl) (by kernel_rfl) (fun _ _ _ h => h) (by kernel_rfl) (fun W hW => by kernel_rfl) (by assumption) rfl rfl ?_
  simp only [Act.put, List.setIfInBounds_toArray, List.set_cons_zero, List.set_cons_succ]
  refine wpAnyH_yield 1 14 (.int .i64 0) rfl rfl (by kernel_rfl) (by kernel_rfl) (by kernel_rfl) (fun _ _ _ h => h) (by kernel_rfl) (fun W hW => by kernel_rfl) (by assumption) rfl rfl ?_
  simp only [Act.put, List.setIfInBounds_toArray, List.set_cons_zero, List.set_cons_succ]
  refine wpAnyH_yield 2 15 (.int .i64 1) rfl rfl (by kernel_rfl) (by kernel_rfl) (by kernel_rfl) (fun _ _ _ h => h) (by kernel_rfl) (fun W hW => by kernel_rfl) (by assumption) rfl rfl ?_
  simp only [Act.put, List.setIfInBounds_toArray, List.set_cons_zero, List.set_cons_succ]
  refine wpAnyH_yield 3 16 (.pointer (some ⟨h, 0, none⟩)) rfl rfl (by kernel_rfl) (by kernel_rfl) (by kernel_rfl) (fun _ _ _ h => h) (by kernel_rfl) (fun W hW => by kernel_rfl) (by assumption) rfl rfl ?_
  simp only [Act.put, List.setIfInBounds_toArray, List.set_cons_zero, List.set_cons_succ]
  refine wpAnyH_yield 4 17 (.pointer (some ⟨h, 3, none⟩)) rfl rfl (by kernel_rfl) (by kernel_rfl) (by kernel_rfl) (fun _ _ _ h => h) (by kernel_rfl) (fun W hW => by go_simp) (by assumption) rfl rfl ?_
  simp only [Act.put, List.setIfInBounds_toArray, List.set_cons_zero, List.set_cons_succ]
  refine wpAnyH_yield 5 18 (.pointer (some ⟨h, 4, none⟩)) rfl rfl (by kernel_rfl) (by kernel_rfl) (by kernel_rfl) (fun _ _ _ h => h) (by kernel_rfl) (fun W hW => by go_simp) (by assumption) rfl rfl ?_
  simp only [Act.put, List.setIfInBounds_toArray, List.set_cons_zero, List.set_cons_succ]
  refine wpAnyH_yield 6 19 (.pointer q1) rfl rfl (by kernel_rfl) (by kernel_rfl) (by kernel_rfl) (fun _ _ _ h => h) (by kernel_rfl) (fun W hW => by obtain ⟨c0, c1, c2, c3, c4⟩ := cells5 (hW.at HB.out); go_simp) (by assumption) rfl rfl ?_
  simp only [Act.put, List.setIfInBounds_toArray, List.set_cons_zero, List.set_cons_succ]
  refine wpAnyH_yield 7 20 (.pointer (some ⟨h, 0, none⟩)) rfl rfl (by kernel_rfl) (by kernel_rfl) (by kernel_rfl) (fun _ _ _ h => h) (by kernel_rfl) (fun W hW => by kernel_rfl) (by assumption) rfl rfl ?_
  simp only [Act.put, List.setIfInBounds_toArray, List.set_cons_zero, List.set_cons_succ]
  refine wpAnyH_yield 8 21 (.int .i64 0) rfl rfl (by kernel_rfl) (by kernel_rfl) (by kernel_rfl) (fun _ _ _ h => h) (by kernel_rfl) (fun W hW => by kernel_rfl) (by assumption) rfl rfl ?_
  simp only [Act.put, List.setIfInBounds_toArray, List.set_cons_zero, List.set_cons_succ]
  refine wpAnyH_yield 9 22 (.pointer (some ⟨h, 0, none⟩)) rfl rfl (by kernel_rfl) (by kernel_rfl) (by kernel_rfl) (fun _ _ _ h => h) (by kernel_rfl) (fun W hW => by kernel_rfl) (by assumption) rfl rfl ?_
  simp only [Act.put, List.setIfInBounds_toArray, List.set_cons_zero, List.set_cons_succ]
  refine wpAnyH_yield 10 23 (.pointer (some ⟨h, 3, none⟩)) rfl rfl (by kernel_rfl) (by kernel_rfl) (by kernel_rfl) (fun _ _ _ h => h) (by kernel_rfl) (fun W hW => by go_simp) (by assumption) rfl rfl ?_
  simp only [Act.put, List.setIfInBounds_toArray, List.set_cons_zero, List.set_cons_succ]
  refine wpAnyH_yield 11 24 (.pointer (some ⟨h, 3, none⟩)) rfl rfl (by kernel_rfl) (by kernel_rfl) (by kernel_rfl) (fun _ _ _ h => h) (by kernel_rfl) (fun W hW => by go_simp) (by assumption) rfl rfl ?_
  simp only [Act.put, List.setIfInBounds_toArray, List.set_cons_zero, List.set_cons_succ]
  refine wpAnyH_yield 12 25 (.pointer p1) rfl rfl (by kernel_rfl) (by kernel_rfl) (by kernel_rfl) (fun _ _ _ h => h) (by kernel_rfl) (fun W hW => by obtain ⟨c0, c1, c2, c3, c4⟩ := cells5 (hW.at HB.out); go_simp) (by assumption) rfl rfl ?_
  simp only [Act.put, List.setIfInBounds_toArray, List.set_cons_zero, List.set_cons_succ]
  refine wpAnyH_yield 13 9 (.pointer q1) rfl rfl (by kernel_rfl) (by kernel_rfl) (by kernel_rfl) (fun _ _ _ h => h) (by kernel_rfl) (fun W hW => by kernel_rfl) (by assumption) rfl rfl ?_
  simp only [Act.put, List.setIfInBounds_toArray, List.set_cons_zero, List.set_cons_succ]
  refine wpAnyH_yield 14 10 (.pointer p1) rfl rfl (by kernel_rfl) (by kernel_rfl) (by kernel_rfl) (fun _ _ _ h => h) (by kernel_rfl) (fun W hW => by kernel_rfl) (by assumption) rfl rfl ?_
  simp only [Act.put, List.setIfInBounds_toArray, List.set_cons_zero, List.set_cons_succ]
  refine wpAnyH_done (by kernel_rfl) ?_ _
  generalize ({ w with drawn := w.drawn + 1 } : World) = w1 at *
  go_wp2_with fail
  refine (WI.out _ hT0).mono ?_
  rintro e w' ⟨rfl, hq⟩
  obtain rfl := hq.symm
  clear hq
  go_wp2_with fail
  refine (WO.out _ hT0).mono ?_
  rintro e w' ⟨rfl, hq⟩
  obtain rfl := hq.symm
  clear hq
  rcases hcase with hc | hc
  · have hc' := HC1.out hc
    clear hc
    go_wp2_with fail
    refine (pair0_any _ _ _).mono ?_
    rintro e w2 ⟨rfl, t2⟩
    have t02 := hT0.tr t2
    go_wp2_with fail
    have OV := over_any b k v x y q1 lp B Lt w2 (HN.out.calm t02) (HI.out.calm t02) (HL.out.calm t02) (low_of LOW.out (by omega))
    refine OV.mono ?_
    clear OV
    rintro e w3 ⟨b3, rfl, tl3, -, t3⟩
    have t03 := t02.tr t3
    go_wp2_with fail
    refine (pair0_any _ _ _).mono ?_
    rintro e w4 ⟨rfl, t4⟩
    have t04 := t03.tr t4
    go_wp2_with fail
    have OV := over_any h k1 v1 p1 q1 p1 (some ⟨b3, 0, none⟩) A (B ++ (k, v) :: Lt) w4 (HH.out.calm t04) (HO.out.calm t04) (tl3.calm t4) (low_of LOW.out (by simp; omega))
    refine OV.mono ?_
    clear OV
    rintro e w5 ⟨b5, rfl, tl5, -, t5⟩
    go_wp2_with fail
    go_ret
    refine ⟨_, rfl, ?_, t04.tr t5⟩
    simpa [row0] using tl5
  · have hc' := HC2.out hc
    have hi := HI.out
    clear HI WI WO HC1 HC2
    cases hi with
    | nil => exact absurd (show ([] : List (ByteArray × (Option Addr × Nat × Nat))).length + 1 < 2 * (A.length + 1) by simp; omega) hc
    | @node i k2 v2 p2 q2 C D hb2 h3 h4 =>
    have HI : Hid (Nd w i k2 v2 p2 q2) := hide ⟨_, hb2⟩
    have HC := hide h3
    have HD := hide h4
    obtain ⟨-, -, -, c3, c4⟩ := cells5 (hT0.at hb2)
    have HB2 := hide hb2
    clear h3 h4 hb2 hc
    go_wp2_with fail
    refine (pair0_any _ _ _).mono ?_
    rintro e w2 ⟨rfl, t2⟩
    have t02 := hT0.tr t2
    go_wp2_with fail
    have OV := over_any h k1 v1 p1 (some ⟨i, 0, none⟩) p1 p2 A C w2 (HH.out.calm t02) (HO.out.calm t02) (HC.out.calm t02) (low_of LOW.out (by simp; omega))
    refine OV.mono ?_
    clear OV
    rintro e w3 ⟨b3, rfl, tl3, -, t3⟩
    have t03 := t02.tr t3
    clear c3 c4
    obtain ⟨-, -, -, c3, c4⟩ := cells5 (t03.at HB2.out)
    go_wp2_with fail
    refine (pair0_any _ _ _).mono ?_
    rintro e w4 ⟨rfl, t4⟩
    have t04 := t03.tr t4
    go_wp2_with fail
    have OV := over_any b k v x y q2 lp D Lt w4 (HN.out.calm t04) (HD.out.calm t04) (HL.out.calm t04) (low_of LOW.out (by simp; omega))
    refine OV.mono ?_
    clear OV
    rintro e w5 ⟨b5, rfl, tl5, -, t5⟩
    have t05 := t04.tr t5
    go_wp2_with fail
    refine (pair0_any _ _ _).mono ?_
    rintro e w6 ⟨rfl, t6⟩
    have t06 := t05.tr t6
    have t36 := (t4.tr t5).tr t6
    go_wp2_with fail
    have OV := over_any i k2 v2 p2 q2 (some ⟨b3, 0, none⟩) (some ⟨b5, 0, none⟩) (A ++ (k1, v1) :: C) (D ++ (k, v) :: Lt) w6 (HI.out.calm t06) (tl3.calm t36) (tl5.calm t6) (low_of LOW.out (by simp; omega))
    refine OV.mono ?_
    clear OV
    rintro e w7 ⟨b7, rfl, tl7, -, t7⟩
    go_wp2_with fail
    go_ret
    refine ⟨_, rfl, ?_, t06.tr t7⟩
    simpa [row0] using tl7

set_option maxRecDepth 100000 in
set_option maxHeartbeats 1000000 in
theorem turned1_any (b : Nat) (k : ByteArray) (v : (Option Addr × Nat × Nat)) (x y hp lp : Option Addr) (H Lt : List (ByteArray × (Option Addr × Nat × Nat))) (w : World) (hn : Nd w b k v x y) (hh : TL w (.pointer hp) H) (hl : TL w (.pointer lp) Lt) (hne : H ≠ []) (low : Low (H.length + 1 + Lt.length)) :
    Calls Tryz.prog 96 #[.pointer (some ⟨b, 0, none⟩), .int .i64 1, .pointer hp, .pointer lp] w fun e w' => ∃ b', e = .returned (.pointer (some ⟨b', 0, none⟩)) ∧ TL w' (.pointer (some ⟨b', 0, none⟩)) (row 1 (k, v) H Lt) ∧ Calm w w' := by
  cases hh with
  | nil => exact absurd rfl hne
  | @node h k1 v1 p1 q1 A B hb h1 h2 =>
  clear hne
  have HN := hide hn
  have HH : Hid (Nd w h k1 v1 p1 q1) := hide ⟨_, hb⟩
  have HL := hide hl
  have HI := hide h1
  have HO := hide h2
  have HB := hide hb
  have LOW : Hid (Low (A.length + 1 + B.length + 1 + Lt.length)) := hide (by refine low_of low ?_; simp; omega)
  have WI := hide (fun (W : World) (h : Calm w W) => weight_any (.pointer p1) A W (h1.calm h) (low_of LOW.out (by omega)))
  have WO := hide (fun (W : World) (h : Calm w W) => weight_any (.pointer q1) B W (h2.calm h) (low_of LOW.out (by omega)))
  have TW := hide (twice_wrap (n := B.length) (low_of LOW.out (by omega)))
  clear low hn hl h1 h2 hb
  have hc1 : (A.length + 1 : Nat) < 2 * (B.length + 1) → ((A.length + 1 : Nat) : Int) < wrap64 (2 * ((B.length + 1 : Nat) : Int)) := fun h => by rw [TW.out]; omega
  have hc2 : ¬ (A.length + 1 : Nat) < 2 * (B.length + 1) → ¬ ((A.length + 1 : Nat) : Int) < wrap64 (2 * ((B.length + 1 : Nat) : Int)) := fun h => by rw [TW.out]; omega
  clear TW
  generalize ((A.length + 1 : Nat) : Int) = m1 at *
  generalize ((B.length + 1 : Nat) : Int) = m2 at *
  have HC1 := hide hc1
  have HC2 := hide hc2
  clear hc1 hc2
  have hcase : (A.length + 1 : Nat) < 2 * (B.length + 1) ∨ ¬ ((A.length + 1 : Nat) < 2 * (B.length + 1)) := Nat.lt_or_ge _ _ |>.imp_right Nat.not_lt.2
  go_enter Tryz.func96, Tryz.ntmps96
  go_wp2_with fail
  refine wp_region_held (S := Calm w) (by kernel_rfl) ?_
  have hT0 : Calm w { w with drawn := w.drawn + 1 } := (Touch.refl (fun _ => False) w).drew
  refine wpAnyH_yield 0 13 (.pointer (some ⟨h, 0, none⟩)) rfl rfl (by kernel_rfl) (by kernel_rfl) (by kernel_rfl) (fun _ _ _ h => h) (by kernel_rfl) (fun W hW => by kernel_rfl) (by assumption) rfl rfl ?_
  simp only [Act.put, List.setIfInBounds_toArray, List.set_cons_zero, List.set_cons_succ]
  refine wpAnyH_yield 1 14 (.int .i64 1) rfl rfl (by kernel_rfl) (by kernel_rfl) (by kernel_rfl) (fun _ _ _ h => h) (by kernel_rfl) (fun W hW => by kernel_rfl) (by assumption) rfl rfl ?_
  simp only [Act.put, List.setIfInBounds_toArray, List.set_cons_zero, List.set_cons_succ]
  refine wpAnyH_yield 2 15 (.int .i64 0) rfl rfl (by kernel_rfl) (by kernel_rfl) (by kernel_rfl) (fun _ _ _ h => h) (by kernel_rfl) (fun W hW => by kernel_rfl) (by assumption) rfl rfl ?_
  simp only [Act.put, List.setIfInBounds_toArray, List.set_cons_zero, List.set_cons_succ]
  refine wpAnyH_yield 3 16 (.pointer (some ⟨h, 0, none⟩)) rfl rfl (by kernel_rfl) (by kernel_rfl) (by kernel_rfl) (fun _ _ _ h => h) (by kernel_rfl) (fun W hW => by kernel_rfl) (by assumption) rfl rfl ?_
  simp only [Act.put, List.setIfInBounds_toArray, List.set_cons_zero, List.set_cons_succ]
  refine wpAnyH_yield 4 17 (.pointer (some ⟨h, 3, none⟩)) rfl rfl (by kernel_rfl) (by kernel_rfl) (by kernel_rfl) (fun _ _ _ h => h) (by kernel_rfl) (fun W hW => by go_simp) (by assumption) rfl rfl ?_
  simp only [Act.put, List.setIfInBounds_toArray, List.set_cons_zero, List.set_cons_succ]
  refine wpAnyH_yield 5 18 (.pointer (some ⟨h, 3, none⟩)) rfl rfl (by kernel_rfl) (by kernel_rfl) (by kernel_rfl) (fun _ _ _ h => h) (by kernel_rfl) (fun W hW => by go_simp) (by assumption) rfl rfl ?_
  simp only [Act.put, List.setIfInBounds_toArray, List.set_cons_zero, List.set_cons_succ]
  refine wpAnyH_yield 6 19 (.pointer p1) rfl rfl (by kernel_rfl) (by kernel_rfl) (by kernel_rfl) (fun _ _ _ h => h) (by kernel_rfl) (fun W hW => by obtain ⟨c0, c1, c2, c3, c4⟩ := cells5 (hW.at HB.out); go_simp) (by assumption) rfl rfl ?_
  simp only [Act.put, List.setIfInBounds_toArray, List.set_cons_zero, List.set_cons_succ]
  refine wpAnyH_yield 7 20 (.pointer (some ⟨h, 0, none⟩)) rfl rfl (by kernel_rfl) (by kernel_rfl) (by kernel_rfl) (fun _ _ _ h => h) (by kernel_rfl) (fun W hW => by kernel_rfl) (by assumption) rfl rfl ?_
  simp only [Act.put, List.setIfInBounds_toArray, List.set_cons_zero, List.set_cons_succ]
  refine wpAnyH_yield 8 21 (.int .i64 1) rfl rfl (by kernel_rfl) (by kernel_rfl) (by kernel_rfl) (fun _ _ _ h => h) (by kernel_rfl) (fun W hW => by kernel_rfl) (by assumption) rfl rfl ?_
  simp only [Act.put, List.setIfInBounds_toArray, List.set_cons_zero, List.set_cons_succ]
  refine wpAnyH_yield 9 22 (.pointer (some ⟨h, 0, none⟩)) rfl rfl (by kernel_rfl) (by kernel_rfl) (by kernel_rfl) (fun _ _ _ h => h) (by kernel_rfl) (fun W hW => by kernel_rfl) (by assumption) rfl rfl ?_
  simp only [Act.put, List.setIfInBounds_toArray, List.set_cons_zero, List.set_cons_succ]
  refine wpAnyH_yield 10 23 (.pointer (some ⟨h, 3, none⟩)) rfl rfl (by kernel_rfl) (by kernel_rfl) (by kernel_rfl) (fun _ _ _ h => h) (by kernel_rfl) (fun W hW => by go_simp) (by assumption) rfl rfl ?_
  simp only [Act.put, List.setIfInBounds_toArray, List.set_cons_zero, List.set_cons_succ]
  refine wpAnyH_yield 11 24 (.pointer (some ⟨h, 4, none⟩)) rfl rfl (by kernel_rfl) (by kernel_rfl) (by kernel_rfl) (fun _ _ _ h => h) (by kernel_rfl) (fun W hW => by go_simp) (by assumption) rfl rfl ?_
  simp only [Act.put, List.setIfInBounds_toArray, List.set_cons_zero, List.set_cons_succ]
  refine wpAnyH_yield 12 25 (.pointer q1) rfl rfl (by kernel_rfl) (by kernel_rfl) (by kernel_rfl) (fun _ _ _ h => h) (by kernel_rfl) (fun W hW => by obtain ⟨c0, c1, c2, c3, c4⟩ := cells5 (hW.at HB.out); go_simp) (by assumption) rfl rfl ?_
  simp only [Act.put, List.setIfInBounds_toArray, List.set_cons_zero, List.set_cons_succ]
  refine wpAnyH_yield 13 9 (.pointer p1) rfl rfl (by kernel_rfl) (by kernel_rfl) (by kernel_rfl) (fun _ _ _ h => h) (by kernel_rfl) (fun W hW => by kernel_rfl) (by assumption) rfl rfl ?_
  simp only [Act.put, List.setIfInBounds_toArray, List.set_cons_zero, List.set_cons_succ]
  refine wpAnyH_yield 14 10 (.pointer q1) rfl rfl (by kernel_rfl) (by kernel_rfl) (by kernel_rfl) (fun _ _ _ h => h) (by kernel_rfl) (fun W hW => by kernel_rfl) (by assumption) rfl rfl ?_
  simp only [Act.put, List.setIfInBounds_toArray, List.set_cons_zero, List.set_cons_succ]
  refine wpAnyH_done (by kernel_rfl) ?_ _
  generalize ({ w with drawn := w.drawn + 1 } : World) = w1 at *
  go_wp2_with fail
  refine (WI.out _ hT0).mono ?_
  rintro e w' ⟨rfl, hq⟩
  obtain rfl := hq.symm
  clear hq
  go_wp2_with fail
  refine (WO.out _ hT0).mono ?_
  rintro e w' ⟨rfl, hq⟩
  obtain rfl := hq.symm
  clear hq
  rcases hcase with hc | hc
  · have hc' := HC1.out hc
    clear hc
    go_wp2_with fail
    refine (pair1_any _ _ _).mono ?_
    rintro e w2 ⟨rfl, t2⟩
    have t02 := hT0.tr t2
    go_wp2_with fail
    have OV := over_any b k v x y lp p1 Lt A w2 (HN.out.calm t02) (HL.out.calm t02) (HI.out.calm t02) (low_of LOW.out (by omega))
    refine OV.mono ?_
    clear OV
    rintro e w3 ⟨b3, rfl, tl3, -, t3⟩
    have t03 := t02.tr t3
    go_wp2_with fail
    refine (pair1_any _ _ _).mono ?_
    rintro e w4 ⟨rfl, t4⟩
    have t04 := t03.tr t4
    go_wp2_with fail
    have OV := over_any h k1 v1 p1 q1 (some ⟨b3, 0, none⟩) q1 (Lt ++ (k, v) :: A) B w4 (HH.out.calm t04) (tl3.calm t4) (HO.out.calm t04) (low_of LOW.out (by simp; omega))
    refine OV.mono ?_
    clear OV
    rintro e w5 ⟨b5, rfl, tl5, -, t5⟩
    go_wp2_with fail
    go_ret
    refine ⟨_, rfl, ?_, t04.tr t5⟩
    simpa [row1] using tl5
  · have hc' := HC2.out hc
    have hi := HI.out
    clear HI WI WO HC1 HC2
    cases hi with
    | nil => exact absurd (show ([] : List (ByteArray × (Option Addr × Nat × Nat))).length + 1 < 2 * (B.length + 1) by simp; omega) hc
    | @node i k2 v2 p2 q2 C D hb2 h3 h4 =>
    have HI : Hid (Nd w i k2 v2 p2 q2) := hide ⟨_, hb2⟩
    have HC := hide h3
    have HD := hide h4
    obtain ⟨-, -, -, c3, c4⟩ := cells5 (hT0.at hb2)
    have HB2 := hide hb2
    clear h3 h4 hb2 hc
    go_wp2_with fail
    refine (pair1_any _ _ _).mono ?_
    rintro e w2 ⟨rfl, t2⟩
    have t02 := hT0.tr t2
    go_wp2_with fail
    have OV := over_any h k1 v1 (some ⟨i, 0, none⟩) q1 q2 q1 D B w2 (HH.out.calm t02) (HD.out.calm t02) (HO.out.calm t02) (low_of LOW.out (by simp; omega))
    refine OV.mono ?_
    clear OV
    rintro e w3 ⟨b3, rfl, tl3, -, t3⟩
    have t03 := t02.tr t3
    clear c3 c4
    obtain ⟨-, -, -, c3, c4⟩ := cells5 (t03.at HB2.out)
    go_wp2_with fail
    refine (pair1_any _ _ _).mono ?_
    rintro e w4 ⟨rfl, t4⟩
    have t04 := t03.tr t4
    go_wp2_with fail
    have OV := over_any b k v x y lp p2 Lt C w4 (HN.out.calm t04) (HL.out.calm t04) (HC.out.calm t04) (low_of LOW.out (by simp; omega))
    refine OV.mono ?_
    clear OV
    rintro e w5 ⟨b5, rfl, tl5, -, t5⟩
    have t05 := t04.tr t5
    go_wp2_with fail
    refine (pair1_any _ _ _).mono ?_
    rintro e w6 ⟨rfl, t6⟩
    have t06 := t05.tr t6
    have t36 := (t4.tr t5).tr t6
    go_wp2_with fail
    have OV := over_any i k2 v2 p2 q2 (some ⟨b5, 0, none⟩) (some ⟨b3, 0, none⟩) (Lt ++ (k, v) :: C) (D ++ (k1, v1) :: B) w6 (HI.out.calm t06) (tl5.calm t6) (tl3.calm t36) (low_of LOW.out (by simp; omega))
    refine OV.mono ?_
    clear OV
    rintro e w7 ⟨b7, rfl, tl7, -, t7⟩
    go_wp2_with fail
    go_ret
    refine ⟨_, rfl, ?_, t06.tr t7⟩
    simpa [row1] using tl7

end Go.Proofs.YtamfcmmhmfhhkaaGreatDoor.LM

namespace Go.Proofs.YtamfcmmhmfhhkaaGreatDoor.LM
open Go.RowKit

theorem thrice_wrap {n : Nat} (h : Low n) : wrap64 (3 * ((n + 1 : Nat) : Int)) = ((3 * (n + 1) : Nat) : Int) := by have := h.le; unfold wrap64; omega

theorem ne_of_heavy {α : Type} {L : List α} {m : Nat} (h : 3 * (m + 1) < L.length + 1) : L ≠ [] := by intro e; subst e; simp at h

theorem index2 (p q : Value) (w : World) : (Instr.index 83 (.agg #[p, q]) (.int .i64 0)).run Tryz.prog w = .ok p w ∧ (Instr.index 83 (.agg #[p, q]) (.int .i64 1)).run Tryz.prog w = .ok q w := by
  have h := Tryz.underlying83
  constructor <;> simp [Instr.index, run_underlying h, asIntOf, go_sem]

set_option maxRecDepth 100000 in
set_option maxHeartbeats 1000000 in
theorem balanced_any (b : Nat) (k : ByteArray) (v : (Option Addr × Nat × Nat)) (x y p q : Option Addr) (L R : List (ByteArray × (Option Addr × Nat × Nat))) (w : World) (hn : Nd w b k v x y) (hp : TL w (.pointer p) L) (hq : TL w (.pointer q) R) (low : Low (L.length + 1 + R.length)) :
    Calls Tryz.prog 81 #[.pointer (some ⟨b, 0, none⟩), .agg #[.pointer p, .pointer q]] w fun e w' => ∃ b', e = .returned (.pointer (some ⟨b', 0, none⟩)) ∧ TL w' (.pointer (some ⟨b', 0, none⟩)) (L ++ (k, v) :: R) ∧ Calm w w' := by
  have OV := hide (fun (W : World) (h : Calm w W) => over_any b k v x y p q L R W (hn.calm h) (hp.calm h) (hq.calm h) low)
  have WP := hide (fun (W : World) (h : Calm w W) => weight_any (.pointer p) L W (hp.calm h) (low_of low (by omega)))
  have WQ := hide (fun (W : World) (h : Calm w W) => weight_any (.pointer q) R W (hq.calm h) (low_of low (by omega)))
  have T0 := hide (fun (W : World) (h : Calm w W) (hne : L ≠ []) => turned0_any b k v x y p q L R W (hn.calm h) (hp.calm h) (hq.calm h) hne low)
  have T1 := hide (fun (W : World) (h : Calm w W) (hne : R ≠ []) => turned1_any b k v x y q p R L W (hn.calm h) (hq.calm h) (hp.calm h) hne (low_of low (by omega)))
  have tp := thrice_wrap (n := L.length) (low_of low (by omega))
  have tq := thrice_wrap (n := R.length) (low_of low (by omega))
  have hd0 : (wrap64 (3 * ((R.length + 1 : Nat) : Int)) < ((L.length + 1 : Nat) : Int) ∧ L ≠ []) ∨ ¬ wrap64 (3 * ((R.length + 1 : Nat) : Int)) < ((L.length + 1 : Nat) : Int) := by
    rw [tq]
    rcases Nat.lt_or_ge (3 * (R.length + 1)) (L.length + 1) with h | h
    · exact .inl ⟨by omega, ne_of_heavy h⟩
    · exact .inr (by omega)
  have hd1 : (wrap64 (3 * ((L.length + 1 : Nat) : Int)) < ((R.length + 1 : Nat) : Int) ∧ R ≠ []) ∨ ¬ wrap64 (3 * ((L.length + 1 : Nat) : Int)) < ((R.length + 1 : Nat) : Int) := by
    rw [tp]
    rcases Nat.lt_or_ge (3 * (L.length + 1)) (R.length + 1) with h | h
    · exact .inl ⟨by omega, ne_of_heavy h⟩
    · exact .inr (by omega)
  clear tp tq hn hp hq low
  generalize ((L.length + 1 : Nat) : Int) = m0 at *
  generalize ((R.length + 1 : Nat) : Int) = m1 at *
  have HD0 := hide hd0
  have HD1 := hide hd1
  clear hd0 hd1
  have T := hide ((Touch.refl (fun _ => False) w).alloc (.cells #[.pointer p, .pointer q] 83))
  have HA : Hid ((w.alloc (.cells #[.pointer p, .pointer q] 83)).heap[w.heap.size]? = some (.cells #[.pointer p, .pointer q] 83 (0, 0))) := hide (heap_alloc_last w _)
  go_enter Tryz.func81, Tryz.ntmps81
  go_wp2_with fail
  generalize w.alloc (.cells #[.pointer p, .pointer q] 83) = w0 at *
  go_loopw [8] (fun i wr => ∃ s : Nat, i = .int .i64 (s : Int) ∧ s ≤ 2 ∧ Calm w0 wr) (fun i _ => 2 - (intOf i).toNat)
  case atStart => exact ⟨0, rfl, by omega, Touch.refl _ _⟩
  case round =>
    obtain ⟨s, rfl, hs, tr⟩ := hrel
    have h012 : s = 0 ∨ s = 1 ∨ s = 2 := by omega
    clear hs
    rcases h012 with rfl | rfl | rfl
    · have hx := (index2 (.pointer p) (.pointer q) wr).1
      go_wp2_with fail
      clear hx
      refine wp_region_held (S := Calm wr) (by kernel_rfl) ?_
      have hT0 : Calm wr { wr with drawn := wr.drawn + 1 } := (Touch.refl (fun _ => False) wr).drew
      refine wpAnyH_yield 0 12 (.pointer p) rfl rfl (by kernel_rfl) (by kernel_rfl) (by kernel_rfl) (fun _ _ _ h => h) (by kernel_rfl) (fun W hW => by kernel_rfl) (by assumption) rfl rfl ?_
      simp only [Act.put, List.setIfInBounds_toArray, List.set_cons_zero, List.set_cons_succ]
      refine wpAnyH_yield 2 14 (.int .i64 0) rfl rfl (by kernel_rfl) (by kernel_rfl) (by kernel_rfl) (fun _ _ _ h => h) (by kernel_rfl) (fun W hW => by kernel_rfl) (by assumption) rfl rfl ?_
      simp only [Act.put, List.setIfInBounds_toArray, List.set_cons_zero, List.set_cons_succ]
      refine wpAnyH_yield 3 15 (.int .i64 1) rfl rfl (by kernel_rfl) (by kernel_rfl) (by kernel_rfl) (fun _ _ _ h => h) (by kernel_rfl) (fun W hW => by kernel_rfl) (by assumption) rfl rfl ?_
      simp only [Act.put, List.setIfInBounds_toArray, List.set_cons_zero, List.set_cons_succ]
      refine wpAnyH_yield 4 16 (.pointer (some ⟨w.heap.size, 1, none⟩)) rfl rfl (by kernel_rfl) (by kernel_rfl) (by kernel_rfl) (fun _ _ _ h => h) (by kernel_rfl) (fun W hW => by go_simp) (by assumption) rfl rfl ?_
      simp only [Act.put, List.setIfInBounds_toArray, List.set_cons_zero, List.set_cons_succ]
      refine wpAnyH_yield 5 17 (.pointer q) rfl rfl (by kernel_rfl) (by kernel_rfl) (by kernel_rfl) (fun _ _ _ h => h) (by kernel_rfl) (fun W hW => by obtain ⟨c0, c1⟩ := cells2 (hW.at (tr.at HA.out)); go_simp) (by assumption) rfl rfl ?_
      simp only [Act.put, List.setIfInBounds_toArray, List.set_cons_zero, List.set_cons_succ]
      refine wpAnyH_enter 1 13 95 #[.pointer p] rfl rfl (by kernel_rfl) (by kernel_rfl) (by kernel_rfl) ?_
      refine (WP.out _ ((T.out.tr tr).tr hT0)).mono ?_
      rintro r _ ⟨rfl, rfl⟩
      refine ⟨_, rfl, hT0, ?_⟩
      simp only [Act.put, List.setIfInBounds_toArray, List.set_cons_zero, List.set_cons_succ]
      refine wpAnyH_enter 6 18 95 #[.pointer q] rfl rfl (by kernel_rfl) (by kernel_rfl) (by kernel_rfl) ?_
      refine (WQ.out _ ((T.out.tr tr).tr hT0)).mono ?_
      rintro r _ ⟨rfl, rfl⟩
      refine ⟨_, rfl, hT0, ?_⟩
      simp only [Act.put, List.setIfInBounds_toArray, List.set_cons_zero, List.set_cons_succ]
      refine wpAnyH_yield 7 19 (.int .i64 (wrap64 (3 * m1))) rfl rfl (by kernel_rfl) (by kernel_rfl) (by kernel_rfl) (fun _ _ _ h => h) (by kernel_rfl) (fun W hW => by go_simp; rw [wrapEq]) (by assumption) rfl rfl ?_
      simp only [Act.put, List.setIfInBounds_toArray, List.set_cons_zero, List.set_cons_succ]
      refine wpAnyH_yield 8 20 (.bool (decide (wrap64 (3 * m1) < m0))) rfl rfl (by kernel_rfl) (by kernel_rfl) (by kernel_rfl) (fun _ _ _ h => h) (by kernel_rfl) (fun W hW => by go_simp) (by assumption) rfl rfl ?_
      simp only [Act.put, List.setIfInBounds_toArray, List.set_cons_zero, List.set_cons_succ]
      refine wpAnyH_done (by kernel_rfl) ?_ _
      have tr1 := tr.tr hT0
      generalize ({ wr with drawn := wr.drawn + 1 } : World) = w1 at *
      clear hT0 tr
      obtain ⟨c0, c1⟩ := cells2 (tr1.at HA.out)
      rcases HD0.out with ⟨hc, hne⟩ | hc
      · go_wp2_with fail
        refine (T0.out _ (T.out.tr tr1) hne).mono ?_
        rintro e w2 ⟨b2, rfl, tl2, t2⟩
        go_wp2_with fail
        go_ret
        exact ⟨_, rfl, tl2, (T.out.tr tr1).tr t2⟩
      · go_wp2_with fail
        go_roundw
        case rel => exact ⟨1, rfl, by omega, tr1⟩
        case measure => simp [intOf]
    · have hx := (index2 (.pointer p) (.pointer q) wr).2
      go_wp2_with fail
      clear hx
      refine wp_region_held (S := Calm wr) (by kernel_rfl) ?_
      have hT0 : Calm wr { wr with drawn := wr.drawn + 1 } := (Touch.refl (fun _ => False) wr).drew
      refine wpAnyH_yield 0 12 (.pointer q) rfl rfl (by kernel_rfl) (by kernel_rfl) (by kernel_rfl) (fun _ _ _ h => h) (by kernel_rfl) (fun W hW => by kernel_rfl) (by assumption) rfl rfl ?_
      simp only [Act.put, List.setIfInBounds_toArray, List.set_cons_zero, List.set_cons_succ]
      refine wpAnyH_yield 2 14 (.int .i64 1) rfl rfl (by kernel_rfl) (by kernel_rfl) (by kernel_rfl) (fun _ _ _ h => h) (by kernel_rfl) (fun W hW => by kernel_rfl) (by assumption) rfl rfl ?_
      simp only [Act.put, List.setIfInBounds_toArray, List.set_cons_zero, List.set_cons_succ]
      refine wpAnyH_yield 3 15 (.int .i64 0) rfl rfl (by kernel_rfl) (by kernel_rfl) (by kernel_rfl) (fun _ _ _ h => h) (by kernel_rfl) (fun W hW => by kernel_rfl) (by assumption) rfl rfl ?_
      simp only [Act.put, List.setIfInBounds_toArray, List.set_cons_zero, List.set_cons_succ]
      refine wpAnyH_yield 4 16 (.pointer (some ⟨w.heap.size, 0, none⟩)) rfl rfl (by kernel_rfl) (by kernel_rfl) (by kernel_rfl) (fun _ _ _ h => h) (by kernel_rfl) (fun W hW => by go_simp) (by assumption) rfl rfl ?_
      simp only [Act.put, List.setIfInBounds_toArray, List.set_cons_zero, List.set_cons_succ]
      refine wpAnyH_yield 5 17 (.pointer p) rfl rfl (by kernel_rfl) (by kernel_rfl) (by kernel_rfl) (fun _ _ _ h => h) (by kernel_rfl) (fun W hW => by obtain ⟨c0, c1⟩ := cells2 (hW.at (tr.at HA.out)); go_simp) (by assumption) rfl rfl ?_
      simp only [Act.put, List.setIfInBounds_toArray, List.set_cons_zero, List.set_cons_succ]
      refine wpAnyH_enter 1 13 95 #[.pointer q] rfl rfl (by kernel_rfl) (by kernel_rfl) (by kernel_rfl) ?_
      refine (WQ.out _ ((T.out.tr tr).tr hT0)).mono ?_
      rintro r _ ⟨rfl, rfl⟩
      refine ⟨_, rfl, hT0, ?_⟩
      simp only [Act.put, List.setIfInBounds_toArray, List.set_cons_zero, List.set_cons_succ]
      refine wpAnyH_enter 6 18 95 #[.pointer p] rfl rfl (by kernel_rfl) (by kernel_rfl) (by kernel_rfl) ?_
      refine (WP.out _ ((T.out.tr tr).tr hT0)).mono ?_
      rintro r _ ⟨rfl, rfl⟩
      refine ⟨_, rfl, hT0, ?_⟩
      simp only [Act.put, List.setIfInBounds_toArray, List.set_cons_zero, List.set_cons_succ]
      refine wpAnyH_yield 7 19 (.int .i64 (wrap64 (3 * m0))) rfl rfl (by kernel_rfl) (by kernel_rfl) (by kernel_rfl) (fun _ _ _ h => h) (by kernel_rfl) (fun W hW => by go_simp; rw [wrapEq]) (by assumption) rfl rfl ?_
      simp only [Act.put, List.setIfInBounds_toArray, List.set_cons_zero, List.set_cons_succ]
      refine wpAnyH_yield 8 20 (.bool (decide (wrap64 (3 * m0) < m1))) rfl rfl (by kernel_rfl) (by kernel_rfl) (by kernel_rfl) (fun _ _ _ h => h) (by kernel_rfl) (fun W hW => by go_simp) (by assumption) rfl rfl ?_
      simp only [Act.put, List.setIfInBounds_toArray, List.set_cons_zero, List.set_cons_succ]
      refine wpAnyH_done (by kernel_rfl) ?_ _
      have tr1 := tr.tr hT0
      generalize ({ wr with drawn := wr.drawn + 1 } : World) = w1 at *
      clear hT0 tr
      obtain ⟨c0, c1⟩ := cells2 (tr1.at HA.out)
      rcases HD1.out with ⟨hc, hne⟩ | hc
      · go_wp2_with fail
        refine (T1.out _ (T.out.tr tr1) hne).mono ?_
        rintro e w2 ⟨b2, rfl, tl2, t2⟩
        go_wp2_with fail
        go_ret
        exact ⟨_, rfl, tl2, (T.out.tr tr1).tr t2⟩
      · go_wp2_with fail
        go_roundw
        case rel => exact ⟨2, rfl, by omega, tr1⟩
        case measure => simp [intOf]
    · obtain ⟨c0, c1⟩ := cells2 (tr.at HA.out)
      go_wp2_with fail
      refine (OV.out _ (T.out.tr tr)).mono ?_
      rintro e w2 ⟨b2, rfl, tl2, -, t2⟩
      go_wp2_with fail
      go_ret
      exact ⟨_, rfl, tl2, (T.out.tr tr).tr t2⟩

end Go.Proofs.YtamfcmmhmfhhkaaGreatDoor.LM

namespace Go.Proofs.YtamfcmmhmfhhkaaGreatDoor.LM
open Go.RowKit

set_option maxRecDepth 100000 in
set_option maxHeartbeats 1000000 in
theorem with0_any (b : Nat) (k : ByteArray) (v : (Option Addr × Nat × Nat)) (x y p : Option Addr) (L R : List (ByteArray × (Option Addr × Nat × Nat))) (w : World) (hn : Nd w b k v x y) (hl : TL w (.pointer p) L) (hr : TL w (.pointer y) R) (low : Low (L.length + 1 + R.length)) :
    Calls Tryz.prog 73 #[.pointer (some ⟨b, 0, none⟩), .int .i64 0, .pointer p] w fun e w' => ∃ b', e = .returned (.pointer (some ⟨b', 0, none⟩)) ∧ TL w' (.pointer (some ⟨b', 0, none⟩)) (L ++ (k, v) :: R) ∧ Calm w w' := by
  have BA := hide (fun (W : World) (h : Calm w W) => balanced_any b k v x y p y L R W (hn.calm h) (hl.calm h) (hr.calm h) low)
  obtain ⟨n, hb⟩ := hn
  obtain ⟨-, -, -, c3, c4⟩ := cells5 hb
  clear hl hr low hb
  go_enter Tryz.func73, Tryz.ntmps73
  go_wp2_with fail
  refine (pair0_any _ _ _).mono ?_
  rintro e w2 ⟨rfl, t2⟩
  go_wp2_with fail
  refine (BA.out _ t2).mono ?_
  rintro e w3 ⟨b3, rfl, tl3, t3⟩
  go_wp2_with fail
  go_ret
  exact ⟨_, rfl, tl3, t2.tr t3⟩


set_option maxRecDepth 100000 in
set_option maxHeartbeats 1000000 in
theorem with1_any (b : Nat) (k : ByteArray) (v : (Option Addr × Nat × Nat)) (x y p : Option Addr) (L R : List (ByteArray × (Option Addr × Nat × Nat))) (w : World) (hn : Nd w b k v x y) (hl : TL w (.pointer x) L) (hr : TL w (.pointer p) R) (low : Low (L.length + 1 + R.length)) :
    Calls Tryz.prog 73 #[.pointer (some ⟨b, 0, none⟩), .int .i64 1, .pointer p] w fun e w' => ∃ b', e = .returned (.pointer (some ⟨b', 0, none⟩)) ∧ TL w' (.pointer (some ⟨b', 0, none⟩)) (L ++ (k, v) :: R) ∧ Calm w w' := by
  have BA := hide (fun (W : World) (h : Calm w W) => balanced_any b k v x y x p L R W (hn.calm h) (hl.calm h) (hr.calm h) low)
  obtain ⟨n, hb⟩ := hn
  obtain ⟨-, -, -, c3, c4⟩ := cells5 hb
  clear hl hr low hb
  go_enter Tryz.func73, Tryz.ntmps73
  go_wp2_with fail
  refine (pair1_any _ _ _).mono ?_
  rintro e w2 ⟨rfl, t2⟩
  go_wp2_with fail
  refine (BA.out _ t2).mono ?_
  rintro e w3 ⟨b3, rfl, tl3, t3⟩
  go_wp2_with fail
  go_ret
  exact ⟨_, rfl, tl3, t2.tr t3⟩


end Go.Proofs.YtamfcmmhmfhhkaaGreatDoor.LM

namespace Go.Proofs.YtamfcmmhmfhhkaaGreatDoor

section
variable {K V : Type}

/-- What is ahead of a key of which f tells how it compares with others. -/
def up (f : K → Int) (X : List (K × V)) : List (K × V) := X.filter fun a => decide (0 < f a.1)
/-- What is behind it. -/
def dn (f : K → Int) (X : List (K × V)) : List (K × V) := X.filter fun a => decide (f a.1 < 0)
/-- It, as it is there. -/
def it (f : K → Int) (X : List (K × V)) : Option (K × V) := X.find? fun a => decide (f a.1 = 0)

/-- The key put. -/
def lput (f : K → Int) (k : K) (v : V) (X : List (K × V)) : List (K × V) := up f X ++ (match it f X with | none => k | some a => a.1, v) :: dn f X
/-- The key taken away. -/
def ldrop (f : K → Int) (X : List (K × V)) : List (K × V) := up f X ++ dn f X

/-- In the order of f: first what is ahead, then at most one, then what is behind. -/
def Dec (f : K → Int) (X : List (K × V)) : Prop := X.Pairwise fun a b => f a.1 ≤ 0 → f b.1 < 0

theorem Dec.parts {f : K → Int} {L R : List (K × V)} {x : K × V} (h : Dec f (L ++ x :: R)) : Dec f L ∧ Dec f R ∧ (∀ a ∈ L, f a.1 ≤ 0 → f x.1 < 0) ∧ (f x.1 ≤ 0 → ∀ b ∈ R, f b.1 < 0) := by
  unfold Dec at *
  rw [List.pairwise_append, List.pairwise_cons] at h
  exact ⟨h.1, h.2.1.2, fun a ha => h.2.2 a ha x (by simp), fun hx b hb => h.2.1.1 b hb hx⟩

theorem up_all {f : K → Int} {L : List (K × V)} (h : ∀ a ∈ L, 0 < f a.1) : up f L = L ∧ dn f L = [] ∧ it f L = none := by
  refine ⟨List.filter_eq_self.2 fun a ha => decide_eq_true (h a ha), List.filter_eq_nil_iff.2 fun a ha => ?_, List.find?_eq_none.2 fun a ha => ?_⟩
  · have := h a ha; simp; omega
  · have := h a ha; simp; omega

theorem dn_all {f : K → Int} {L : List (K × V)} (h : ∀ a ∈ L, f a.1 < 0) : up f L = [] ∧ dn f L = L ∧ it f L = none := by
  refine ⟨List.filter_eq_nil_iff.2 fun a ha => ?_, List.filter_eq_self.2 fun a ha => decide_eq_true (h a ha), List.find?_eq_none.2 fun a ha => ?_⟩
  · have := h a ha; simp; omega
  · have := h a ha; simp; omega

theorem Dec.left {f : K → Int} {L R : List (K × V)} {x : K × V} (h : Dec f (L ++ x :: R)) (hx : 0 ≤ f x.1) : ∀ a ∈ L, 0 < f a.1 := fun a ha => by
  have := h.parts.2.2.1 a ha
  omega

theorem Dec.right {f : K → Int} {L R : List (K × V)} {x : K × V} (h : Dec f (L ++ x :: R)) (hx : f x.1 ≤ 0) : ∀ a ∈ R, f a.1 < 0 := h.parts.2.2.2 hx

theorem up_app (f : K → Int) (L R : List (K × V)) : up f (L ++ R) = up f L ++ up f R := List.filter_append ..
theorem dn_app (f : K → Int) (L R : List (K × V)) : dn f (L ++ R) = dn f L ++ dn f R := List.filter_append ..
theorem it_app (f : K → Int) (L R : List (K × V)) : it f (L ++ R) = (it f L).or (it f R) := List.find?_append ..

theorem up_cons (f : K → Int) (x : K × V) (R : List (K × V)) : up f (x :: R) = if 0 < f x.1 then x :: up f R else up f R := by
  unfold up; rw [List.filter_cons]; simp
theorem dn_cons (f : K → Int) (x : K × V) (R : List (K × V)) : dn f (x :: R) = if f x.1 < 0 then x :: dn f R else dn f R := by
  unfold dn; rw [List.filter_cons]; simp
theorem it_cons (f : K → Int) (x : K × V) (R : List (K × V)) : it f (x :: R) = if f x.1 = 0 then some x else it f R := by
  unfold it; rw [List.find?_cons]; by_cases h : f x.1 = 0 <;> simp [h]

/-- The key stands behind x. -/
theorem pos_way {f : K → Int} {L R : List (K × V)} {x : K × V} (h : Dec f (L ++ x :: R)) (hx : 0 < f x.1) : up f (L ++ x :: R) = L ++ x :: up f R ∧ dn f (L ++ x :: R) = dn f R ∧ it f (L ++ x :: R) = it f R := by
  obtain ⟨a, b, c⟩ := up_all (h.left (by omega))
  rw [up_app, dn_app, it_app, a, b, c, up_cons, dn_cons, it_cons, if_pos hx, if_neg (by omega), if_neg (by omega)]
  exact ⟨rfl, rfl, rfl⟩

/-- The key stands ahead of x. -/
theorem neg_way {f : K → Int} {L R : List (K × V)} {x : K × V} (h : Dec f (L ++ x :: R)) (hx : f x.1 < 0) : up f (L ++ x :: R) = up f L ∧ dn f (L ++ x :: R) = dn f L ++ x :: R ∧ it f (L ++ x :: R) = it f L := by
  obtain ⟨a, b, c⟩ := dn_all (h.right (by omega))
  rw [up_app, dn_app, it_app, up_cons, dn_cons, it_cons, if_pos hx, if_neg (by omega), if_neg (by omega), a, b, c]
  simp

/-- The key is x's. -/
theorem at_way {f : K → Int} {L R : List (K × V)} {x : K × V} (h : Dec f (L ++ x :: R)) (hx : f x.1 = 0) : up f (L ++ x :: R) = L ∧ dn f (L ++ x :: R) = R ∧ it f (L ++ x :: R) = some x := by
  obtain ⟨a, b, c⟩ := up_all (h.left (by omega))
  obtain ⟨a', b', c'⟩ := dn_all (h.right (by omega))
  rw [up_app, dn_app, it_app, up_cons, dn_cons, it_cons, if_neg (by omega), if_neg (by omega), if_pos hx, a, b, c, a', b']
  simp

theorem lput_pos {f : K → Int} {k : K} {v : V} {L R : List (K × V)} {x : K × V} (h : Dec f (L ++ x :: R)) (hx : 0 < f x.1) : lput f k v (L ++ x :: R) = L ++ x :: lput f k v R := by
  obtain ⟨a, b, c⟩ := pos_way h hx
  unfold lput; rw [a, b, c]; simp
theorem lput_neg {f : K → Int} {k : K} {v : V} {L R : List (K × V)} {x : K × V} (h : Dec f (L ++ x :: R)) (hx : f x.1 < 0) : lput f k v (L ++ x :: R) = lput f k v L ++ x :: R := by
  obtain ⟨a, b, c⟩ := neg_way h hx
  unfold lput; rw [a, b, c]; simp
theorem lput_at {f : K → Int} {k : K} {v : V} {L R : List (K × V)} {x : K × V} (h : Dec f (L ++ x :: R)) (hx : f x.1 = 0) : lput f k v (L ++ x :: R) = L ++ (x.1, v) :: R := by
  obtain ⟨a, b, c⟩ := at_way h hx
  unfold lput; rw [a, b, c]
theorem ldrop_pos {f : K → Int} {L R : List (K × V)} {x : K × V} (h : Dec f (L ++ x :: R)) (hx : 0 < f x.1) : ldrop f (L ++ x :: R) = L ++ x :: ldrop f R := by
  obtain ⟨a, b, c⟩ := pos_way h hx
  unfold ldrop; rw [a, b]; simp
theorem ldrop_neg {f : K → Int} {L R : List (K × V)} {x : K × V} (h : Dec f (L ++ x :: R)) (hx : f x.1 < 0) : ldrop f (L ++ x :: R) = ldrop f L ++ x :: R := by
  obtain ⟨a, b, c⟩ := neg_way h hx
  unfold ldrop; rw [a, b]; simp
theorem ldrop_at {f : K → Int} {L R : List (K × V)} {x : K × V} (h : Dec f (L ++ x :: R)) (hx : f x.1 = 0) : ldrop f (L ++ x :: R) = L ++ R := by
  obtain ⟨a, b, c⟩ := at_way h hx
  unfold ldrop; rw [a, b]

theorem Dec.split {f : K → Int} : ∀ {X : List (K × V)}, Dec f X → X = up f X ++ (it f X).toList ++ dn f X := by
  intro X
  induction X with
  | nil => intro _; rfl
  | cons x R ih =>
    intro h
    have h' : Dec f ([] ++ x :: R) := h
    rcases Int.lt_trichotomy (f x.1) 0 with hx | hx | hx
    · obtain ⟨a, b, c⟩ := neg_way h' hx
      simp only [List.nil_append] at a b c
      rw [a, b, c]; rfl
    · obtain ⟨a, b, c⟩ := at_way h' hx
      simp only [List.nil_append] at a b c
      rw [a, b, c]; rfl
    · obtain ⟨a, b, c⟩ := pos_way h' hx
      simp only [List.nil_append] at a b c
      rw [a, b, c]
      simpa using ih h'.parts.2.1

theorem ldrop_none {f : K → Int} {X : List (K × V)} (h : Dec f X) (hn : it f X = none) : ldrop f X = X := by
  have := h.split
  rw [hn] at this
  unfold ldrop
  simpa using this.symm

theorem lput_len {f : K → Int} {k : K} {v : V} {X : List (K × V)} (h : Dec f X) : (lput f k v X).length ≤ X.length + 1 ∧ X.length ≤ (lput f k v X).length := by
  have := congrArg List.length h.split
  unfold lput
  simp only [List.length_append, List.length_cons] at *
  cases hi : it f X with
  | none => simp [hi] at this ⊢; omega
  | some a => simp [hi] at this ⊢; omega

theorem ldrop_len {f : K → Int} {X : List (K × V)} (h : Dec f X) : (ldrop f X).length ≤ X.length ∧ X.length ≤ (ldrop f X).length + 1 := by
  have := congrArg List.length h.split
  unfold ldrop
  simp only [List.length_append] at *
  cases hi : it f X with
  | none => simp [hi] at this ⊢; omega
  | some a => simp [hi] at this ⊢; omega
end

end Go.Proofs.YtamfcmmhmfhhkaaGreatDoor
