/- The program's with, cut, joined. -/
import Derived.Test.YtegiinnhknfjjaaIBal
namespace Go.Proofs.Ytegiinnhknfjjaa.IM
open Go.RowKit

set_option maxRecDepth 100000 in
set_option maxHeartbeats 1000000 in
theorem with0_any (b : Nat) (k : Int) (v : Int) (x y p : Option Addr) (L R : List (Int × Int)) (w : World) (hn : Nd w b k v x y) (hl : TL w (.pointer p) L) (hr : TL w (.pointer y) R) (low : Low (L.length + 1 + R.length)) :
    Calls Try.prog 65 #[.pointer (some ⟨b, 0, none⟩), .int .i64 0, .pointer p] w fun e w' => ∃ b', e = .returned (.pointer (some ⟨b', 0, none⟩)) ∧ TL w' (.pointer (some ⟨b', 0, none⟩)) (L ++ (k, v) :: R) ∧ Calm w w' := by
  have BA := hide (fun (W : World) (h : Calm w W) => balanced_any b k v x y p y L R W (hn.calm h) (hl.calm h) (hr.calm h) low)
  obtain ⟨n, hb⟩ := hn
  obtain ⟨-, -, -, c3, c4⟩ := cells5 hb
  clear hl hr low hb
  go_enter Try.func65, Try.ntmps65
  go_wp2_with fail
  refine (pair0_any _ _ _).mono ?_
  rintro e w2 ⟨rfl, t2⟩
  go_wp2_with fail
  refine (BA.out _ t2).mono ?_
  rintro e w3 ⟨b3, rfl, tl3, t3⟩
  go_wp2_with fail
  go_ret
  exact ⟨_, rfl, tl3, t2.tr t3⟩

set_option maxRecDepth 100000 in
set_option maxHeartbeats 1000000 in
theorem cut0_any {w : World} {p : Value} {X : List (Int × Int)} (h : TL w p X) (hne : X ≠ []) (low : Low X.length) :
    ∀ w1, Calm w w1 → Calls Try.prog 83 #[p, .int .i64 0] w1 fun e w' => ∃ b' k' v' x' y' r' A, e = .returned (.tuple #[.pointer (some ⟨b', 0, none⟩), .pointer r']) ∧ X = (k', v') :: A ∧ Nd w' b' k' v' x' y' ∧ TL w' (.pointer r') A ∧ Calm w1 w' := by
  induction h with
  | nil => exact absurd rfl hne
  | @node b k v p q L R hb h1 h2 i1 i2 =>
  intro w1 t1
  have HN : Hid (Nd w1 b k v p q) := hide ⟨_, t1.at hb⟩
  have LOW : Hid (Low (L.length + 1 + R.length)) := hide (by refine low_of low ?_; simp; omega)
  obtain ⟨-, -, -, c3, c4⟩ := cells5 (t1.at hb)
  have HB := hide (t1.at hb)
  have H1 := hide (h1.calm t1)
  have H2 := hide (h2.calm t1)
  have IH := hide (fun h => i1 h (low_of LOW.out (by omega)) w1 t1)
  clear i1 i2 low hne
  cases h1 with
  | nil =>
    go_enter Try.func83, Try.ntmps83
    go_wp2_with fail
    refine wp_region_held (S := Calm w1) (by kernel_rfl) ?_
    have hT0 : Calm w1 { w1 with drawn := w1.drawn + 1 } := (Touch.refl (fun _ => False) w1).drew
    refine wpAnyH_yield 0 15 (.pointer (some ⟨b, 0, none⟩)) rfl rfl (by kernel_rfl) (by kernel_rfl) (by kernel_rfl) (fun _ _ _ h => h) (by kernel_rfl) (fun W hW => by kernel_rfl) (by assumption) rfl rfl ?_
    simp only [Act.put, List.setIfInBounds_toArray, List.set_cons_zero, List.set_cons_succ]
    refine wpAnyH_yield 1 16 (.pointer (some ⟨b, 0, none⟩)) rfl rfl (by kernel_rfl) (by kernel_rfl) (by kernel_rfl) (fun _ _ _ h => h) (by kernel_rfl) (fun W hW => by kernel_rfl) (by assumption) rfl rfl ?_
    simp only [Act.put, List.setIfInBounds_toArray, List.set_cons_zero, List.set_cons_succ]
    refine wpAnyH_yield 2 17 (.int .i64 0) rfl rfl (by kernel_rfl) (by kernel_rfl) (by kernel_rfl) (fun _ _ _ h => h) (by kernel_rfl) (fun W hW => by kernel_rfl) (by assumption) rfl rfl ?_
    simp only [Act.put, List.setIfInBounds_toArray, List.set_cons_zero, List.set_cons_succ]
    refine wpAnyH_yield 3 18 (.int .i64 1) rfl rfl (by kernel_rfl) (by kernel_rfl) (by kernel_rfl) (fun _ _ _ h => h) (by kernel_rfl) (fun W hW => by kernel_rfl) (by assumption) rfl rfl ?_
    simp only [Act.put, List.setIfInBounds_toArray, List.set_cons_zero, List.set_cons_succ]
    refine wpAnyH_yield 4 19 (.pointer (some ⟨b, 0, none⟩)) rfl rfl (by kernel_rfl) (by kernel_rfl) (by kernel_rfl) (fun _ _ _ h => h) (by kernel_rfl) (fun W hW => by kernel_rfl) (by assumption) rfl rfl ?_
    simp only [Act.put, List.setIfInBounds_toArray, List.set_cons_zero, List.set_cons_succ]
    refine wpAnyH_yield 5 20 (.pointer (some ⟨b, 3, none⟩)) rfl rfl (by kernel_rfl) (by kernel_rfl) (by kernel_rfl) (fun _ _ _ h => h) (by kernel_rfl) (fun W hW => by go_simp) (by assumption) rfl rfl ?_
    simp only [Act.put, List.setIfInBounds_toArray, List.set_cons_zero, List.set_cons_succ]
    refine wpAnyH_yield 6 21 (.pointer (some ⟨b, 4, none⟩)) rfl rfl (by kernel_rfl) (by kernel_rfl) (by kernel_rfl) (fun _ _ _ h => h) (by kernel_rfl) (fun W hW => by go_simp) (by assumption) rfl rfl ?_
    simp only [Act.put, List.setIfInBounds_toArray, List.set_cons_zero, List.set_cons_succ]
    refine wpAnyH_yield 7 22 (.pointer q) rfl rfl (by kernel_rfl) (by kernel_rfl) (by kernel_rfl) (fun _ _ _ h => h) (by kernel_rfl) (fun W hW => by obtain ⟨c0, c1, c2, c3, c4⟩ := cells5 (hW.at HB.out); go_simp) (by assumption) rfl rfl ?_
    simp only [Act.put, List.setIfInBounds_toArray, List.set_cons_zero, List.set_cons_succ]
    refine wpAnyH_yield 8 4 (.pointer (some ⟨b, 0, none⟩)) rfl rfl (by kernel_rfl) (by kernel_rfl) (by kernel_rfl) (fun _ _ _ h => h) (by kernel_rfl) (fun W hW => by kernel_rfl) (by assumption) rfl rfl ?_
    simp only [Act.put, List.setIfInBounds_toArray, List.set_cons_zero, List.set_cons_succ]
    refine wpAnyH_yield 9 5 (.pointer q) rfl rfl (by kernel_rfl) (by kernel_rfl) (by kernel_rfl) (fun _ _ _ h => h) (by kernel_rfl) (fun W hW => by kernel_rfl) (by assumption) rfl rfl ?_
    simp only [Act.put, List.setIfInBounds_toArray, List.set_cons_zero, List.set_cons_succ]
    refine wpAnyH_done (by kernel_rfl) ?_ _
    generalize ({ w1 with drawn := w1.drawn + 1 } : World) = w2 at *
    go_wp2_with fail
    go_ret2
    exact ⟨b, k, v, _, _, _, R, rfl, by simp, HN.out.calm hT0, H2.out.calm hT0, hT0⟩
  | @node b2 k2 v2 p2 q2 L2 R2 hb2 h3 h4 =>
    have ih := IH.out (by simp)
    clear IH h3 h4 hb2 h2
    go_enter Try.func83, Try.ntmps83
    go_wp2_with fail
    refine ih.mono ?_
    rintro e w2 ⟨b', k', v', x', y', r', A, rfl, hX, n2, tl2, t2⟩
    have hlen : (L2 ++ (k2, v2) :: R2).length = A.length + 1 := by rw [hX]; simp
    have WA := hide (with0_any b k v (some ⟨b2, 0, none⟩) q r' A R w2 (HN.out.calm t2) tl2 (H2.out.calm t2) (low_of LOW.out (by omega)))
    have HX := hide hX
    have N2 := hide n2
    have T2 := hide t2
    clear hX hlen ih n2 tl2 t2
    go_wp2_with fail
    refine WA.out.mono ?_
    rintro e w3 ⟨b3, rfl, tl3, t3⟩
    go_wp2_with fail
    go_ret2
    exact ⟨b', k', v', x', y', _, _, rfl, by rw [HX.out]; simp, N2.out.calm t3, tl3, T2.out.tr t3⟩

set_option maxRecDepth 100000 in
set_option maxHeartbeats 1000000 in
theorem with1_any (b : Nat) (k : Int) (v : Int) (x y p : Option Addr) (L R : List (Int × Int)) (w : World) (hn : Nd w b k v x y) (hl : TL w (.pointer x) L) (hr : TL w (.pointer p) R) (low : Low (L.length + 1 + R.length)) :
    Calls Try.prog 65 #[.pointer (some ⟨b, 0, none⟩), .int .i64 1, .pointer p] w fun e w' => ∃ b', e = .returned (.pointer (some ⟨b', 0, none⟩)) ∧ TL w' (.pointer (some ⟨b', 0, none⟩)) (L ++ (k, v) :: R) ∧ Calm w w' := by
  have BA := hide (fun (W : World) (h : Calm w W) => balanced_any b k v x y x p L R W (hn.calm h) (hl.calm h) (hr.calm h) low)
  obtain ⟨n, hb⟩ := hn
  obtain ⟨-, -, -, c3, c4⟩ := cells5 hb
  clear hl hr low hb
  go_enter Try.func65, Try.ntmps65
  go_wp2_with fail
  refine (pair1_any _ _ _).mono ?_
  rintro e w2 ⟨rfl, t2⟩
  go_wp2_with fail
  refine (BA.out _ t2).mono ?_
  rintro e w3 ⟨b3, rfl, tl3, t3⟩
  go_wp2_with fail
  go_ret
  exact ⟨_, rfl, tl3, t2.tr t3⟩

set_option maxRecDepth 100000 in
set_option maxHeartbeats 1000000 in
theorem cut1_any {w : World} {p : Value} {X : List (Int × Int)} (h : TL w p X) (hne : X ≠ []) (low : Low X.length) :
    ∀ w1, Calm w w1 → Calls Try.prog 83 #[p, .int .i64 1] w1 fun e w' => ∃ b' k' v' x' y' r' A, e = .returned (.tuple #[.pointer (some ⟨b', 0, none⟩), .pointer r']) ∧ X = A ++ [(k', v')] ∧ Nd w' b' k' v' x' y' ∧ TL w' (.pointer r') A ∧ Calm w1 w' := by
  induction h with
  | nil => exact absurd rfl hne
  | @node b k v p q L R hb h1 h2 i1 i2 =>
  intro w1 t1
  have HN : Hid (Nd w1 b k v p q) := hide ⟨_, t1.at hb⟩
  have LOW : Hid (Low (L.length + 1 + R.length)) := hide (by refine low_of low ?_; simp; omega)
  obtain ⟨-, -, -, c3, c4⟩ := cells5 (t1.at hb)
  have HB := hide (t1.at hb)
  have H1 := hide (h1.calm t1)
  have H2 := hide (h2.calm t1)
  have IH := hide (fun h => i2 h (low_of LOW.out (by omega)) w1 t1)
  clear i1 i2 low hne
  cases h2 with
  | nil =>
    go_enter Try.func83, Try.ntmps83
    go_wp2_with fail
    refine wp_region_held (S := Calm w1) (by kernel_rfl) ?_
    have hT0 : Calm w1 { w1 with drawn := w1.drawn + 1 } := (Touch.refl (fun _ => False) w1).drew
    refine wpAnyH_yield 0 15 (.pointer (some ⟨b, 0, none⟩)) rfl rfl (by kernel_rfl) (by kernel_rfl) (by kernel_rfl) (fun _ _ _ h => h) (by kernel_rfl) (fun W hW => by kernel_rfl) (by assumption) rfl rfl ?_
    simp only [Act.put, List.setIfInBounds_toArray, List.set_cons_zero, List.set_cons_succ]
    refine wpAnyH_yield 1 16 (.pointer (some ⟨b, 0, none⟩)) rfl rfl (by kernel_rfl) (by kernel_rfl) (by kernel_rfl) (fun _ _ _ h => h) (by kernel_rfl) (fun W hW => by kernel_rfl) (by assumption) rfl rfl ?_
    simp only [Act.put, List.setIfInBounds_toArray, List.set_cons_zero, List.set_cons_succ]
    refine wpAnyH_yield 2 17 (.int .i64 1) rfl rfl (by kernel_rfl) (by kernel_rfl) (by kernel_rfl) (fun _ _ _ h => h) (by kernel_rfl) (fun W hW => by kernel_rfl) (by assumption) rfl rfl ?_
    simp only [Act.put, List.setIfInBounds_toArray, List.set_cons_zero, List.set_cons_succ]
    refine wpAnyH_yield 3 18 (.int .i64 0) rfl rfl (by kernel_rfl) (by kernel_rfl) (by kernel_rfl) (fun _ _ _ h => h) (by kernel_rfl) (fun W hW => by kernel_rfl) (by assumption) rfl rfl ?_
    simp only [Act.put, List.setIfInBounds_toArray, List.set_cons_zero, List.set_cons_succ]
    refine wpAnyH_yield 4 19 (.pointer (some ⟨b, 0, none⟩)) rfl rfl (by kernel_rfl) (by kernel_rfl) (by kernel_rfl) (fun _ _ _ h => h) (by kernel_rfl) (fun W hW => by kernel_rfl) (by assumption) rfl rfl ?_
    simp only [Act.put, List.setIfInBounds_toArray, List.set_cons_zero, List.set_cons_succ]
    refine wpAnyH_yield 5 20 (.pointer (some ⟨b, 3, none⟩)) rfl rfl (by kernel_rfl) (by kernel_rfl) (by kernel_rfl) (fun _ _ _ h => h) (by kernel_rfl) (fun W hW => by go_simp) (by assumption) rfl rfl ?_
    simp only [Act.put, List.setIfInBounds_toArray, List.set_cons_zero, List.set_cons_succ]
    refine wpAnyH_yield 6 21 (.pointer (some ⟨b, 3, none⟩)) rfl rfl (by kernel_rfl) (by kernel_rfl) (by kernel_rfl) (fun _ _ _ h => h) (by kernel_rfl) (fun W hW => by go_simp) (by assumption) rfl rfl ?_
    simp only [Act.put, List.setIfInBounds_toArray, List.set_cons_zero, List.set_cons_succ]
    refine wpAnyH_yield 7 22 (.pointer p) rfl rfl (by kernel_rfl) (by kernel_rfl) (by kernel_rfl) (fun _ _ _ h => h) (by kernel_rfl) (fun W hW => by obtain ⟨c0, c1, c2, c3, c4⟩ := cells5 (hW.at HB.out); go_simp) (by assumption) rfl rfl ?_
    simp only [Act.put, List.setIfInBounds_toArray, List.set_cons_zero, List.set_cons_succ]
    refine wpAnyH_yield 8 4 (.pointer (some ⟨b, 0, none⟩)) rfl rfl (by kernel_rfl) (by kernel_rfl) (by kernel_rfl) (fun _ _ _ h => h) (by kernel_rfl) (fun W hW => by kernel_rfl) (by assumption) rfl rfl ?_
    simp only [Act.put, List.setIfInBounds_toArray, List.set_cons_zero, List.set_cons_succ]
    refine wpAnyH_yield 9 5 (.pointer p) rfl rfl (by kernel_rfl) (by kernel_rfl) (by kernel_rfl) (fun _ _ _ h => h) (by kernel_rfl) (fun W hW => by kernel_rfl) (by assumption) rfl rfl ?_
    simp only [Act.put, List.setIfInBounds_toArray, List.set_cons_zero, List.set_cons_succ]
    refine wpAnyH_done (by kernel_rfl) ?_ _
    generalize ({ w1 with drawn := w1.drawn + 1 } : World) = w2 at *
    go_wp2_with fail
    go_ret2
    exact ⟨b, k, v, _, _, _, L, rfl, by simp, HN.out.calm hT0, H1.out.calm hT0, hT0⟩
  | @node b2 k2 v2 p2 q2 L2 R2 hb2 h3 h4 =>
    have ih := IH.out (by simp)
    clear IH h3 h4 hb2 h1
    go_enter Try.func83, Try.ntmps83
    go_wp2_with fail
    refine ih.mono ?_
    rintro e w2 ⟨b', k', v', x', y', r', A, rfl, hX, n2, tl2, t2⟩
    have hlen : (L2 ++ (k2, v2) :: R2).length = A.length + 1 := by rw [hX]; simp
    have WA := hide (with1_any b k v p (some ⟨b2, 0, none⟩) r' L A w2 (HN.out.calm t2) (H1.out.calm t2) tl2 (low_of LOW.out (by omega)))
    have HX := hide hX
    have N2 := hide n2
    have T2 := hide t2
    clear hX hlen ih n2 tl2 t2
    go_wp2_with fail
    refine WA.out.mono ?_
    rintro e w3 ⟨b3, rfl, tl3, t3⟩
    go_wp2_with fail
    go_ret2
    exact ⟨b', k', v', x', y', _, _, rfl, by rw [HX.out]; simp, N2.out.calm t3, tl3, T2.out.tr t3⟩

end Go.Proofs.Ytegiinnhknfjjaa.IM
