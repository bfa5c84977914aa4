/- The program's Get, Place. -/
import Derived.Test.YtegiinnhknfjjaaIMap
namespace Go.Proofs.Ytegiinnhknfjjaa.IM
open Go.RowKit

theorem sign3 (z : Int) : (z < 0 ∧ sd z = 0 ∧ ¬ z = 0 ∧ ¬ 0 < z) ∨ z = 0 ∨ (0 < z ∧ sd z = 1 ∧ ¬ z = 0) := by
  unfold sd
  rcases Int.lt_trichotomy z 0 with h | h | h
  · exact .inl ⟨h, if_pos h, by omega, by omega⟩
  · exact .inr (.inl h)
  · exact .inr (.inr ⟨h, if_neg (by omega), by omega⟩)

set_option maxRecDepth 100000 in
set_option maxHeartbeats 1000000 in
theorem get_any {f : Nat} {lb : Array Value} {c : Int → Int → Int} {Y : World → Prop} (hC : Cmp f lb c Y) (m : Nat) (key : Int)
    (w : World) (X : List (Int × Int)) (h : Mt w m f lb X) (hY : Y w) (hd : Dec (c key) X) :
    Calls Try.prog 37 #[.pointer (some ⟨m, 0, none⟩), .int .i64 key] w fun e w' =>
      e = .returned (.tuple #[.int .i64 (was (c key) X), .bool (it (c key) X).isSome]) ∧ Calm w w' := by
  obtain ⟨ro, h1, h2⟩ := h
  have TH := hide (there_any w m f lb ro h1)
  obtain ⟨c0, c1⟩ := cells2 h1
  have HM := hide h1
  have H2 := hide h2
  have HD := hide hd
  have HC := hide hC
  have HY := hide hY
  clear h1 h2 hd hY hC
  go_enter Try.func37, Try.ntmps37
  go_wp2_with fail
  refine TH.out.mono ?_
  rintro e w' ⟨rfl, hq⟩
  obtain rfl := hq.symm
  clear hq
  go_wp2_with fail
  clear c0 c1 TH
  go_loopw [6] (fun i wr => ∃ (o : Option Addr) (Z : List (Int × Int)), i = .pointer o ∧ TL wr (.pointer o) Z ∧ Dec (c key) Z ∧ it (c key) X = it (c key) Z ∧ Calm w wr) (fun i wr => cnt wr i)
  case atStart => exact ⟨ro, X, rfl, H2.out, HD.out, rfl, Touch.refl _ _⟩
  case round =>
    obtain ⟨o, Z, rfl, htl, hdz, hit, tr⟩ := hrel
    have HIT := hide hit
    have TR := hide tr
    clear hit tr
    cases htl with
    | nil =>
      clear hdz
      go_wp2_with fail
      go_ret2
      refine ⟨?_, TR.out⟩
      unfold was
      rw [HIT.out]
      rfl
    | @node b k v p q L R hb g1 g2 =>
      have CA := hide (fun W (h : Calm w W) => HC.out.calls key k W (HC.out.calm _ _ HY.out h))
      have HB := hide hb
      have HZ := hide hdz
      have G1 := hide g1
      have G2 := hide g2
      have CN := hide (TL.node hb g1 g2).cnt
      have hsign := sign3 (c key k)
      clear hb hdz g1 g2
      generalize hcz : c key k = cz at *
      have HCZ := hide hcz
      clear hcz
      go_wp2_with fail
      refine wp_region_held (S := Calm wr) (by kernel_rfl) ?_
      have hT0 : Calm wr { wr with drawn := wr.drawn + 1 } := (Touch.refl (fun _ => False) wr).drew
      refine wpAnyH_yield 0 17 (.pointer (some ⟨m, 0, none⟩)) rfl rfl (by kernel_rfl) (by kernel_rfl) (by kernel_rfl) (fun _ _ _ h => h) (by kernel_rfl) (fun W hW => by kernel_rfl) (by assumption) rfl rfl ?_
      simp only [Act.put, List.setIfInBounds_toArray, List.set_cons_zero, List.set_cons_succ]
      refine wpAnyH_yield 1 18 (.pointer (some ⟨m, 0, none⟩)) rfl rfl (by kernel_rfl) (by kernel_rfl) (by kernel_rfl) (fun _ _ _ h => h) (by kernel_rfl) (fun W hW => by kernel_rfl) (by assumption) rfl rfl ?_
      simp only [Act.put, List.setIfInBounds_toArray, List.set_cons_zero, List.set_cons_succ]
      refine wpAnyH_yield 2 19 (.pointer (some ⟨m, 0, none⟩)) rfl rfl (by kernel_rfl) (by kernel_rfl) (by kernel_rfl) (fun _ _ _ h => h) (by kernel_rfl) (fun W hW => by go_simp) (by assumption) rfl rfl ?_
      simp only [Act.put, List.setIfInBounds_toArray, List.set_cons_zero, List.set_cons_succ]
      refine wpAnyH_yield 3 20 (.func (.func f) #[] lb) rfl rfl (by kernel_rfl) (by kernel_rfl) (by kernel_rfl) (fun _ _ _ h => h) (by kernel_rfl) (fun W hW => by obtain ⟨c0, c1⟩ := cells2 (hW.at (TR.out.at HM.out)); go_simp) (by assumption) rfl rfl ?_
      simp only [Act.put, List.setIfInBounds_toArray, List.set_cons_zero, List.set_cons_succ]
      refine wpAnyH_yield 4 21 (.int .i64 key) rfl rfl (by kernel_rfl) (by kernel_rfl) (by kernel_rfl) (fun _ _ _ h => h) (by kernel_rfl) (fun W hW => by kernel_rfl) (by assumption) rfl rfl ?_
      simp only [Act.put, List.setIfInBounds_toArray, List.set_cons_zero, List.set_cons_succ]
      refine wpAnyH_yield 5 22 (.pointer (some ⟨b, 0, none⟩)) rfl rfl (by kernel_rfl) (by kernel_rfl) (by kernel_rfl) (fun _ _ _ h => h) (by kernel_rfl) (fun W hW => by kernel_rfl) (by assumption) rfl rfl ?_
      simp only [Act.put, List.setIfInBounds_toArray, List.set_cons_zero, List.set_cons_succ]
      refine wpAnyH_yield 6 23 (.pointer (some ⟨b, 0, none⟩)) rfl rfl (by kernel_rfl) (by kernel_rfl) (by kernel_rfl) (fun _ _ _ h => h) (by kernel_rfl) (fun W hW => by kernel_rfl) (by assumption) rfl rfl ?_
      simp only [Act.put, List.setIfInBounds_toArray, List.set_cons_zero, List.set_cons_succ]
      refine wpAnyH_yield 7 24 (.pointer (some ⟨b, 0, none⟩)) rfl rfl (by kernel_rfl) (by kernel_rfl) (by kernel_rfl) (fun _ _ _ h => h) (by kernel_rfl) (fun W hW => by go_simp) (by assumption) rfl rfl ?_
      simp only [Act.put, List.setIfInBounds_toArray, List.set_cons_zero, List.set_cons_succ]
      refine wpAnyH_yield 8 25 (.int .i64 k) rfl rfl (by kernel_rfl) (by kernel_rfl) (by kernel_rfl) (fun _ _ _ h => h) (by kernel_rfl) (fun W hW => by obtain ⟨c0, c1, c2, c3, c4⟩ := cells5 (hW.at HB.out); go_simp) (by assumption) rfl rfl ?_
      simp only [Act.put, List.setIfInBounds_toArray, List.set_cons_zero, List.set_cons_succ]
      refine wpAnyH_enter 9 26 f (#[.int .i64 key, .int .i64 k] ++ lb) rfl rfl (by kernel_rfl) (by kernel_rfl) (by have e := HC.out.enter; go_simp) ?_
      refine (CA.out _ (TR.out.tr hT0)).mono ?_
      rintro r _ ⟨rfl, rfl⟩
      refine ⟨_, rfl, hT0, ?_⟩
      simp only [Act.put, List.setIfInBounds_toArray, List.set_cons_zero, List.set_cons_succ]
      refine wpAnyH_yield 10 7 (.int .i64 cz) rfl rfl (by kernel_rfl) (by kernel_rfl) (by kernel_rfl) (fun _ _ _ h => h) (by kernel_rfl) (fun W hW => by kernel_rfl) (by assumption) rfl rfl ?_
      simp only [Act.put, List.setIfInBounds_toArray, List.set_cons_zero, List.set_cons_succ]
      refine wpAnyH_done (by kernel_rfl) ?_ _
      have HB1 := hide (hT0.at HB.out)
      have T1 := hide hT0
      generalize ({ wr with drawn := wr.drawn + 1 } : World) = w2 at *
      clear hT0 CA
      obtain ⟨-, c1, -, c3, c4⟩ := cells5 HB1.out
      rcases (show (cz < 0 ∧ sd cz = 0 ∧ ¬ cz = 0) ∨ (0 < cz ∧ sd cz = 1 ∧ ¬ cz = 0) ∨ cz = 0 from by rcases hsign with h | h | h <;> simp [h]) with ⟨hz, hs, hz'⟩ | ⟨hz, hs, hz'⟩ | hz
      · have SO := hide (sideOf_any cz)
        rw [hs] at SO
        have hw := hide (neg_way HZ.out (x := (k, v)) (by show c key k < 0; rw [HCZ.out]; exact hz))
        clear hsign hz hs c1 c3 c4
        go_wp2_with fail
        refine wp_region_held (S := Calm w2) (by kernel_rfl) ?_
        have hT0 : Calm w2 { w2 with drawn := w2.drawn + 1 } := (Touch.refl (fun _ => False) w2).drew
        refine wpAnyH_yield 0 33 (.pointer (some ⟨b, 0, none⟩)) rfl rfl (by kernel_rfl) (by kernel_rfl) (by kernel_rfl) (fun _ _ _ h => h) (by kernel_rfl) (fun W hW => by kernel_rfl) (by assumption) rfl rfl ?_
        simp only [Act.put, List.setIfInBounds_toArray, List.set_cons_zero, List.set_cons_succ]
        refine wpAnyH_yield 1 34 (.int .i64 cz) rfl rfl (by kernel_rfl) (by kernel_rfl) (by kernel_rfl) (fun _ _ _ h => h) (by kernel_rfl) (fun W hW => by kernel_rfl) (by assumption) rfl rfl ?_
        simp only [Act.put, List.setIfInBounds_toArray, List.set_cons_zero, List.set_cons_succ]
        refine wpAnyH_yield 3 36 (.pointer (some ⟨b, 0, none⟩)) rfl rfl (by kernel_rfl) (by kernel_rfl) (by kernel_rfl) (fun _ _ _ h => h) (by kernel_rfl) (fun W hW => by kernel_rfl) (by assumption) rfl rfl ?_
        simp only [Act.put, List.setIfInBounds_toArray, List.set_cons_zero, List.set_cons_succ]
        refine wpAnyH_yield 4 37 (.pointer (some ⟨b, 3, none⟩)) rfl rfl (by kernel_rfl) (by kernel_rfl) (by kernel_rfl) (fun _ _ _ h => h) (by kernel_rfl) (fun W hW => by go_simp) (by assumption) rfl rfl ?_
        simp only [Act.put, List.setIfInBounds_toArray, List.set_cons_zero, List.set_cons_succ]
        refine wpAnyH_enter 2 35 60 #[.int .i64 cz] rfl rfl (by kernel_rfl) (by kernel_rfl) (by kernel_rfl) ?_
        refine (SO.out _).mono ?_
        rintro r _ ⟨rfl, rfl⟩
        refine ⟨_, rfl, hT0, ?_⟩
        simp only [Act.put, List.setIfInBounds_toArray, List.set_cons_zero, List.set_cons_succ]
        refine wpAnyH_yield 5 38 (.pointer (some ⟨b, 3, none⟩)) rfl rfl (by kernel_rfl) (by kernel_rfl) (by kernel_rfl) (fun _ _ _ h => h) (by kernel_rfl) (fun W hW => by go_simp) (by assumption) rfl rfl ?_
        simp only [Act.put, List.setIfInBounds_toArray, List.set_cons_zero, List.set_cons_succ]
        refine wpAnyH_yield 6 39 (.pointer p) rfl rfl (by kernel_rfl) (by kernel_rfl) (by kernel_rfl) (fun _ _ _ h => h) (by kernel_rfl) (fun W hW => by obtain ⟨c0, c1, c2, c3, c4⟩ := cells5 (hW.at HB1.out); go_simp) (by assumption) rfl rfl ?_
        simp only [Act.put, List.setIfInBounds_toArray, List.set_cons_zero, List.set_cons_succ]
        refine wpAnyH_yield 7 6 (.pointer p) rfl rfl (by kernel_rfl) (by kernel_rfl) (by kernel_rfl) (fun _ _ _ h => h) (by kernel_rfl) (fun W hW => by kernel_rfl) (by assumption) rfl rfl ?_
        simp only [Act.put, List.setIfInBounds_toArray, List.set_cons_zero, List.set_cons_succ]
        refine wpAnyH_done (by kernel_rfl) ?_ _
        have T2 := hide (T1.out.tr hT0)
        generalize ({ w2 with drawn := w2.drawn + 1 } : World) = w3 at *
        clear hT0
        go_wp2_with fail
        go_roundw
        case rel => exact ⟨p, L, rfl, G1.out.calm T2.out, HZ.out.parts.1, by rw [HIT.out]; exact hw.out.2.2, TR.out.tr T2.out⟩
        case measure =>
          rw [CN.out, (G1.out.calm T2.out).cnt]
          simp only [List.length_append, List.length_cons]
          omega
      · have SO := hide (sideOf_any cz)
        rw [hs] at SO
        have hw := hide (pos_way HZ.out (x := (k, v)) (by show 0 < c key k; rw [HCZ.out]; exact hz))
        clear hsign hz hs c1 c3 c4
        go_wp2_with fail
        refine wp_region_held (S := Calm w2) (by kernel_rfl) ?_
        have hT0 : Calm w2 { w2 with drawn := w2.drawn + 1 } := (Touch.refl (fun _ => False) w2).drew
        refine wpAnyH_yield 0 33 (.pointer (some ⟨b, 0, none⟩)) rfl rfl (by kernel_rfl) (by kernel_rfl) (by kernel_rfl) (fun _ _ _ h => h) (by kernel_rfl) (fun W hW => by kernel_rfl) (by assumption) rfl rfl ?_
        simp only [Act.put, List.setIfInBounds_toArray, List.set_cons_zero, List.set_cons_succ]
        refine wpAnyH_yield 1 34 (.int .i64 cz) rfl rfl (by kernel_rfl) (by kernel_rfl) (by kernel_rfl) (fun _ _ _ h => h) (by kernel_rfl) (fun W hW => by kernel_rfl) (by assumption) rfl rfl ?_
        simp only [Act.put, List.setIfInBounds_toArray, List.set_cons_zero, List.set_cons_succ]
        refine wpAnyH_yield 3 36 (.pointer (some ⟨b, 0, none⟩)) rfl rfl (by kernel_rfl) (by kernel_rfl) (by kernel_rfl) (fun _ _ _ h => h) (by kernel_rfl) (fun W hW => by kernel_rfl) (by assumption) rfl rfl ?_
        simp only [Act.put, List.setIfInBounds_toArray, List.set_cons_zero, List.set_cons_succ]
        refine wpAnyH_yield 4 37 (.pointer (some ⟨b, 3, none⟩)) rfl rfl (by kernel_rfl) (by kernel_rfl) (by kernel_rfl) (fun _ _ _ h => h) (by kernel_rfl) (fun W hW => by go_simp) (by assumption) rfl rfl ?_
        simp only [Act.put, List.setIfInBounds_toArray, List.set_cons_zero, List.set_cons_succ]
        refine wpAnyH_enter 2 35 60 #[.int .i64 cz] rfl rfl (by kernel_rfl) (by kernel_rfl) (by kernel_rfl) ?_
        refine (SO.out _).mono ?_
        rintro r _ ⟨rfl, rfl⟩
        refine ⟨_, rfl, hT0, ?_⟩
        simp only [Act.put, List.setIfInBounds_toArray, List.set_cons_zero, List.set_cons_succ]
        refine wpAnyH_yield 5 38 (.pointer (some ⟨b, 4, none⟩)) rfl rfl (by kernel_rfl) (by kernel_rfl) (by kernel_rfl) (fun _ _ _ h => h) (by kernel_rfl) (fun W hW => by go_simp) (by assumption) rfl rfl ?_
        simp only [Act.put, List.setIfInBounds_toArray, List.set_cons_zero, List.set_cons_succ]
        refine wpAnyH_yield 6 39 (.pointer q) rfl rfl (by kernel_rfl) (by kernel_rfl) (by kernel_rfl) (fun _ _ _ h => h) (by kernel_rfl) (fun W hW => by obtain ⟨c0, c1, c2, c3, c4⟩ := cells5 (hW.at HB1.out); go_simp) (by assumption) rfl rfl ?_
        simp only [Act.put, List.setIfInBounds_toArray, List.set_cons_zero, List.set_cons_succ]
        refine wpAnyH_yield 7 6 (.pointer q) rfl rfl (by kernel_rfl) (by kernel_rfl) (by kernel_rfl) (fun _ _ _ h => h) (by kernel_rfl) (fun W hW => by kernel_rfl) (by assumption) rfl rfl ?_
        simp only [Act.put, List.setIfInBounds_toArray, List.set_cons_zero, List.set_cons_succ]
        refine wpAnyH_done (by kernel_rfl) ?_ _
        have T2 := hide (T1.out.tr hT0)
        generalize ({ w2 with drawn := w2.drawn + 1 } : World) = w3 at *
        clear hT0
        go_wp2_with fail
        go_roundw
        case rel => exact ⟨q, R, rfl, G2.out.calm T2.out, HZ.out.parts.2.1, by rw [HIT.out]; exact hw.out.2.2, TR.out.tr T2.out⟩
        case measure =>
          rw [CN.out, (G2.out.calm T2.out).cnt]
          simp only [List.length_append, List.length_cons]
          omega
      · subst hz
        have hw := hide (at_way HZ.out (x := (k, v)) HCZ.out)
        clear hsign c3 c4
        go_wp2_with fail
        go_ret2
        refine ⟨?_, TR.out.tr T1.out⟩
        unfold was
        rw [HIT.out, hw.out.2.2]
        rfl

theorem place_sum {a l : Nat} (h : Low (a + l)) : wrap64 ((a : Int) + (l : Int)) = ((a + l : Nat) : Int) := by have := h.le; unfold wrap64; omega
theorem place_sum1 {a l : Nat} (h : Low (a + l + 1)) : wrap64 ((a : Int) + wrap64 ((l : Int) + 1)) = ((a + l + 1 : Nat) : Int) := by have := h.le; unfold wrap64; omega

set_option maxRecDepth 100000 in
set_option maxHeartbeats 1000000 in
theorem place_any {f : Nat} {lb : Array Value} {c : Int → Int → Int} {Y : World → Prop} (hC : Cmp f lb c Y) (m : Nat) (key : Int)
    (w : World) (X : List (Int × Int)) (h : Mt w m f lb X) (hY : Y w) (hd : Dec (c key) X) (low : Low X.length) :
    Calls Try.prog 39 #[.pointer (some ⟨m, 0, none⟩), .int .i64 key] w fun e w' =>
      e = .returned (.tuple #[.int .i64 ((up (c key) X).length : Nat), .bool (it (c key) X).isSome]) ∧ Calm w w' := by
  obtain ⟨ro, h1, h2⟩ := h
  have TH := hide (there_any w m f lb ro h1)
  obtain ⟨c0, c1⟩ := cells2 h1
  have HM := hide h1
  have H2 := hide h2
  have HD := hide hd
  have HC := hide hC
  have HY := hide hY
  have LOW := hide low
  clear h1 h2 hd hY hC low
  go_enter Try.func39, Try.ntmps39
  go_wp2_with fail
  refine TH.out.mono ?_
  rintro e w' ⟨rfl, hq⟩
  obtain rfl := hq.symm
  clear hq
  go_wp2_with fail
  clear c0 c1 TH
  go_loopw [6, 7] (fun j i wr => ∃ (a : Nat) (o : Option Addr) (Z : List (Int × Int)), j = .int .i64 (a : Int) ∧ i = .pointer o ∧ TL wr (.pointer o) Z ∧ Dec (c key) Z ∧ it (c key) X = it (c key) Z ∧ (up (c key) X).length = a + (up (c key) Z).length ∧ a + Z.length ≤ X.length ∧ Calm w wr) (fun _ i wr => cnt wr i)
  case atStart => exact ⟨0, ro, X, rfl, rfl, H2.out, HD.out, rfl, by omega, by omega, Touch.refl _ _⟩
  case round =>
    obtain ⟨a, o, Z, rfl, rfl, htl, hdz, hit, hup, hle, tr⟩ := hrel
    have HIT := hide hit
    have HUP := hide hup
    have HLE := hide hle
    have TR := hide tr
    clear hit hup hle tr
    cases htl with
    | nil =>
      clear hdz
      go_wp2_with fail
      go_ret2
      refine ⟨?_, TR.out⟩
      rw [HIT.out, HUP.out]
      rfl
    | @node b k v p q L R hb g1 g2 =>
      have CA := hide (fun W (h : Calm w W) => HC.out.calls key k W (HC.out.calm _ _ HY.out h))
      have SI := hide (fun W (h : Calm wr W) => size_any _ L W (g1.calm h))
      have HB := hide hb
      have HZ := hide hdz
      have G1 := hide g1
      have G2 := hide g2
      have CN := hide (TL.node hb g1 g2).cnt
      have hll : a + L.length + 1 + R.length ≤ X.length := by have := HLE.out; simp at this; omega
      have HLL := hide hll
      have P0 := hide (place_sum (a := a) (l := L.length) (low_of LOW.out (by omega)))
      have P1 := hide (place_sum1 (a := a) (l := L.length) (low_of LOW.out (by omega)))
      have hsign := sign3 (c key k)
      clear hb hdz g1 g2 hll
      generalize hcz : c key k = cz at *
      have HCZ := hide hcz
      clear hcz
      go_wp2_with fail
      refine wp_region_held (S := Calm wr) (by kernel_rfl) ?_
      have hT0 : Calm wr { wr with drawn := wr.drawn + 1 } := (Touch.refl (fun _ => False) wr).drew
      refine wpAnyH_yield 0 18 (.pointer (some ⟨m, 0, none⟩)) rfl rfl (by kernel_rfl) (by kernel_rfl) (by kernel_rfl) (fun _ _ _ h => h) (by kernel_rfl) (fun W hW => by kernel_rfl) (by assumption) rfl rfl ?_
      simp only [Act.put, List.setIfInBounds_toArray, List.set_cons_zero, List.set_cons_succ]
      refine wpAnyH_yield 1 19 (.pointer (some ⟨m, 0, none⟩)) rfl rfl (by kernel_rfl) (by kernel_rfl) (by kernel_rfl) (fun _ _ _ h => h) (by kernel_rfl) (fun W hW => by kernel_rfl) (by assumption) rfl rfl ?_
      simp only [Act.put, List.setIfInBounds_toArray, List.set_cons_zero, List.set_cons_succ]
      refine wpAnyH_yield 2 20 (.pointer (some ⟨m, 0, none⟩)) rfl rfl (by kernel_rfl) (by kernel_rfl) (by kernel_rfl) (fun _ _ _ h => h) (by kernel_rfl) (fun W hW => by go_simp) (by assumption) rfl rfl ?_
      simp only [Act.put, List.setIfInBounds_toArray, List.set_cons_zero, List.set_cons_succ]
      refine wpAnyH_yield 3 21 (.func (.func f) #[] lb) rfl rfl (by kernel_rfl) (by kernel_rfl) (by kernel_rfl) (fun _ _ _ h => h) (by kernel_rfl) (fun W hW => by obtain ⟨c0, c1⟩ := cells2 (hW.at (TR.out.at HM.out)); go_simp) (by assumption) rfl rfl ?_
      simp only [Act.put, List.setIfInBounds_toArray, List.set_cons_zero, List.set_cons_succ]
      refine wpAnyH_yield 4 22 (.int .i64 key) rfl rfl (by kernel_rfl) (by kernel_rfl) (by kernel_rfl) (fun _ _ _ h => h) (by kernel_rfl) (fun W hW => by kernel_rfl) (by assumption) rfl rfl ?_
      simp only [Act.put, List.setIfInBounds_toArray, List.set_cons_zero, List.set_cons_succ]
      refine wpAnyH_yield 5 23 (.pointer (some ⟨b, 0, none⟩)) rfl rfl (by kernel_rfl) (by kernel_rfl) (by kernel_rfl) (fun _ _ _ h => h) (by kernel_rfl) (fun W hW => by kernel_rfl) (by assumption) rfl rfl ?_
      simp only [Act.put, List.setIfInBounds_toArray, List.set_cons_zero, List.set_cons_succ]
      refine wpAnyH_yield 6 24 (.pointer (some ⟨b, 0, none⟩)) rfl rfl (by kernel_rfl) (by kernel_rfl) (by kernel_rfl) (fun _ _ _ h => h) (by kernel_rfl) (fun W hW => by kernel_rfl) (by assumption) rfl rfl ?_
      simp only [Act.put, List.setIfInBounds_toArray, List.set_cons_zero, List.set_cons_succ]
      refine wpAnyH_yield 7 25 (.pointer (some ⟨b, 0, none⟩)) rfl rfl (by kernel_rfl) (by kernel_rfl) (by kernel_rfl) (fun _ _ _ h => h) (by kernel_rfl) (fun W hW => by go_simp) (by assumption) rfl rfl ?_
      simp only [Act.put, List.setIfInBounds_toArray, List.set_cons_zero, List.set_cons_succ]
      refine wpAnyH_yield 8 26 (.int .i64 k) rfl rfl (by kernel_rfl) (by kernel_rfl) (by kernel_rfl) (fun _ _ _ h => h) (by kernel_rfl) (fun W hW => by obtain ⟨c0, c1, c2, c3, c4⟩ := cells5 (hW.at HB.out); go_simp) (by assumption) rfl rfl ?_
      simp only [Act.put, List.setIfInBounds_toArray, List.set_cons_zero, List.set_cons_succ]
      refine wpAnyH_enter 9 27 f (#[.int .i64 key, .int .i64 k] ++ lb) rfl rfl (by kernel_rfl) (by kernel_rfl) (by have e := HC.out.enter; go_simp) ?_
      refine (CA.out _ (TR.out.tr hT0)).mono ?_
      rintro r _ ⟨rfl, rfl⟩
      refine ⟨_, rfl, hT0, ?_⟩
      simp only [Act.put, List.setIfInBounds_toArray, List.set_cons_zero, List.set_cons_succ]
      refine wpAnyH_yield 10 8 (.int .i64 cz) rfl rfl (by kernel_rfl) (by kernel_rfl) (by kernel_rfl) (fun _ _ _ h => h) (by kernel_rfl) (fun W hW => by kernel_rfl) (by assumption) rfl rfl ?_
      simp only [Act.put, List.setIfInBounds_toArray, List.set_cons_zero, List.set_cons_succ]
      refine wpAnyH_done (by kernel_rfl) ?_ _
      have HB1 := hide (hT0.at HB.out)
      have T1 := hide hT0
      generalize ({ wr with drawn := wr.drawn + 1 } : World) = w2 at *
      clear hT0 CA
      obtain ⟨-, -, -, c3, c4⟩ := cells5 HB1.out
      rcases (show (cz < 0 ∧ sd cz = 0 ∧ ¬ cz = 0 ∧ ¬ 0 < cz) ∨ (0 < cz ∧ sd cz = 1 ∧ ¬ cz = 0 ∧ 0 < cz) ∨ cz = 0 from by rcases hsign with h | h | h <;> simp [h]) with ⟨hz, hs, hz', hz''⟩ | ⟨hz, hs, hz', hz''⟩ | hz
      · have SO := hide (sideOf_any cz)
        rw [hs] at SO
        have hw := hide (neg_way HZ.out (x := (k, v)) (by show c key k < 0; rw [HCZ.out]; exact hz))
        clear hsign hz hs
        go_wp2_with fail
        skip
        skip
        skip
        skip
        skip
        skip
        refine wp_region_held (S := Calm w2) (by kernel_rfl) ?_
        have hT0 : Calm w2 { w2 with drawn := w2.drawn + 1 } := (Touch.refl (fun _ => False) w2).drew
        clear c3 c4
        refine wpAnyH_yield 0 49 (.pointer (some ⟨b, 0, none⟩)) rfl rfl (by kernel_rfl) (by kernel_rfl) (by kernel_rfl) (fun _ _ _ h => h) (by kernel_rfl) (fun W hW => by kernel_rfl) (by assumption) rfl rfl ?_
        simp only [Act.put, List.setIfInBounds_toArray, List.set_cons_zero, List.set_cons_succ]
        refine wpAnyH_yield 1 50 (.int .i64 cz) rfl rfl (by kernel_rfl) (by kernel_rfl) (by kernel_rfl) (fun _ _ _ h => h) (by kernel_rfl) (fun W hW => by kernel_rfl) (by assumption) rfl rfl ?_
        simp only [Act.put, List.setIfInBounds_toArray, List.set_cons_zero, List.set_cons_succ]
        refine wpAnyH_yield 3 52 (.pointer (some ⟨b, 0, none⟩)) rfl rfl (by kernel_rfl) (by kernel_rfl) (by kernel_rfl) (fun _ _ _ h => h) (by kernel_rfl) (fun W hW => by kernel_rfl) (by assumption) rfl rfl ?_
        simp only [Act.put, List.setIfInBounds_toArray, List.set_cons_zero, List.set_cons_succ]
        refine wpAnyH_yield 4 53 (.pointer (some ⟨b, 3, none⟩)) rfl rfl (by kernel_rfl) (by kernel_rfl) (by kernel_rfl) (fun _ _ _ h => h) (by kernel_rfl) (fun W hW => by go_simp) (by assumption) rfl rfl ?_
        simp only [Act.put, List.setIfInBounds_toArray, List.set_cons_zero, List.set_cons_succ]
        refine wpAnyH_enter 2 51 60 #[.int .i64 cz] rfl rfl (by kernel_rfl) (by kernel_rfl) (by kernel_rfl) ?_
        refine (SO.out _).mono ?_
        rintro r _ ⟨rfl, rfl⟩
        refine ⟨_, rfl, hT0, ?_⟩
        simp only [Act.put, List.setIfInBounds_toArray, List.set_cons_zero, List.set_cons_succ]
        refine wpAnyH_yield 5 54 (.pointer (some ⟨b, 3, none⟩)) rfl rfl (by kernel_rfl) (by kernel_rfl) (by kernel_rfl) (fun _ _ _ h => h) (by kernel_rfl) (fun W hW => by go_simp) (by assumption) rfl rfl ?_
        simp only [Act.put, List.setIfInBounds_toArray, List.set_cons_zero, List.set_cons_succ]
        refine wpAnyH_yield 6 55 (.pointer p) rfl rfl (by kernel_rfl) (by kernel_rfl) (by kernel_rfl) (fun _ _ _ h => h) (by kernel_rfl) (fun W hW => by obtain ⟨c0, c1, c2, c3, c4⟩ := cells5 (hW.at HB1.out); go_simp) (by assumption) rfl rfl ?_
        simp only [Act.put, List.setIfInBounds_toArray, List.set_cons_zero, List.set_cons_succ]
        refine wpAnyH_yield 7 7 (.pointer p) rfl rfl (by kernel_rfl) (by kernel_rfl) (by kernel_rfl) (fun _ _ _ h => h) (by kernel_rfl) (fun W hW => by kernel_rfl) (by assumption) rfl rfl ?_
        simp only [Act.put, List.setIfInBounds_toArray, List.set_cons_zero, List.set_cons_succ]
        refine wpAnyH_done (by kernel_rfl) ?_ _
        have T2 := hide (T1.out.tr hT0)
        generalize ({ w2 with drawn := w2.drawn + 1 } : World) = w3 at *
        clear hT0
        go_wp2_with fail
        go_roundw
        case rel => exact ⟨a, p, L, rfl, rfl, G1.out.calm T2.out, HZ.out.parts.1, by rw [HIT.out]; exact hw.out.2.2, by rw [HUP.out, hw.out.1], by have := HLL.out; omega, TR.out.tr T2.out⟩
        case measure =>
          rw [CN.out, (G1.out.calm T2.out).cnt]
          simp only [List.length_append, List.length_cons]
          omega
      · have SO := hide (sideOf_any cz)
        rw [hs] at SO
        have hw := hide (pos_way HZ.out (x := (k, v)) (by show 0 < c key k; rw [HCZ.out]; exact hz))
        clear hsign hz hs
        go_wp2_with fail
        refine (SI.out _ T1.out).mono ?_
        rintro e w' ⟨rfl, hq⟩
        obtain rfl := hq.symm
        clear hq
        go_wp2_with fail
        rw [P1.out]
        refine wp_region_held (S := Calm w2) (by kernel_rfl) ?_
        have hT0 : Calm w2 { w2 with drawn := w2.drawn + 1 } := (Touch.refl (fun _ => False) w2).drew
        clear c3 c4
        refine wpAnyH_yield 0 49 (.pointer (some ⟨b, 0, none⟩)) rfl rfl (by kernel_rfl) (by kernel_rfl) (by kernel_rfl) (fun _ _ _ h => h) (by kernel_rfl) (fun W hW => by kernel_rfl) (by assumption) rfl rfl ?_
        simp only [Act.put, List.setIfInBounds_toArray, List.set_cons_zero, List.set_cons_succ]
        refine wpAnyH_yield 1 50 (.int .i64 cz) rfl rfl (by kernel_rfl) (by kernel_rfl) (by kernel_rfl) (fun _ _ _ h => h) (by kernel_rfl) (fun W hW => by kernel_rfl) (by assumption) rfl rfl ?_
        simp only [Act.put, List.setIfInBounds_toArray, List.set_cons_zero, List.set_cons_succ]
        refine wpAnyH_yield 3 52 (.pointer (some ⟨b, 0, none⟩)) rfl rfl (by kernel_rfl) (by kernel_rfl) (by kernel_rfl) (fun _ _ _ h => h) (by kernel_rfl) (fun W hW => by kernel_rfl) (by assumption) rfl rfl ?_
        simp only [Act.put, List.setIfInBounds_toArray, List.set_cons_zero, List.set_cons_succ]
        refine wpAnyH_yield 4 53 (.pointer (some ⟨b, 3, none⟩)) rfl rfl (by kernel_rfl) (by kernel_rfl) (by kernel_rfl) (fun _ _ _ h => h) (by kernel_rfl) (fun W hW => by go_simp) (by assumption) rfl rfl ?_
        simp only [Act.put, List.setIfInBounds_toArray, List.set_cons_zero, List.set_cons_succ]
        refine wpAnyH_enter 2 51 60 #[.int .i64 cz] rfl rfl (by kernel_rfl) (by kernel_rfl) (by kernel_rfl) ?_
        refine (SO.out _).mono ?_
        rintro r _ ⟨rfl, rfl⟩
        refine ⟨_, rfl, hT0, ?_⟩
        simp only [Act.put, List.setIfInBounds_toArray, List.set_cons_zero, List.set_cons_succ]
        refine wpAnyH_yield 5 54 (.pointer (some ⟨b, 4, none⟩)) rfl rfl (by kernel_rfl) (by kernel_rfl) (by kernel_rfl) (fun _ _ _ h => h) (by kernel_rfl) (fun W hW => by go_simp) (by assumption) rfl rfl ?_
        simp only [Act.put, List.setIfInBounds_toArray, List.set_cons_zero, List.set_cons_succ]
        refine wpAnyH_yield 6 55 (.pointer q) rfl rfl (by kernel_rfl) (by kernel_rfl) (by kernel_rfl) (fun _ _ _ h => h) (by kernel_rfl) (fun W hW => by obtain ⟨c0, c1, c2, c3, c4⟩ := cells5 (hW.at HB1.out); go_simp) (by assumption) rfl rfl ?_
        simp only [Act.put, List.setIfInBounds_toArray, List.set_cons_zero, List.set_cons_succ]
        refine wpAnyH_yield 7 7 (.pointer q) rfl rfl (by kernel_rfl) (by kernel_rfl) (by kernel_rfl) (fun _ _ _ h => h) (by kernel_rfl) (fun W hW => by kernel_rfl) (by assumption) rfl rfl ?_
        simp only [Act.put, List.setIfInBounds_toArray, List.set_cons_zero, List.set_cons_succ]
        refine wpAnyH_done (by kernel_rfl) ?_ _
        have T2 := hide (T1.out.tr hT0)
        generalize ({ w2 with drawn := w2.drawn + 1 } : World) = w3 at *
        clear hT0
        go_wp2_with fail
        go_roundw
        case rel => exact ⟨a + L.length + 1, q, R, rfl, rfl, G2.out.calm T2.out, HZ.out.parts.2.1, by rw [HIT.out]; exact hw.out.2.2, by rw [HUP.out, hw.out.1]; simp; omega, by have := HLL.out; omega, TR.out.tr T2.out⟩
        case measure =>
          rw [CN.out, (G2.out.calm T2.out).cnt]
          simp only [List.length_append, List.length_cons]
          omega
      · subst hz
        have hw := hide (at_way HZ.out (x := (k, v)) HCZ.out)
        clear hsign
        go_wp2_with fail
        refine (SI.out _ T1.out).mono ?_
        rintro e w' ⟨rfl, hq⟩
        obtain rfl := hq.symm
        clear hq
        go_wp2_with fail
        go_ret2
        refine ⟨?_, TR.out.tr T1.out⟩
        rw [HIT.out, HUP.out, hw.out.2.2, hw.out.1, ← P0.out]
        rfl

end Go.Proofs.Ytegiinnhknfjjaa.IM
