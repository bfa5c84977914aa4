/- The program's drop: a key taken out of a tree. -/
import Derived.Test.YtegiinnhknfjjaaILay
namespace Go.Proofs.Ytegiinnhknfjjaa.IM
open Go.RowKit

set_option maxRecDepth 100000 in
set_option maxHeartbeats 1000000 in
theorem drop_any {f : Nat} {lb : Array Value} {c : Int → Int → Int} {Y : World → Prop} (hC : Cmp f lb c Y) (m : Nat) (ro : Option Addr) (key : Int)
    {w : World} {p : Value} {X : List (Int × Int)} (h : TL w p X) (hm : Mp w m f lb ro) (hY : Y w) (hd : Dec (c key) X) (low : Low X.length) :
    ∀ w1, Calm w w1 → Calls Try.prog 63 #[.pointer (some ⟨m, 0, none⟩), p, .int .i64 key] w1 fun e w' =>
      ∃ r, e = .returned (.tuple #[.pointer r, .int .i64 (was (c key) X), .bool (it (c key) X).isSome]) ∧ TL w' (.pointer r) (ldrop (c key) X) ∧ Calm w1 w' := by
  induction h with
  | nil =>
    intro w1 t1
    go_enter Try.func63, Try.ntmps63
    go_wp2_with fail
    go_ret3
    exact ⟨none, rfl, .nil, Touch.refl _ _⟩
  | @node b k v p q L R hb h1 h2 i1 i2 =>
  intro w1 t1
  have LOW : Hid (Low (L.length + 1 + R.length)) := hide (by refine low_of low ?_; simp; omega)
  have HB := hide (t1.at hb)
  have HN : Hid (Nd w1 b k v p q) := hide ⟨_, t1.at hb⟩
  have HM := hide (t1.at hm)
  have H1 := hide (h1.calm t1)
  have H2 := hide (h2.calm t1)
  have H0 := hide ((TL.node hb h1 h2).calm t1)
  have HC := hide hC
  have HY := hide (hC.calm _ _ hY t1)
  have HD := hide hd
  have CA := hide (fun W (h : Calm w1 W) => hC.calls key k W (hC.calm _ _ HY.out h))
  have I1 := hide (fun W (h : Calm w1 W) => i1 hd.parts.1 (low_of LOW.out (by omega)) W (t1.tr h))
  have I2 := hide (fun W (h : Calm w1 W) => i2 hd.parts.2.1 (low_of LOW.out (by omega)) W (t1.tr h))
  have hsign : (c key k < 0 ∧ sd (c key k) = 0) ∨ c key k = 0 ∨ (0 < c key k ∧ sd (c key k) = 1) := by
    unfold sd
    rcases Int.lt_trichotomy (c key k) 0 with h | h | h
    · exact .inl ⟨h, if_pos h⟩
    · exact .inr (.inl h)
    · exact .inr (.inr ⟨h, if_neg (by omega)⟩)
  have hne : ∀ z : Int, z < 0 → ¬ z = 0 := fun z h => by omega
  have hne' : ∀ z : Int, 0 < z → ¬ z = 0 := fun z h => by omega
  clear i1 i2 h1 h2 hb hd low hY hm hC t1
  generalize hcz : c key k = cz at *
  have HCZ := hide hcz
  clear hcz
  go_enter Try.func63, Try.ntmps63
  go_wp2_with fail
  refine wp_region_held (S := Calm w1) (by kernel_rfl) ?_
  have hT0 : Calm w1 { w1 with drawn := w1.drawn + 1 } := (Touch.refl (fun _ => False) w1).drew
  refine wpAnyH_yield 0 18 (.pointer (some ⟨m, 0, none⟩)) rfl rfl (by kernel_rfl) (by kernel_rfl) (by kernel_rfl) (fun _ _ _ h => h) (by kernel_rfl) (fun W hW => by kernel_rfl) (by assumption) rfl rfl ?_
  simp only [Act.put, List.setIfInBounds_toArray, List.set_cons_zero, List.set_cons_succ]
  refine wpAnyH_yield 1 19 (.pointer (some ⟨m, 0, none⟩)) rfl rfl (by kernel_rfl) (by kernel_rfl) (by kernel_rfl) (fun _ _ _ h => h) (by kernel_rfl) (fun W hW => by kernel_rfl) (by assumption) rfl rfl ?_
  simp only [Act.put, List.setIfInBounds_toArray, List.set_cons_zero, List.set_cons_succ]
  refine wpAnyH_yield 2 20 (.pointer (some ⟨m, 0, none⟩)) rfl rfl (by kernel_rfl) (by kernel_rfl) (by kernel_rfl) (fun _ _ _ h => h) (by kernel_rfl) (fun W hW => by go_simp) (by assumption) rfl rfl ?_
  simp only [Act.put, List.setIfInBounds_toArray, List.set_cons_zero, List.set_cons_succ]
  refine wpAnyH_yield 3 21 (.func (.func f) #[] lb) rfl rfl (by kernel_rfl) (by kernel_rfl) (by kernel_rfl) (fun _ _ _ h => h) (by kernel_rfl) (fun W hW => by obtain ⟨c0, c1⟩ := cells2 (hW.at HM.out); go_simp) (by assumption) rfl rfl ?_
  simp only [Act.put, List.setIfInBounds_toArray, List.set_cons_zero, List.set_cons_succ]
  refine wpAnyH_yield 4 22 (.int .i64 key) rfl rfl (by kernel_rfl) (by kernel_rfl) (by kernel_rfl) (fun _ _ _ h => h) (by kernel_rfl) (fun W hW => by kernel_rfl) (by assumption) rfl rfl ?_
  simp only [Act.put, List.setIfInBounds_toArray, List.set_cons_zero, List.set_cons_succ]
  refine wpAnyH_yield 5 23 (.pointer (some ⟨b, 0, none⟩)) rfl rfl (by kernel_rfl) (by kernel_rfl) (by kernel_rfl) (fun _ _ _ h => h) (by kernel_rfl) (fun W hW => by kernel_rfl) (by assumption) rfl rfl ?_
  simp only [Act.put, List.setIfInBounds_toArray, List.set_cons_zero, List.set_cons_succ]
  refine wpAnyH_yield 6 24 (.pointer (some ⟨b, 0, none⟩)) rfl rfl (by kernel_rfl) (by kernel_rfl) (by kernel_rfl) (fun _ _ _ h => h) (by kernel_rfl) (fun W hW => by kernel_rfl) (by assumption) rfl rfl ?_
  simp only [Act.put, List.setIfInBounds_toArray, List.set_cons_zero, List.set_cons_succ]
  refine wpAnyH_yield 7 25 (.pointer (some ⟨b, 0, none⟩)) rfl rfl (by kernel_rfl) (by kernel_rfl) (by kernel_rfl) (fun _ _ _ h => h) (by kernel_rfl) (fun W hW => by go_simp) (by assumption) rfl rfl ?_
  simp only [Act.put, List.setIfInBounds_toArray, List.set_cons_zero, List.set_cons_succ]
  refine wpAnyH_yield 8 26 (.int .i64 k) rfl rfl (by kernel_rfl) (by kernel_rfl) (by kernel_rfl) (fun _ _ _ h => h) (by kernel_rfl) (fun W hW => by obtain ⟨c0, c1, c2, c3, c4⟩ := cells5 (hW.at HB.out); go_simp) (by assumption) rfl rfl ?_
  simp only [Act.put, List.setIfInBounds_toArray, List.set_cons_zero, List.set_cons_succ]
  refine wpAnyH_enter 9 27 f (#[.int .i64 key, .int .i64 k] ++ lb) rfl rfl (by kernel_rfl) (by kernel_rfl) (by have e := HC.out.enter; go_simp) ?_
  refine (CA.out _ hT0).mono ?_
  rintro r _ ⟨rfl, rfl⟩
  refine ⟨_, rfl, hT0, ?_⟩
  simp only [Act.put, List.setIfInBounds_toArray, List.set_cons_zero, List.set_cons_succ]
  refine wpAnyH_yield 10 10 (.int .i64 cz) rfl rfl (by kernel_rfl) (by kernel_rfl) (by kernel_rfl) (fun _ _ _ h => h) (by kernel_rfl) (fun W hW => by kernel_rfl) (by assumption) rfl rfl ?_
  simp only [Act.put, List.setIfInBounds_toArray, List.set_cons_zero, List.set_cons_succ]
  refine wpAnyH_done (by kernel_rfl) ?_ _
  have HB1 := hide (hT0.at HB.out)
  have N1 := hide (HN.out.calm hT0)
  have T1 := hide hT0
  have K1 := hide (H1.out.calm hT0)
  have K2 := hide (H2.out.calm hT0)
  generalize ({ w1 with drawn := w1.drawn + 1 } : World) = w2 at *
  clear hT0
  obtain ⟨-, -, -, c3, c4⟩ := cells5 HB1.out
  rcases (show (cz < 0 ∧ sd cz = 0) ∨ (0 < cz ∧ sd cz = 1) ∨ cz = 0 from by rcases hsign with h | h | h <;> simp [h]) with ⟨hz, hs⟩ | ⟨hz, hs⟩ | hz
  · have hz' := hne cz hz
    have SO := hide (sideOf_any cz)
    rw [hs] at SO
    have hw := hide (neg_way HD.out (x := (k, v)) (by show c key k < 0; rw [HCZ.out]; exact hz))
    have hdr := hide (ldrop_neg HD.out (x := (k, v)) (by show c key k < 0; rw [HCZ.out]; exact hz))
    have IH := I1.out w2 T1.out
    go_wp2_with fail
    refine (SO.out _).mono ?_
    rintro e w' ⟨rfl, hq⟩
    obtain rfl := hq.symm
    clear hq
    go_wp2_with fail
    refine IH.mono ?_
    rintro e w3 ⟨r3, rfl, tl3, t3⟩
    clear IH
    cases hit : it (c key) L with
    | none =>
      have H3 := hide (H0.out.calm (T1.out.tr t3))
      have T3 := hide t3
      have HIT := hide hit
      have hwas : was (c key) L = (0 : Int) := by unfold was; rw [hit]; rfl
      simp only [hwas, Option.isSome_none]
      clear tl3 t3 hit hwas
      go_wp2_with fail
      go_ret3
      refine ⟨some ⟨b, 0, none⟩, ?_, ?_, T1.out.tr T3.out⟩
      · unfold was; rw [hw.out.2.2, HIT.out]; rfl
      · rw [ldrop_none HD.out (by rw [hw.out.2.2]; exact HIT.out)]; exact H3.out
    | some a =>
      have hl3 := (ldrop_len HD.out.parts.1).1
      have WA := hide (with0_any b k v p q r3 _ R w3 (N1.out.calm t3) tl3 (K2.out.calm t3) (low_of LOW.out (by omega)))
      have T3 := hide t3
      have HIT := hide hit
      have hwas : was (c key) L = a.2 := by unfold was; rw [hit]; rfl
      simp only [hwas, Option.isSome_some]
      clear hl3 t3 tl3 hit hwas
      go_wp2_with fail
      refine WA.out.mono ?_
      rintro e w4 ⟨b4, rfl, tl4, t4⟩
      go_wp2_with fail
      go_ret3
      refine ⟨some ⟨b4, 0, none⟩, ?_, ?_, T1.out.tr (T3.out.tr t4)⟩
      · unfold was; rw [hw.out.2.2, HIT.out]; rfl
      · rw [hdr.out]; exact tl4
  · have hz' := hne' cz hz
    have SO := hide (sideOf_any cz)
    rw [hs] at SO
    have hw := hide (pos_way HD.out (x := (k, v)) (by show 0 < c key k; rw [HCZ.out]; exact hz))
    have hdr := hide (ldrop_pos HD.out (x := (k, v)) (by show 0 < c key k; rw [HCZ.out]; exact hz))
    have IH := I2.out w2 T1.out
    go_wp2_with fail
    refine (SO.out _).mono ?_
    rintro e w' ⟨rfl, hq⟩
    obtain rfl := hq.symm
    clear hq
    go_wp2_with fail
    refine IH.mono ?_
    rintro e w3 ⟨r3, rfl, tl3, t3⟩
    clear IH
    cases hit : it (c key) R with
    | none =>
      have H3 := hide (H0.out.calm (T1.out.tr t3))
      have T3 := hide t3
      have HIT := hide hit
      have hwas : was (c key) R = (0 : Int) := by unfold was; rw [hit]; rfl
      simp only [hwas, Option.isSome_none]
      clear tl3 t3 hit hwas
      go_wp2_with fail
      go_ret3
      refine ⟨some ⟨b, 0, none⟩, ?_, ?_, T1.out.tr T3.out⟩
      · unfold was; rw [hw.out.2.2, HIT.out]; rfl
      · rw [ldrop_none HD.out (by rw [hw.out.2.2]; exact HIT.out)]; exact H3.out
    | some a =>
      have hl3 := (ldrop_len HD.out.parts.2.1).1
      have WA := hide (with1_any b k v p q r3 L _ w3 (N1.out.calm t3) (K1.out.calm t3) tl3 (low_of LOW.out (by omega)))
      have T3 := hide t3
      have HIT := hide hit
      have hwas : was (c key) R = a.2 := by unfold was; rw [hit]; rfl
      simp only [hwas, Option.isSome_some]
      clear hl3 t3 tl3 hit hwas
      go_wp2_with fail
      refine WA.out.mono ?_
      rintro e w4 ⟨b4, rfl, tl4, t4⟩
      go_wp2_with fail
      go_ret3
      refine ⟨some ⟨b4, 0, none⟩, ?_, ?_, T1.out.tr (T3.out.tr t4)⟩
      · unfold was; rw [hw.out.2.2, HIT.out]; rfl
      · rw [hdr.out]; exact tl4
  · subst hz
    have hw := hide (at_way HD.out (x := (k, v)) HCZ.out)
    have hdr := hide (ldrop_at HD.out (x := (k, v)) HCZ.out)
    have JO := hide (fun W (h : Calm w2 W) => joined_any p q L R W (K1.out.calm h) (K2.out.calm h) (low_of LOW.out (by omega)))
    clear c3 c4 I1 I2 CA
    go_wp2_with fail
    refine wp_region_held (S := Calm w2) (by kernel_rfl) ?_
    have hT0 : Calm w2 { w2 with drawn := w2.drawn + 1 } := (Touch.refl (fun _ => False) w2).drew
    refine wpAnyH_yield 0 30 (.pointer (some ⟨b, 0, none⟩)) rfl rfl (by kernel_rfl) (by kernel_rfl) (by kernel_rfl) (fun _ _ _ h => h) (by kernel_rfl) (fun W hW => by kernel_rfl) (by assumption) rfl rfl ?_
    simp only [Act.put, List.setIfInBounds_toArray, List.set_cons_zero, List.set_cons_succ]
    refine wpAnyH_yield 1 31 (.pointer (some ⟨b, 0, none⟩)) rfl rfl (by kernel_rfl) (by kernel_rfl) (by kernel_rfl) (fun _ _ _ h => h) (by kernel_rfl) (fun W hW => by kernel_rfl) (by assumption) rfl rfl ?_
    simp only [Act.put, List.setIfInBounds_toArray, List.set_cons_zero, List.set_cons_succ]
    refine wpAnyH_yield 2 32 (.pointer (some ⟨b, 3, none⟩)) rfl rfl (by kernel_rfl) (by kernel_rfl) (by kernel_rfl) (fun _ _ _ h => h) (by kernel_rfl) (fun W hW => by go_simp) (by assumption) rfl rfl ?_
    simp only [Act.put, List.setIfInBounds_toArray, List.set_cons_zero, List.set_cons_succ]
    refine wpAnyH_yield 3 33 (.agg #[.pointer p, .pointer q]) rfl rfl (by kernel_rfl) (by kernel_rfl) (by kernel_rfl) (fun _ _ _ h => h) (by kernel_rfl) (fun W hW => by obtain ⟨c0, c1, c2, c3, c4⟩ := cells5 (hW.at HB1.out); go_simp) (by assumption) rfl rfl ?_
    simp only [Act.put, List.setIfInBounds_toArray, List.set_cons_zero, List.set_cons_succ]
    refine wpAnyH_yield 5 35 (.pointer (some ⟨b, 0, none⟩)) rfl rfl (by kernel_rfl) (by kernel_rfl) (by kernel_rfl) (fun _ _ _ h => h) (by kernel_rfl) (fun W hW => by kernel_rfl) (by assumption) rfl rfl ?_
    simp only [Act.put, List.setIfInBounds_toArray, List.set_cons_zero, List.set_cons_succ]
    refine wpAnyH_yield 6 36 (.pointer (some ⟨b, 0, none⟩)) rfl rfl (by kernel_rfl) (by kernel_rfl) (by kernel_rfl) (fun _ _ _ h => h) (by kernel_rfl) (fun W hW => by kernel_rfl) (by assumption) rfl rfl ?_
    simp only [Act.put, List.setIfInBounds_toArray, List.set_cons_zero, List.set_cons_succ]
    refine wpAnyH_yield 7 37 (.pointer (some ⟨b, 1, none⟩)) rfl rfl (by kernel_rfl) (by kernel_rfl) (by kernel_rfl) (fun _ _ _ h => h) (by kernel_rfl) (fun W hW => by go_simp) (by assumption) rfl rfl ?_
    simp only [Act.put, List.setIfInBounds_toArray, List.set_cons_zero, List.set_cons_succ]
    refine wpAnyH_yield 8 38 (.int .i64 v) rfl rfl (by kernel_rfl) (by kernel_rfl) (by kernel_rfl) (fun _ _ _ h => h) (by kernel_rfl) (fun W hW => by obtain ⟨c0, c1, c2, c3, c4⟩ := cells5 (hW.at HB1.out); go_simp) (by assumption) rfl rfl ?_
    simp only [Act.put, List.setIfInBounds_toArray, List.set_cons_zero, List.set_cons_succ]
    refine wpAnyH_enter 4 34 76 #[.agg #[.pointer p, .pointer q]] rfl rfl (by kernel_rfl) (by kernel_rfl) (by kernel_rfl) ?_
    refine (JO.out _ hT0).mono ?_
    rintro e w3 ⟨r3, rfl, tl3, t3⟩
    have hT3 : Calm w2 w3 := hT0.tr t3
    refine ⟨_, rfl, hT3, ?_⟩
    simp only [Act.put, List.setIfInBounds_toArray, List.set_cons_zero, List.set_cons_succ]
    refine wpAnyH_yield 9 6 (.pointer r3) rfl rfl (by kernel_rfl) (by kernel_rfl) (by kernel_rfl) (fun _ _ _ h => h) (by kernel_rfl) (fun W hW => by kernel_rfl) (by assumption) rfl rfl ?_
    simp only [Act.put, List.setIfInBounds_toArray, List.set_cons_zero, List.set_cons_succ]
    refine wpAnyH_yield 10 7 (.int .i64 v) rfl rfl (by kernel_rfl) (by kernel_rfl) (by kernel_rfl) (fun _ _ _ h => h) (by kernel_rfl) (fun W hW => by kernel_rfl) (by assumption) rfl rfl ?_
    simp only [Act.put, List.setIfInBounds_toArray, List.set_cons_zero, List.set_cons_succ]
    refine wpAnyH_yield 11 8 (.bool true) rfl rfl (by kernel_rfl) (by kernel_rfl) (by kernel_rfl) (fun _ _ _ h => h) (by kernel_rfl) (fun W hW => by kernel_rfl) (by assumption) rfl rfl ?_
    simp only [Act.put, List.setIfInBounds_toArray, List.set_cons_zero, List.set_cons_succ]
    refine wpAnyH_done (by kernel_rfl) ?_ _
    clear hT0 t3
    go_wp2_with fail
    go_ret3
    refine ⟨r3, ?_, ?_, T1.out.tr hT3⟩
    · unfold was; rw [hw.out.2.2]; rfl
    · rw [hdr.out]; exact tl3

end Go.Proofs.Ytegiinnhknfjjaa.IM
