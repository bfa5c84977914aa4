/- The program's lay: a key put into a tree. -/
import Derived.Test.YtegiinnhknfjjaaIJoin
import Derived.Test.YtegiinnhknfjjaaSMath
import Derived.Test.YtegiinnhknfjjaaSSide
namespace Go.Proofs.Ytegiinnhknfjjaa.IM
open Go.RowKit

/-- A function that compares, with what it holds. -/
structure Cmp (f : Nat) (lb : Array Value) (c : Int → Int → Int) (X : World → Prop) : Prop where
  enter : ∀ args w, (callFunc f args).run Try.prog w = .ok (.enter f args) w
  calls : ∀ a b w, X w → Calls Try.prog f (#[.int .i64 a, .int .i64 b] ++ lb) w fun e w' => e = .returned (.int .i64 (c a b)) ∧ w' = w
  calm : ∀ w w', X w → Calm w w' → X w'

/-- A map's own cells. -/
def Mp (w : World) (m : Nat) (f : Nat) (lb : Array Value) (r : Option Addr) : Prop := w.heap[m]? = some (.cells #[.func (.func f) #[] lb, .pointer r] 41 (0, 0))

/-- The value that was there. -/
def was (f : Int → Int) (X : List (Int × Int)) : Int := ((it f X).map (·.2)).getD (0 : Int)

set_option maxRecDepth 100000 in
set_option maxHeartbeats 1000000 in
theorem lay_any {f : Nat} {lb : Array Value} {c : Int → Int → Int} {Y : World → Prop} (hC : Cmp f lb c Y) (m : Nat) (ro : Option Addr) (key : Int) (val : Int)
    {w : World} {p : Value} {X : List (Int × Int)} (h : TL w p X) (hm : Mp w m f lb ro) (hY : Y w) (hd : Dec (c key) X) (low : Low (X.length + 1)) :
    ∀ w1, Calm w w1 → Calls Try.prog 45 #[.pointer (some ⟨m, 0, none⟩), p, .int .i64 key, .int .i64 val] w1 fun e w' =>
      ∃ b', e = .returned (.tuple #[.pointer (some ⟨b', 0, none⟩), .int .i64 (was (c key) X), .bool (it (c key) X).isSome]) ∧ TL w' (.pointer (some ⟨b', 0, none⟩)) (lput (c key) key val X) ∧ Calm w1 w' := by
  induction h with
  | nil =>
    intro w1 t1
    have T := hide ((Touch.refl (fun _ => False) w1).alloc (.cells #[.int .i64 key, .int .i64 val, .int .i64 1, .pointer none, .pointer none] 105))
    go_enter Try.func45, Try.ntmps45
    go_wp2_with fail
    go_ret3
    exact ⟨_, rfl, .node (L := []) (R := []) (heap_alloc_last w1 _) .nil .nil, T.out⟩
  | @node b k v p q L R hb h1 h2 i1 i2 =>
  intro w1 t1
  have LOW : Hid (Low (L.length + 1 + R.length + 1)) := hide (by refine low_of low ?_; simp; omega)
  have HB := hide (t1.at hb)
  have HN : Hid (Nd w1 b k v p q) := hide ⟨_, t1.at hb⟩
  have HM := hide (t1.at hm)
  have H1 := hide (h1.calm t1)
  have H2 := hide (h2.calm t1)
  have HC := hide hC
  have HY := hide (hC.calm _ _ hY t1)
  have HD := hide hd
  have CA := hide (fun W (h : Calm w1 W) => hC.calls key k W (hC.calm _ _ HY.out h))
  have I1 := hide (fun W (h : Calm w1 W) => i1 hd.parts.1 (low_of LOW.out (by omega)) W (t1.tr h))
  have I2 := hide (fun W (h : Calm w1 W) => i2 hd.parts.2.1 (low_of LOW.out (by omega)) W (t1.tr h))
  have hsign : (c key k < 0 ∧ sd (c key k) = 0) ∨ c key k = 0 ∨ (0 < c key k ∧ sd (c key k) = 1) := by
    unfold sd
    rcases Int.lt_trichotomy (c key k) 0 with h | h | h
    · exact .inl ⟨h, if_pos h⟩
    · exact .inr (.inl h)
    · exact .inr (.inr ⟨h, if_neg (by omega)⟩)
  have hne : ∀ z : Int, z < 0 → ¬ z = 0 := fun z h => by omega
  have hne' : ∀ z : Int, 0 < z → ¬ z = 0 := fun z h => by omega
  clear i1 i2 h1 h2 hb hd low hY hm hC t1
  generalize hcz : c key k = cz at *
  have HCZ := hide hcz
  clear hcz
  go_enter Try.func45, Try.ntmps45
  go_wp2_with fail
  refine wp_region_held (S := Calm w1) (by kernel_rfl) ?_
  have hT0 : Calm w1 { w1 with drawn := w1.drawn + 1 } := (Touch.refl (fun _ => False) w1).drew
  refine wpAnyH_yield 0 24 (.pointer (some ⟨m, 0, none⟩)) rfl rfl (by kernel_rfl) (by kernel_rfl) (by kernel_rfl) (fun _ _ _ h => h) (by kernel_rfl) (fun W hW => by kernel_rfl) (by assumption) rfl rfl ?_
  simp only [Act.put, List.setIfInBounds_toArray, List.set_cons_zero, List.set_cons_succ]
  refine wpAnyH_yield 1 25 (.pointer (some ⟨m, 0, none⟩)) rfl rfl (by kernel_rfl) (by kernel_rfl) (by kernel_rfl) (fun _ _ _ h => h) (by kernel_rfl) (fun W hW => by kernel_rfl) (by assumption) rfl rfl ?_
  simp only [Act.put, List.setIfInBounds_toArray, List.set_cons_zero, List.set_cons_succ]
  refine wpAnyH_yield 2 26 (.pointer (some ⟨m, 0, none⟩)) rfl rfl (by kernel_rfl) (by kernel_rfl) (by kernel_rfl) (fun _ _ _ h => h) (by kernel_rfl) (fun W hW => by go_simp) (by assumption) rfl rfl ?_
  simp only [Act.put, List.setIfInBounds_toArray, List.set_cons_zero, List.set_cons_succ]
  refine wpAnyH_yield 3 27 (.func (.func f) #[] lb) rfl rfl (by kernel_rfl) (by kernel_rfl) (by kernel_rfl) (fun _ _ _ h => h) (by kernel_rfl) (fun W hW => by obtain ⟨c0, c1⟩ := cells2 (hW.at HM.out); go_simp) (by assumption) rfl rfl ?_
  simp only [Act.put, List.setIfInBounds_toArray, List.set_cons_zero, List.set_cons_succ]
  refine wpAnyH_yield 4 28 (.int .i64 key) rfl rfl (by kernel_rfl) (by kernel_rfl) (by kernel_rfl) (fun _ _ _ h => h) (by kernel_rfl) (fun W hW => by kernel_rfl) (by assumption) rfl rfl ?_
  simp only [Act.put, List.setIfInBounds_toArray, List.set_cons_zero, List.set_cons_succ]
  refine wpAnyH_yield 5 29 (.pointer (some ⟨b, 0, none⟩)) rfl rfl (by kernel_rfl) (by kernel_rfl) (by kernel_rfl) (fun _ _ _ h => h) (by kernel_rfl) (fun W hW => by kernel_rfl) (by assumption) rfl rfl ?_
  simp only [Act.put, List.setIfInBounds_toArray, List.set_cons_zero, List.set_cons_succ]
  refine wpAnyH_yield 6 30 (.pointer (some ⟨b, 0, none⟩)) rfl rfl (by kernel_rfl) (by kernel_rfl) (by kernel_rfl) (fun _ _ _ h => h) (by kernel_rfl) (fun W hW => by kernel_rfl) (by assumption) rfl rfl ?_
  simp only [Act.put, List.setIfInBounds_toArray, List.set_cons_zero, List.set_cons_succ]
  refine wpAnyH_yield 7 31 (.pointer (some ⟨b, 0, none⟩)) rfl rfl (by kernel_rfl) (by kernel_rfl) (by kernel_rfl) (fun _ _ _ h => h) (by kernel_rfl) (fun W hW => by go_simp) (by assumption) rfl rfl ?_
  simp only [Act.put, List.setIfInBounds_toArray, List.set_cons_zero, List.set_cons_succ]
  refine wpAnyH_yield 8 32 (.int .i64 k) rfl rfl (by kernel_rfl) (by kernel_rfl) (by kernel_rfl) (fun _ _ _ h => h) (by kernel_rfl) (fun W hW => by obtain ⟨c0, c1, c2, c3, c4⟩ := cells5 (hW.at HB.out); go_simp) (by assumption) rfl rfl ?_
  simp only [Act.put, List.setIfInBounds_toArray, List.set_cons_zero, List.set_cons_succ]
  refine wpAnyH_enter 9 33 f (#[.int .i64 key, .int .i64 k] ++ lb) rfl rfl (by kernel_rfl) (by kernel_rfl) (by have e := HC.out.enter; go_simp) ?_
  refine (CA.out _ hT0).mono ?_
  rintro r _ ⟨rfl, rfl⟩
  refine ⟨_, rfl, hT0, ?_⟩
  simp only [Act.put, List.setIfInBounds_toArray, List.set_cons_zero, List.set_cons_succ]
  refine wpAnyH_yield 10 12 (.int .i64 cz) rfl rfl (by kernel_rfl) (by kernel_rfl) (by kernel_rfl) (fun _ _ _ h => h) (by kernel_rfl) (fun W hW => by kernel_rfl) (by assumption) rfl rfl ?_
  simp only [Act.put, List.setIfInBounds_toArray, List.set_cons_zero, List.set_cons_succ]
  refine wpAnyH_done (by kernel_rfl) ?_ _
  have HB1 := hide (hT0.at HB.out)
  have N1 := hide (HN.out.calm hT0)
  have T1 := hide hT0
  have K1 := hide (H1.out.calm hT0)
  have K2 := hide (H2.out.calm hT0)
  generalize ({ w1 with drawn := w1.drawn + 1 } : World) = w2 at *
  clear hT0
  obtain ⟨-, -, -, c3, c4⟩ := cells5 HB1.out
  rcases hsign with ⟨hz, hs⟩ | hz | ⟨hz, hs⟩
  · have hz' := hne cz hz
    have SO := hide (sideOf_any cz)
    rw [hs] at SO
    have IH := I1.out w2 T1.out
    go_wp2_with fail
    refine (SO.out _).mono ?_
    rintro e w' ⟨rfl, hq⟩
    obtain rfl := hq.symm
    clear hq
    go_wp2_with fail
    refine IH.mono ?_
    rintro e w3 ⟨b3, rfl, tl3, t3⟩
    have hl3 := (lput_len (k := key) (v := val) HD.out.parts.1).1
    have WA := hide (with0_any b k v p q (some ⟨b3, 0, none⟩) _ R w3 (N1.out.calm t3) tl3 (K2.out.calm t3) (low_of LOW.out (by omega)))
    have T3 := hide t3
    clear hl3 t3 tl3 IH
    go_wp2_with fail
    refine WA.out.mono ?_
    rintro e w4 ⟨b4, rfl, tl4, t4⟩
    go_wp2_with fail
    go_ret3
    have hw := neg_way HD.out (x := (k, v)) (by show c key k < 0; rw [HCZ.out]; exact hz)
    refine ⟨b4, ?_, ?_, T1.out.tr (T3.out.tr t4)⟩
    · unfold was; rw [hw.2.2]; rfl
    · rw [lput_neg HD.out (x := (k, v)) (by show c key k < 0; rw [HCZ.out]; exact hz)]; exact tl4
  · subst hz
    have hw := hide (at_way HD.out (x := (k, v)) HCZ.out)
    have hlp := hide (lput_at (k := key) (v := val) HD.out (x := (k, v)) HCZ.out)
    clear c3 c4 I1 I2 CA
    go_wp2_with fail
    generalize hmm : L.length + 1 + R.length = mm at *
    have HMM := hide hmm
    clear hmm
    refine wp_region_held (S := Calm w2) (by kernel_rfl) ?_
    have hT0 : Calm w2 { w2 with drawn := w2.drawn + 1 } := (Touch.refl (fun _ => False) w2).drew
    refine wpAnyH_yield 0 36 (.pointer (some ⟨b, 0, none⟩)) rfl rfl (by kernel_rfl) (by kernel_rfl) (by kernel_rfl) (fun _ _ _ h => h) (by kernel_rfl) (fun W hW => by kernel_rfl) (by assumption) rfl rfl ?_
    simp only [Act.put, List.setIfInBounds_toArray, List.set_cons_zero, List.set_cons_succ]
    refine wpAnyH_yield 1 37 (.pointer (some ⟨b, 0, none⟩)) rfl rfl (by kernel_rfl) (by kernel_rfl) (by kernel_rfl) (fun _ _ _ h => h) (by kernel_rfl) (fun W hW => by kernel_rfl) (by assumption) rfl rfl ?_
    simp only [Act.put, List.setIfInBounds_toArray, List.set_cons_zero, List.set_cons_succ]
    refine wpAnyH_yield 2 38 (.pointer (some ⟨b, 0, none⟩)) rfl rfl (by kernel_rfl) (by kernel_rfl) (by kernel_rfl) (fun _ _ _ h => h) (by kernel_rfl) (fun W hW => by go_simp) (by assumption) rfl rfl ?_
    simp only [Act.put, List.setIfInBounds_toArray, List.set_cons_zero, List.set_cons_succ]
    refine wpAnyH_yield 3 39 (.int .i64 k) rfl rfl (by kernel_rfl) (by kernel_rfl) (by kernel_rfl) (fun _ _ _ h => h) (by kernel_rfl) (fun W hW => by obtain ⟨c0, c1, c2, c3, c4⟩ := cells5 (hW.at HB1.out); go_simp) (by assumption) rfl rfl ?_
    simp only [Act.put, List.setIfInBounds_toArray, List.set_cons_zero, List.set_cons_succ]
    refine wpAnyH_yield 4 40 (.int .i64 val) rfl rfl (by kernel_rfl) (by kernel_rfl) (by kernel_rfl) (fun _ _ _ h => h) (by kernel_rfl) (fun W hW => by kernel_rfl) (by assumption) rfl rfl ?_
    simp only [Act.put, List.setIfInBounds_toArray, List.set_cons_zero, List.set_cons_succ]
    refine wpAnyH_yield 5 41 (.pointer (some ⟨b, 0, none⟩)) rfl rfl (by kernel_rfl) (by kernel_rfl) (by kernel_rfl) (fun _ _ _ h => h) (by kernel_rfl) (fun W hW => by kernel_rfl) (by assumption) rfl rfl ?_
    simp only [Act.put, List.setIfInBounds_toArray, List.set_cons_zero, List.set_cons_succ]
    refine wpAnyH_yield 6 42 (.pointer (some ⟨b, 0, none⟩)) rfl rfl (by kernel_rfl) (by kernel_rfl) (by kernel_rfl) (fun _ _ _ h => h) (by kernel_rfl) (fun W hW => by kernel_rfl) (by assumption) rfl rfl ?_
    simp only [Act.put, List.setIfInBounds_toArray, List.set_cons_zero, List.set_cons_succ]
    refine wpAnyH_yield 7 43 (.pointer (some ⟨b, 2, none⟩)) rfl rfl (by kernel_rfl) (by kernel_rfl) (by kernel_rfl) (fun _ _ _ h => h) (by kernel_rfl) (fun W hW => by go_simp) (by assumption) rfl rfl ?_
    simp only [Act.put, List.setIfInBounds_toArray, List.set_cons_zero, List.set_cons_succ]
    refine wpAnyH_yield 8 44 (.int .i64 (mm : Int)) rfl rfl (by kernel_rfl) (by kernel_rfl) (by kernel_rfl) (fun _ _ _ h => h) (by kernel_rfl) (fun W hW => by obtain ⟨c0, c1, c2, c3, c4⟩ := cells5 (hW.at HB1.out); go_simp) (by assumption) rfl rfl ?_
    simp only [Act.put, List.setIfInBounds_toArray, List.set_cons_zero, List.set_cons_succ]
    refine wpAnyH_yield 9 45 (.pointer (some ⟨b, 0, none⟩)) rfl rfl (by kernel_rfl) (by kernel_rfl) (by kernel_rfl) (fun _ _ _ h => h) (by kernel_rfl) (fun W hW => by kernel_rfl) (by assumption) rfl rfl ?_
    simp only [Act.put, List.setIfInBounds_toArray, List.set_cons_zero, List.set_cons_succ]
    refine wpAnyH_yield 10 46 (.pointer (some ⟨b, 0, none⟩)) rfl rfl (by kernel_rfl) (by kernel_rfl) (by kernel_rfl) (fun _ _ _ h => h) (by kernel_rfl) (fun W hW => by kernel_rfl) (by assumption) rfl rfl ?_
    simp only [Act.put, List.setIfInBounds_toArray, List.set_cons_zero, List.set_cons_succ]
    refine wpAnyH_yield 11 47 (.pointer (some ⟨b, 3, none⟩)) rfl rfl (by kernel_rfl) (by kernel_rfl) (by kernel_rfl) (fun _ _ _ h => h) (by kernel_rfl) (fun W hW => by go_simp) (by assumption) rfl rfl ?_
    simp only [Act.put, List.setIfInBounds_toArray, List.set_cons_zero, List.set_cons_succ]
    refine wpAnyH_yield 12 48 (.agg #[.pointer p, .pointer q]) rfl rfl (by kernel_rfl) (by kernel_rfl) (by kernel_rfl) (fun _ _ _ h => h) (by kernel_rfl) (fun W hW => by obtain ⟨c0, c1, c2, c3, c4⟩ := cells5 (hW.at HB1.out); go_simp) (by assumption) rfl rfl ?_
    simp only [Act.put, List.setIfInBounds_toArray, List.set_cons_zero, List.set_cons_succ]
    refine wpAnyH_yield 13 49 (.agg #[.int .i64 k, .int .i64 val, .int .i64 (mm : Int), .pointer p, .pointer q]) rfl rfl (by kernel_rfl) (by kernel_rfl) (by kernel_rfl) (fun _ _ _ h => h) (by kernel_rfl) (fun W hW => by go_simp) (by assumption) rfl rfl ?_
    simp only [Act.put, List.setIfInBounds_toArray, List.set_cons_zero, List.set_cons_succ]
    refine wpAnyH_yield 15 51 (.pointer (some ⟨b, 0, none⟩)) rfl rfl (by kernel_rfl) (by kernel_rfl) (by kernel_rfl) (fun _ _ _ h => h) (by kernel_rfl) (fun W hW => by kernel_rfl) (by assumption) rfl rfl ?_
    simp only [Act.put, List.setIfInBounds_toArray, List.set_cons_zero, List.set_cons_succ]
    refine wpAnyH_yield 16 52 (.pointer (some ⟨b, 0, none⟩)) rfl rfl (by kernel_rfl) (by kernel_rfl) (by kernel_rfl) (fun _ _ _ h => h) (by kernel_rfl) (fun W hW => by kernel_rfl) (by assumption) rfl rfl ?_
    simp only [Act.put, List.setIfInBounds_toArray, List.set_cons_zero, List.set_cons_succ]
    refine wpAnyH_yield 17 53 (.pointer (some ⟨b, 1, none⟩)) rfl rfl (by kernel_rfl) (by kernel_rfl) (by kernel_rfl) (fun _ _ _ h => h) (by kernel_rfl) (fun W hW => by go_simp) (by assumption) rfl rfl ?_
    simp only [Act.put, List.setIfInBounds_toArray, List.set_cons_zero, List.set_cons_succ]
    refine wpAnyH_yield 18 54 (.int .i64 v) rfl rfl (by kernel_rfl) (by kernel_rfl) (by kernel_rfl) (fun _ _ _ h => h) (by kernel_rfl) (fun W hW => by obtain ⟨c0, c1, c2, c3, c4⟩ := cells5 (hW.at HB1.out); go_simp) (by assumption) rfl rfl ?_
    simp only [Act.put, List.setIfInBounds_toArray, List.set_cons_zero, List.set_cons_succ]
    refine wpAnyH_value 14 50 (.pointer (some ⟨w2.heap.size, 0, none⟩)) (w' := w2.drew.alloc (.cells #[.int .i64 k, .int .i64 val, .int .i64 (mm : Int), .pointer p, .pointer q] 105)) rfl rfl (by kernel_rfl) (by kernel_rfl) (by go_simp) (((Touch.refl (fun _ => False) w2).drew).alloc _) ?_
    simp only [Act.put, List.setIfInBounds_toArray, List.set_cons_zero, List.set_cons_succ]
    have hT2 : Calm w2 (w2.drew.alloc (.cells #[.int .i64 k, .int .i64 val, .int .i64 (mm : Int), .pointer p, .pointer q] 105)) := ((Touch.refl (fun _ => False) w2).drew).alloc _
    have hN2 : (w2.drew.alloc (.cells #[.int .i64 k, .int .i64 val, .int .i64 (mm : Int), .pointer p, .pointer q] 105)).heap[w2.heap.size]? = some (.cells #[.int .i64 k, .int .i64 val, .int .i64 (mm : Int), .pointer p, .pointer q] 105 (0, 0)) := heap_alloc_last w2.drew _
    generalize w2.drew.alloc (.cells #[.int .i64 k, .int .i64 val, .int .i64 (mm : Int), .pointer p, .pointer q] 105) = w3 at *
    refine wpAnyH_yield 19 8 (.pointer (some ⟨w2.heap.size, 0, none⟩)) rfl rfl (by kernel_rfl) (by kernel_rfl) (by kernel_rfl) (fun _ _ _ h => h) (by kernel_rfl) (fun W hW => by kernel_rfl) (by assumption) rfl rfl ?_
    simp only [Act.put, List.setIfInBounds_toArray, List.set_cons_zero, List.set_cons_succ]
    refine wpAnyH_yield 20 9 (.int .i64 v) rfl rfl (by kernel_rfl) (by kernel_rfl) (by kernel_rfl) (fun _ _ _ h => h) (by kernel_rfl) (fun W hW => by kernel_rfl) (by assumption) rfl rfl ?_
    simp only [Act.put, List.setIfInBounds_toArray, List.set_cons_zero, List.set_cons_succ]
    refine wpAnyH_yield 21 10 (.bool true) rfl rfl (by kernel_rfl) (by kernel_rfl) (by kernel_rfl) (fun _ _ _ h => h) (by kernel_rfl) (fun W hW => by kernel_rfl) (by assumption) rfl rfl ?_
    simp only [Act.put, List.setIfInBounds_toArray, List.set_cons_zero, List.set_cons_succ]
    refine wpAnyH_done (by kernel_rfl) ?_ _
    go_wp2_with fail
    go_ret3
    refine ⟨w2.heap.size, ?_, ?_, T1.out.tr hT2⟩
    · unfold was; rw [hw.out.2.2]; rfl
    · rw [hlp.out]
      refine .node ?_ (K1.out.calm hT2) (K2.out.calm hT2)
      rw [HMM.out]
      exact hN2
  · have hz' := hne' cz hz
    have SO := hide (sideOf_any cz)
    rw [hs] at SO
    have IH := I2.out w2 T1.out
    go_wp2_with fail
    refine (SO.out _).mono ?_
    rintro e w' ⟨rfl, hq⟩
    obtain rfl := hq.symm
    clear hq
    go_wp2_with fail
    refine IH.mono ?_
    rintro e w3 ⟨b3, rfl, tl3, t3⟩
    have hl3 := (lput_len (k := key) (v := val) HD.out.parts.2.1).1
    have WA := hide (with1_any b k v p q (some ⟨b3, 0, none⟩) L _ w3 (N1.out.calm t3) (K1.out.calm t3) tl3 (low_of LOW.out (by omega)))
    have T3 := hide t3
    clear hl3 t3 tl3 IH
    go_wp2_with fail
    refine WA.out.mono ?_
    rintro e w4 ⟨b4, rfl, tl4, t4⟩
    go_wp2_with fail
    go_ret3
    have hw := pos_way HD.out (x := (k, v)) (by show 0 < c key k; rw [HCZ.out]; exact hz)
    refine ⟨b4, ?_, ?_, T1.out.tr (T3.out.tr t4)⟩
    · unfold was; rw [hw.2.2]; rfl
    · rw [lput_pos HD.out (x := (k, v)) (by show 0 < c key k; rw [HCZ.out]; exact hz)]; exact tl4

end Go.Proofs.Ytegiinnhknfjjaa.IM
