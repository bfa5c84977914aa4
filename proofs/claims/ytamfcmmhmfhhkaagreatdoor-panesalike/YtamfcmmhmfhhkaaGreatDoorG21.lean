/- The program's sideOf. The program's lay: a key put into a tree. The program's maps: isThere, Len, Put, Take, Copy, New, Of. The program's Get, Place. -/
import Derived.Test.YtamfcmmhmfhhkaaGreatDoorG0
import Derived.Test.YtamfcmmhmfhhkaaGreatDoorG20
namespace Go.Proofs.YtamfcmmhmfhhkaaGreatDoor
open Go.RowKit

/-- The side on which a key stands. -/
def sd (c : Int) : Int := if c < 0 then 0 else 1

theorem sd_or (c : Int) : sd c = 0 ∨ sd c = 1 := by unfold sd; split <;> simp

set_option maxRecDepth 100000 in
theorem sideOf_any (c : Int) (w : World) : Calls Tryz.prog 46 #[.int .i64 c] w fun e w' => e = .returned (.int .i64 (sd c)) ∧ w' = w := by
  unfold sd
  by_cases h : c < 0
  · go_enter Tryz.func46, Tryz.ntmps46
    go_wp2_with fail
    go_ret
    exact ⟨by simp, rfl⟩
  · go_enter Tryz.func46, Tryz.ntmps46
    go_wp2_with fail
    go_ret
    exact ⟨by simp, rfl⟩

end Go.Proofs.YtamfcmmhmfhhkaaGreatDoor

namespace Go.Proofs.YtamfcmmhmfhhkaaGreatDoor.LM
open Go.RowKit

/-- A function that compares, with what it holds. -/
structure Cmp (f : Nat) (lb : Array Value) (c : ByteArray → ByteArray → Int) (X : World → Prop) : Prop where
  enter : ∀ args w, (callFunc f args).run Tryz.prog w = .ok (.enter f args) w
  calls : ∀ a b w, X w → Calls Tryz.prog f (#[.string a, .string b] ++ lb) w fun e w' => e = .returned (.int .i64 (c a b)) ∧ w' = w
  calm : ∀ w w', X w → Calm w w' → X w'

/-- A map's own cells. -/
def Mp (w : World) (m : Nat) (f : Nat) (lb : Array Value) (r : Option Addr) : Prop := w.heap[m]? = some (.cells #[.func (.func f) #[] lb, .pointer r] 82 (0, 0))

/-- The value that was there. -/
def was (f : ByteArray → Int) (X : List (ByteArray × (Option Addr × Nat × Nat))) : (Option Addr × Nat × Nat) := ((it f X).map (·.2)).getD ((none, 0, 0) : Option Addr × Nat × Nat)

set_option maxRecDepth 100000 in
set_option maxHeartbeats 1000000 in
theorem lay_any {f : Nat} {lb : Array Value} {c : ByteArray → ByteArray → Int} {Y : World → Prop} (hC : Cmp f lb c Y) (m : Nat) (ro : Option Addr) (key : ByteArray) (val : (Option Addr × Nat × Nat))
    {w : World} {p : Value} {X : List (ByteArray × (Option Addr × Nat × Nat))} (h : TL w p X) (hm : Mp w m f lb ro) (hY : Y w) (hd : Dec (c key) X) (low : Low (X.length + 1)) :
    ∀ w1, Calm w w1 → Calls Tryz.prog 57 #[.pointer (some ⟨m, 0, none⟩), p, .string key, .slice val.1 val.2.1 val.2.2] w1 fun e w' =>
      ∃ b', e = .returned (.tuple #[.pointer (some ⟨b', 0, none⟩), .slice (was (c key) X).1 (was (c key) X).2.1 (was (c key) X).2.2, .bool (it (c key) X).isSome]) ∧ TL w' (.pointer (some ⟨b', 0, none⟩)) (lput (c key) key val X) ∧ Calm w1 w' := by
  induction h with
  | nil =>
    intro w1 t1
    have T := hide ((Touch.refl (fun _ => False) w1).alloc (.cells #[.string key, .slice val.1 val.2.1 val.2.2, .int .i64 1, .pointer none, .pointer none] 85))
    go_enter Tryz.func57, Tryz.ntmps57
    go_wp2_with fail
    go_ret3
    exact ⟨_, rfl, .node (L := []) (R := []) (heap_alloc_last w1 _) .nil .nil, T.out⟩
  | @node b k v p q L R hb h1 h2 i1 i2 =>
  intro w1 t1
  have LOW : Hid (Low (L.length + 1 + R.length + 1)) := hide (by refine low_of low ?_; simp; omega)
  have HB := hide (t1.at hb)
  have HN : Hid (Nd w1 b k v p q) := hide ⟨_, t1.at hb⟩
  have HM := hide (t1.at hm)
  have H1 := hide (h1.calm t1)
  have H2 := hide (h2.calm t1)
  have HC := hide hC
  have HY := hide (hC.calm _ _ hY t1)
  have HD := hide hd
  have CA := hide (fun W (h : Calm w1 W) => hC.calls key k W (hC.calm _ _ HY.out h))
  have I1 := hide (fun W (h : Calm w1 W) => i1 hd.parts.1 (low_of LOW.out (by omega)) W (t1.tr h))
  have I2 := hide (fun W (h : Calm w1 W) => i2 hd.parts.2.1 (low_of LOW.out (by omega)) W (t1.tr h))
  have hsign : (c key k < 0 ∧ sd (c key k) = 0) ∨ c key k = 0 ∨ (0 < c key k ∧ sd (c key k) = 1) := by
    unfold sd
    rcases Int.lt_trichotomy (c key k) 0 with h | h | h
    · exact .inl ⟨h, if_pos h⟩
    · exact .inr (.inl h)
    · exact .inr (.inr ⟨h, if_neg (by omega)⟩)
  have hne : ∀ z : Int, z < 0 → ¬ z = 0 := fun z h => by omega
  have hne' : ∀ z : Int, 0 < z → ¬ z = 0 := fun z h => by omega
  clear i1 i2 h1 h2 hb hd low hY hm hC t1
  generalize hcz : c key k = cz at *
  have HCZ := hide hcz
  clear hcz
  go_enter Tryz.func57, Tryz.ntmps57
  go_wp2_with fail
  refine wp_region_held (S := Calm w1) (by kernel_rfl) ?_
  have hT0 : Calm w1 { w1 with drawn := w1.drawn + 1 } := (Touch.refl (fun _ => False) w1).drew
  refine wpAnyH_yield 0 24 (.pointer (some ⟨m, 0, none⟩)) rfl rfl (by kernel_rfl) (by kernel_rfl) (by kernel_rfl) (fun _ _ _ h => h) (by kernel_rfl) (fun W hW => by kernel_rfl) (by assumption) rfl rfl ?_
  simp only [Act.put, List.setIfInBounds_toArray, List.set_cons_zero, List.set_cons_succ]
  refine wpAnyH_yield 1 25 (.pointer (some ⟨m, 0, none⟩)) rfl rfl (by kernel_rfl) (by kernel_rfl) (by kernel_rfl) (fun _ _ _ h => h) (by kernel_rfl) (fun W hW => by kernel_rfl) (by assumption) rfl rfl ?_
  simp only [Act.put, List.setIfInBounds_toArray, List.set_cons_zero, List.set_cons_succ]
  refine wpAnyH_yield 2 26 (.pointer (some ⟨m, 0, none⟩)) rfl rfl (by kernel_rfl) (by kernel_rfl) (by kernel_rfl) (fun _ _ _ h => h) (by kernel_rfl) (fun W hW => by go_simp) (by assumption) rfl rfl ?_
  simp only [Act.put, List.setIfInBounds_toArray, List.set_cons_zero, List.set_cons_succ]
  refine wpAnyH_yield 3 27 (.func (.func f) #[] lb) rfl rfl (by kernel_rfl) (by kernel_rfl) (by kernel_rfl) (fun _ _ _ h => h) (by kernel_rfl) (fun W hW => by obtain ⟨c0, c1⟩ := cells2 (hW.at HM.out); go_simp) (by assumption) rfl rfl ?_
  simp only [Act.put, List.setIfInBounds_toArray, List.set_cons_zero, List.set_cons_succ]
  refine wpAnyH_yield 4 28 (.string key) rfl rfl (by kernel_rfl) (by kernel_rfl) (by kernel_rfl) (fun _ _ _ h => h) (by kernel_rfl) (fun W hW => by kernel_rfl) (by assumption) rfl rfl ?_
  simp only [Act.put, List.setIfInBounds_toArray, List.set_cons_zero, List.set_cons_succ]
  refine wpAnyH_yield 5 29 (.pointer (some ⟨b, 0, none⟩)) rfl rfl (by kernel_rfl) (by kernel_rfl) (by kernel_rfl) (fun _ _ _ h => h) (by kernel_rfl) (fun W hW => by kernel_rfl) (by assumption) rfl rfl ?_
  simp only [Act.put, List.setIfInBounds_toArray, List.set_cons_zero, List.set_cons_succ]
  refine wpAnyH_yield 6 30 (.pointer (some ⟨b, 0, none⟩)) rfl rfl (by kernel_rfl) (by kernel_rfl) (by kernel_rfl) (fun _ _ _ h => h) (by kernel_rfl) (fun W hW => by kernel_rfl) (by assumption) rfl rfl ?_
  simp only [Act.put, List.setIfInBounds_toArray, List.set_cons_zero, List.set_cons_succ]
  refine wpAnyH_yield 7 31 (.pointer (some ⟨b, 0, none⟩)) rfl rfl (by kernel_rfl) (by kernel_rfl) (by kernel_rfl) (fun _ _ _ h => h) (by kernel_rfl) (fun W hW => by go_simp) (by assumption) rfl rfl ?_
  simp only [Act.put, List.setIfInBounds_toArray, List.set_cons_zero, List.set_cons_succ]
  refine wpAnyH_yield 8 32 (.string k) rfl rfl (by kernel_rfl) (by kernel_rfl) (by kernel_rfl) (fun _ _ _ h => h) (by kernel_rfl) (fun W hW => by obtain ⟨c0, c1, c2, c3, c4⟩ := cells5 (hW.at HB.out); go_simp) (by assumption) rfl rfl ?_
  simp only [Act.put, List.setIfInBounds_toArray, List.set_cons_zero, List.set_cons_succ]
  refine wpAnyH_enter 9 33 f (#[.string key, .string k] ++ lb) rfl rfl (by kernel_rfl) (by kernel_rfl) (by have e := HC.out.enter; go_simp) ?_
  refine (CA.out _ hT0).mono ?_
  rintro r _ ⟨rfl, rfl⟩
  refine ⟨_, rfl, hT0, ?_⟩
  simp only [Act.put, List.setIfInBounds_toArray, List.set_cons_zero, List.set_cons_succ]
  refine wpAnyH_yield 10 12 (.int .i64 cz) rfl rfl (by kernel_rfl) (by kernel_rfl) (by kernel_rfl) (fun _ _ _ h => h) (by kernel_rfl) (fun W hW => by kernel_rfl) (by assumption) rfl rfl ?_
  simp only [Act.put, List.setIfInBounds_toArray, List.set_cons_zero, List.set_cons_succ]
  refine wpAnyH_done (by kernel_rfl) ?_ _
  have HB1 := hide (hT0.at HB.out)
  have N1 := hide (HN.out.calm hT0)
  have T1 := hide hT0
  have K1 := hide (H1.out.calm hT0)
  have K2 := hide (H2.out.calm hT0)
  generalize ({ w1 with drawn := w1.drawn + 1 } : World) = w2 at *
  clear hT0
  obtain ⟨-, -, -, c3, c4⟩ := cells5 HB1.out
  rcases hsign with ⟨hz, hs⟩ | hz | ⟨hz, hs⟩
  · have hz' := hne cz hz
    have SO := hide (sideOf_any cz)
    rw [hs] at SO
    have IH := I1.out w2 T1.out
    go_wp2_with fail
    refine (SO.out _).mono ?_
    rintro e w' ⟨rfl, hq⟩
    obtain rfl := hq.symm
    clear hq
    go_wp2_with fail
    refine IH.mono ?_
    rintro e w3 ⟨b3, rfl, tl3, t3⟩
    have hl3 := (lput_len (k := key) (v := val) HD.out.parts.1).1
    have WA := hide (with0_any b k v p q (some ⟨b3, 0, none⟩) _ R w3 (N1.out.calm t3) tl3 (K2.out.calm t3) (low_of LOW.out (by omega)))
    have T3 := hide t3
    clear hl3 t3 tl3 IH
    go_wp2_with fail
    refine WA.out.mono ?_
    rintro e w4 ⟨b4, rfl, tl4, t4⟩
    go_wp2_with fail
    go_ret3
    have hw := neg_way HD.out (x := (k, v)) (by show c key k < 0; rw [HCZ.out]; exact hz)
    refine ⟨b4, ?_, ?_, T1.out.tr (T3.out.tr t4)⟩
    · unfold was; rw [hw.2.2]; rfl
    · rw [lput_neg HD.out (x := (k, v)) (by show c key k < 0; rw [HCZ.out]; exact hz)]; exact tl4
  · subst hz
    have hw := hide (at_way HD.out (x := (k, v)) HCZ.out)
    have hlp := hide (lput_at (k := key) (v := val) HD.out (x := (k, v)) HCZ.out)
    clear c3 c4 I1 I2 CA
    go_wp2_with fail
    generalize hmm : L.length + 1 + R.length = mm at *
    have HMM := hide hmm
    clear hmm
    refine wp_region_held (S := Calm w2) (by kernel_rfl) ?_
    have hT0 : Calm w2 { w2 with drawn := w2.drawn + 1 } := (Touch.refl (fun _ => False) w2).drew
    refine wpAnyH_yield 0 36 (.pointer (some ⟨b, 0, none⟩)) rfl rfl (by kernel_rfl) (by kernel_rfl) (by kernel_rfl) (fun _ _ _ h => h) (by kernel_rfl) (fun W hW => by kernel_rfl) (by assumption) rfl rfl ?_
    simp only [Act.put, List.setIfInBounds_toArray, List.set_cons_zero, List.set_cons_succ]
    refine wpAnyH_yield 1 37 (.pointer (some ⟨b, 0, none⟩)) rfl rfl (by kernel_rfl) (by kernel_rfl) (by kernel_rfl) (fun _ _ _ h => h) (by kernel_rfl) (fun W hW => by kernel_rfl) (by assumption) rfl rfl ?_
    simp only [Act.put, List.setIfInBounds_toArray, List.set_cons_zero, List.set_cons_succ]
    refine wpAnyH_yield 2 38 (.pointer (some ⟨b, 0, none⟩)) rfl rfl (by kernel_rfl) (by kernel_rfl) (by kernel_rfl) (fun _ _ _ h => h) (by kernel_rfl) (fun W hW => by go_simp) (by assumption) rfl rfl ?_
    simp only [Act.put, List.setIfInBounds_toArray, List.set_cons_zero, List.set_cons_succ]
    refine wpAnyH_yield 3 39 (.string k) rfl rfl (by kernel_rfl) (by kernel_rfl) (by kernel_rfl) (fun _ _ _ h => h) (by kernel_rfl) (fun W hW => by obtain ⟨c0, c1, c2, c3, c4⟩ := cells5 (hW.at HB1.out); go_simp) (by assumption) rfl rfl ?_
    simp only [Act.put, List.setIfInBounds_toArray, List.set_cons_zero, List.set_cons_succ]
    refine wpAnyH_yield 4 40 (.slice val.1 val.2.1 val.2.2) rfl rfl (by kernel_rfl) (by kernel_rfl) (by kernel_rfl) (fun _ _ _ h => h) (by kernel_rfl) (fun W hW => by kernel_rfl) (by assumption) rfl rfl ?_
    simp only [Act.put, List.setIfInBounds_toArray, List.set_cons_zero, List.set_cons_succ]
    refine wpAnyH_yield 5 41 (.pointer (some ⟨b, 0, none⟩)) rfl rfl (by kernel_rfl) (by kernel_rfl) (by kernel_rfl) (fun _ _ _ h => h) (by kernel_rfl) (fun W hW => by kernel_rfl) (by assumption) rfl rfl ?_
    simp only [Act.put, List.setIfInBounds_toArray, List.set_cons_zero, List.set_cons_succ]
    refine wpAnyH_yield 6 42 (.pointer (some ⟨b, 0, none⟩)) rfl rfl (by kernel_rfl) (by kernel_rfl) (by kernel_rfl) (fun _ _ _ h => h) (by kernel_rfl) (fun W hW => by kernel_rfl) (by assumption) rfl rfl ?_
    simp only [Act.put, List.setIfInBounds_toArray, List.set_cons_zero, List.set_cons_succ]
    refine wpAnyH_yield 7 43 (.pointer (some ⟨b, 2, none⟩)) rfl rfl (by kernel_rfl) (by kernel_rfl) (by kernel_rfl) (fun _ _ _ h => h) (by kernel_rfl) (fun W hW => by go_simp) (by assumption) rfl rfl ?_
    simp only [Act.put, List.setIfInBounds_toArray, List.set_cons_zero, List.set_cons_succ]
    refine wpAnyH_yield 8 44 (.int .i64 (mm : Int)) rfl rfl (by kernel_rfl) (by kernel_rfl) (by kernel_rfl) (fun _ _ _ h => h) (by kernel_rfl) (fun W hW => by obtain ⟨c0, c1, c2, c3, c4⟩ := cells5 (hW.at HB1.out); go_simp) (by assumption) rfl rfl ?_
    simp only [Act.put, List.setIfInBounds_toArray, List.set_cons_zero, List.set_cons_succ]
    refine wpAnyH_yield 9 45 (.pointer (some ⟨b, 0, none⟩)) rfl rfl (by kernel_rfl) (by kernel_rfl) (by kernel_rfl) (fun _ _ _ h => h) (by kernel_rfl) (fun W hW => by kernel_rfl) (by assumption) rfl rfl ?_
    simp only [Act.put, List.setIfInBounds_toArray, List.set_cons_zero, List.set_cons_succ]
    refine wpAnyH_yield 10 46 (.pointer (some ⟨b, 0, none⟩)) rfl rfl (by kernel_rfl) (by kernel_rfl) (by kernel_rfl) (fun _ _ _ h => h) (by kernel_rfl) (fun W hW => by kernel_rfl) (by assumption) rfl rfl ?_
    simp only [Act.put, List.setIfInBounds_toArray, List.set_cons_zero, List.set_cons_succ]
    refine wpAnyH_yield 11 47 (.pointer (some ⟨b, 3, none⟩)) rfl rfl (by kernel_rfl) (by kernel_rfl) (by kernel_rfl) (fun _ _ _ h => h) (by kernel_rfl) (fun W hW => by go_simp) (by assumption) rfl rfl ?_
    simp only [Act.put, List.setIfInBounds_toArray, List.set_cons_zero, List.set_cons_succ]
    refine wpAnyH_yield 12 48 (.agg #[.pointer p, .pointer q]) rfl rfl (by kernel_rfl) (by kernel_rfl) (by kernel_rfl) (fun _ _ _ h => h) (by kernel_rfl) (fun W hW => by obtain ⟨c0, c1, c2, c3, c4⟩ := cells5 (hW.at HB1.out); go_simp) (by assumption) rfl rfl ?_
    simp only [Act.put, List.setIfInBounds_toArray, List.set_cons_zero, List.set_cons_succ]
    refine wpAnyH_yield 13 49 (.agg #[.string k, .slice val.1 val.2.1 val.2.2, .int .i64 (mm : Int), .pointer p, .pointer q]) rfl rfl (by kernel_rfl) (by kernel_rfl) (by kernel_rfl) (fun _ _ _ h => h) (by kernel_rfl) (fun W hW => by go_simp) (by assumption) rfl rfl ?_
    simp only [Act.put, List.setIfInBounds_toArray, List.set_cons_zero, List.set_cons_succ]
    refine wpAnyH_yield 15 51 (.pointer (some ⟨b, 0, none⟩)) rfl rfl (by kernel_rfl) (by kernel_rfl) (by kernel_rfl) (fun _ _ _ h => h) (by kernel_rfl) (fun W hW => by kernel_rfl) (by assumption) rfl rfl ?_
    simp only [Act.put, List.setIfInBounds_toArray, List.set_cons_zero, List.set_cons_succ]
    refine wpAnyH_yield 16 52 (.pointer (some ⟨b, 0, none⟩)) rfl rfl (by kernel_rfl) (by kernel_rfl) (by kernel_rfl) (fun _ _ _ h => h) (by kernel_rfl) (fun W hW => by kernel_rfl) (by assumption) rfl rfl ?_
    simp only [Act.put, List.setIfInBounds_toArray, List.set_cons_zero, List.set_cons_succ]
    refine wpAnyH_yield 17 53 (.pointer (some ⟨b, 1, none⟩)) rfl rfl (by kernel_rfl) (by kernel_rfl) (by kernel_rfl) (fun _ _ _ h => h) (by kernel_rfl) (fun W hW => by go_simp) (by assumption) rfl rfl ?_
    simp only [Act.put, List.setIfInBounds_toArray, List.set_cons_zero, List.set_cons_succ]
    refine wpAnyH_yield 18 54 (.slice v.1 v.2.1 v.2.2) rfl rfl (by kernel_rfl) (by kernel_rfl) (by kernel_rfl) (fun _ _ _ h => h) (by kernel_rfl) (fun W hW => by obtain ⟨c0, c1, c2, c3, c4⟩ := cells5 (hW.at HB1.out); go_simp) (by assumption) rfl rfl ?_
    simp only [Act.put, List.setIfInBounds_toArray, List.set_cons_zero, List.set_cons_succ]
    refine wpAnyH_value 14 50 (.pointer (some ⟨w2.heap.size, 0, none⟩)) (w' := w2.drew.alloc (.cells #[.string k, .slice val.1 val.2.1 val.2.2, .int .i64 (mm : Int), .pointer p, .pointer q] 85)) rfl rfl (by kernel_rfl) (by kernel_rfl) (by go_simp) (((Touch.refl (fun _ => False) w2).drew).alloc _) ?_
    simp only [Act.put, List.setIfInBounds_toArray, List.set_cons_zero, List.set_cons_succ]
    have hT2 : Calm w2 (w2.drew.alloc (.cells #[.string k, .slice val.1 val.2.1 val.2.2, .int .i64 (mm : Int), .pointer p, .pointer q] 85)) := ((Touch.refl (fun _ => False) w2).drew).alloc _
    have hN2 : (w2.drew.alloc (.cells #[.string k, .slice val.1 val.2.1 val.2.2, .int .i64 (mm : Int), .pointer p, .pointer q] 85)).heap[w2.heap.size]? = some (.cells #[.string k, .slice val.1 val.2.1 val.2.2, .int .i64 (mm : Int), .pointer p, .pointer q] 85 (0, 0)) := heap_alloc_last w2.drew _
    generalize w2.drew.alloc (.cells #[.string k, .slice val.1 val.2.1 val.2.2, .int .i64 (mm : Int), .pointer p, .pointer q] 85) = w3 at *
    refine wpAnyH_yield 19 8 (.pointer (some ⟨w2.heap.size, 0, none⟩)) rfl rfl (by kernel_rfl) (by kernel_rfl) (by kernel_rfl) (fun _ _ _ h => h) (by kernel_rfl) (fun W hW => by kernel_rfl) (by assumption) rfl rfl ?_
    simp only [Act.put, List.setIfInBounds_toArray, List.set_cons_zero, List.set_cons_succ]
    refine wpAnyH_yield 20 9 (.slice v.1 v.2.1 v.2.2) rfl rfl (by kernel_rfl) (by kernel_rfl) (by kernel_rfl) (fun _ _ _ h => h) (by kernel_rfl) (fun W hW => by kernel_rfl) (by assumption) rfl rfl ?_
    simp only [Act.put, List.setIfInBounds_toArray, List.set_cons_zero, List.set_cons_succ]
    refine wpAnyH_yield 21 10 (.bool true) rfl rfl (by kernel_rfl) (by kernel_rfl) (by kernel_rfl) (fun _ _ _ h => h) (by kernel_rfl) (fun W hW => by kernel_rfl) (by assumption) rfl rfl ?_
    simp only [Act.put, List.setIfInBounds_toArray, List.set_cons_zero, List.set_cons_succ]
    refine wpAnyH_done (by kernel_rfl) ?_ _
    go_wp2_with fail
    go_ret3
    refine ⟨w2.heap.size, ?_, ?_, T1.out.tr hT2⟩
    · unfold was; rw [hw.out.2.2]; rfl
    · rw [hlp.out]
      refine .node ?_ (K1.out.calm hT2) (K2.out.calm hT2)
      rw [HMM.out]
      exact hN2
  · have hz' := hne' cz hz
    have SO := hide (sideOf_any cz)
    rw [hs] at SO
    have IH := I2.out w2 T1.out
    go_wp2_with fail
    refine (SO.out _).mono ?_
    rintro e w' ⟨rfl, hq⟩
    obtain rfl := hq.symm
    clear hq
    go_wp2_with fail
    refine IH.mono ?_
    rintro e w3 ⟨b3, rfl, tl3, t3⟩
    have hl3 := (lput_len (k := key) (v := val) HD.out.parts.2.1).1
    have WA := hide (with1_any b k v p q (some ⟨b3, 0, none⟩) L _ w3 (N1.out.calm t3) (K1.out.calm t3) tl3 (low_of LOW.out (by omega)))
    have T3 := hide t3
    clear hl3 t3 tl3 IH
    go_wp2_with fail
    refine WA.out.mono ?_
    rintro e w4 ⟨b4, rfl, tl4, t4⟩
    go_wp2_with fail
    go_ret3
    have hw := pos_way HD.out (x := (k, v)) (by show 0 < c key k; rw [HCZ.out]; exact hz)
    refine ⟨b4, ?_, ?_, T1.out.tr (T3.out.tr t4)⟩
    · unfold was; rw [hw.2.2]; rfl
    · rw [lput_pos HD.out (x := (k, v)) (by show 0 < c key k; rw [HCZ.out]; exact hz)]; exact tl4

end Go.Proofs.YtamfcmmhmfhhkaaGreatDoor.LM

namespace Go.Proofs.YtamfcmmhmfhhkaaGreatDoor.LM
open Go.RowKit

/-- A map in memory, told by what it holds in order. -/
def Mt (w : World) (m f : Nat) (lb : Array Value) (X : List (ByteArray × (Option Addr × Nat × Nat))) : Prop := ∃ ro, Mp w m f lb ro ∧ TL w (.pointer ro) X

theorem Mt.touch {S : Nat → Prop} {w w' : World} {m f : Nat} {lb : Array Value} {X : List (ByteArray × (Option Addr × Nat × Nat))} (h : Mt w m f lb X) (ht : Touch S w w') (hm : ¬ S m) (hS : ∀ b cs fr, S b → w.heap[b]? ≠ some (.cells cs 85 fr)) : Mt w' m f lb X := by
  obtain ⟨ro, h1, h2⟩ := h
  refine ⟨ro, ht.heap h1 hm, ?_⟩
  clear h1
  generalize hp : Value.pointer ro = p at h2
  clear hp
  induction h2 with
  | nil => exact .nil
  | node hb _ _ il ir => exact .node (ht.heap hb fun hs => hS _ _ _ hs hb) il ir

theorem Mt.calm {w w' : World} {m f : Nat} {lb : Array Value} {X : List (ByteArray × (Option Addr × Nat × Nat))} (h : Mt w m f lb X) (ht : Calm w w') : Mt w' m f lb X := h.touch ht (fun h => h) (fun _ _ _ h => h.elim)

/-- How many keys a tree has, by its own count. -/
def cnt (w : World) : Value → Nat
  | .pointer (some a) => match w.heap[a.block]? with
    | some (.cells cs _ _) => (intOf (cs.getD 2 undef)).toNat
    | _ => 0
  | _ => 0

theorem TL.cnt {w : World} {p : Value} {X : List (ByteArray × (Option Addr × Nat × Nat))} (h : TL w p X) : cnt w p = X.length := by
  cases h with
  | nil => rfl
  | node hb _ _ => unfold LM.cnt; simp only [hb]; simp [intOf]; omega

theorem fn_neq (fn : Fn) (lb : Array Value) (W : World) : (binOp .neq 79 (.func fn #[] lb) .nilFunc).run Tryz.prog W = .ok (.bool true) W := by
  have e : binOp .neq 79 (.func fn #[] lb) .nilFunc = (do pure (.bool (!(← Op.equalIn (9999 + 1) 79 (.func fn #[] lb) .nilFunc)))) := rfl
  rw [e]
  unfold Op.equalIn
  simp only [Sem.run_bind, run_underlying Tryz.underlying79, Result.andThen_ok, Sem.run_pure, Bool.not_false]

theorem nil_neq (W : World) : (binOp .neq 79 .nilFunc .nilFunc).run Tryz.prog W = .ok (.bool false) W := by
  have e : binOp .neq 79 .nilFunc .nilFunc = (do pure (.bool (!(← Op.equalIn (9999 + 1) 79 .nilFunc .nilFunc)))) := rfl
  rw [e]
  unfold Op.equalIn
  simp only [Sem.run_bind, run_underlying Tryz.underlying79, Result.andThen_ok, Sem.run_pure, Bool.not_true]

theorem fn_eql (fn : Fn) (lb : Array Value) (W : World) : (binOp .eql 79 (.func fn #[] lb) .nilFunc).run Tryz.prog W = .ok (.bool false) W := by
  have e : binOp .eql 79 (.func fn #[] lb) .nilFunc = (do pure (.bool ((← Op.equalIn (9999 + 1) 79 (.func fn #[] lb) .nilFunc)))) := rfl
  rw [e]
  unfold Op.equalIn
  simp only [Sem.run_bind, run_underlying Tryz.underlying79, Result.andThen_ok, Sem.run_pure]

theorem nil_eql (W : World) : (binOp .eql 79 .nilFunc .nilFunc).run Tryz.prog W = .ok (.bool true) W := by
  have e : binOp .eql 79 .nilFunc .nilFunc = (do pure (.bool ((← Op.equalIn (9999 + 1) 79 .nilFunc .nilFunc)))) := rfl
  rw [e]
  unfold Op.equalIn
  simp only [Sem.run_bind, run_underlying Tryz.underlying79, Result.andThen_ok, Sem.run_pure]

set_option maxRecDepth 100000 in
theorem there_any (w : World) (m f : Nat) (lb : Array Value) (ro : Option Addr) (h : Mp w m f lb ro) : Calls Tryz.prog 45 #[.pointer (some ⟨m, 0, none⟩)] w fun e w' => e = .returned (.bool true) ∧ w' = w := by
  obtain ⟨c0, c1⟩ := cells2 h
  go_enter Tryz.func45, Tryz.ntmps45
  have hx := fn_neq (.func f) lb w
  go_wp2_with fail
  go_ret
  exact ⟨rfl, rfl⟩

set_option maxRecDepth 100000 in
theorem there_nil (w : World) : Calls Tryz.prog 45 #[.pointer none] w fun e w' => e = .returned (.bool false) ∧ w' = w := by
  go_enter Tryz.func45, Tryz.ntmps45
  go_wp2_with fail
  go_ret
  exact ⟨rfl, rfl⟩

set_option maxRecDepth 100000 in
theorem there_zero (w : World) (m : Nat) (h : w.heap[m]? = some (.cells #[.nilFunc, .pointer none] 82 (0, 0))) : Calls Tryz.prog 45 #[.pointer (some ⟨m, 0, none⟩)] w fun e w' => e = .returned (.bool false) ∧ w' = w := by
  obtain ⟨c0, c1⟩ := cells2 h
  go_enter Tryz.func45, Tryz.ntmps45
  have hx := nil_neq w
  go_wp2_with fail
  go_ret
  exact ⟨rfl, rfl⟩


/-- The root turned. -/
theorem Mt.root {w w' : World} {m f : Nat} {lb : Array Value} {ro r : Option Addr} {X : List (ByteArray × (Option Addr × Nat × Nat))} (h : Mp w m f lb ro) (ht : Calm w w') (hr : TL w' (.pointer r) X) :
    Mt (w'.setCell ⟨m, 1, none⟩ (.pointer r)) m f lb X ∧ Touch (fun g => g = m) w (w'.setCell ⟨m, 1, none⟩ (.pointer r)) := by
  have h' : Mp w' m f lb ro := ht.at h
  have t2 : Touch (fun g => g = m) w' (w'.setCell ⟨m, 1, none⟩ (.pointer r)) := (Touch.refl (fun g => g = m) w').setCell (p := ⟨m, 1, none⟩) (fun _ => rfl) _
  have m0 : Mt w' m f lb X → True := fun _ => trivial
  clear m0
  refine ⟨⟨r, ?_, ?_⟩, (ht.mono (fun _ _ h => h.elim)).trans t2 fun _ _ h => h⟩
  · have := heap_setCell_row (i := 1) h' (.pointer r)
    simpa [Mp] using this
  · generalize w'.setCell ⟨m, 1, none⟩ (.pointer r) = w'' at t2 ⊢
    generalize hp : Value.pointer r = p at hr ⊢
    clear hp
    induction hr with
    | nil => exact .nil
    | node hb _ _ il ir => exact .node (t2.heap hb fun hs => tags hb h' (by decide) hs) il ir

set_option maxRecDepth 100000 in
theorem put_any {f : Nat} {lb : Array Value} {c : ByteArray → ByteArray → Int} {Y : World → Prop} (hC : Cmp f lb c Y) (m : Nat) (key : ByteArray) (val : (Option Addr × Nat × Nat))
    (w : World) (X : List (ByteArray × (Option Addr × Nat × Nat))) (h : Mt w m f lb X) (hY : Y w) (hd : Dec (c key) X) (low : Low (X.length + 1)) :
    Calls Tryz.prog 36 #[.pointer (some ⟨m, 0, none⟩), .string key, .slice val.1 val.2.1 val.2.2] w fun e w' =>
      e = .returned (.tuple #[.slice (was (c key) X).1 (was (c key) X).2.1 (was (c key) X).2.2, .bool (it (c key) X).isSome, .int .i64 0]) ∧ Mt w' m f lb (lput (c key) key val X) ∧ Touch (fun g => g = m) w w' := by
  obtain ⟨ro, h1, h2⟩ := h
  have TH := hide (there_any w m f lb ro h1)
  have LA := hide (lay_any hC m ro key val h2 h1 hY hd low w (Touch.refl _ _))
  obtain ⟨c0, c1⟩ := cells2 h1
  have HM := hide h1
  clear h1 h2 hd hY low
  go_enter Tryz.func36, Tryz.ntmps36
  go_wp2_with fail
  refine TH.out.mono ?_
  rintro e w' ⟨rfl, hq⟩
  obtain rfl := hq.symm
  clear hq
  go_wp2_with fail
  refine LA.out.mono ?_
  rintro e w2 ⟨b2, rfl, tl2, t2⟩
  obtain ⟨f0, f1⟩ := Mt.root HM.out t2 tl2
  obtain ⟨d0, d1⟩ := cells2 (t2.at HM.out)
  have fz : w2.frozen? ⟨m, 1, none⟩ = false := by have := t2.at HM.out; simp [World.frozen?, this]
  have F0 := hide f0
  have F1 := hide f1
  clear f0 f1 c0 c1 tl2 t2
  go_wp2_with fail
  go_ret3
  exact ⟨rfl, F0.out, F1.out⟩


end Go.Proofs.YtamfcmmhmfhhkaaGreatDoor.LM

namespace Go.Proofs.YtamfcmmhmfhhkaaGreatDoor.LM
open Go.RowKit

theorem sign3 (z : Int) : (z < 0 ∧ sd z = 0 ∧ ¬ z = 0 ∧ ¬ 0 < z) ∨ z = 0 ∨ (0 < z ∧ sd z = 1 ∧ ¬ z = 0) := by
  unfold sd
  rcases Int.lt_trichotomy z 0 with h | h | h
  · exact .inl ⟨h, if_pos h, by omega, by omega⟩
  · exact .inr (.inl h)
  · exact .inr (.inr ⟨h, if_neg (by omega), by omega⟩)

set_option maxRecDepth 100000 in
set_option maxHeartbeats 1000000 in
theorem get_any {f : Nat} {lb : Array Value} {c : ByteArray → ByteArray → Int} {Y : World → Prop} (hC : Cmp f lb c Y) (m : Nat) (key : ByteArray)
    (w : World) (X : List (ByteArray × (Option Addr × Nat × Nat))) (h : Mt w m f lb X) (hY : Y w) (hd : Dec (c key) X) :
    Calls Tryz.prog 30 #[.pointer (some ⟨m, 0, none⟩), .string key] w fun e w' =>
      e = .returned (.tuple #[.slice (was (c key) X).1 (was (c key) X).2.1 (was (c key) X).2.2, .bool (it (c key) X).isSome]) ∧ Calm w w' := by
  obtain ⟨ro, h1, h2⟩ := h
  have TH := hide (there_any w m f lb ro h1)
  obtain ⟨c0, c1⟩ := cells2 h1
  have HM := hide h1
  have H2 := hide h2
  have HD := hide hd
  have HC := hide hC
  have HY := hide hY
  clear h1 h2 hd hY hC
  go_enter Tryz.func30, Tryz.ntmps30
  go_wp2_with fail
  refine TH.out.mono ?_
  rintro e w' ⟨rfl, hq⟩
  obtain rfl := hq.symm
  clear hq
  go_wp2_with fail
  clear c0 c1 TH
  go_loopw [6] (fun i wr => ∃ (o : Option Addr) (Z : List (ByteArray × (Option Addr × Nat × Nat))), i = .pointer o ∧ TL wr (.pointer o) Z ∧ Dec (c key) Z ∧ it (c key) X = it (c key) Z ∧ Calm w wr) (fun i wr => cnt wr i)
  case atStart => exact ⟨ro, X, rfl, H2.out, HD.out, rfl, Touch.refl _ _⟩
  case round =>
    obtain ⟨o, Z, rfl, htl, hdz, hit, tr⟩ := hrel
    have HIT := hide hit
    have TR := hide tr
    clear hit tr
    cases htl with
    | nil =>
      clear hdz
      go_wp2_with fail
      go_ret2
      refine ⟨?_, TR.out⟩
      unfold was
      rw [HIT.out]
      rfl
    | @node b k v p q L R hb g1 g2 =>
      have CA := hide (fun W (h : Calm w W) => HC.out.calls key k W (HC.out.calm _ _ HY.out h))
      have HB := hide hb
      have HZ := hide hdz
      have G1 := hide g1
      have G2 := hide g2
      have CN := hide (TL.node hb g1 g2).cnt
      have hsign := sign3 (c key k)
      clear hb hdz g1 g2
      generalize hcz : c key k = cz at *
      have HCZ := hide hcz
      clear hcz
      go_wp2_with fail
      refine wp_region_held (S := Calm wr) (by kernel_rfl) ?_
      have hT0 : Calm wr { wr with drawn := wr.drawn + 1 } := (Touch.refl (fun _ => False) wr).drew
      refine wpAnyH_yield 0 17 (.pointer (some ⟨m, 0, none⟩)) rfl rfl (by kernel_rfl) (by kernel_rfl) (by kernel_rfl) (fun _ _ _ h => h) (by kernel_rfl) (fun W hW => by kernel_rfl) (by assumption) rfl rfl ?_
      simp only [Act.put, List.setIfInBounds_toArray, List.set_cons_zero, List.set_cons_succ]
      refine wpAnyH_yield 1 18 (.pointer (some ⟨m, 0, none⟩)) rfl rfl (by kernel_rfl) (by kernel_rfl) (by kernel_rfl) (fun _ _ _ h => h) (by kernel_rfl) (fun W hW => by kernel_rfl) (by assumption) rfl rfl ?_
      simp only [Act.put, List.setIfInBounds_toArray, List.set_cons_zero, List.set_cons_succ]
      refine wpAnyH_yield 2 19 (.pointer (some ⟨m, 0, none⟩)) rfl rfl (by kernel_rfl) (by kernel_rfl) (by kernel_rfl) (fun _ _ _ h => h) (by kernel_rfl) (fun W hW => by go_simp) (by assumption) rfl rfl ?_
      simp only [Act.put, List.setIfInBounds_toArray, List.set_cons_zero, List.set_cons_succ]
      refine wpAnyH_yield 3 20 (.func (.func f) #[] lb) rfl rfl (by kernel_rfl) (by kernel_rfl) (by kernel_rfl) (fun _ _ _ h => h) (by kernel_rfl) (fun W hW => by obtain ⟨c0, c1⟩ := cells2 (hW.at (TR.out.at HM.out)); go_simp) (by assumption) rfl rfl ?_
      simp only [Act.put, List.setIfInBounds_toArray, List.set_cons_zero, List.set_cons_succ]
      refine wpAnyH_yield 4 21 (.string key) rfl rfl (by kernel_rfl) (by kernel_rfl) (by kernel_rfl) (fun _ _ _ h => h) (by kernel_rfl) (fun W hW => by kernel_rfl) (by assumption) rfl rfl ?_
      simp only [Act.put, List.setIfInBounds_toArray, List.set_cons_zero, List.set_cons_succ]
      refine wpAnyH_yield 5 22 (.pointer (some ⟨b, 0, none⟩)) rfl rfl (by kernel_rfl) (by kernel_rfl) (by kernel_rfl) (fun _ _ _ h => h) (by kernel_rfl) (fun W hW => by kernel_rfl) (by assumption) rfl rfl ?_
      simp only [Act.put, List.setIfInBounds_toArray, List.set_cons_zero, List.set_cons_succ]
      refine wpAnyH_yield 6 23 (.pointer (some ⟨b, 0, none⟩)) rfl rfl (by kernel_rfl) (by kernel_rfl) (by kernel_rfl) (fun _ _ _ h => h) (by kernel_rfl) (fun W hW => by kernel_rfl) (by assumption) rfl rfl ?_
      simp only [Act.put, List.setIfInBounds_toArray, List.set_cons_zero, List.set_cons_succ]
      refine wpAnyH_yield 7 24 (.pointer (some ⟨b, 0, none⟩)) rfl rfl (by kernel_rfl) (by kernel_rfl) (by kernel_rfl) (fun _ _ _ h => h) (by kernel_rfl) (fun W hW => by go_simp) (by assumption) rfl rfl ?_
      simp only [Act.put, List.setIfInBounds_toArray, List.set_cons_zero, List.set_cons_succ]
      refine wpAnyH_yield 8 25 (.string k) rfl rfl (by kernel_rfl) (by kernel_rfl) (by kernel_rfl) (fun _ _ _ h => h) (by kernel_rfl) (fun W hW => by obtain ⟨c0, c1, c2, c3, c4⟩ := cells5 (hW.at HB.out); go_simp) (by assumption) rfl rfl ?_
      simp only [Act.put, List.setIfInBounds_toArray, List.set_cons_zero, List.set_cons_succ]
      refine wpAnyH_enter 9 26 f (#[.string key, .string k] ++ lb) rfl rfl (by kernel_rfl) (by kernel_rfl) (by have e := HC.out.enter; go_simp) ?_
      refine (CA.out _ (TR.out.tr hT0)).mono ?_
      rintro r _ ⟨rfl, rfl⟩
      refine ⟨_, rfl, hT0, ?_⟩
      simp only [Act.put, List.setIfInBounds_toArray, List.set_cons_zero, List.set_cons_succ]
      refine wpAnyH_yield 10 7 (.int .i64 cz) rfl rfl (by kernel_rfl) (by kernel_rfl) (by kernel_rfl) (fun _ _ _ h => h) (by kernel_rfl) (fun W hW => by kernel_rfl) (by assumption) rfl rfl ?_
      simp only [Act.put, List.setIfInBounds_toArray, List.set_cons_zero, List.set_cons_succ]
      refine wpAnyH_done (by kernel_rfl) ?_ _
      have HB1 := hide (hT0.at HB.out)
      have T1 := hide hT0
      generalize ({ wr with drawn := wr.drawn + 1 } : World) = w2 at *
      clear hT0 CA
      obtain ⟨-, c1, -, c3, c4⟩ := cells5 HB1.out
      rcases (show (cz < 0 ∧ sd cz = 0 ∧ ¬ cz = 0) ∨ (0 < cz ∧ sd cz = 1 ∧ ¬ cz = 0) ∨ cz = 0 from by rcases hsign with h | h | h <;> simp [h]) with ⟨hz, hs, hz'⟩ | ⟨hz, hs, hz'⟩ | hz
      · have SO := hide (sideOf_any cz)
        rw [hs] at SO
        have hw := hide (neg_way HZ.out (x := (k, v)) (by show c key k < 0; rw [HCZ.out]; exact hz))
        clear hsign hz hs c1 c3 c4
        go_wp2_with fail
        refine wp_region_held (S := Calm w2) (by kernel_rfl) ?_
        have hT0 : Calm w2 { w2 with drawn := w2.drawn + 1 } := (Touch.refl (fun _ => False) w2).drew
        refine wpAnyH_yield 0 33 (.pointer (some ⟨b, 0, none⟩)) rfl rfl (by kernel_rfl) (by kernel_rfl) (by kernel_rfl) (fun _ _ _ h => h) (by kernel_rfl) (fun W hW => by kernel_rfl) (by assumption) rfl rfl ?_
        simp only [Act.put, List.setIfInBounds_toArray, List.set_cons_zero, List.set_cons_succ]
        refine wpAnyH_yield 1 34 (.int .i64 cz) rfl rfl (by kernel_rfl) (by kernel_rfl) (by kernel_rfl) (fun _ _ _ h => h) (by kernel_rfl) (fun W hW => by kernel_rfl) (by assumption) rfl rfl ?_
        simp only [Act.put, List.setIfInBounds_toArray, List.set_cons_zero, List.set_cons_succ]
        refine wpAnyH_yield 3 36 (.pointer (some ⟨b, 0, none⟩)) rfl rfl (by kernel_rfl) (by kernel_rfl) (by kernel_rfl) (fun _ _ _ h => h) (by kernel_rfl) (fun W hW => by kernel_rfl) (by assumption) rfl rfl ?_
        simp only [Act.put, List.setIfInBounds_toArray, List.set_cons_zero, List.set_cons_succ]
        refine wpAnyH_yield 4 37 (.pointer (some ⟨b, 3, none⟩)) rfl rfl (by kernel_rfl) (by kernel_rfl) (by kernel_rfl) (fun _ _ _ h => h) (by kernel_rfl) (fun W hW => by go_simp) (by assumption) rfl rfl ?_
        simp only [Act.put, List.setIfInBounds_toArray, List.set_cons_zero, List.set_cons_succ]
        refine wpAnyH_enter 2 35 46 #[.int .i64 cz] rfl rfl (by kernel_rfl) (by kernel_rfl) (by kernel_rfl) ?_
        refine (SO.out _).mono ?_
        rintro r _ ⟨rfl, rfl⟩
        refine ⟨_, rfl, hT0, ?_⟩
        simp only [Act.put, List.setIfInBounds_toArray, List.set_cons_zero, List.set_cons_succ]
        refine wpAnyH_yield 5 38 (.pointer (some ⟨b, 3, none⟩)) rfl rfl (by kernel_rfl) (by kernel_rfl) (by kernel_rfl) (fun _ _ _ h => h) (by kernel_rfl) (fun W hW => by go_simp) (by assumption) rfl rfl ?_
        simp only [Act.put, List.setIfInBounds_toArray, List.set_cons_zero, List.set_cons_succ]
        refine wpAnyH_yield 6 39 (.pointer p) rfl rfl (by kernel_rfl) (by kernel_rfl) (by kernel_rfl) (fun _ _ _ h => h) (by kernel_rfl) (fun W hW => by obtain ⟨c0, c1, c2, c3, c4⟩ := cells5 (hW.at HB1.out); go_simp) (by assumption) rfl rfl ?_
        simp only [Act.put, List.setIfInBounds_toArray, List.set_cons_zero, List.set_cons_succ]
        refine wpAnyH_yield 7 6 (.pointer p) rfl rfl (by kernel_rfl) (by kernel_rfl) (by kernel_rfl) (fun _ _ _ h => h) (by kernel_rfl) (fun W hW => by kernel_rfl) (by assumption) rfl rfl ?_
        simp only [Act.put, List.setIfInBounds_toArray, List.set_cons_zero, List.set_cons_succ]
        refine wpAnyH_done (by kernel_rfl) ?_ _
        have T2 := hide (T1.out.tr hT0)
        generalize ({ w2 with drawn := w2.drawn + 1 } : World) = w3 at *
        clear hT0
        go_wp2_with fail
        go_roundw
        case rel => exact ⟨p, L, rfl, G1.out.calm T2.out, HZ.out.parts.1, by rw [HIT.out]; exact hw.out.2.2, TR.out.tr T2.out⟩
        case measure =>
          rw [CN.out, (G1.out.calm T2.out).cnt]
          simp only [List.length_append, List.length_cons]
          omega
      · have SO := hide (sideOf_any cz)
        rw [hs] at SO
        have hw := hide (pos_way HZ.out (x := (k, v)) (by show 0 < c key k; rw [HCZ.out]; exact hz))
        clear hsign hz hs c1 c3 c4
        go_wp2_with fail
        refine wp_region_held (S := Calm w2) (by kernel_rfl) ?_
        have hT0 : Calm w2 { w2 with drawn := w2.drawn + 1 } := (Touch.refl (fun _ => False) w2).drew
        refine wpAnyH_yield 0 33 (.pointer (some ⟨b, 0, none⟩)) rfl rfl (by kernel_rfl) (by kernel_rfl) (by kernel_rfl) (fun _ _ _ h => h) (by kernel_rfl) (fun W hW => by kernel_rfl) (by assumption) rfl rfl ?_
        simp only [Act.put, List.setIfInBounds_toArray, List.set_cons_zero, List.set_cons_succ]
        refine wpAnyH_yield 1 34 (.int .i64 cz) rfl rfl (by kernel_rfl) (by kernel_rfl) (by kernel_rfl) (fun _ _ _ h => h) (by kernel_rfl) (fun W hW => by kernel_rfl) (by assumption) rfl rfl ?_
        simp only [Act.put, List.setIfInBounds_toArray, List.set_cons_zero, List.set_cons_succ]
        refine wpAnyH_yield 3 36 (.pointer (some ⟨b, 0, none⟩)) rfl rfl (by kernel_rfl) (by kernel_rfl) (by kernel_rfl) (fun _ _ _ h => h) (by kernel_rfl) (fun W hW => by kernel_rfl) (by assumption) rfl rfl ?_
        simp only [Act.put, List.setIfInBounds_toArray, List.set_cons_zero, List.set_cons_succ]
        refine wpAnyH_yield 4 37 (.pointer (some ⟨b, 3, none⟩)) rfl rfl (by kernel_rfl) (by kernel_rfl) (by kernel_rfl) (fun _ _ _ h => h) (by kernel_rfl) (fun W hW => by go_simp) (by assumption) rfl rfl ?_
        simp only [Act.put, List.setIfInBounds_toArray, List.set_cons_zero, List.set_cons_succ]
        refine wpAnyH_enter 2 35 46 #[.int .i64 cz] rfl rfl (by kernel_rfl) (by kernel_rfl) (by kernel_rfl) ?_
        refine (SO.out _).mono ?_
        rintro r _ ⟨rfl, rfl⟩
        refine ⟨_, rfl, hT0, ?_⟩
        simp only [Act.put, List.setIfInBounds_toArray, List.set_cons_zero, List.set_cons_succ]
        refine wpAnyH_yield 5 38 (.pointer (some ⟨b, 4, none⟩)) rfl rfl (by kernel_rfl) (by kernel_rfl) (by kernel_rfl) (fun _ _ _ h => h) (by kernel_rfl) (fun W hW => by go_simp) (by assumption) rfl rfl ?_
        simp only [Act.put, List.setIfInBounds_toArray, List.set_cons_zero, List.set_cons_succ]
        refine wpAnyH_yield 6 39 (.pointer q) rfl rfl (by kernel_rfl) (by kernel_rfl) (by kernel_rfl) (fun _ _ _ h => h) (by kernel_rfl) (fun W hW => by obtain ⟨c0, c1, c2, c3, c4⟩ := cells5 (hW.at HB1.out); go_simp) (by assumption) rfl rfl ?_
        simp only [Act.put, List.setIfInBounds_toArray, List.set_cons_zero, List.set_cons_succ]
        refine wpAnyH_yield 7 6 (.pointer q) rfl rfl (by kernel_rfl) (by kernel_rfl) (by kernel_rfl) (fun _ _ _ h => h) (by kernel_rfl) (fun W hW => by kernel_rfl) (by assumption) rfl rfl ?_
        simp only [Act.put, List.setIfInBounds_toArray, List.set_cons_zero, List.set_cons_succ]
        refine wpAnyH_done (by kernel_rfl) ?_ _
        have T2 := hide (T1.out.tr hT0)
        generalize ({ w2 with drawn := w2.drawn + 1 } : World) = w3 at *
        clear hT0
        go_wp2_with fail
        go_roundw
        case rel => exact ⟨q, R, rfl, G2.out.calm T2.out, HZ.out.parts.2.1, by rw [HIT.out]; exact hw.out.2.2, TR.out.tr T2.out⟩
        case measure =>
          rw [CN.out, (G2.out.calm T2.out).cnt]
          simp only [List.length_append, List.length_cons]
          omega
      · subst hz
        have hw := hide (at_way HZ.out (x := (k, v)) HCZ.out)
        clear hsign c3 c4
        go_wp2_with fail
        go_ret2
        refine ⟨?_, TR.out.tr T1.out⟩
        unfold was
        rw [HIT.out, hw.out.2.2]
        rfl


end Go.Proofs.YtamfcmmhmfhhkaaGreatDoor.LM
