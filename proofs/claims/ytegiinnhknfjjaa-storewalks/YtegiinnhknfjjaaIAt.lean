/- The program's At, Copy. -/
import Derived.Test.YtegiinnhknfjjaaILook
import Derived.Test.YtegiinnhknfjjaaSCmp
namespace Go.Proofs.Ytegiinnhknfjjaa.IM
open Go.RowKit

/-- What stands at a place. -/
def atI (X : List (Int × Int)) (i : Int) : Option (Int × Int) := if 0 ≤ i then X[i.toNat]? else none

/-- What At answers. -/
def atV : Option (Int × Int) → Value
  | some a => .tuple #[.int .i64 a.1, .int .i64 a.2, .bool true]
  | none => .tuple #[.int .i64 0, .int .i64 0, .bool false]

theorem atI_lo {L R : List (Int × Int)} {x : Int × Int} {j : Int} (h : j < (L.length : Int)) : atI (L ++ x :: R) j = atI L j := by
  unfold atI
  by_cases h0 : 0 ≤ j
  · rw [if_pos h0, if_pos h0, List.getElem?_append_left (by omega)]
  · rw [if_neg h0, if_neg h0]

theorem atI_at {L R : List (Int × Int)} {x : Int × Int} : atI (L ++ x :: R) (L.length : Int) = some x := by
  unfold atI
  rw [if_pos (by omega), Int.toNat_natCast, List.getElem?_append_right (Nat.le_refl _)]
  simp

theorem atI_hi {L R : List (Int × Int)} {x : Int × Int} {j : Int} (h : (L.length : Int) < j) : atI (L ++ x :: R) j = atI R (j - ((L.length : Int) + 1)) := by
  unfold atI
  rw [if_pos (by omega), if_pos (by omega), List.getElem?_append_right (by omega)]
  have e : j.toNat - L.length = (j - ((L.length : Int) + 1)).toNat + 1 := by omega
  rw [e, List.getElem?_cons_succ]

theorem at_sub {j : Int} {l : Nat} (hl : Low l) (h1 : (l : Int) < j) (h2 : j < 9223372036854775808) : wrap64 (j - wrap64 ((l : Int) + 1)) = j - ((l : Int) + 1) := by have := hl.le; unfold wrap64; omega

theorem cmpI3 (j l : Int) : (j < l ∧ cmpI j l = -1) ∨ (l < j ∧ cmpI j l = 1) ∨ (j = l ∧ cmpI j l = 0) := by
  unfold cmpI
  rcases Int.lt_trichotomy j l with h | h | h
  · exact .inl ⟨h, if_pos h⟩
  · exact .inr (.inr ⟨h, by rw [if_neg (by omega), if_neg (by omega)]⟩)
  · exact .inr (.inl ⟨h, by rw [if_neg (by omega), if_pos h]⟩)

set_option maxRecDepth 100000 in
set_option maxHeartbeats 1000000 in
theorem at_any (f : Nat) (lb : Array Value) (m : Nat) (i0 : Int) (hi0 : i0 < 9223372036854775808)
    (w : World) (X : List (Int × Int)) (h : Mt w m f lb X) (low : Low X.length) :
    Calls Try.prog 41 #[.pointer (some ⟨m, 0, none⟩), .int .i64 i0] w fun e w' => e = .returned (atV (atI X i0)) ∧ Calm w w' := by
  obtain ⟨ro, h1, h2⟩ := h
  have TH := hide (there_any w m f lb ro h1)
  obtain ⟨c0, c1⟩ := cells2 h1
  have HM := hide h1
  have H2 := hide h2
  have LOW := hide low
  have HI0 := hide hi0
  clear h1 h2 low hi0
  go_enter Try.func41, Try.ntmps41
  go_wp2_with fail
  refine TH.out.mono ?_
  rintro e w' ⟨rfl, hq⟩
  obtain rfl := hq.symm
  clear hq
  go_wp2_with fail
  clear c0 c1 TH
  go_loopw [1, 7] (fun j i wr => ∃ (a : Int) (o : Option Addr) (Z : List (Int × Int)), j = .int .i64 a ∧ i = .pointer o ∧ TL wr (.pointer o) Z ∧ atI X i0 = atI Z a ∧ a < 9223372036854775808 ∧ Z.length ≤ X.length ∧ Calm w wr) (fun _ i wr => cnt wr i)
  case atStart => exact ⟨i0, ro, X, rfl, rfl, H2.out, rfl, HI0.out, Nat.le_refl _, Touch.refl _ _⟩
  case round =>
    obtain ⟨a, o, Z, rfl, rfl, htl, hat, ha, hle, tr⟩ := hrel
    have HAT := hide hat
    have HA := hide ha
    have HLE := hide hle
    have TR := hide tr
    clear hat ha hle tr
    cases htl with
    | nil =>
      go_wp2_with fail
      go_ret3
      refine ⟨?_, TR.out⟩
      rw [HAT.out]
      unfold atI
      split <;> rfl
    | @node b k v p q L R hb g1 g2 =>
      have SI := hide (fun W (h : Calm wr W) => size_any _ L W (g1.calm h))
      have HB := hide hb
      obtain ⟨-, -, -, c3, c4⟩ := cells5 hb
      have G1 := hide g1
      have G2 := hide g2
      have CN := hide (TL.node hb g1 g2).cnt
      have hll : L.length + 1 + R.length ≤ X.length := by have := HLE.out; simp at this; omega
      have HLL := hide hll
      have P1 := hide (fun h => at_sub (j := a) (l := L.length) (low_of LOW.out (by omega)) h HA.out)
      have hc := cmpI3 a (L.length : Int)
      have CM := hide (fun W => cmpI_any a (L.length : Int) W)
      have A1 := hide (fun h => atI_lo (L := L) (R := R) (x := (k, v)) (j := a) h)
      have A2 := hide (fun h => atI_hi (L := L) (R := R) (x := (k, v)) (j := a) h)
      have A3 := hide (atI_at (L := L) (R := R) (x := (k, v)))
      clear hb g1 g2 hll
      generalize hln : (L.length : Int) = l at *
      have HLN := hide hln
      clear hln
      go_wp2_with fail
      refine (SI.out _ (Touch.refl _ _)).mono ?_
      rintro e w' ⟨rfl, hq⟩
      obtain rfl := hq.symm
      clear hq
      rcases hc with ⟨hc, hv⟩ | ⟨hc, hv⟩ | ⟨hc, hv⟩
      · rw [hv] at CM
        have SO := hide (sideOf_any (-1))
        clear hv
        go_wp2_with fail
        refine (CM.out _).mono ?_
        rintro e w' ⟨rfl, hq⟩
        obtain rfl := hq.symm
        clear hq
        go_wp2_with fail
        skip
        skip
        skip
        skip
        skip
        skip
        refine wp_region_held (S := Calm wr) (by kernel_rfl) ?_
        have hT0 : Calm wr { wr with drawn := wr.drawn + 1 } := (Touch.refl (fun _ => False) wr).drew
        clear c3 c4
        refine wpAnyH_yield 0 48 (.pointer (some ⟨b, 0, none⟩)) rfl rfl (by kernel_rfl) (by kernel_rfl) (by kernel_rfl) (fun _ _ _ h => h) (by kernel_rfl) (fun W hW => by kernel_rfl) (by assumption) rfl rfl ?_
        simp only [Act.put, List.setIfInBounds_toArray, List.set_cons_zero, List.set_cons_succ]
        refine wpAnyH_yield 1 49 (.int .i64 (-1)) rfl rfl (by kernel_rfl) (by kernel_rfl) (by kernel_rfl) (fun _ _ _ h => h) (by kernel_rfl) (fun W hW => by kernel_rfl) (by assumption) rfl rfl ?_
        simp only [Act.put, List.setIfInBounds_toArray, List.set_cons_zero, List.set_cons_succ]
        refine wpAnyH_yield 3 51 (.pointer (some ⟨b, 0, none⟩)) rfl rfl (by kernel_rfl) (by kernel_rfl) (by kernel_rfl) (fun _ _ _ h => h) (by kernel_rfl) (fun W hW => by kernel_rfl) (by assumption) rfl rfl ?_
        simp only [Act.put, List.setIfInBounds_toArray, List.set_cons_zero, List.set_cons_succ]
        refine wpAnyH_yield 4 52 (.pointer (some ⟨b, 3, none⟩)) rfl rfl (by kernel_rfl) (by kernel_rfl) (by kernel_rfl) (fun _ _ _ h => h) (by kernel_rfl) (fun W hW => by go_simp) (by assumption) rfl rfl ?_
        simp only [Act.put, List.setIfInBounds_toArray, List.set_cons_zero, List.set_cons_succ]
        refine wpAnyH_enter 2 50 60 #[.int .i64 (-1)] rfl rfl (by kernel_rfl) (by kernel_rfl) (by kernel_rfl) ?_
        refine (SO.out _).mono ?_
        rintro r _ ⟨rfl, rfl⟩
        refine ⟨_, rfl, hT0, ?_⟩
        simp only [Act.put, List.setIfInBounds_toArray, List.set_cons_zero, List.set_cons_succ]
        refine wpAnyH_yield 5 53 (.pointer (some ⟨b, 3, none⟩)) rfl rfl (by kernel_rfl) (by kernel_rfl) (by kernel_rfl) (fun _ _ _ h => h) (by kernel_rfl) (fun W hW => by simp only [sd]; go_simp) (by assumption) rfl rfl ?_
        simp only [Act.put, List.setIfInBounds_toArray, List.set_cons_zero, List.set_cons_succ]
        refine wpAnyH_yield 6 54 (.pointer p) rfl rfl (by kernel_rfl) (by kernel_rfl) (by kernel_rfl) (fun _ _ _ h => h) (by kernel_rfl) (fun W hW => by obtain ⟨c0, c1, c2, c3, c4⟩ := cells5 (hW.at HB.out); go_simp) (by assumption) rfl rfl ?_
        simp only [Act.put, List.setIfInBounds_toArray, List.set_cons_zero, List.set_cons_succ]
        refine wpAnyH_yield 7 7 (.pointer p) rfl rfl (by kernel_rfl) (by kernel_rfl) (by kernel_rfl) (fun _ _ _ h => h) (by kernel_rfl) (fun W hW => by kernel_rfl) (by assumption) rfl rfl ?_
        simp only [Act.put, List.setIfInBounds_toArray, List.set_cons_zero, List.set_cons_succ]
        refine wpAnyH_done (by kernel_rfl) ?_ _
        have T2 := hide hT0
        generalize ({ wr with drawn := wr.drawn + 1 } : World) = w3 at *
        clear hT0
        go_wp2_with fail
        go_roundw
        case rel => exact ⟨_, p, L, rfl, rfl, G1.out.calm T2.out, by rw [HAT.out]; exact A1.out hc, by have := HA.out; omega, by have := HLL.out; omega, TR.out.tr T2.out⟩
        case measure =>
          rw [CN.out, (G1.out.calm T2.out).cnt]
          simp only [List.length_append, List.length_cons]
          omega
      · rw [hv] at CM
        have SO := hide (sideOf_any 1)
        clear hv
        go_wp2_with fail
        refine (CM.out _).mono ?_
        rintro e w' ⟨rfl, hq⟩
        obtain rfl := hq.symm
        clear hq
        go_wp2_with fail
        refine (SI.out _ (Touch.refl _ _)).mono ?_
        rintro e w' ⟨rfl, hq⟩
        obtain rfl := hq.symm
        clear hq
        go_wp2_with fail
        rw [P1.out hc]
        refine wp_region_held (S := Calm wr) (by kernel_rfl) ?_
        have hT0 : Calm wr { wr with drawn := wr.drawn + 1 } := (Touch.refl (fun _ => False) wr).drew
        clear c3 c4
        refine wpAnyH_yield 0 48 (.pointer (some ⟨b, 0, none⟩)) rfl rfl (by kernel_rfl) (by kernel_rfl) (by kernel_rfl) (fun _ _ _ h => h) (by kernel_rfl) (fun W hW => by kernel_rfl) (by assumption) rfl rfl ?_
        simp only [Act.put, List.setIfInBounds_toArray, List.set_cons_zero, List.set_cons_succ]
        refine wpAnyH_yield 1 49 (.int .i64 1) rfl rfl (by kernel_rfl) (by kernel_rfl) (by kernel_rfl) (fun _ _ _ h => h) (by kernel_rfl) (fun W hW => by kernel_rfl) (by assumption) rfl rfl ?_
        simp only [Act.put, List.setIfInBounds_toArray, List.set_cons_zero, List.set_cons_succ]
        refine wpAnyH_yield 3 51 (.pointer (some ⟨b, 0, none⟩)) rfl rfl (by kernel_rfl) (by kernel_rfl) (by kernel_rfl) (fun _ _ _ h => h) (by kernel_rfl) (fun W hW => by kernel_rfl) (by assumption) rfl rfl ?_
        simp only [Act.put, List.setIfInBounds_toArray, List.set_cons_zero, List.set_cons_succ]
        refine wpAnyH_yield 4 52 (.pointer (some ⟨b, 3, none⟩)) rfl rfl (by kernel_rfl) (by kernel_rfl) (by kernel_rfl) (fun _ _ _ h => h) (by kernel_rfl) (fun W hW => by go_simp) (by assumption) rfl rfl ?_
        simp only [Act.put, List.setIfInBounds_toArray, List.set_cons_zero, List.set_cons_succ]
        refine wpAnyH_enter 2 50 60 #[.int .i64 1] rfl rfl (by kernel_rfl) (by kernel_rfl) (by kernel_rfl) ?_
        refine (SO.out _).mono ?_
        rintro r _ ⟨rfl, rfl⟩
        refine ⟨_, rfl, hT0, ?_⟩
        simp only [Act.put, List.setIfInBounds_toArray, List.set_cons_zero, List.set_cons_succ]
        refine wpAnyH_yield 5 53 (.pointer (some ⟨b, 4, none⟩)) rfl rfl (by kernel_rfl) (by kernel_rfl) (by kernel_rfl) (fun _ _ _ h => h) (by kernel_rfl) (fun W hW => by simp only [sd]; go_simp) (by assumption) rfl rfl ?_
        simp only [Act.put, List.setIfInBounds_toArray, List.set_cons_zero, List.set_cons_succ]
        refine wpAnyH_yield 6 54 (.pointer q) rfl rfl (by kernel_rfl) (by kernel_rfl) (by kernel_rfl) (fun _ _ _ h => h) (by kernel_rfl) (fun W hW => by obtain ⟨c0, c1, c2, c3, c4⟩ := cells5 (hW.at HB.out); go_simp) (by assumption) rfl rfl ?_
        simp only [Act.put, List.setIfInBounds_toArray, List.set_cons_zero, List.set_cons_succ]
        refine wpAnyH_yield 7 7 (.pointer q) rfl rfl (by kernel_rfl) (by kernel_rfl) (by kernel_rfl) (fun _ _ _ h => h) (by kernel_rfl) (fun W hW => by kernel_rfl) (by assumption) rfl rfl ?_
        simp only [Act.put, List.setIfInBounds_toArray, List.set_cons_zero, List.set_cons_succ]
        refine wpAnyH_done (by kernel_rfl) ?_ _
        have T2 := hide hT0
        generalize ({ wr with drawn := wr.drawn + 1 } : World) = w3 at *
        clear hT0
        go_wp2_with fail
        go_roundw
        case rel => exact ⟨_, q, R, rfl, rfl, G2.out.calm T2.out, by rw [HAT.out]; exact A2.out hc, by have := HA.out; have := HLN.out; omega, by have := HLL.out; omega, TR.out.tr T2.out⟩
        case measure =>
          rw [CN.out, (G2.out.calm T2.out).cnt]
          simp only [List.length_append, List.length_cons]
          omega
      · subst hc
        rw [hv] at CM
        clear hv
        go_wp2_with fail
        refine (CM.out _).mono ?_
        rintro e w' ⟨rfl, hq⟩
        obtain rfl := hq.symm
        clear hq
        go_wp2_with fail
        refine wp_region_held (S := Calm wr) (by kernel_rfl) ?_
        have hT0 : Calm wr { wr with drawn := wr.drawn + 1 } := (Touch.refl (fun _ => False) wr).drew
        refine wpAnyH_yield 0 29 (.pointer (some ⟨b, 0, none⟩)) rfl rfl (by kernel_rfl) (by kernel_rfl) (by kernel_rfl) (fun _ _ _ h => h) (by kernel_rfl) (fun W hW => by kernel_rfl) (by assumption) rfl rfl ?_
        simp only [Act.put, List.setIfInBounds_toArray, List.set_cons_zero, List.set_cons_succ]
        refine wpAnyH_yield 1 30 (.pointer (some ⟨b, 0, none⟩)) rfl rfl (by kernel_rfl) (by kernel_rfl) (by kernel_rfl) (fun _ _ _ h => h) (by kernel_rfl) (fun W hW => by kernel_rfl) (by assumption) rfl rfl ?_
        simp only [Act.put, List.setIfInBounds_toArray, List.set_cons_zero, List.set_cons_succ]
        refine wpAnyH_yield 2 31 (.pointer (some ⟨b, 0, none⟩)) rfl rfl (by kernel_rfl) (by kernel_rfl) (by kernel_rfl) (fun _ _ _ h => h) (by kernel_rfl) (fun W hW => by go_simp) (by assumption) rfl rfl ?_
        simp only [Act.put, List.setIfInBounds_toArray, List.set_cons_zero, List.set_cons_succ]
        refine wpAnyH_yield 3 32 (.int .i64 k) rfl rfl (by kernel_rfl) (by kernel_rfl) (by kernel_rfl) (fun _ _ _ h => h) (by kernel_rfl) (fun W hW => by obtain ⟨c0, c1, c2, c3, c4⟩ := cells5 (hW.at HB.out); go_simp) (by assumption) rfl rfl ?_
        simp only [Act.put, List.setIfInBounds_toArray, List.set_cons_zero, List.set_cons_succ]
        refine wpAnyH_yield 4 33 (.pointer (some ⟨b, 0, none⟩)) rfl rfl (by kernel_rfl) (by kernel_rfl) (by kernel_rfl) (fun _ _ _ h => h) (by kernel_rfl) (fun W hW => by kernel_rfl) (by assumption) rfl rfl ?_
        simp only [Act.put, List.setIfInBounds_toArray, List.set_cons_zero, List.set_cons_succ]
        refine wpAnyH_yield 5 34 (.pointer (some ⟨b, 0, none⟩)) rfl rfl (by kernel_rfl) (by kernel_rfl) (by kernel_rfl) (fun _ _ _ h => h) (by kernel_rfl) (fun W hW => by kernel_rfl) (by assumption) rfl rfl ?_
        simp only [Act.put, List.setIfInBounds_toArray, List.set_cons_zero, List.set_cons_succ]
        refine wpAnyH_yield 6 35 (.pointer (some ⟨b, 1, none⟩)) rfl rfl (by kernel_rfl) (by kernel_rfl) (by kernel_rfl) (fun _ _ _ h => h) (by kernel_rfl) (fun W hW => by go_simp) (by assumption) rfl rfl ?_
        simp only [Act.put, List.setIfInBounds_toArray, List.set_cons_zero, List.set_cons_succ]
        refine wpAnyH_yield 7 36 (.int .i64 v) rfl rfl (by kernel_rfl) (by kernel_rfl) (by kernel_rfl) (fun _ _ _ h => h) (by kernel_rfl) (fun W hW => by obtain ⟨c0, c1, c2, c3, c4⟩ := cells5 (hW.at HB.out); go_simp) (by assumption) rfl rfl ?_
        simp only [Act.put, List.setIfInBounds_toArray, List.set_cons_zero, List.set_cons_succ]
        refine wpAnyH_yield 8 4 (.int .i64 k) rfl rfl (by kernel_rfl) (by kernel_rfl) (by kernel_rfl) (fun _ _ _ h => h) (by kernel_rfl) (fun W hW => by kernel_rfl) (by assumption) rfl rfl ?_
        simp only [Act.put, List.setIfInBounds_toArray, List.set_cons_zero, List.set_cons_succ]
        refine wpAnyH_yield 9 5 (.int .i64 v) rfl rfl (by kernel_rfl) (by kernel_rfl) (by kernel_rfl) (fun _ _ _ h => h) (by kernel_rfl) (fun W hW => by kernel_rfl) (by assumption) rfl rfl ?_
        simp only [Act.put, List.setIfInBounds_toArray, List.set_cons_zero, List.set_cons_succ]
        refine wpAnyH_yield 10 6 (.bool true) rfl rfl (by kernel_rfl) (by kernel_rfl) (by kernel_rfl) (fun _ _ _ h => h) (by kernel_rfl) (fun W hW => by kernel_rfl) (by assumption) rfl rfl ?_
        simp only [Act.put, List.setIfInBounds_toArray, List.set_cons_zero, List.set_cons_succ]
        refine wpAnyH_done (by kernel_rfl) ?_ _
        have T2 := hide hT0
        generalize ({ wr with drawn := wr.drawn + 1 } : World) = w3 at *
        clear hT0
        go_wp2_with fail
        go_ret3
        refine ⟨?_, TR.out.tr T2.out⟩
        rw [HAT.out, A3.out]
        rfl

end Go.Proofs.Ytegiinnhknfjjaa.IM
