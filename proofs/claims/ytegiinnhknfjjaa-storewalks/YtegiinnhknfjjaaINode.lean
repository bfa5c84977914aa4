/- The program's weight, sideOf, pair, over. -/
import Derived.Test.YtegiinnhknfjjaaITree
import Derived.Test.YtegiinnhknfjjaaTake
namespace Go.Proofs.Ytegiinnhknfjjaa.IM
open Go.RowKit

/-- So many keys can be counted, and thrice as many. -/
structure Low (n : Nat) : Prop where
  le : n ≤ 1152921504606846976

/-- A node's own cells. -/
def Nd (w : World) (b : Nat) (k : Int) (v : Int) (p q : Option Addr) : Prop :=
  ∃ n : Int, w.heap[b]? = some (.cells #[.int .i64 k, .int .i64 v, .int .i64 n, .pointer p, .pointer q] 105 (0, 0))

theorem Nd.calm {w w' : World} {b : Nat} {k : Int} {v : Int} {p q : Option Addr} (h : Nd w b k v p q) (ht : Calm w w') : Nd w' b k v p q := by
  obtain ⟨n, h⟩ := h
  exact ⟨n, ht.at h⟩

/-- What stands in order: A on side s, B on the other one. -/
def row (s : Int) (x : Int × Int) (A B : List (Int × Int)) : List (Int × Int) := if s = 0 then A ++ x :: B else B ++ x :: A

theorem row0 (x : Int × Int) (A B : List (Int × Int)) : row 0 x A B = A ++ x :: B := rfl
theorem row1 (x : Int × Int) (A B : List (Int × Int)) : row 1 x A B = B ++ x :: A := rfl

theorem wrap_1 {n : Nat} (h : n + 1 < 9223372036854775808) : wrap64 ((n : Int) + 1) = ((n + 1 : Nat) : Int) := by unfold wrap64; omega

set_option maxRecDepth 100000 in
theorem weight_any (p : Value) (L : List (Int × Int)) (w : World) (h : TL w p L) (hl : Low L.length) : Calls Try.prog 85 #[p] w fun e w' => e = .returned (.int .i64 (L.length + 1 : Nat)) ∧ w' = w := by
  have S := hide (size_any p L w h)
  have W := hide (wrap_1 (n := L.length) (by have := hl.le; omega))
  obtain ⟨a, rfl⟩ := h.ptr
  clear h hl
  generalize L.length = n at *
  go_enter Try.func85, Try.ntmps85
  go_wp2_with fail
  refine S.out.mono ?_
  rintro e w' ⟨rfl, rfl⟩
  go_wp2_with fail
  go_ret
  exact ⟨by rw [W.out]; rfl, rfl⟩

set_option maxRecDepth 100000 in
theorem pair0_any (p q : Option Addr) (w : World) : Calls Try.prog 78 #[.int .i64 0, .pointer p, .pointer q] w fun e w' => e = .returned (.agg #[.pointer p, .pointer q]) ∧ Calm w w' := by
  go_enter Try.func78, Try.ntmps78
  go_wp2_with fail
  refine bodyPost_ret (results_cell_row rfl _ _ _ _ _ _ _ rfl ((Below.heap_alloc _ _ _ (by simp)).trans (heap_alloc_last w _)) Try.underlying103 rfl (by kernel_rfl)) rfl ?_
  exact ⟨rfl, ((Touch.refl _ _).alloc _).alloc _⟩

set_option maxRecDepth 100000 in
theorem pair1_any (p q : Option Addr) (w : World) : Calls Try.prog 78 #[.int .i64 1, .pointer p, .pointer q] w fun e w' => e = .returned (.agg #[.pointer q, .pointer p]) ∧ Calm w w' := by
  go_enter Try.func78, Try.ntmps78
  go_wp2_with fail
  refine bodyPost_ret (results_cell_row rfl _ _ _ _ _ _ _ rfl ((Below.heap_alloc _ _ _ (by simp)).trans (heap_alloc_last w _)) Try.underlying103 rfl (by kernel_rfl)) rfl ?_
  exact ⟨rfl, ((Touch.refl _ _).alloc _).alloc _⟩

theorem over_sum {l r : Nat} (h : Low (l + 1 + r)) : wrap64 (wrap64 ((l : Int) + 1) + (r : Int)) = ((l + 1 + r : Nat) : Int) := by have := h.le; unfold wrap64; omega

set_option maxRecDepth 100000 in
set_option maxHeartbeats 2000000 in
theorem over_any (b : Nat) (k : Int) (v : Int) (x y p q : Option Addr) (L R : List (Int × Int)) (w : World) (hn : Nd w b k v x y) (hp : TL w (.pointer p) L) (hq : TL w (.pointer q) R) (hl : Low (L.length + 1 + R.length)) :
    Calls Try.prog 84 #[.pointer (some ⟨b, 0, none⟩), .agg #[.pointer p, .pointer q]] w fun e w' => ∃ b', e = .returned (.pointer (some ⟨b', 0, none⟩)) ∧ TL w' (.pointer (some ⟨b', 0, none⟩)) (L ++ (k, v) :: R) ∧ Nd w' b' k v p q ∧ Calm w w' := by
  have W := hide (over_sum hl)
  have SP := hide (fun (W : World) (h : Calm w W) => size_any (.pointer p) L W (hp.calm h))
  have SQ := hide (fun (W : World) (h : Calm w W) => size_any (.pointer q) R W (hq.calm h))
  have HP := hide hp
  have HQ := hide hq
  have T := hide ((Touch.refl (fun _ => False) w).alloc (.cells #[.pointer p, .pointer q] 103))
  obtain ⟨n, hb⟩ := hn
  have HB0 := hide hb
  clear hp hq hl hb
  generalize hll : L.length = l at *
  generalize hrr : R.length = r at *
  have HL := hide hll
  have HR := hide hrr
  clear hll hrr
  go_enter Try.func84, Try.ntmps84
  go_wp2_with fail
  have HA0 : Hid ((w.alloc (.cells #[.pointer p, .pointer q] 103)).heap[w.heap.size]? = some (.cells #[.pointer p, .pointer q] 103 (0, 0))) := hide (heap_alloc_last w _)
  generalize w.alloc (.cells #[.pointer p, .pointer q] 103) = w0 at *
  refine wp_region_held (S := Calm w0) (by kernel_rfl) ?_
  have hT0 : Calm w0 { w0 with drawn := w0.drawn + 1 } := (Touch.refl (fun _ => False) w0).drew
  refine wpAnyH_yield 0 6 (.pointer (some ⟨w.heap.size, 0, none⟩)) rfl rfl (by kernel_rfl) (by kernel_rfl) (by kernel_rfl) (fun _ _ _ h => h) (by kernel_rfl) (fun W hW => by go_simp) (by assumption) rfl rfl ?_
  simp only [Act.put, List.setIfInBounds_toArray, List.set_cons_zero, List.set_cons_succ]
  refine wpAnyH_yield 1 7 (.pointer p) rfl rfl (by kernel_rfl) (by kernel_rfl) (by kernel_rfl) (fun _ _ _ h => h) (by kernel_rfl) (fun W hW => by obtain ⟨c0, c1⟩ := cells2 (hW.at HA0.out); go_simp) (by assumption) rfl rfl ?_
  simp only [Act.put, List.setIfInBounds_toArray, List.set_cons_zero, List.set_cons_succ]
  refine wpAnyH_yield 4 10 (.pointer (some ⟨w.heap.size, 1, none⟩)) rfl rfl (by kernel_rfl) (by kernel_rfl) (by kernel_rfl) (fun _ _ _ h => h) (by kernel_rfl) (fun W hW => by go_simp) (by assumption) rfl rfl ?_
  simp only [Act.put, List.setIfInBounds_toArray, List.set_cons_zero, List.set_cons_succ]
  refine wpAnyH_yield 5 11 (.pointer q) rfl rfl (by kernel_rfl) (by kernel_rfl) (by kernel_rfl) (fun _ _ _ h => h) (by kernel_rfl) (fun W hW => by obtain ⟨c0, c1⟩ := cells2 (hW.at HA0.out); go_simp) (by assumption) rfl rfl ?_
  simp only [Act.put, List.setIfInBounds_toArray, List.set_cons_zero, List.set_cons_succ]
  refine wpAnyH_enter 2 8 64 #[.pointer p] rfl rfl (by kernel_rfl) (by kernel_rfl) (by kernel_rfl) ?_
  refine (SP.out _ (T.out.tr hT0)).mono ?_
  rintro r _ ⟨rfl, rfl⟩
  refine ⟨_, rfl, hT0, ?_⟩
  simp only [Act.put, List.setIfInBounds_toArray, List.set_cons_zero, List.set_cons_succ]
  refine wpAnyH_yield 3 9 (.int .i64 (wrap64 ((l : Int) + 1))) rfl rfl (by kernel_rfl) (by kernel_rfl) (by kernel_rfl) (fun _ _ _ h => h) (by kernel_rfl) (fun W hW => by go_simp; rw [wrapEq]) (by assumption) rfl rfl ?_
  simp only [Act.put, List.setIfInBounds_toArray, List.set_cons_zero, List.set_cons_succ]
  refine wpAnyH_enter 6 12 64 #[.pointer q] rfl rfl (by kernel_rfl) (by kernel_rfl) (by kernel_rfl) ?_
  refine (SQ.out _ (T.out.tr hT0)).mono ?_
  rintro r _ ⟨rfl, rfl⟩
  refine ⟨_, rfl, hT0, ?_⟩
  simp only [Act.put, List.setIfInBounds_toArray, List.set_cons_zero, List.set_cons_succ]
  refine wpAnyH_yield 7 13 (.int .i64 (wrap64 (wrap64 ((l : Int) + 1) + (r : Int)))) rfl rfl (by kernel_rfl) (by kernel_rfl) (by kernel_rfl) (fun _ _ _ h => h) (by kernel_rfl) (fun W hW => by go_simp; rw [wrapEq]) (by assumption) rfl rfl ?_
  simp only [Act.put, List.setIfInBounds_toArray, List.set_cons_zero, List.set_cons_succ]
  refine wpAnyH_yield 8 5 (.int .i64 (wrap64 (wrap64 ((l : Int) + 1) + (r : Int)))) rfl rfl (by kernel_rfl) (by kernel_rfl) (by kernel_rfl) (fun _ _ _ h => h) (by kernel_rfl) (fun W hW => by kernel_rfl) (by assumption) rfl rfl ?_
  simp only [Act.put, List.setIfInBounds_toArray, List.set_cons_zero, List.set_cons_succ]
  refine wpAnyH_done (by kernel_rfl) ?_ _
  rw [W.out]
  have T1 := T.out.tr hT0
  have HA := hide (hT0.at HA0.out)
  generalize ({ w0 with drawn := w0.drawn + 1 } : World) = w1 at *
  clear hT0 T
  go_wp2_with fail
  have HB := hide (T1.at HB0.out)
  generalize hm : l + 1 + r = m at *
  refine wp_region_held (S := Calm w1) (by kernel_rfl) ?_
  have hT : Calm w1 { w1 with drawn := w1.drawn + 1 } := (Touch.refl (fun _ => False) w1).drew
  refine wpAnyH_yield 0 14 (.pointer (some ⟨b, 0, none⟩)) rfl rfl (by kernel_rfl) (by kernel_rfl) (by kernel_rfl) (fun _ _ _ h => h) (by kernel_rfl) (fun W hW => by kernel_rfl) (by assumption) rfl rfl ?_
  simp only [Act.put, List.setIfInBounds_toArray, List.set_cons_zero, List.set_cons_succ]
  refine wpAnyH_yield 1 15 (.pointer (some ⟨b, 0, none⟩)) rfl rfl (by kernel_rfl) (by kernel_rfl) (by kernel_rfl) (fun _ _ _ h => h) (by kernel_rfl) (fun W hW => by kernel_rfl) (by assumption) rfl rfl ?_
  simp only [Act.put, List.setIfInBounds_toArray, List.set_cons_zero, List.set_cons_succ]
  refine wpAnyH_yield 2 16 (.pointer (some ⟨b, 0, none⟩)) rfl rfl (by kernel_rfl) (by kernel_rfl) (by kernel_rfl) (fun _ _ _ h => h) (by kernel_rfl) (fun W hW => by go_simp) (by assumption) rfl rfl ?_
  simp only [Act.put, List.setIfInBounds_toArray, List.set_cons_zero, List.set_cons_succ]
  refine wpAnyH_yield 3 17 (.int .i64 k) rfl rfl (by kernel_rfl) (by kernel_rfl) (by kernel_rfl) (fun _ _ _ h => h) (by kernel_rfl) (fun W hW => by obtain ⟨c0, c1, c2, c3, c4⟩ := cells5 (hW.at HB.out); go_simp) (by assumption) rfl rfl ?_
  simp only [Act.put, List.setIfInBounds_toArray, List.set_cons_zero, List.set_cons_succ]
  refine wpAnyH_yield 4 18 (.pointer (some ⟨b, 0, none⟩)) rfl rfl (by kernel_rfl) (by kernel_rfl) (by kernel_rfl) (fun _ _ _ h => h) (by kernel_rfl) (fun W hW => by kernel_rfl) (by assumption) rfl rfl ?_
  simp only [Act.put, List.setIfInBounds_toArray, List.set_cons_zero, List.set_cons_succ]
  refine wpAnyH_yield 5 19 (.pointer (some ⟨b, 0, none⟩)) rfl rfl (by kernel_rfl) (by kernel_rfl) (by kernel_rfl) (fun _ _ _ h => h) (by kernel_rfl) (fun W hW => by kernel_rfl) (by assumption) rfl rfl ?_
  simp only [Act.put, List.setIfInBounds_toArray, List.set_cons_zero, List.set_cons_succ]
  refine wpAnyH_yield 6 20 (.pointer (some ⟨b, 1, none⟩)) rfl rfl (by kernel_rfl) (by kernel_rfl) (by kernel_rfl) (fun _ _ _ h => h) (by kernel_rfl) (fun W hW => by go_simp) (by assumption) rfl rfl ?_
  simp only [Act.put, List.setIfInBounds_toArray, List.set_cons_zero, List.set_cons_succ]
  refine wpAnyH_yield 7 21 (.int .i64 v) rfl rfl (by kernel_rfl) (by kernel_rfl) (by kernel_rfl) (fun _ _ _ h => h) (by kernel_rfl) (fun W hW => by obtain ⟨c0, c1, c2, c3, c4⟩ := cells5 (hW.at HB.out); go_simp) (by assumption) rfl rfl ?_
  simp only [Act.put, List.setIfInBounds_toArray, List.set_cons_zero, List.set_cons_succ]
  refine wpAnyH_yield 8 22 (.int .i64 (m : Int)) rfl rfl (by kernel_rfl) (by kernel_rfl) (by kernel_rfl) (fun _ _ _ h => h) (by kernel_rfl) (fun W hW => by kernel_rfl) (by assumption) rfl rfl ?_
  simp only [Act.put, List.setIfInBounds_toArray, List.set_cons_zero, List.set_cons_succ]
  refine wpAnyH_yield 9 23 (.agg #[.pointer p, .pointer q]) rfl rfl (by kernel_rfl) (by kernel_rfl) (by kernel_rfl) (fun _ _ _ h => h) (by kernel_rfl) (fun W hW => by obtain ⟨c0, c1⟩ := cells2 (hW.at HA.out); go_simp) (by assumption) rfl rfl ?_
  simp only [Act.put, List.setIfInBounds_toArray, List.set_cons_zero, List.set_cons_succ]
  refine wpAnyH_yield 10 24 (.agg #[.int .i64 k, .int .i64 v, .int .i64 (m : Int), .pointer p, .pointer q]) rfl rfl (by kernel_rfl) (by kernel_rfl) (by kernel_rfl) (fun _ _ _ h => h) (by kernel_rfl) (fun W hW => by go_simp) (by assumption) rfl rfl ?_
  simp only [Act.put, List.setIfInBounds_toArray, List.set_cons_zero, List.set_cons_succ]
  refine wpAnyH_value 11 25 (.pointer (some ⟨w1.heap.size, 0, none⟩)) (w' := w1.drew.alloc (.cells #[.int .i64 k, .int .i64 v, .int .i64 (m : Int), .pointer p, .pointer q] 105)) rfl rfl (by kernel_rfl) (by kernel_rfl) (by go_simp) (((Touch.refl (fun _ => False) w1).drew).alloc _) ?_
  simp only [Act.put, List.setIfInBounds_toArray, List.set_cons_zero, List.set_cons_succ]
  have hT2 : Calm w1 (w1.drew.alloc (.cells #[.int .i64 k, .int .i64 v, .int .i64 (m : Int), .pointer p, .pointer q] 105)) := ((Touch.refl (fun _ => False) w1).drew).alloc _
  have hN2 : (w1.drew.alloc (.cells #[.int .i64 k, .int .i64 v, .int .i64 (m : Int), .pointer p, .pointer q] 105)).heap[w1.heap.size]? = some (.cells #[.int .i64 k, .int .i64 v, .int .i64 (m : Int), .pointer p, .pointer q] 105 (0, 0)) := heap_alloc_last w1.drew _
  generalize w1.drew.alloc (.cells #[.int .i64 k, .int .i64 v, .int .i64 (m : Int), .pointer p, .pointer q] 105) = w2 at *
  refine wpAnyH_yield 12 4 (.pointer (some ⟨w1.heap.size, 0, none⟩)) rfl rfl (by kernel_rfl) (by kernel_rfl) (by kernel_rfl) (fun _ _ _ h => h) (by kernel_rfl) (fun W hW => by kernel_rfl) (by assumption) rfl rfl ?_
  simp only [Act.put, List.setIfInBounds_toArray, List.set_cons_zero, List.set_cons_succ]
  refine wpAnyH_done (by kernel_rfl) ?_ _
  go_wp2_with fail
  go_ret
  have T2 := T1.tr hT2
  refine ⟨_, rfl, .node ?_ (HP.out.calm T2) (HQ.out.calm T2), ⟨_, hN2⟩, T2⟩
  rw [HL.out, HR.out, hm]
  exact hN2

end Go.Proofs.Ytegiinnhknfjjaa.IM
