/- Trees in memory, told by what they hold in order; the small functions. The program's weight, sideOf, pair, over. The program's turned: a heavy side gives a key to the top. The program's balanced, with. -/
import Derived.Test.YtamfcmmhmfhhkaaGreatDoorG0
namespace Go.Proofs.YtamfcmmhmfhhkaaGreatDoor.LM
open Go.RowKit

/-- A tree in memory, told by what it holds in order. -/
inductive TL (w : World) : Value → List (ByteArray × (Option Addr × Nat × Nat)) → Prop
  | nil : TL w (.pointer none) []
  | node {b : Nat} {k : ByteArray} {v : (Option Addr × Nat × Nat)} {p q : Option Addr} {L R : List (ByteArray × (Option Addr × Nat × Nat))}
      (hb : w.heap[b]? = some (.cells #[.string k, .slice v.1 v.2.1 v.2.2, .int .i64 (((L.length + 1 + R.length : Nat)) : Int), .pointer p, .pointer q] 85 (0, 0)))
      (hl : TL w (.pointer p) L) (hr : TL w (.pointer q) R) : TL w (.pointer (some ⟨b, 0, none⟩)) (L ++ (k, v) :: R)

theorem TL.calm {w w' : World} {p : Value} {L : List (ByteArray × (Option Addr × Nat × Nat))} (h : TL w p L) (ht : Calm w w') : TL w' p L := by
  induction h with
  | nil => exact .nil
  | node hb _ _ il ir => exact .node (ht.at hb) il ir

theorem TL.ptr {w : World} {p : Value} {L : List (ByteArray × (Option Addr × Nat × Nat))} (h : TL w p L) : ∃ a, p = .pointer a := by cases h <;> exact ⟨_, rfl⟩

theorem TL.none_of {w : World} {p : Value} (h : TL w p []) : p = .pointer none := by
  generalize hX : ([] : List (ByteArray × (Option Addr × Nat × Nat))) = X at h
  cases h with
  | nil => rfl
  | node => simp at hX

theorem TL.some_of {w : World} {p : Option Addr} {X : List (ByteArray × (Option Addr × Nat × Nat))} (h : TL w (.pointer p) X) (hne : X ≠ []) : ∃ b, p = some b := by
  cases h with
  | nil => exact absurd rfl hne
  | node => exact ⟨_, rfl⟩

set_option maxRecDepth 100000 in
theorem size_any (p : Value) (L : List (ByteArray × (Option Addr × Nat × Nat))) (w : World) (h : TL w p L) : Calls Tryz.prog 110 #[p] w fun e w' => e = .returned (.int .i64 (L.length : Nat)) ∧ w' = w := by
  cases h with
  | nil =>
    go_enter Tryz.func110, Tryz.ntmps110
    go_wp2_with fail
    go_ret
    exact ⟨rfl, rfl⟩
  | node hb hl hr =>
    obtain ⟨c0, c1, c2, c3, c4⟩ := cells5 hb
    rename_i b k v p q L R
    have e : (L ++ (k, v) :: R).length = L.length + 1 + R.length := by simp; omega
    rw [e]
    generalize L.length + 1 + R.length = n at *
    go_enter Tryz.func110, Tryz.ntmps110
    go_wp2_with fail
    go_ret
    exact ⟨rfl, rfl⟩

end Go.Proofs.YtamfcmmhmfhhkaaGreatDoor.LM

namespace Go.Proofs.YtamfcmmhmfhhkaaGreatDoor.LM
open Go.RowKit

/-- So many keys can be counted, and thrice as many. -/
structure Low (n : Nat) : Prop where
  le : n ≤ 1152921504606846976

/-- A node's own cells. -/
def Nd (w : World) (b : Nat) (k : ByteArray) (v : (Option Addr × Nat × Nat)) (p q : Option Addr) : Prop :=
  ∃ n : Int, w.heap[b]? = some (.cells #[.string k, .slice v.1 v.2.1 v.2.2, .int .i64 n, .pointer p, .pointer q] 85 (0, 0))

theorem Nd.calm {w w' : World} {b : Nat} {k : ByteArray} {v : (Option Addr × Nat × Nat)} {p q : Option Addr} (h : Nd w b k v p q) (ht : Calm w w') : Nd w' b k v p q := by
  obtain ⟨n, h⟩ := h
  exact ⟨n, ht.at h⟩

/-- What stands in order: A on side s, B on the other one. -/
def row (s : Int) (x : ByteArray × (Option Addr × Nat × Nat)) (A B : List (ByteArray × (Option Addr × Nat × Nat))) : List (ByteArray × (Option Addr × Nat × Nat)) := if s = 0 then A ++ x :: B else B ++ x :: A

theorem row0 (x : ByteArray × (Option Addr × Nat × Nat)) (A B : List (ByteArray × (Option Addr × Nat × Nat))) : row 0 x A B = A ++ x :: B := rfl
theorem row1 (x : ByteArray × (Option Addr × Nat × Nat)) (A B : List (ByteArray × (Option Addr × Nat × Nat))) : row 1 x A B = B ++ x :: A := rfl

theorem wrap_1 {n : Nat} (h : n + 1 < 9223372036854775808) : wrap64 ((n : Int) + 1) = ((n + 1 : Nat) : Int) := by unfold wrap64; omega

set_option maxRecDepth 100000 in
theorem weight_any (p : Value) (L : List (ByteArray × (Option Addr × Nat × Nat))) (w : World) (h : TL w p L) (hl : Low L.length) : Calls Tryz.prog 95 #[p] w fun e w' => e = .returned (.int .i64 (L.length + 1 : Nat)) ∧ w' = w := by
  have S := hide (size_any p L w h)
  have W := hide (wrap_1 (n := L.length) (by have := hl.le; omega))
  obtain ⟨a, rfl⟩ := h.ptr
  clear h hl
  generalize L.length = n at *
  go_enter Tryz.func95, Tryz.ntmps95
  go_wp2_with fail
  refine S.out.mono ?_
  rintro e w' ⟨rfl, rfl⟩
  go_wp2_with fail
  go_ret
  exact ⟨by rw [W.out]; rfl, rfl⟩

set_option maxRecDepth 100000 in
theorem pair0_any (p q : Option Addr) (w : World) : Calls Tryz.prog 82 #[.int .i64 0, .pointer p, .pointer q] w fun e w' => e = .returned (.agg #[.pointer p, .pointer q]) ∧ Calm w w' := by
  go_enter Tryz.func82, Tryz.ntmps82
  go_wp2_with fail
  refine bodyPost_ret (results_cell_row rfl _ _ _ _ _ _ _ rfl ((Below.heap_alloc _ _ _ (by simp)).trans (heap_alloc_last w _)) Tryz.underlying83 rfl (by kernel_rfl)) rfl ?_
  exact ⟨rfl, ((Touch.refl _ _).alloc _).alloc _⟩

set_option maxRecDepth 100000 in
theorem pair1_any (p q : Option Addr) (w : World) : Calls Tryz.prog 82 #[.int .i64 1, .pointer p, .pointer q] w fun e w' => e = .returned (.agg #[.pointer q, .pointer p]) ∧ Calm w w' := by
  go_enter Tryz.func82, Tryz.ntmps82
  go_wp2_with fail
  refine bodyPost_ret (results_cell_row rfl _ _ _ _ _ _ _ rfl ((Below.heap_alloc _ _ _ (by simp)).trans (heap_alloc_last w _)) Tryz.underlying83 rfl (by kernel_rfl)) rfl ?_
  exact ⟨rfl, ((Touch.refl _ _).alloc _).alloc _⟩

theorem over_sum {l r : Nat} (h : Low (l + 1 + r)) : wrap64 (wrap64 ((l : Int) + 1) + (r : Int)) = ((l + 1 + r : Nat) : Int) := by have := h.le; unfold wrap64; omega

set_option maxRecDepth 100000 in
set_option maxHeartbeats 2000000 in
theorem over_any (b : Nat) (k : ByteArray) (v : (Option Addr × Nat × Nat)) (x y p q : Option Addr) (L R : List (ByteArray × (Option Addr × Nat × Nat))) (w : World) (hn : Nd w b k v x y) (hp : TL w (.pointer p) L) (hq : TL w (.pointer q) R) (hl : Low (L.length + 1 + R.length)) :
    Calls Tryz.prog 97 #[.pointer (some ⟨b, 0, none⟩), .agg #[.pointer p, .pointer q]] w fun e w' => ∃ b', e = .returned (.pointer (some ⟨b', 0, none⟩)) ∧ TL w' (.pointer (some ⟨b', 0, none⟩)) (L ++ (k, v) :: R) ∧ Nd w' b' k v p q ∧ Calm w w' := by
  have W := hide (over_sum hl)
  have SP := hide (fun (W : World) (h : Calm w W) => size_any (.pointer p) L W (hp.calm h))
  have SQ := hide (fun (W : World) (h : Calm w W) => size_any (.pointer q) R W (hq.calm h))
  have HP := hide hp
  have HQ := hide hq
  have T := hide ((Touch.refl (fun _ => False) w).alloc (.cells #[.pointer p, .pointer q] 83))
  obtain ⟨n, hb⟩ := hn
  have HB0 := hide hb
  clear hp hq hl hb
  generalize hll : L.length = l at *
  generalize hrr : R.length = r at *
  have HL := hide hll
  have HR := hide hrr
  clear hll hrr
  go_enter Tryz.func97, Tryz.ntmps97
  go_wp2_with fail
  have HA0 : Hid ((w.alloc (.cells #[.pointer p, .pointer q] 83)).heap[w.heap.size]? = some (.cells #[.pointer p, .pointer q] 83 (0, 0))) := hide (heap_alloc_last w _)
  generalize w.alloc (.cells #[.pointer p, .pointer q] 83) = w0 at *
  refine wp_region_held (S := Calm w0) (by kernel_rfl) ?_
  have hT0 : Calm w0 { w0 with drawn := w0.drawn + 1 } := (Touch.refl (fun _ => False) w0).drew
  refine wpAnyH_yield 0 6 (.pointer (some ⟨w.heap.size, 0, none⟩)) rfl rfl (by kernel_rfl) (by kernel_rfl) (by kernel_rfl) (fun _ _ _ h => h) (by kernel_rfl) (fun W hW => by go_simp) (by assumption) rfl rfl ?_
  simp only [Act.put, List.setIfInBounds_toArray, List.set_cons_zero, List.set_cons_succ]
  refine wpAnyH_yield 1 7 (.pointer p) rfl rfl (by kernel_rfl) (by kernel_rfl) (by kernel_rfl) (fun _ _ _ h => h) (by kernel_rfl) (fun W hW => by obtain ⟨c0, c1⟩ := cells2 (hW.at HA0.out); go_simp) (by assumption) rfl rfl ?_
  simp only [Act.put, List.setIfInBounds_toArray, List.set_cons_zero, List.set_cons_succ]
  refine wpAnyH_yield 4 10 (.pointer (some ⟨w.heap.size, 1, none⟩)) rfl rfl (by kernel_rfl) (by kernel_rfl) (by kernel_rfl) (fun _ _ _ h => h) (by kernel_rfl) (fun W hW => by go_simp) (by assumption) rfl rfl ?_
  simp only [Act.put, List.setIfInBounds_toArray, List.set_cons_zero, List.set_cons_succ]
  refine wpAnyH_yield 5 11 (.pointer q) rfl rfl (by kernel_rfl) (by kernel_rfl) (by kernel_rfl) (fun _ _ _ h => h) (by kernel_rfl) (fun W hW => by obtain ⟨c0, c1⟩ := cells2 (hW.at HA0.out); go_simp) (by assumption) rfl rfl ?_
  simp only [Act.put, List.setIfInBounds_toArray, List.set_cons_zero, List.set_cons_succ]
  refine wpAnyH_enter 2 8 110 #[.pointer p] rfl rfl (by kernel_rfl) (by kernel_rfl) (by kernel_rfl) ?_
  refine (SP.out _ (T.out.tr hT0)).mono ?_
  rintro r _ ⟨rfl, rfl⟩
  refine ⟨_, rfl, hT0, ?_⟩
  simp only [Act.put, List.setIfInBounds_toArray, List.set_cons_zero, List.set_cons_succ]
  refine wpAnyH_yield 3 9 (.int .i64 (wrap64 ((l : Int) + 1))) rfl rfl (by kernel_rfl) (by kernel_rfl) (by kernel_rfl) (fun _ _ _ h => h) (by kernel_rfl) (fun W hW => by go_simp; rw [wrapEq]) (by assumption) rfl rfl ?_
  simp only [Act.put, List.setIfInBounds_toArray, List.set_cons_zero, List.set_cons_succ]
  refine wpAnyH_enter 6 12 110 #[.pointer q] rfl rfl (by kernel_rfl) (by kernel_rfl) (by kernel_rfl) ?_
  refine (SQ.out _ (T.out.tr hT0)).mono ?_
  rintro r _ ⟨rfl, rfl⟩
  refine ⟨_, rfl, hT0, ?_⟩
  simp only [Act.put, List.setIfInBounds_toArray, List.set_cons_zero, List.set_cons_succ]
  refine wpAnyH_yield 7 13 (.int .i64 (wrap64 (wrap64 ((l : Int) + 1) + (r : Int)))) rfl rfl (by kernel_rfl) (by kernel_rfl) (by kernel_rfl) (fun _ _ _ h => h) (by kernel_rfl) (fun W hW => by go_simp; rw [wrapEq]) (by assumption) rfl rfl ?_
  simp only [Act.put, List.setIfInBounds_toArray, List.set_cons_zero, List.set_cons_succ]
  refine wpAnyH_yield 8 5 (.int .i64 (wrap64 (wrap64 ((l : Int) + 1) + (r : Int)))) rfl rfl (by kernel_rfl) (by kernel_rfl) (by kernel_rfl) (fun _ _ _ h => h) (by kernel_rfl) (fun W hW => by kernel_rfl) (by assumption) rfl rfl ?_
  simp only [Act.put, List.setIfInBounds_toArray, List.set_cons_zero, List.set_cons_succ]
  refine wpAnyH_done (by kernel_rfl) ?_ _
  rw [W.out]
  have T1 := T.out.tr hT0
  have HA := hide (hT0.at HA0.out)
  generalize ({ w0 with drawn := w0.drawn + 1 } : World) = w1 at *
  clear hT0 T
  go_wp2_with fail
  have HB := hide (T1.at HB0.out)
  generalize hm : l + 1 + r = m at *
  refine wp_region_held (S := Calm w1) (by kernel_rfl) ?_
  have hT : Calm w1 { w1 with drawn := w1.drawn + 1 } := (Touch.refl (fun _ => False) w1).drew
  refine wpAnyH_yield 0 14 (.pointer (some ⟨b, 0, none⟩)) rfl rfl (by kernel_rfl) (by kernel_rfl) (by kernel_rfl) (fun _ _ _ h => h) (by kernel_rfl) (fun W hW => by kernel_rfl) (by assumption) rfl rfl ?_
  simp only [Act.put, List.setIfInBounds_toArray, List.set_cons_zero, List.set_cons_succ]
  refine wpAnyH_yield 1 15 (.pointer (some ⟨b, 0, none⟩)) rfl rfl (by kernel_rfl) (by kernel_rfl) (by kernel_rfl) (fun _ _ _ h => h) (by kernel_rfl) (fun W hW => by kernel_rfl) (by assumption) rfl rfl ?_
  simp only [Act.put, List.setIfInBounds_toArray, List.set_cons_zero, List.set_cons_succ]
  refine wpAnyH_yield 2 16 (.pointer (some ⟨b, 0, none⟩)) rfl rfl (by kernel_rfl) (by kernel_rfl) (by kernel_rfl) (fun _ _ _ h => h) (by kernel_rfl) (fun W hW => by go_simp) (by assumption) rfl rfl ?_
  simp only [Act.put, List.setIfInBounds_toArray, List.set_cons_zero, List.set_cons_succ]
  refine wpAnyH_yield 3 17 (.string k) rfl rfl (by kernel_rfl) (by kernel_rfl) (by kernel_rfl) (fun _ _ _ h => h) (by kernel_rfl) (fun W hW => by obtain ⟨c0, c1, c2, c3, c4⟩ := cells5 (hW.at HB.out); go_simp) (by assumption) rfl rfl ?_
  simp only [Act.put, List.setIfInBounds_toArray, List.set_cons_zero, List.set_cons_succ]
  refine wpAnyH_yield 4 18 (.pointer (some ⟨b, 0, none⟩)) rfl rfl (by kernel_rfl) (by kernel_rfl) (by kernel_rfl) (fun _ _ _ h => h) (by kernel_rfl) (fun W hW => by kernel_rfl) (by assumption) rfl rfl ?_
  simp only [Act.put, List.setIfInBounds_toArray, List.set_cons_zero, List.set_cons_succ]
  refine wpAnyH_yield 5 19 (.pointer (some ⟨b, 0, none⟩)) rfl rfl (by kernel_rfl) (by kernel_rfl) (by kernel_rfl) (fun _ _ _ h => h) (by kernel_rfl) (fun W hW => by kernel_rfl) (by assumption) rfl rfl ?_
  simp only [Act.put, List.setIfInBounds_toArray, List.set_cons_zero, List.set_cons_succ]
  refine wpAnyH_yield 6 20 (.pointer (some ⟨b, 1, none⟩)) rfl rfl (by kernel_rfl) (by kernel_rfl) (by kernel_rfl) (fun _ _ _ h => h) (by kernel_rfl) (fun W hW => by go_simp) (by assumption) rfl rfl ?_
  simp only [Act.put, List.setIfInBounds_toArray, List.set_cons_zero, List.set_cons_succ]
  refine wpAnyH_yield 7 21 (.slice v.1 v.2.1 v.2.2) rfl rfl (by kernel_rfl) (by kernel_rfl) (by kernel_rfl) (fun _ _ _ h => h) (by kernel_rfl) (fun W hW => by obtain ⟨c0, c1, c2, c3, c4⟩ := cells5 (hW.at HB.out); go_simp) (by assumption) rfl rfl ?_
  simp only [Act.put, List.setIfInBounds_toArray, List.set_cons_zero, List.set_cons_succ]
  refine wpAnyH_yield 8 22 (.int .i64 (m : Int)) rfl rfl (by kernel_rfl) (by kernel_rfl) (by kernel_rfl) (fun _ _ _ h => h) (by kernel_rfl) (fun W hW => by kernel_rfl) (by assumption) rfl rfl ?_
  simp only [Act.put, List.setIfInBounds_toArray, List.set_cons_zero, List.set_cons_succ]
  refine wpAnyH_yield 9 23 (.agg #[.pointer p, .pointer q]) rfl rfl (by kernel_rfl) (by kernel_rfl) (by kernel_rfl) (fun _ _ _ h => h) (by kernel_rfl) (fun W hW => by obtain ⟨c0, c1⟩ := cells2 (hW.at HA.out); go_simp) (by assumption) rfl rfl ?_
  simp only [Act.put, List.setIfInBounds_toArray, List.set_cons_zero, List.set_cons_succ]
  refine wpAnyH_yield 10 24 (.agg #[.string k, .slice v.1 v.2.1 v.2.2, .int .i64 (m : Int), .pointer p, .pointer q]) rfl rfl (by kernel_rfl) (by kernel_rfl) (by kernel_rfl) (fun _ _ _ h => h) (by kernel_rfl) (fun W hW => by go_simp) (by assumption) rfl rfl ?_
  simp only [Act.put, List.setIfInBounds_toArray, List.set_cons_zero, List.set_cons_succ]
  refine wpAnyH_value 11 25 (.pointer (some ⟨w1.heap.size, 0, none⟩)) (w' := w1.drew.alloc (.cells #[.string k, .slice v.1 v.2.1 v.2.2, .int .i64 (m : Int), .pointer p, .pointer q] 85)) rfl rfl (by kernel_rfl) (by kernel_rfl) (by go_simp) (((Touch.refl (fun _ => False) w1).drew).alloc _) ?_
  simp only [Act.put, List.setIfInBounds_toArray, List.set_cons_zero, List.set_cons_succ]
  have hT2 : Calm w1 (w1.drew.alloc (.cells #[.string k, .slice v.1 v.2.1 v.2.2, .int .i64 (m : Int), .pointer p, .pointer q] 85)) := ((Touch.refl (fun _ => False) w1).drew).alloc _
  have hN2 : (w1.drew.alloc (.cells #[.string k, .slice v.1 v.2.1 v.2.2, .int .i64 (m : Int), .pointer p, .pointer q] 85)).heap[w1.heap.size]? = some (.cells #[.string k, .slice v.1 v.2.1 v.2.2, .int .i64 (m : Int), .pointer p, .pointer q] 85 (0, 0)) := heap_alloc_last w1.drew _
  generalize w1.drew.alloc (.cells #[.string k, .slice v.1 v.2.1 v.2.2, .int .i64 (m : Int), .pointer p, .pointer q] 85) = w2 at *
  refine wpAnyH_yield 12 4 (.pointer (some ⟨w1.heap.size, 0, none⟩)) rfl rfl (by kernel_rfl) (by kernel_rfl) (by kernel_rfl) (fun _ _ _ h => h) (by kernel_rfl) (fun W hW => by kernel_rfl) (by assumption) rfl rfl ?_
  simp only [Act.put, List.setIfInBounds_toArray, List.set_cons_zero, List.set_cons_succ]
  refine wpAnyH_done (by kernel_rfl) ?_ _
  go_wp2_with fail
  go_ret
  have T2 := T1.tr hT2
  refine ⟨_, rfl, .node ?_ (HP.out.calm T2) (HQ.out.calm T2), ⟨_, hN2⟩, T2⟩
  rw [HL.out, HR.out, hm]
  exact hN2

end Go.Proofs.YtamfcmmhmfhhkaaGreatDoor.LM

namespace Go.Proofs.YtamfcmmhmfhhkaaGreatDoor.LM
open Go.RowKit

theorem low_of {m n : Nat} (h : Low n) (hm : m ≤ n) : Low m := ⟨Nat.le_trans hm h.le⟩

theorem twice_wrap {n : Nat} (h : Low n) : wrap64 (2 * ((n + 1 : Nat) : Int)) = ((2 * (n + 1) : Nat) : Int) := by have := h.le; unfold wrap64; omega

set_option maxRecDepth 100000 in
set_option maxHeartbeats 1000000 in
theorem turned0_any (b : Nat) (k : ByteArray) (v : (Option Addr × Nat × Nat)) (x y hp lp : Option Addr) (H Lt : List (ByteArray × (Option Addr × Nat × Nat))) (w : World) (hn : Nd w b k v x y) (hh : TL w (.pointer hp) H) (hl : TL w (.pointer lp) Lt) (hne : H ≠ []) (low : Low (H.length + 1 + Lt.length)) :
    Calls Tryz.prog 96 #[.pointer (some ⟨b, 0, none⟩), .int .i64 0, .pointer hp, .pointer lp] w fun e w' => ∃ b', e = .returned (.pointer (some ⟨b', 0, none⟩)) ∧ TL w' (.pointer (some ⟨b', 0, none⟩)) (row 0 (k, v) H Lt) ∧ Calm w w' := by
  cases hh with
  | nil => exact absurd rfl hne
  | @node h k1 v1 p1 q1 A B hb h1 h2 =>
  clear hne
  have HN := hide hn
  have HH : Hid (Nd w h k1 v1 p1 q1) := hide ⟨_, hb⟩
  have HL := hide hl
  have HI := hide h2
  have HO := hide h1
  have HB := hide hb
  have LOW : Hid (Low (A.length + 1 + B.length + 1 + Lt.length)) := hide (by refine low_of low ?_; simp; omega)
  have WI := hide (fun (W : World) (h : Calm w W) => weight_any (.pointer q1) B W (h2.calm h) (low_of LOW.out (by omega)))
  have WO := hide (fun (W : World) (h : Calm w W) => weight_any (.pointer p1) A W (h1.calm h) (low_of LOW.out (by omega)))
  have TW := hide (twice_wrap (n := A.length) (low_of LOW.out (by omega)))
  clear low hn hl h1 h2 hb
  have hc1 : (B.length + 1 : Nat) < 2 * (A.length + 1) → ((B.length + 1 : Nat) : Int) < wrap64 (2 * ((A.length + 1 : Nat) : Int)) := fun h => by rw [TW.out]; omega
  have hc2 : ¬ (B.length + 1 : Nat) < 2 * (A.length + 1) → ¬ ((B.length + 1 : Nat) : Int) < wrap64 (2 * ((A.length + 1 : Nat) : Int)) := fun h => by rw [TW.out]; omega
  clear TW
  generalize ((B.length + 1 : Nat) : Int) = m1 at *
  generalize ((A.length + 1 : Nat) : Int) = m2 at *
  have HC1 := hide hc1
  have HC2 := hide hc2
  clear hc1 hc2
  have hcase : (B.length + 1 : Nat) < 2 * (A.length + 1) ∨ ¬ ((B.length + 1 : Nat) < 2 * (A.length + 1)) := Nat.lt_or_ge _ _ |>.imp_right Nat.not_lt.2
  go_enter Tryz.func96, Tryz.ntmps96
  go_wp2_with fail
  refine wp_region_held (S := Calm w) (by kernel_rfl) ?_
  have hT0 : Calm w { w with drawn := w.drawn + 1 } := (Touch.refl (fun _ => False) w).drew
  refine wpAnyH_yield 0 13 (.pointer (some ⟨h, 0, none⟩)) rfl rfl (by kernel_rfl) (by kernel_rfl) (by kernel_rfl) (fun _ _ _ h => h) (by kernel_rfl) (fun W hW => by kernel_rfl) (by assumption) rfl rfl ?_
  simp only [Act.put, List.setIfInBounds_toArray, List.set_cons_zero, List.set_cons_succ]
  refine wpAnyH_yield 1 14 (.int .i64 0) rfl rfl (by kernel_rfl) (by kernel_rfl) (by kernel_rfl) (fun _ _ _ h => h) (by kernel_rfl) (fun W hW => by kernel_rfl) (by assumption) rfl rfl ?_
  simp only [Act.put, List.setIfInBounds_toArray, List.set_cons_zero, List.set_cons_succ]
  refine wpAnyH_yield 2 15 (.int .i64 1) rfl rfl (by kernel_rfl) (by kernel_rfl) (by kernel_rfl) (fun _ _ _ h => h) (by kernel_rfl) (fun W hW => by kernel_rfl) (by assumption) rfl rfl ?_
  simp only [Act.put, List.setIfInBounds_toArray, List.set_cons_zero, List.set_cons_succ]
  refine wpAnyH_yield 3 16 (.pointer (some ⟨h, 0, none⟩)) rfl rfl (by kernel_rfl) (by kernel_rfl) (by kernel_rfl) (fun _ _ _ h => h) (by kernel_rfl) (fun W hW => by kernel_rfl) (by assumption) rfl rfl ?_
  simp only [Act.put, List.setIfInBounds_toArray, List.set_cons_zero, List.set_cons_succ]
  refine wpAnyH_yield 4 17 (.pointer (some ⟨h, 3, none⟩)) rfl rfl (by kernel_rfl) (by kernel_rfl) (by kernel_rfl) (fun _ _ _ h => h) (by kernel_rfl) (fun W hW => by go_simp) (by assumption) rfl rfl ?_
  simp only [Act.put, List.setIfInBounds_toArray, List.set_cons_zero, List.set_cons_succ]
  refine wpAnyH_yield 5 18 (.pointer (some ⟨h, 4, none⟩)) rfl rfl (by kernel_rfl) (by kernel_rfl) (by kernel_rfl) (fun _ _ _ h => h) (by kernel_rfl) (fun W hW => by go_simp) (by assumption) rfl rfl ?_
  simp only [Act.put, List.setIfInBounds_toArray, List.set_cons_zero, List.set_cons_succ]
  refine wpAnyH_yield 6 19 (.pointer q1) rfl rfl (by kernel_rfl) (by kernel_rfl) (by kernel_rfl) (fun _ _ _ h => h) (by kernel_rfl) (fun W hW => by obtain ⟨c0, c1, c2, c3, c4⟩ := cells5 (hW.at HB.out); go_simp) (by assumption) rfl rfl ?_
  simp only [Act.put, List.setIfInBounds_toArray, List.set_cons_zero, List.set_cons_succ]
  refine wpAnyH_yield 7 20 (.pointer (some ⟨h, 0, none⟩)) rfl rfl (by kernel_rfl) (by kernel_rfl) (by kernel_rfl) (fun _ _ _ h => h) (by kernel_rfl) (fun W hW => by kernel_rfl) (by assumption) rfl rfl ?_
  simp only [Act.put, List.setIfInBounds_toArray, List.set_cons_zero, List.set_cons_succ]
  refine wpAnyH_yield 8 21 (.int .i64 0) rfl rfl (by kernel_rfl) (by kernel_rfl) (by kernel_rfl) (fun _ _ _ h => h) (by kernel_rfl) (fun W hW => by kernel_rfl) (by assumption) rfl rfl ?_
  simp only [Act.put, List.setIfInBounds_toArray, List.set_cons_zero, List.set_cons_succ]
  refine wpAnyH_yield 9 22 (.pointer (some ⟨h, 0, none⟩)) rfl rfl (by kernel_rfl) (by kernel_rfl) (by kernel_rfl) (fun _ _ _ h => h) (by kernel_rfl) (fun W hW => by kernel_rfl) (by assumption) rfl rfl ?_
  simp only [Act.put, List.setIfInBounds_toArray, List.set_cons_zero, List.set_cons_succ]
  refine wpAnyH_yield 10 23 (.pointer (some ⟨h, 3, none⟩)) rfl rfl (by kernel_rfl) (by kernel_rfl) (by kernel_rfl) (fun _ _ _ h => h) (by kernel_rfl) (fun W hW => by go_simp) (by assumption) rfl rfl ?_
  simp only [Act.put, List.setIfInBounds_toArray, List.set_cons_zero, List.set_cons_succ]
  refine wpAnyH_yield 11 24 (.pointer (some ⟨h, 3, none⟩)) rfl rfl (by kernel_rfl) (by kernel_rfl) (by kernel_rfl) (fun _ _ _ h => h) (by kernel_rfl) (fun W hW => by go_simp) (by assumption) rfl rfl ?_
  simp only [Act.put, List.setIfInBounds_toArray, List.set_cons_zero, List.set_cons_succ]
  refine wpAnyH_yield 12 25 (.pointer p1) rfl rfl (by kernel_rfl) (by kernel_rfl) (by kernel_rfl) (fun _ _ _ h => h) (by kernel_rfl) (fun W hW => by obtain ⟨c0, c1, c2, c3, c4⟩ := cells5 (hW.at HB.out); go_simp) (by assumption) rfl rfl ?_
  simp only [Act.put, List.setIfInBounds_toArray, List.set_cons_zero, List.set_cons_succ]
  refine wpAnyH_yield 13 9 (.pointer q1) rfl rfl (by kernel_rfl) (by kernel_rfl) (by kernel_rfl) (fun _ _ _ h => h) (by kernel_rfl) (fun W hW => by kernel_rfl) (by assumption) rfl rfl ?_
  simp only [Act.put, List.setIfInBounds_toArray, List.set_cons_zero, List.set_cons_succ]
  refine wpAnyH_yield 14 10 (.pointer p1) rfl rfl (by kernel_rfl) (by kernel_rfl) (by kernel_rfl) (fun _ _ _ h => h) (by kernel_rfl) (fun W hW => by kernel_rfl) (by assumption) rfl rfl ?_
  simp only [Act.put, List.setIfInBounds_toArray, List.set_cons_zero, List.set_cons_succ]
  refine wpAnyH_done (by kernel_rfl) ?_ _
  generalize ({ w with drawn := w.drawn + 1 } : World) = w1 at *
  go_wp2_with fail
  refine (WI.out _ hT0).mono ?_
  rintro e w' ⟨rfl, hq⟩
  obtain rfl := hq.symm
  clear hq
  go_wp2_with fail
  refine (WO.out _ hT0).mono ?_
  rintro e w' ⟨rfl, hq⟩
  obtain rfl := hq.symm
  clear hq
  rcases hcase with hc | hc
  · have hc' := HC1.out hc
    clear hc
    go_wp2_with fail
    refine (pair0_any _ _ _).mono ?_
    rintro e w2 ⟨rfl, t2⟩
    have t02 := hT0.tr t2
    go_wp2_with fail
    have OV := over_any b k v x y q1 lp B Lt w2 (HN.out.calm t02) (HI.out.calm t02) (HL.out.calm t02) (low_of LOW.out (by omega))
    refine OV.mono ?_
    clear OV
    rintro e w3 ⟨b3, rfl, tl3, -, t3⟩
    have t03 := t02.tr t3
    go_wp2_with fail
    refine (pair0_any _ _ _).mono ?_
    rintro e w4 ⟨rfl, t4⟩
    have t04 := t03.tr t4
    go_wp2_with fail
    have OV := over_any h k1 v1 p1 q1 p1 (some ⟨b3, 0, none⟩) A (B ++ (k, v) :: Lt) w4 (HH.out.calm t04) (HO.out.calm t04) (tl3.calm t4) (low_of LOW.out (by simp; omega))
    refine OV.mono ?_
    clear OV
    rintro e w5 ⟨b5, rfl, tl5, -, t5⟩
    go_wp2_with fail
    go_ret
    refine ⟨_, rfl, ?_, t04.tr t5⟩
    simpa [row0] using tl5
  · have hc' := HC2.out hc
    have hi := HI.out
    clear HI WI WO HC1 HC2
    cases hi with
    | nil => exact absurd (show ([] : List (ByteArray × (Option Addr × Nat × Nat))).length + 1 < 2 * (A.length + 1) by simp; omega) hc
    | @node i k2 v2 p2 q2 C D hb2 h3 h4 =>
    have HI : Hid (Nd w i k2 v2 p2 q2) := hide ⟨_, hb2⟩
    have HC := hide h3
    have HD := hide h4
    obtain ⟨-, -, -, c3, c4⟩ := cells5 (hT0.at hb2)
    have HB2 := hide hb2
    clear h3 h4 hb2 hc
    go_wp2_with fail
    refine (pair0_any _ _ _).mono ?_
    rintro e w2 ⟨rfl, t2⟩
    have t02 := hT0.tr t2
    go_wp2_with fail
    have OV := over_any h k1 v1 p1 (some ⟨i, 0, none⟩) p1 p2 A C w2 (HH.out.calm t02) (HO.out.calm t02) (HC.out.calm t02) (low_of LOW.out (by simp; omega))
    refine OV.mono ?_
    clear OV
    rintro e w3 ⟨b3, rfl, tl3, -, t3⟩
    have t03 := t02.tr t3
    clear c3 c4
    obtain ⟨-, -, -, c3, c4⟩ := cells5 (t03.at HB2.out)
    go_wp2_with fail
    refine (pair0_any _ _ _).mono ?_
    rintro e w4 ⟨rfl, t4⟩
    have t04 := t03.tr t4
    go_wp2_with fail
    have OV := over_any b k v x y q2 lp D Lt w4 (HN.out.calm t04) (HD.out.calm t04) (HL.out.calm t04) (low_of LOW.out (by simp; omega))
    refine OV.mono ?_
    clear OV
    rintro e w5 ⟨b5, rfl, tl5, -, t5⟩
    have t05 := t04.tr t5
    go_wp2_with fail
    refine (pair0_any _ _ _).mono ?_
    rintro e w6 ⟨rfl, t6⟩
    have t06 := t05.tr t6
    have t36 := (t4.tr t5).tr t6
    go_wp2_with fail
    have OV := over_any i k2 v2 p2 q2 (some ⟨b3, 0, none⟩) (some ⟨b5, 0, none⟩) (A ++ (k1, v1) :: C) (D ++ (k, v) :: Lt) w6 (HI.out.calm t06) (tl3.calm t36) (tl5.calm t6) (low_of LOW.out (by simp; omega))
    refine OV.mono ?_
    clear OV
    rintro e w7 ⟨b7, rfl, tl7, -, t7⟩
    go_wp2_with fail
    go_ret
    refine ⟨_, rfl, ?_, t06.tr t7⟩
    simpa [row0] using tl7

set_option maxRecDepth 100000 in
set_option maxHeartbeats 1000000 in
theorem turned1_any (b : Nat) (k : ByteArray) (v : (Option Addr × Nat × Nat)) (x y hp lp : Option Addr) (H Lt : List (ByteArray × (Option Addr × Nat × Nat))) (w : World) (hn : Nd w b k v x y) (hh : TL w (.pointer hp) H) (hl : TL w (.pointer lp) Lt) (hne : H ≠ []) (low : Low (H.length + 1 + Lt.length)) :
    Calls Tryz.prog 96 #[.pointer (some ⟨b, 0, none⟩), .int .i64 1, .pointer hp, .pointer lp] w fun e w' => ∃ b', e = .returned (.pointer (some ⟨b', 0, none⟩)) ∧ TL w' (.pointer (some ⟨b', 0, none⟩)) (row 1 (k, v) H Lt) ∧ Calm w w' := by
  cases hh with
  | nil => exact absurd rfl hne
  | @node h k1 v1 p1 q1 A B hb h1 h2 =>
  clear hne
  have HN := hide hn
  have HH : Hid (Nd w h k1 v1 p1 q1) := hide ⟨_, hb⟩
  have HL := hide hl
  have HI := hide h1
  have HO := hide h2
  have HB := hide hb
  have LOW : Hid (Low (A.length + 1 + B.length + 1 + Lt.length)) := hide (by refine low_of low ?_; simp; omega)
  have WI := hide (fun (W : World) (h : Calm w W) => weight_any (.pointer p1) A W (h1.calm h) (low_of LOW.out (by omega)))
  have WO := hide (fun (W : World) (h : Calm w W) => weight_any (.pointer q1) B W (h2.calm h) (low_of LOW.out (by omega)))
  have TW := hide (twice_wrap (n := B.length) (low_of LOW.out (by omega)))
  clear low hn hl h1 h2 hb
  have hc1 : (A.length + 1 : Nat) < 2 * (B.length + 1) → ((A.length + 1 : Nat) : Int) < wrap64 (2 * ((B.length + 1 : Nat) : Int)) := fun h => by rw [TW.out]; omega
  have hc2 : ¬ (A.length + 1 : Nat) < 2 * (B.length + 1) → ¬ ((A.length + 1 : Nat) : Int) < wrap64 (2 * ((B.length + 1 : Nat) : Int)) := fun h => by rw [TW.out]; omega
  clear TW
  generalize ((A.length + 1 : Nat) : Int) = m1 at *
  generalize ((B.length + 1 : Nat) : Int) = m2 at *
  have HC1 := hide hc1
  have HC2 := hide hc2
  clear hc1 hc2
  have hcase : (A.length + 1 : Nat) < 2 * (B.length + 1) ∨ ¬ ((A.length + 1 : Nat) < 2 * (B.length + 1)) := Nat.lt_or_ge _ _ |>.imp_right Nat.not_lt.2
  go_enter Tryz.func96, Tryz.ntmps96
  go_wp2_with fail
  refine wp_region_held (S := Calm w) (by kernel_rfl) ?_
  have hT0 : Calm w { w with drawn := w.drawn + 1 } := (Touch.refl (fun _ => False) w).drew
  refine wpAnyH_yield 0 13 (.pointer (some ⟨h, 0, none⟩)) rfl rfl (by kernel_rfl) (by kernel_rfl) (by kernel_rfl) (fun _ _ _ h => h) (by kernel_rfl) (fun W hW => by kernel_rfl) (by assumption) rfl rfl ?_
  simp only [Act.put, List.setIfInBounds_toArray, List.set_cons_zero, List.set_cons_succ]
  refine wpAnyH_yield 1 14 (.int .i64 1) rfl rfl (by kernel_rfl) (by kernel_rfl) (by kernel_rfl) (fun _ _ _ h => h) (by kernel_rfl) (fun W hW => by kernel_rfl) (by assumption) rfl rfl ?_
  simp only [Act.put, List.setIfInBounds_toArray, List.set_cons_zero, List.set_cons_succ]
  refine wpAnyH_yield 2 15 (.int .i64 0) rfl rfl (by kernel_rfl) (by kernel_rfl) (by kernel_rfl) (fun _ _ _ h => h) (by kernel_rfl) (fun W hW => by kernel_rfl) (by assumption) rfl rfl ?_
  simp only [Act.put, List.setIfInBounds_toArray, List.set_cons_zero, List.set_cons_succ]
  refine wpAnyH_yield 3 16 (.pointer (some ⟨h, 0, none⟩)) rfl rfl (by kernel_rfl) (by kernel_rfl) (by kernel_rfl) (fun _ _ _ h => h) (by kernel_rfl) (fun W hW => by kernel_rfl) (by assumption) rfl rfl ?_
  simp only [Act.put, List.setIfInBounds_toArray, List.set_cons_zero, List.set_cons_succ]
  refine wpAnyH_yield 4 17 (.pointer (some ⟨h, 3, none⟩)) rfl rfl (by kernel_rfl) (by kernel_rfl) (by kernel_rfl) (fun _ _ _ h => h) (by kernel_rfl) (fun W hW => by go_simp) (by assumption) rfl rfl ?_
  simp only [Act.put, List.setIfInBounds_toArray, List.set_cons_zero, List.set_cons_succ]
  refine wpAnyH_yield 5 18 (.pointer (some ⟨h, 3, none⟩)) rfl rfl (by kernel_rfl) (by kernel_rfl) (by kernel_rfl) (fun _ _ _ h => h) (by kernel_rfl) (fun W hW => by go_simp) (by assumption) rfl rfl ?_
  simp only [Act.put, List.setIfInBounds_toArray, List.set_cons_zero, List.set_cons_succ]
  refine wpAnyH_yield 6 19 (.pointer p1) rfl rfl (by kernel_rfl) (by kernel_rfl) (by kernel_rfl) (fun _ _ _ h => h) (by kernel_rfl) (fun W hW => by obtain ⟨c0, c1, c2, c3, c4⟩ := cells5 (hW.at HB.out); go_simp) (by assumption) rfl rfl ?_
  simp only [Act.put, List.setIfInBounds_toArray, List.set_cons_zero, List.set_cons_succ]
  refine wpAnyH_yield 7 20 (.pointer (some ⟨h, 0, none⟩)) rfl rfl (by kernel_rfl) (by kernel_rfl) (by kernel_rfl) (fun _ _ _ h => h) (by kernel_rfl) (fun W hW => by kernel_rfl) (by assumption) rfl rfl ?_
  simp only [Act.put, List.setIfInBounds_toArray, List.set_cons_zero, List.set_cons_succ]
  refine wpAnyH_yield 8 21 (.int .i64 1) rfl rfl (by kernel_rfl) (by kernel_rfl) (by kernel_rfl) (fun _ _ _ h => h) (by kernel_rfl) (fun W hW => by kernel_rfl) (by assumption) rfl rfl ?_
  simp only [Act.put, List.setIfInBounds_toArray, List.set_cons_zero, List.set_cons_succ]
  refine wpAnyH_yield 9 22 (.pointer (some ⟨h, 0, none⟩)) rfl rfl (by kernel_rfl) (by kernel_rfl) (by kernel_rfl) (fun _ _ _ h => h) (by kernel_rfl) (fun W hW => by kernel_rfl) (by assumption) rfl rfl ?_
  simp only [Act.put, List.setIfInBounds_toArray, List.set_cons_zero, List.set_cons_succ]
  refine wpAnyH_yield 10 23 (.pointer (some ⟨h, 3, none⟩)) rfl rfl (by kernel_rfl) (by kernel_rfl) (by kernel_rfl) (fun _ _ _ h => h) (by kernel_rfl) (fun W hW => by go_simp) (by assumption) rfl rfl ?_
  simp only [Act.put, List.setIfInBounds_toArray, List.set_cons_zero, List.set_cons_succ]
  refine wpAnyH_yield 11 24 (.pointer (some ⟨h, 4, none⟩)) rfl rfl (by kernel_rfl) (by kernel_rfl) (by kernel_rfl) (fun _ _ _ h => h) (by kernel_rfl) (fun W hW => by go_simp) (by assumption) rfl rfl ?_
  simp only [Act.put, List.setIfInBounds_toArray, List.set_cons_zero, List.set_cons_succ]
  refine wpAnyH_yield 12 25 (.pointer q1) rfl rfl (by kernel_rfl) (by kernel_rfl) (by kernel_rfl) (fun _ _ _ h => h) (by kernel_rfl) (fun W hW => by obtain ⟨c0, c1, c2, c3, c4⟩ := cells5 (hW.at HB.out); go_simp) (by assumption) rfl rfl ?_
  simp only [Act.put, List.setIfInBounds_toArray, List.set_cons_zero, List.set_cons_succ]
  refine wpAnyH_yield 13 9 (.pointer p1) rfl rfl (by kernel_rfl) (by kernel_rfl) (by kernel_rfl) (fun _ _ _ h => h) (by kernel_rfl) (fun W hW => by kernel_rfl) (by assumption) rfl rfl ?_
  simp only [Act.put, List.setIfInBounds_toArray, List.set_cons_zero, List.set_cons_succ]
  refine wpAnyH_yield 14 10 (.pointer q1) rfl rfl (by kernel_rfl) (by kernel_rfl) (by kernel_rfl) (fun _ _ _ h => h) (by kernel_rfl) (fun W hW => by kernel_rfl) (by assumption) rfl rfl ?_
  simp only [Act.put, List.setIfInBounds_toArray, List.set_cons_zero, List.set_cons_succ]
  refine wpAnyH_done (by kernel_rfl) ?_ _
  generalize ({ w with drawn := w.drawn + 1 } : World) = w1 at *
  go_wp2_with fail
  refine (WI.out _ hT0).mono ?_
  rintro e w' ⟨rfl, hq⟩
  obtain rfl := hq.symm
  clear hq
  go_wp2_with fail
  refine (WO.out _ hT0).mono ?_
  rintro e w' ⟨rfl, hq⟩
  obtain rfl := hq.symm
  clear hq
  rcases hcase with hc | hc
  · have hc' := HC1.out hc
    clear hc
    go_wp2_with fail
    refine (pair1_any _ _ _).mono ?_
    rintro e w2 ⟨rfl, t2⟩
    have t02 := hT0.tr t2
    go_wp2_with fail
    have OV := over_any b k v x y lp p1 Lt A w2 (HN.out.calm t02) (HL.out.calm t02) (HI.out.calm t02) (low_of LOW.out (by omega))
    refine OV.mono ?_
    clear OV
    rintro e w3 ⟨b3, rfl, tl3, -, t3⟩
    have t03 := t02.tr t3
    go_wp2_with fail
    refine (pair1_any _ _ _).mono ?_
    rintro e w4 ⟨rfl, t4⟩
    have t04 := t03.tr t4
    go_wp2_with fail
    have OV := over_any h k1 v1 p1 q1 (some ⟨b3, 0, none⟩) q1 (Lt ++ (k, v) :: A) B w4 (HH.out.calm t04) (tl3.calm t4) (HO.out.calm t04) (low_of LOW.out (by simp; omega))
    refine OV.mono ?_
    clear OV
    rintro e w5 ⟨b5, rfl, tl5, -, t5⟩
    go_wp2_with fail
    go_ret
    refine ⟨_, rfl, ?_, t04.tr t5⟩
    simpa [row1] using tl5
  · have hc' := HC2.out hc
    have hi := HI.out
    clear HI WI WO HC1 HC2
    cases hi with
    | nil => exact absurd (show ([] : List (ByteArray × (Option Addr × Nat × Nat))).length + 1 < 2 * (B.length + 1) by simp; omega) hc
    | @node i k2 v2 p2 q2 C D hb2 h3 h4 =>
    have HI : Hid (Nd w i k2 v2 p2 q2) := hide ⟨_, hb2⟩
    have HC := hide h3
    have HD := hide h4
    obtain ⟨-, -, -, c3, c4⟩ := cells5 (hT0.at hb2)
    have HB2 := hide hb2
    clear h3 h4 hb2 hc
    go_wp2_with fail
    refine (pair1_any _ _ _).mono ?_
    rintro e w2 ⟨rfl, t2⟩
    have t02 := hT0.tr t2
    go_wp2_with fail
    have OV := over_any h k1 v1 (some ⟨i, 0, none⟩) q1 q2 q1 D B w2 (HH.out.calm t02) (HD.out.calm t02) (HO.out.calm t02) (low_of LOW.out (by simp; omega))
    refine OV.mono ?_
    clear OV
    rintro e w3 ⟨b3, rfl, tl3, -, t3⟩
    have t03 := t02.tr t3
    clear c3 c4
    obtain ⟨-, -, -, c3, c4⟩ := cells5 (t03.at HB2.out)
    go_wp2_with fail
    refine (pair1_any _ _ _).mono ?_
    rintro e w4 ⟨rfl, t4⟩
    have t04 := t03.tr t4
    go_wp2_with fail
    have OV := over_any b k v x y lp p2 Lt C w4 (HN.out.calm t04) (HL.out.calm t04) (HC.out.calm t04) (low_of LOW.out (by simp; omega))
    refine OV.mono ?_
    clear OV
    rintro e w5 ⟨b5, rfl, tl5, -, t5⟩
    have t05 := t04.tr t5
    go_wp2_with fail
    refine (pair1_any _ _ _).mono ?_
    rintro e w6 ⟨rfl, t6⟩
    have t06 := t05.tr t6
    have t36 := (t4.tr t5).tr t6
    go_wp2_with fail
    have OV := over_any i k2 v2 p2 q2 (some ⟨b5, 0, none⟩) (some ⟨b3, 0, none⟩) (Lt ++ (k, v) :: C) (D ++ (k1, v1) :: B) w6 (HI.out.calm t06) (tl5.calm t6) (tl3.calm t36) (low_of LOW.out (by simp; omega))
    refine OV.mono ?_
    clear OV
    rintro e w7 ⟨b7, rfl, tl7, -, t7⟩
    go_wp2_with fail
    go_ret
    refine ⟨_, rfl, ?_, t06.tr t7⟩
    simpa [row1] using tl7

end Go.Proofs.YtamfcmmhmfhhkaaGreatDoor.LM

namespace Go.Proofs.YtamfcmmhmfhhkaaGreatDoor.LM
open Go.RowKit

theorem thrice_wrap {n : Nat} (h : Low n) : wrap64 (3 * ((n + 1 : Nat) : Int)) = ((3 * (n + 1) : Nat) : Int) := by have := h.le; unfold wrap64; omega

theorem ne_of_heavy {α : Type} {L : List α} {m : Nat} (h : 3 * (m + 1) < L.length + 1) : L ≠ [] := by intro e; subst e; simp at h

theorem index2 (p q : Value) (w : World) : (Instr.index 83 (.agg #[p, q]) (.int .i64 0)).run Tryz.prog w = .ok p w ∧ (Instr.index 83 (.agg #[p, q]) (.int .i64 1)).run Tryz.prog w = .ok q w := by
  have h := Tryz.underlying83
  constructor <;> simp [Instr.index, run_underlying h, asIntOf, go_sem]

set_option maxRecDepth 100000 in
set_option maxHeartbeats 1000000 in
theorem balanced_any (b : Nat) (k : ByteArray) (v : (Option Addr × Nat × Nat)) (x y p q : Option Addr) (L R : List (ByteArray × (Option Addr × Nat × Nat))) (w : World) (hn : Nd w b k v x y) (hp : TL w (.pointer p) L) (hq : TL w (.pointer q) R) (low : Low (L.length + 1 + R.length)) :
    Calls Tryz.prog 81 #[.pointer (some ⟨b, 0, none⟩), .agg #[.pointer p, .pointer q]] w fun e w' => ∃ b', e = .returned (.pointer (some ⟨b', 0, none⟩)) ∧ TL w' (.pointer (some ⟨b', 0, none⟩)) (L ++ (k, v) :: R) ∧ Calm w w' := by
  have OV := hide (fun (W : World) (h : Calm w W) => over_any b k v x y p q L R W (hn.calm h) (hp.calm h) (hq.calm h) low)
  have WP := hide (fun (W : World) (h : Calm w W) => weight_any (.pointer p) L W (hp.calm h) (low_of low (by omega)))
  have WQ := hide (fun (W : World) (h : Calm w W) => weight_any (.pointer q) R W (hq.calm h) (low_of low (by omega)))
  have T0 := hide (fun (W : World) (h : Calm w W) (hne : L ≠ []) => turned0_any b k v x y p q L R W (hn.calm h) (hp.calm h) (hq.calm h) hne low)
  have T1 := hide (fun (W : World) (h : Calm w W) (hne : R ≠ []) => turned1_any b k v x y q p R L W (hn.calm h) (hq.calm h) (hp.calm h) hne (low_of low (by omega)))
  have tp := thrice_wrap (n := L.length) (low_of low (by omega))
  have tq := thrice_wrap (n := R.length) (low_of low (by omega))
  have hd0 : (wrap64 (3 * ((R.length + 1 : Nat) : Int)) < ((L.length + 1 : Nat) : Int) ∧ L ≠ []) ∨ ¬ wrap64 (3 * ((R.length + 1 : Nat) : Int)) < ((L.length + 1 : Nat) : Int) := by
    rw [tq]
    rcases Nat.lt_or_ge (3 * (R.length + 1)) (L.length + 1) with h | h
    · exact .inl ⟨by omega, ne_of_heavy h⟩
    · exact .inr (by omega)
  have hd1 : (wrap64 (3 * ((L.length + 1 : Nat) : Int)) < ((R.length + 1 : Nat) : Int) ∧ R ≠ []) ∨ ¬ wrap64 (3 * ((L.length + 1 : Nat) : Int)) < ((R.length + 1 : Nat) : Int) := by
    rw [tp]
    rcases Nat.lt_or_ge (3 * (L.length + 1)) (R.length + 1) with h | h
    · exact .inl ⟨by omega, ne_of_heavy h⟩
    · exact .inr (by omega)
  clear tp tq hn hp hq low
  generalize ((L.length + 1 : Nat) : Int) = m0 at *
  generalize ((R.length + 1 : Nat) : Int) = m1 at *
  have HD0 := hide hd0
  have HD1 := hide hd1
  clear hd0 hd1
  have T := hide ((Touch.refl (fun _ => False) w).alloc (.cells #[.pointer p, .pointer q] 83))
  have HA : Hid ((w.alloc (.cells #[.pointer p, .pointer q] 83)).heap[w.heap.size]? = some (.cells #[.pointer p, .pointer q] 83 (0, 0))) := hide (heap_alloc_last w _)
  go_enter Tryz.func81, Tryz.ntmps81
  go_wp2_with fail
  generalize w.alloc (.cells #[.pointer p, .pointer q] 83) = w0 at *
  go_loopw [8] (fun i wr => ∃ s : Nat, i = .int .i64 (s : Int) ∧ s ≤ 2 ∧ Calm w0 wr) (fun i _ => 2 - (intOf i).toNat)
  case atStart => exact ⟨0, rfl, by omega, Touch.refl _ _⟩
  case round =>
    obtain ⟨s, rfl, hs, tr⟩ := hrel
    have h012 : s = 0 ∨ s = 1 ∨ s = 2 := by omega
    clear hs
    rcases h012 with rfl | rfl | rfl
    · have hx := (index2 (.pointer p) (.pointer q) wr).1
      go_wp2_with fail
      clear hx
      refine wp_region_held (S := Calm wr) (by kernel_rfl) ?_
      have hT0 : Calm wr { wr with drawn := wr.drawn + 1 } := (Touch.refl (fun _ => False) wr).drew
      refine wpAnyH_yield 0 12 (.pointer p) rfl rfl (by kernel_rfl) (by kernel_rfl) (by kernel_rfl) (fun _ _ _ h => h) (by kernel_rfl) (fun W hW => by kernel_rfl) (by assumption) rfl rfl ?_
      simp only [Act.put, List.setIfInBounds_toArray, List.set_cons_zero, List.set_cons_succ]
      refine wpAnyH_yield 2 14 (.int .i64 0) rfl rfl (by kernel_rfl) (by kernel_rfl) (by kernel_rfl) (fun _ _ _ h => h) (by kernel_rfl) (fun W hW => by kernel_rfl) (by assumption) rfl rfl ?_
      simp only [Act.put, List.setIfInBounds_toArray, List.set_cons_zero, List.set_cons_succ]
      refine wpAnyH_yield 3 15 (.int .i64 1) rfl rfl (by kernel_rfl) (by kernel_rfl) (by kernel_rfl) (fun _ _ _ h => h) (by kernel_rfl) (fun W hW => by kernel_rfl) (by assumption) rfl rfl ?_
      simp only [Act.put, List.setIfInBounds_toArray, List.set_cons_zero, List.set_cons_succ]
      refine wpAnyH_yield 4 16 (.pointer (some ⟨w.heap.size, 1, none⟩)) rfl rfl (by kernel_rfl) (by kernel_rfl) (by kernel_rfl) (fun _ _ _ h => h) (by kernel_rfl) (fun W hW => by go_simp) (by assumption) rfl rfl ?_
      simp only [Act.put, List.setIfInBounds_toArray, List.set_cons_zero, List.set_cons_succ]
      refine wpAnyH_yield 5 17 (.pointer q) rfl rfl (by kernel_rfl) (by kernel_rfl) (by kernel_rfl) (fun _ _ _ h => h) (by kernel_rfl) (fun W hW => by obtain ⟨c0, c1⟩ := cells2 (hW.at (tr.at HA.out)); go_simp) (by assumption) rfl rfl ?_
      simp only [Act.put, List.setIfInBounds_toArray, List.set_cons_zero, List.set_cons_succ]
      refine wpAnyH_enter 1 13 95 #[.pointer p] rfl rfl (by kernel_rfl) (by kernel_rfl) (by kernel_rfl) ?_
      refine (WP.out _ ((T.out.tr tr).tr hT0)).mono ?_
      rintro r _ ⟨rfl, rfl⟩
      refine ⟨_, rfl, hT0, ?_⟩
      simp only [Act.put, List.setIfInBounds_toArray, List.set_cons_zero, List.set_cons_succ]
      refine wpAnyH_enter 6 18 95 #[.pointer q] rfl rfl (by kernel_rfl) (by kernel_rfl) (by kernel_rfl) ?_
      refine (WQ.out _ ((T.out.tr tr).tr hT0)).mono ?_
      rintro r _ ⟨rfl, rfl⟩
      refine ⟨_, rfl, hT0, ?_⟩
      simp only [Act.put, List.setIfInBounds_toArray, List.set_cons_zero, List.set_cons_succ]
      refine wpAnyH_yield 7 19 (.int .i64 (wrap64 (3 * m1))) rfl rfl (by kernel_rfl) (by kernel_rfl) (by kernel_rfl) (fun _ _ _ h => h) (by kernel_rfl) (fun W hW => by go_simp; rw [wrapEq]) (by assumption) rfl rfl ?_
      simp only [Act.put, List.setIfInBounds_toArray, List.set_cons_zero, List.set_cons_succ]
      refine wpAnyH_yield 8 20 (.bool (decide (wrap64 (3 * m1) < m0))) rfl rfl (by kernel_rfl) (by kernel_rfl) (by kernel_rfl) (fun _ _ _ h => h) (by kernel_rfl) (fun W hW => by go_simp) (by assumption) rfl rfl ?_
      simp only [Act.put, List.setIfInBounds_toArray, List.set_cons_zero, List.set_cons_succ]
      refine wpAnyH_done (by kernel_rfl) ?_ _
      have tr1 := tr.tr hT0
      generalize ({ wr with drawn := wr.drawn + 1 } : World) = w1 at *
      clear hT0 tr
      obtain ⟨c0, c1⟩ := cells2 (tr1.at HA.out)
      rcases HD0.out with ⟨hc, hne⟩ | hc
      · go_wp2_with fail
        refine (T0.out _ (T.out.tr tr1) hne).mono ?_
        rintro e w2 ⟨b2, rfl, tl2, t2⟩
        go_wp2_with fail
        go_ret
        exact ⟨_, rfl, tl2, (T.out.tr tr1).tr t2⟩
      · go_wp2_with fail
        go_roundw
        case rel => exact ⟨1, rfl, by omega, tr1⟩
        case measure => simp [intOf]
    · have hx := (index2 (.pointer p) (.pointer q) wr).2
      go_wp2_with fail
      clear hx
      refine wp_region_held (S := Calm wr) (by kernel_rfl) ?_
      have hT0 : Calm wr { wr with drawn := wr.drawn + 1 } := (Touch.refl (fun _ => False) wr).drew
      refine wpAnyH_yield 0 12 (.pointer q) rfl rfl (by kernel_rfl) (by kernel_rfl) (by kernel_rfl) (fun _ _ _ h => h) (by kernel_rfl) (fun W hW => by kernel_rfl) (by assumption) rfl rfl ?_
      simp only [Act.put, List.setIfInBounds_toArray, List.set_cons_zero, List.set_cons_succ]
      refine wpAnyH_yield 2 14 (.int .i64 1) rfl rfl (by kernel_rfl) (by kernel_rfl) (by kernel_rfl) (fun _ _ _ h => h) (by kernel_rfl) (fun W hW => by kernel_rfl) (by assumption) rfl rfl ?_
      simp only [Act.put, List.setIfInBounds_toArray, List.set_cons_zero, List.set_cons_succ]
      refine wpAnyH_yield 3 15 (.int .i64 0) rfl rfl (by kernel_rfl) (by kernel_rfl) (by kernel_rfl) (fun _ _ _ h => h) (by kernel_rfl) (fun W hW => by kernel_rfl) (by assumption) rfl rfl ?_
      simp only [Act.put, List.setIfInBounds_toArray, List.set_cons_zero, List.set_cons_succ]
      refine wpAnyH_yield 4 16 (.pointer (some ⟨w.heap.size, 0, none⟩)) rfl rfl (by kernel_rfl) (by kernel_rfl) (by kernel_rfl) (fun _ _ _ h => h) (by kernel_rfl) (fun W hW => by go_simp) (by assumption) rfl rfl ?_
      simp only [Act.put, List.setIfInBounds_toArray, List.set_cons_zero, List.set_cons_succ]
      refine wpAnyH_yield 5 17 (.pointer p) rfl rfl (by kernel_rfl) (by kernel_rfl) (by kernel_rfl) (fun _ _ _ h => h) (by kernel_rfl) (fun W hW => by obtain ⟨c0, c1⟩ := cells2 (hW.at (tr.at HA.out)); go_simp) (by assumption) rfl rfl ?_
      simp only [Act.put, List.setIfInBounds_toArray, List.set_cons_zero, List.set_cons_succ]
      refine wpAnyH_enter 1 13 95 #[.pointer q] rfl rfl (by kernel_rfl) (by kernel_rfl) (by kernel_rfl) ?_
      refine (WQ.out _ ((T.out.tr tr).tr hT0)).mono ?_
      rintro r _ ⟨rfl, rfl⟩
      refine ⟨_, rfl, hT0, ?_⟩
      simp only [Act.put, List.setIfInBounds_toArray, List.set_cons_zero, List.set_cons_succ]
      refine wpAnyH_enter 6 18 95 #[.pointer p] rfl rfl (by kernel_rfl) (by kernel_rfl) (by kernel_rfl) ?_
      refine (WP.out _ ((T.out.tr tr).tr hT0)).mono ?_
      rintro r _ ⟨rfl, rfl⟩
      refine ⟨_, rfl, hT0, ?_⟩
      simp only [Act.put, List.setIfInBounds_toArray, List.set_cons_zero, List.set_cons_succ]
      refine wpAnyH_yield 7 19 (.int .i64 (wrap64 (3 * m0))) rfl rfl (by kernel_rfl) (by kernel_rfl) (by kernel_rfl) (fun _ _ _ h => h) (by kernel_rfl) (fun W hW => by go_simp; rw [wrapEq]) (by assumption) rfl rfl ?_
      simp only [Act.put, List.setIfInBounds_toArray, List.set_cons_zero, List.set_cons_succ]
      refine wpAnyH_yield 8 20 (.bool (decide (wrap64 (3 * m0) < m1))) rfl rfl (by kernel_rfl) (by kernel_rfl) (by kernel_rfl) (fun _ _ _ h => h) (by kernel_rfl) (fun W hW => by go_simp) (by assumption) rfl rfl ?_
      simp only [Act.put, List.setIfInBounds_toArray, List.set_cons_zero, List.set_cons_succ]
      refine wpAnyH_done (by kernel_rfl) ?_ _
      have tr1 := tr.tr hT0
      generalize ({ wr with drawn := wr.drawn + 1 } : World) = w1 at *
      clear hT0 tr
      obtain ⟨c0, c1⟩ := cells2 (tr1.at HA.out)
      rcases HD1.out with ⟨hc, hne⟩ | hc
      · go_wp2_with fail
        refine (T1.out _ (T.out.tr tr1) hne).mono ?_
        rintro e w2 ⟨b2, rfl, tl2, t2⟩
        go_wp2_with fail
        go_ret
        exact ⟨_, rfl, tl2, (T.out.tr tr1).tr t2⟩
      · go_wp2_with fail
        go_roundw
        case rel => exact ⟨2, rfl, by omega, tr1⟩
        case measure => simp [intOf]
    · obtain ⟨c0, c1⟩ := cells2 (tr.at HA.out)
      go_wp2_with fail
      refine (OV.out _ (T.out.tr tr)).mono ?_
      rintro e w2 ⟨b2, rfl, tl2, -, t2⟩
      go_wp2_with fail
      go_ret
      exact ⟨_, rfl, tl2, (T.out.tr tr).tr t2⟩

end Go.Proofs.YtamfcmmhmfhhkaaGreatDoor.LM
