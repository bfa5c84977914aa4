/- The program's walks, as iterators whose rounds may change other rows made meanwhile. The program's Keys: what it has at hand between two rounds. The program's Keys. The program's panes answer as the laws' walks ask: keys, windows. -/
import Derived.Test.YtamfcmmhmfhhkaaGreatDoorG23
import Derived.Test.YtamfcmmhmfhhkaaGreatDoorG32
import Derived.Test.YtamfcmmhmfhhkaaGreatDoorG26
import Derived.Test.YtamfcmmhmfhhkaaGreatDoorG27
import Derived.Test.YtamfcmmhmfhhkaaGreatDoorG24
import Derived.Test.YtamfcmmhmfhhkaaGreatDoorG5
import Derived.Test.YtamfcmmhmfhhkaaGreatDoorG6
import Derived.Test.YtamfcmmhmfhhkaaGreatDoorG25
import Derived.Test.YtamfcmmhmfhhkaaGreatDoorG21
import Derived.Test.YtamfcmmhmfhhkaaGreatDoorG14
import Derived.Test.YtamfcmmhmfhhkaaGreatDoorG16
import Derived.Test.YtamfcmmhmfhhkaaGreatDoorG18
namespace Go.Proofs.YtamfcmmhmfhhkaaGreatDoor.LM
open Go.RowKit

set_option maxRecDepth 100000 in
set_option maxHeartbeats 2000000 in
theorem walk0_goO {f : Nat} {lb : Array Value} {c : ByteArray → ByteArray → Int} {Y : World → Prop} (hC : Cmp f lb c Y) (m : Nat) (kd : Kd) (hkd : kd.sd = 0) (B1 B2 B3 : Nat) (lb2 : Array Value) (X : List (ByteArray × (Option Addr × Nat × Nat))) (hX : ∀ key, Dec (c key) X) (few : Few X.length)
    (n l : Nat) (S : Nat → Prop) (J Jx : Nat → World → Prop) (W : World) (h1 : W.heap[B1]? = some (.cells #[.pointer (some ⟨m, 0, none⟩)] 49 (0, 0))) (h2 : W.heap[B2]? = some (.cells #[.int .i64 0] 3 (0, 0)))
    (h3 : W.heap[B3]? = some (.cells #[.func (.func kd.fn) #[] lb2] 72 (0, 0))) (h4 : kd.held W (some ⟨m, 0, none⟩) lb2) (hM : Mt W m f lb X) (hYW : Y W)
    (hS : ∀ k, S k → k < W.heap.size ∧ ∀ cs fr, W.heap[k]? ≠ some (.cells cs 85 fr)) (hJ : ∀ k W1 W2, J k W1 → Sly 80 W.heap.size W1 W2 → J k W2)
    (hY : ∀ k x W1, J k W1 → k < (kd.list c X).length → (kd.list c X)[k]? = some x → YieldAt Fence.wide (n - 1) Tryz.prog l (encs x) W1 fun e W' => Touch (Oth 80 S W.heap.size W1) W1 W' ∧ ((e = .returned (.bool true) ∧ J (k + 1) W') ∨ (e = .returned (.bool false) ∧ Jx (k + 1) W')))
    (h0 : J 0 W) : Calls Tryz.prog 58 #[.func (.yield l) #[] #[], .pointer (some ⟨B1, 0, none⟩), .pointer (some ⟨B2, 0, none⟩), .pointer (some ⟨B3, 0, none⟩)] W
      fun e W' => (∃ v, e = .returned v) ∧ (J (kd.list c X).length W' ∨ ∃ k, k ≤ (kd.list c X).length ∧ Jx k W') := by
  obtain ⟨ro, hm, htl⟩ := hM
  have TH := hide (there_any W m f lb ro hm)
  have mon := Mon.of_dec hX kd
  have hlist : kd.list c X = (dir 0 X).filter fun a => kd.g c a.1 := by unfold Kd.list; rw [hkd]
  rw [hkd] at mon
  have WA := hide (fun W' (h : Calm W W') => way0_any (Kd.wi hC m kd lb2) W' ro X (htl.calm h) ⟨Kd.held_calm h4 h, hC.calm _ _ hYW h, ro, h.at hm⟩ mon few)
  have TE := hide (fun (W0 W' : World) (ao : Option Addr) (nn cap : Nat) (vs : List Value) (h : Calm W W0) (hz : W0.heap.size = W.heap.size) (own : W'.ownsRow W0.heap.size 80 1 (.slice ao nn cap) nn vs) (stk : Stk W0 0 vs (kd.list c X)) (hT : Calm W0 W') =>
    callsIn_wide.1 (tell0_inO n l S J Jx W0 (fun k hk => by
        obtain ⟨g1, g2⟩ := hS k hk
        refine ⟨Nat.lt_of_lt_of_le g1 h.size, fun cs fr he => g2 cs fr ?_⟩
        rw [← h.block k g1 (fun h => h)]; exact he) (fun k W1 W2 hj hs => hJ k W1 W2 hj (hs.weak h.size)) (kd.list c X)
      (fun k W1 hj hk => by rw [hz]; exact hY k _ W1 hj hk (List.getElem?_eq_getElem hk)) ⟨Nat.le_trans (walk_low kd) few.le⟩ ao nn cap vs W' own stk hT (hJ 0 _ _ h0 (.of_calm (h.tr hT)))))
  rw [hlist] at TE ⊢
  have H1 := hide h1
  have H2 := hide h2
  have H3 := hide h3
  have HM := hide hm
  have c1 := (one_cell h1).1
  generalize (dir 0 X).filter (fun a => kd.g c a.1) = Yl at *
  generalize kd.fn = kf at *
  clear h1 h2 h3 h4 hm htl hX few hS hJ hY h0 mon hYW hC hlist hkd
  go_enter Tryz.func58, Tryz.ntmps58
  go_wp2_with fail
  refine TH.out.mono ?_
  rintro e w' ⟨rfl, hq⟩
  obtain rfl := hq.symm
  clear hq TH
  clear c1
  go_wp2_with fail
  refine wp_region_z 9 (Calm W) (by kernel_rfl) ?_
  have hT0 : Calm W { W with drawn := W.drawn + 1 } := (Touch.refl (fun _ => False) W).drew
  refine wpAnyZ_yield 0 7 (.pointer (some ⟨m, 0, none⟩)) [1, 2, 3, 6, 9] rfl rfl (by kernel_rfl) (by kernel_rfl) (by kernel_rfl) (by kernel_rfl) (by kernel_rfl) (fun _ _ _ h => h) (by kernel_rfl) (fun W hW => by have c0 := (one_cell (hW.at H1.out)).1; go_simp) (by assumption) rfl rfl ?_
  simp only [Act.put, List.setIfInBounds_toArray, List.set_cons_zero, List.set_cons_succ]
  refine wpAnyZ_yield 1 8 (.pointer (some ⟨m, 0, none⟩)) [2, 3, 6, 9] rfl rfl (by kernel_rfl) (by kernel_rfl) (by kernel_rfl) (by kernel_rfl) (by kernel_rfl) (fun _ _ _ h => h) (by kernel_rfl) (fun W hW => by kernel_rfl) (by assumption) rfl rfl ?_
  simp only [Act.put, List.setIfInBounds_toArray, List.set_cons_zero, List.set_cons_succ]
  refine wpAnyZ_yield 2 9 (.pointer (some ⟨m, 1, none⟩)) [3, 6, 9] rfl rfl (by kernel_rfl) (by kernel_rfl) (by kernel_rfl) (by kernel_rfl) (by kernel_rfl) (fun _ _ _ h => h) (by kernel_rfl) (fun W hW => by go_simp) (by assumption) rfl rfl ?_
  simp only [Act.put, List.setIfInBounds_toArray, List.set_cons_zero, List.set_cons_succ]
  refine wpAnyZ_yield 3 10 (.pointer ro) [6, 9] rfl rfl (by kernel_rfl) (by kernel_rfl) (by kernel_rfl) (by kernel_rfl) (by kernel_rfl) (fun _ _ _ h => h) (by kernel_rfl) (fun W hW => by obtain ⟨c0, c1⟩ := cells2 (hW.at HM.out); go_simp) (by assumption) rfl rfl ?_
  simp only [Act.put, List.setIfInBounds_toArray, List.set_cons_zero, List.set_cons_succ]
  refine wpAnyZ_yield 4 11 (.int .i64 0) [6, 9] rfl rfl (by kernel_rfl) (by kernel_rfl) (by kernel_rfl) (by kernel_rfl) (by kernel_rfl) (fun _ _ _ h => h) (by kernel_rfl) (fun W hW => by have c0 := (one_cell (hW.at H2.out)).1; go_simp) (by assumption) rfl rfl ?_
  simp only [Act.put, List.setIfInBounds_toArray, List.set_cons_zero, List.set_cons_succ]
  refine wpAnyZ_yield 5 12 (.func (.func kf) #[] lb2) [6, 9] rfl rfl (by kernel_rfl) (by kernel_rfl) (by kernel_rfl) (by kernel_rfl) (by kernel_rfl) (fun _ _ _ h => h) (by kernel_rfl) (fun W hW => by have c0 := (one_cell (hW.at H3.out)).1; go_simp) (by assumption) rfl rfl ?_
  simp only [Act.put, List.setIfInBounds_toArray, List.set_cons_zero, List.set_cons_succ]
  refine wpAnyZ_yield 7 14 (.int .i64 0) [9] rfl rfl (by kernel_rfl) (by kernel_rfl) (by kernel_rfl) (by kernel_rfl) (by kernel_rfl) (fun _ _ _ h => h) (by kernel_rfl) (fun W hW => by have c0 := (one_cell (hW.at H2.out)).1; go_simp) (by assumption) rfl rfl ?_
  simp only [Act.put, List.setIfInBounds_toArray, List.set_cons_zero, List.set_cons_succ]
  refine wpAnyZ_yield 8 15 (.func (.yield l) #[] #[]) [9] rfl rfl (by kernel_rfl) (by kernel_rfl) (by kernel_rfl) (by kernel_rfl) (by kernel_rfl) (fun _ _ _ h => h) (by kernel_rfl) (fun W hW => by kernel_rfl) (by assumption) rfl rfl ?_
  simp only [Act.put, List.setIfInBounds_toArray, List.set_cons_zero, List.set_cons_succ]
  refine wpAnyZ_enter 6 13 60 #[.pointer ro, .int .i64 0, .func (.func kf) #[] lb2] rfl rfl (by decide) (by kernel_rfl) (by kernel_rfl) (by kernel_rfl) ?_
  refine (WA.out _ hT0).mono ?_
  rintro e w2 ⟨ao, nn, cap, vs, rfl, own2, stk2, t2⟩
  refine ⟨_, rfl, hT0.tr t2, ?_⟩
  simp only [Act.put, List.setIfInBounds_toArray, List.set_cons_zero, List.set_cons_succ]
  refine wpAnyZ_last 16 59 #[.slice ao nn cap, .int .i64 0, .func (.yield l) #[] #[]] rfl rfl (by kernel_rfl) (by kernel_rfl) (by kernel_rfl) (by kernel_rfl) ?_
  refine (TE.out _ w2 ao nn cap vs hT0 rfl own2 stk2 t2).mono ?_
  rintro e w3 ⟨⟨v, rfl⟩, hp⟩
  refine ⟨v, rfl, ?_⟩
  have HP := hide hp
  clear hp own2 stk2 t2 hT0
  simp only [Act.put, List.setIfInBounds_toArray, List.set_cons_zero, List.set_cons_succ]
  go_wp2_with fail
  go_end0
  exact ⟨⟨_, rfl⟩, HP.out⟩

set_option maxRecDepth 100000 in
set_option maxHeartbeats 2000000 in
theorem walk1_goO {f : Nat} {lb : Array Value} {c : ByteArray → ByteArray → Int} {Y : World → Prop} (hC : Cmp f lb c Y) (m : Nat) (kd : Kd) (hkd : kd.sd = 1) (B1 B2 B3 : Nat) (lb2 : Array Value) (X : List (ByteArray × (Option Addr × Nat × Nat))) (hX : ∀ key, Dec (c key) X) (few : Few X.length)
    (n l : Nat) (S : Nat → Prop) (J Jx : Nat → World → Prop) (W : World) (h1 : W.heap[B1]? = some (.cells #[.pointer (some ⟨m, 0, none⟩)] 49 (0, 0))) (h2 : W.heap[B2]? = some (.cells #[.int .i64 1] 3 (0, 0)))
    (h3 : W.heap[B3]? = some (.cells #[.func (.func kd.fn) #[] lb2] 72 (0, 0))) (h4 : kd.held W (some ⟨m, 0, none⟩) lb2) (hM : Mt W m f lb X) (hYW : Y W)
    (hS : ∀ k, S k → k < W.heap.size ∧ ∀ cs fr, W.heap[k]? ≠ some (.cells cs 85 fr)) (hJ : ∀ k W1 W2, J k W1 → Sly 80 W.heap.size W1 W2 → J k W2)
    (hY : ∀ k x W1, J k W1 → k < (kd.list c X).length → (kd.list c X)[k]? = some x → YieldAt Fence.wide (n - 1) Tryz.prog l (encs x) W1 fun e W' => Touch (Oth 80 S W.heap.size W1) W1 W' ∧ ((e = .returned (.bool true) ∧ J (k + 1) W') ∨ (e = .returned (.bool false) ∧ Jx (k + 1) W')))
    (h0 : J 0 W) : Calls Tryz.prog 58 #[.func (.yield l) #[] #[], .pointer (some ⟨B1, 0, none⟩), .pointer (some ⟨B2, 0, none⟩), .pointer (some ⟨B3, 0, none⟩)] W
      fun e W' => (∃ v, e = .returned v) ∧ (J (kd.list c X).length W' ∨ ∃ k, k ≤ (kd.list c X).length ∧ Jx k W') := by
  obtain ⟨ro, hm, htl⟩ := hM
  have TH := hide (there_any W m f lb ro hm)
  have mon := Mon.of_dec hX kd
  have hlist : kd.list c X = (dir 1 X).filter fun a => kd.g c a.1 := by unfold Kd.list; rw [hkd]
  rw [hkd] at mon
  have WA := hide (fun W' (h : Calm W W') => way1_any (Kd.wi hC m kd lb2) W' ro X (htl.calm h) ⟨Kd.held_calm h4 h, hC.calm _ _ hYW h, ro, h.at hm⟩ mon few)
  have TE := hide (fun (W0 W' : World) (ao : Option Addr) (nn cap : Nat) (vs : List Value) (h : Calm W W0) (hz : W0.heap.size = W.heap.size) (own : W'.ownsRow W0.heap.size 80 1 (.slice ao nn cap) nn vs) (stk : Stk W0 1 vs (kd.list c X)) (hT : Calm W0 W') =>
    callsIn_wide.1 (tell1_inO n l S J Jx W0 (fun k hk => by
        obtain ⟨g1, g2⟩ := hS k hk
        refine ⟨Nat.lt_of_lt_of_le g1 h.size, fun cs fr he => g2 cs fr ?_⟩
        rw [← h.block k g1 (fun h => h)]; exact he) (fun k W1 W2 hj hs => hJ k W1 W2 hj (hs.weak h.size)) (kd.list c X)
      (fun k W1 hj hk => by rw [hz]; exact hY k _ W1 hj hk (List.getElem?_eq_getElem hk)) ⟨Nat.le_trans (walk_low kd) few.le⟩ ao nn cap vs W' own stk hT (hJ 0 _ _ h0 (.of_calm (h.tr hT)))))
  rw [hlist] at TE ⊢
  have H1 := hide h1
  have H2 := hide h2
  have H3 := hide h3
  have HM := hide hm
  have c1 := (one_cell h1).1
  generalize (dir 1 X).filter (fun a => kd.g c a.1) = Yl at *
  generalize kd.fn = kf at *
  clear h1 h2 h3 h4 hm htl hX few hS hJ hY h0 mon hYW hC hlist hkd
  go_enter Tryz.func58, Tryz.ntmps58
  go_wp2_with fail
  refine TH.out.mono ?_
  rintro e w' ⟨rfl, hq⟩
  obtain rfl := hq.symm
  clear hq TH
  clear c1
  go_wp2_with fail
  refine wp_region_z 9 (Calm W) (by kernel_rfl) ?_
  have hT0 : Calm W { W with drawn := W.drawn + 1 } := (Touch.refl (fun _ => False) W).drew
  refine wpAnyZ_yield 0 7 (.pointer (some ⟨m, 0, none⟩)) [1, 2, 3, 6, 9] rfl rfl (by kernel_rfl) (by kernel_rfl) (by kernel_rfl) (by kernel_rfl) (by kernel_rfl) (fun _ _ _ h => h) (by kernel_rfl) (fun W hW => by have c0 := (one_cell (hW.at H1.out)).1; go_simp) (by assumption) rfl rfl ?_
  simp only [Act.put, List.setIfInBounds_toArray, List.set_cons_zero, List.set_cons_succ]
  refine wpAnyZ_yield 1 8 (.pointer (some ⟨m, 0, none⟩)) [2, 3, 6, 9] rfl rfl (by kernel_rfl) (by kernel_rfl) (by kernel_rfl) (by kernel_rfl) (by kernel_rfl) (fun _ _ _ h => h) (by kernel_rfl) (fun W hW => by kernel_rfl) (by assumption) rfl rfl ?_
  simp only [Act.put, List.setIfInBounds_toArray, List.set_cons_zero, List.set_cons_succ]
  refine wpAnyZ_yield 2 9 (.pointer (some ⟨m, 1, none⟩)) [3, 6, 9] rfl rfl (by kernel_rfl) (by kernel_rfl) (by kernel_rfl) (by kernel_rfl) (by kernel_rfl) (fun _ _ _ h => h) (by kernel_rfl) (fun W hW => by go_simp) (by assumption) rfl rfl ?_
  simp only [Act.put, List.setIfInBounds_toArray, List.set_cons_zero, List.set_cons_succ]
  refine wpAnyZ_yield 3 10 (.pointer ro) [6, 9] rfl rfl (by kernel_rfl) (by kernel_rfl) (by kernel_rfl) (by kernel_rfl) (by kernel_rfl) (fun _ _ _ h => h) (by kernel_rfl) (fun W hW => by obtain ⟨c0, c1⟩ := cells2 (hW.at HM.out); go_simp) (by assumption) rfl rfl ?_
  simp only [Act.put, List.setIfInBounds_toArray, List.set_cons_zero, List.set_cons_succ]
  refine wpAnyZ_yield 4 11 (.int .i64 1) [6, 9] rfl rfl (by kernel_rfl) (by kernel_rfl) (by kernel_rfl) (by kernel_rfl) (by kernel_rfl) (fun _ _ _ h => h) (by kernel_rfl) (fun W hW => by have c0 := (one_cell (hW.at H2.out)).1; go_simp) (by assumption) rfl rfl ?_
  simp only [Act.put, List.setIfInBounds_toArray, List.set_cons_zero, List.set_cons_succ]
  refine wpAnyZ_yield 5 12 (.func (.func kf) #[] lb2) [6, 9] rfl rfl (by kernel_rfl) (by kernel_rfl) (by kernel_rfl) (by kernel_rfl) (by kernel_rfl) (fun _ _ _ h => h) (by kernel_rfl) (fun W hW => by have c0 := (one_cell (hW.at H3.out)).1; go_simp) (by assumption) rfl rfl ?_
  simp only [Act.put, List.setIfInBounds_toArray, List.set_cons_zero, List.set_cons_succ]
  refine wpAnyZ_yield 7 14 (.int .i64 1) [9] rfl rfl (by kernel_rfl) (by kernel_rfl) (by kernel_rfl) (by kernel_rfl) (by kernel_rfl) (fun _ _ _ h => h) (by kernel_rfl) (fun W hW => by have c0 := (one_cell (hW.at H2.out)).1; go_simp) (by assumption) rfl rfl ?_
  simp only [Act.put, List.setIfInBounds_toArray, List.set_cons_zero, List.set_cons_succ]
  refine wpAnyZ_yield 8 15 (.func (.yield l) #[] #[]) [9] rfl rfl (by kernel_rfl) (by kernel_rfl) (by kernel_rfl) (by kernel_rfl) (by kernel_rfl) (fun _ _ _ h => h) (by kernel_rfl) (fun W hW => by kernel_rfl) (by assumption) rfl rfl ?_
  simp only [Act.put, List.setIfInBounds_toArray, List.set_cons_zero, List.set_cons_succ]
  refine wpAnyZ_enter 6 13 60 #[.pointer ro, .int .i64 1, .func (.func kf) #[] lb2] rfl rfl (by decide) (by kernel_rfl) (by kernel_rfl) (by kernel_rfl) ?_
  refine (WA.out _ hT0).mono ?_
  rintro e w2 ⟨ao, nn, cap, vs, rfl, own2, stk2, t2⟩
  refine ⟨_, rfl, hT0.tr t2, ?_⟩
  simp only [Act.put, List.setIfInBounds_toArray, List.set_cons_zero, List.set_cons_succ]
  refine wpAnyZ_last 16 59 #[.slice ao nn cap, .int .i64 1, .func (.yield l) #[] #[]] rfl rfl (by kernel_rfl) (by kernel_rfl) (by kernel_rfl) (by kernel_rfl) ?_
  refine (TE.out _ w2 ao nn cap vs hT0 rfl own2 stk2 t2).mono ?_
  rintro e w3 ⟨⟨v, rfl⟩, hp⟩
  refine ⟨v, rfl, ?_⟩
  have HP := hide hp
  clear hp own2 stk2 t2 hT0
  simp only [Act.put, List.setIfInBounds_toArray, List.set_cons_zero, List.set_cons_succ]
  go_wp2_with fail
  go_end0
  exact ⟨⟨_, rfl⟩, HP.out⟩

/-- A walk of a map is an iterator. -/
theorem Wl.seqO {f : Nat} {lb : Array Value} {c : ByteArray → ByteArray → Int} {Y : World → Prop} (hC : Cmp f lb c Y) (m : Nat) (kd : Kd) (lbv : Array Value) (X : List (ByteArray × (Option Addr × Nat × Nat))) (hX : ∀ key, Dec (c key) X) (few : Few X.length) :
    SeqO Tryz.prog 80 85 58 lbv encs (kd.list c X).length (fun k x => (kd.list c X)[k]? = some x)
      (fun W => Wl W (.func (.func 58) #[] lbv) (some ⟨m, 0, none⟩) kd ∧ Mt W m f lb X ∧ Y W) := by
  rintro n l S J Jx W ⟨⟨B1, B2, B3, lb2, e, h1, h2, h3, h4⟩, hM, hYW⟩ hS hJ hY h0
  injection e with _ _ e
  subst e
  refine callsIn_wide.2 ?_
  have hs : kd.sd = 0 ∨ kd.sd = 1 := by cases kd <;> simp [Kd.sd]
  rcases hs with hs | hs
  · rw [hs] at h2
    exact walk0_goO hC m kd hs B1 B2 B3 lb2 X hX few n l S J Jx W h1 h2 h3 h4 hM hYW hS hJ hY h0
  · rw [hs] at h2
    exact walk1_goO hC m kd hs B1 B2 B3 lb2 X hX few n l S J Jx W h1 h2 h3 h4 hM hYW hS hJ hY h0

end Go.Proofs.YtamfcmmhmfhhkaaGreatDoor.LM

namespace Go.Proofs.YtamfcmmhmfhhkaaGreatDoor
open Go.RowKit LM

/-- A key and its row, as Keys tells them. -/
abbrev kpr (x : Rw) : Kp := ⟨x.1, x.2.1, x.2.2.1, x.2.2.2⟩
/-- What Keys may change of what was there. -/
abbrev SK (B : Nat) (X : List Rw) : Nat → Prop := fun g => g = B ∨ ∃ x ∈ X, (rwv x).ownBlock = some g

structure Kst (wb : World) (B b0 : Nat) (L : List Pn) (X : List Rw) (k : Nat) (W : World) : Prop where
  ex : ∃ a c, W.heap[B]? = some (.cells #[.slice a k c] 25 (0, 0)) ∧ encG.Own 32 W wb.heap.size (.slice a k c) ((X.take k).map kpr)
  row : ∀ x ∈ X, encP.Own 40 W b0 (rwv x) (ofP L x.1)
  tr : Touch (SK B X) wb W

theorem tag_ne {W : World} {g : Nat} {cs cs' : Array Value} {t t' : TypeId} {fr fr' : Nat × Nat} (h : W.heap[g]? = some (.cells cs t fr)) (h' : W.heap[g]? = some (.cells cs' t' fr')) (ht : t ≠ t') : False := by
  rw [h] at h'
  injection h' with h'
  injection h' with _ e _
  exact ht e

theorem Kst.turn {S : Nat → Prop} {wb W W' : World} {B b0 k : Nat} {L : List Pn} {X : List Rw} (h : Kst wb B b0 L X k W) (hb : B < wb.heap.size) (hr : ∀ x ∈ X, ∀ g, (rwv x).ownBlock = some g → g < wb.heap.size) (ht : Touch S W W')
    (hS : ∀ g, S g → wb.heap.size ≤ g ∧ ∀ cs fr, W.heap[g]? ≠ some (.cells cs 32 fr)) : Kst wb B b0 L X k W' := by
  obtain ⟨⟨a, c, h1, h2⟩, h3, h4⟩ := h
  have no : ∀ g, g < wb.heap.size → ¬ S g := fun g hg s => by have := (hS g s).1; omega
  refine ⟨⟨a, c, ht.heap h1 (no _ hb), Rc.Own.touch h2 ht fun g hg s => ?_⟩, fun x hx => Rc.Own.touch (h3 x hx) ht fun g hg => no g (hr x hx g hg), h4.trans ht fun g hg s => absurd s (no g hg)⟩
  obtain ⟨-, cur, hc⟩ := Rc.own_block h2 hg
  exact (hS g s).2 _ _ hc

theorem up_inj {X : List Rw} (h : Up cmpS X) {x y : Rw} (hx : x ∈ X) (hy : y ∈ X) (e : x.1 = y.1) : x = y := by
  unfold Up at h
  obtain ⟨i, hi, rfl⟩ := List.mem_iff_getElem.1 hx
  obtain ⟨j, hj, rfl⟩ := List.mem_iff_getElem.1 hy
  rw [List.pairwise_iff_getElem] at h
  rcases Nat.lt_trichotomy i j with g | g | g
  · have := h i j hi hj g
    rw [e, cmpS_me] at this
    omega
  · subst g; rfl
  · have := h j i hj hi g
    rw [e, cmpS_me] at this
    omega

theorem Kst.push {U : Nat → Prop} {wb W W' : World} {B b0 k : Nat} {L : List Pn} {X : List Rw} {x : Rw} {a a2 : Option Addr} {c c2 : Nat} (h : Kst wb B b0 L X k W) (hx : X[k]? = some x)
    (hup : Up cmpS X) (hsep : ∀ x ∈ X, ∀ y ∈ X, x.1 ≠ y.1 → ∀ g, (rwv x).ownBlock = some g → (rwv y).ownBlock ≠ some g)
    (hcell : W.heap[B]? = some (.cells #[.slice a k c] 25 (0, 0))) (hown : encG.Own 32 W wb.heap.size (.slice a k c) ((X.take k).map kpr))
    (hU : ∀ g, U g → g = B ∨ (rwv x).ownBlock = some g ∨ (Value.slice a k c).ownBlock = some g) (ht : Touch U W W')
    (h7 : W'.heap[B]? = some (.cells #[.slice a2 (k + 1) c2] 25 (0, 0))) (ow : encG.Own 32 W' wb.heap.size (.slice a2 (k + 1) c2) ((X.take k).map kpr ++ [kpr x])) (hrow : encP.Own 40 W' b0 (rwv x) (ofP L x.1)) :
    Kst wb B b0 L X (k + 1) W' ∧ Touch (Oth 80 (SK B X) wb.heap.size W) W W' ∧ KeepsOthers W W' := by
  have hxm : x ∈ X := List.mem_of_getElem? hx
  have et : (X.take (k + 1)).map kpr = (X.take k).map kpr ++ [kpr x] := by
    rw [List.take_add_one, hx, List.map_append]; rfl
  have hlow : ∀ g, g < wb.heap.size → U g → SK B X g := fun g hg hu => by
    rcases hU g hu with e | e | e
    · exact .inl e
    · exact .inr ⟨x, hxm, e⟩
    · have := (Rc.own_block hown e).1; omega
  refine ⟨⟨⟨a2, c2, h7, by rw [et]; exact ow⟩, fun y hy => ?_, h.tr.trans ht hlow⟩, ht.mono fun g hg hu => ?_, keeps_touch ht fun g hu => ?_⟩
  · by_cases e : y = x
    · rw [e]; exact hrow
    · refine Rc.Own.touch (h.row y hy) ht fun g hg hu => ?_
      obtain ⟨-, cur, hc⟩ := Rc.own_block (h.row y hy) hg
      rcases hU g hu with e2 | e2 | e2
      · rw [e2] at hc; exact tag_ne hc hcell (by decide)
      · exact hsep x hxm y hy (fun e3 => e (up_inj hup hy hxm e3.symm)) g e2 hg
      · obtain ⟨-, cur2, hc2⟩ := Rc.own_block hown e2
        exact tag_ne hc hc2 (by decide)
  · rcases hU g hu with e | e | e
    · exact .inl (.inl e)
    · exact .inl (.inr ⟨x, hxm, e⟩)
    · obtain ⟨h1, cur, hc⟩ := Rc.own_block hown e
      exact .inr ⟨h1, cur, _, _, hc, by decide⟩
  · rcases hU g hu with e | e | e
    · rw [e]; exact ⟨_, _, _, hcell⟩
    · obtain ⟨-, cur, hc⟩ := Rc.own_block (h.row x hxm) e
      exact ⟨_, _, _, hc⟩
    · obtain ⟨-, cur, hc⟩ := Rc.own_block hown e
      exact ⟨_, _, _, hc⟩

theorem map_getD {X : List Rw} {j : Nat} (hj : j < X.length) : (X.map kpr).getD j kp0 = kpr X[j] := by
  rw [List.getD_eq_getElem?_getD, List.getElem?_map, List.getElem?_eq_getElem hj]; rfl

/-- What Keys answers in the end. -/
theorem Kst.told {wb W w : World} {B b0 : Nat} {L : List Pn} {X : List Rw} {a : Option Addr} {c : Nat} (hup : Up cmpS X) (hkey : ∀ k, (∃ x ∈ X, x.1 = k) ↔ ∃ p ∈ L, p.k = k)
    (hsep : ∀ x ∈ X, ∀ y ∈ X, x.1 ≠ y.1 → ∀ g, (rwv x).ownBlock = some g → (rwv y).ownBlock ≠ some g)
    (hrow : ∀ x ∈ X, encP.Own 40 W b0 (rwv x) (ofP L x.1)) (hown : encG.Own 32 W wb.heap.size (.slice a X.length c) ((X.take X.length).map kpr)) (tr : Touch (SK B X) wb W)
    (hb : w.heap.size ≤ B) (hb0 : w.heap.size ≤ b0) (hw : Calm w wb) : RetK w (.returned (.slice a X.length c)) W L := by
  rw [List.take_length] at hown
  have ek : X.map (·.1) = keysP L := by
    refine keys_one ?_ fun k => ?_
    · show List.Pairwise _ (X.map (·.1))
      rw [List.pairwise_map]
      unfold Up at hup
      exact hup.imp fun {a b} h => kLt_lt.2 h
    · rw [← hkey k, List.mem_map]
  have el : (X.map kpr).length = X.length := List.length_map ..
  refine ⟨a, c, X.map kpr, by rw [el], by rw [el, ← ek, List.length_map], by rw [el]; exact Rc.Own.base hown hw.size, fun j hj => ?_, fun i j hij hj g h1 h2 => ?_, hw.trans tr fun g hg s => ?_⟩
  · rw [el] at hj
    rw [map_getD hj, ← ek]
    have e2 : (X.map (·.1)).getD j ⟨#[]⟩ = X[j].1 := by rw [List.getD_eq_getElem?_getD, List.getElem?_map, List.getElem?_eq_getElem hj]; rfl
    rw [e2]
    have h1 := hrow X[j] (List.getElem_mem hj)
    refine ⟨rfl, (Rc.Own.mem h1).1, ?_⟩
    have e3 := (Rc.Own.mem h1).1
    exact Rc.Own.base h1 hb0
  · rw [el] at hj
    rw [map_getD (by omega)] at h1
    rw [map_getD hj] at h2
    refine hsep X[i] (List.getElem_mem (by omega)) X[j] (List.getElem_mem hj) (fun e => ?_) g h1 h2
    unfold Up at hup
    rw [List.pairwise_iff_getElem] at hup
    have := hup i j (by omega) hj hij
    rw [e, cmpS_me] at this
    omega
  · rcases s with e | ⟨x, hx, e⟩
    · omega
    · have := (Rc.own_block (hrow x hx) e).1; omega

end Go.Proofs.YtamfcmmhmfhhkaaGreatDoor

namespace Go.Proofs.YtamfcmmhmfhhkaaGreatDoor
open Go.RowKit LM
attribute [local go_sem] Oper.semAt_some

/-- A region that draws its order, whose last operation may change memory, inside a round. -/
theorem region_z_round {lr n id : Nat} {P : Program} {Q : Exit → Act → World → Prop} {a : Act} {w : World} {ops : Array Oper} (z : Nat) (S : World → Prop) (hm : P.follows .mixedOrders = true) (hd : (ops.all fun o => match o.op with | .defer _ => false | _ => true) = true)
    (h : wpAnyZ P .any ops (plainly fun a w' => Q .normal a w') S z ops.size (Array.replicate ops.size false) a { w with drawn := w.drawn + 1 }) : (Code.region id ops true).wpIn (Fence.wide.inRound lr) n P Q a w := by
  refine wpIn_region_any hm (any_in_round (G := fun a w' => Q .normal a w') (fun o ho c e => ?_) (fun _ _ h => h) _ _ _ _ (wpAny_of_z _ _ _ _ h))
  have := Array.all_eq_true'.1 hd o ho
  rw [e] at this; cases this

set_option maxRecDepth 100000 in
set_option maxHeartbeats 4000000 in
theorem pkeys_any (L : List Pn) (ao : Option Addr) (ac : Nat) (w : World) (ha : encP.Sl w ao ac L) (hl : L.length ≤ 1000) (hk : KeyB L) : Calls Tryz.prog 7 #[.slice ao L.length ac] w fun e w' => RetK w e w' L := by
  have CB : Hid (∀ W, Calm w W → Calls Tryz.prog 22 #[.slice ao L.length ac] W fun e w' => ∃ m X, e = .returned (.pointer (some ⟨m, 0, none⟩)) ∧ Bk W.heap.size m L X w' ∧ W.heap.size ≤ m ∧ Calm W w') := hide fun W hW => byKeys_any L ao ac W (Rc.Mem.calm ha.mem hW) (by omega)
  have HL := hide hl
  have HK := hide hk
  obtain ⟨R, hR⟩ : ∃ R : Ending → World → Prop, R = fun e w' => RetK w e w' L := ⟨_, rfl⟩
  show Calls _ _ _ _ fun e w' => RetK w e w' L
  rw [← hR]
  have HR := hide hR
  clear ha hl hk hR
  refine (callsIn_wide (n := 3)).1 (callsIn_of_wp_marks Tryz.func7 rfl trivial ?_ rfl)
  simp only [Tryz.ntmps7, List.size_toArray, List.length_cons, List.length_nil, Nat.reduceAdd, Nat.reduceSub, Array.replicate_succ, Array.replicate_zero, List.push_toArray, List.append_toArray, List.nil_append, List.cons_append]
  gi_wp2
  have A3 := hide (al_new w (.cells #[.slice none 0 0] 25))
  have T0 := hide ((Touch.refl (fun _ => False) w).alloc (.cells #[.slice none 0 0] 25))
  have Z0 := hide (al_size w (.cells #[.slice none 0 0] 25))
  refine ⟨trivial, (callsIn_wide.2 (CB.out _ T0.out)).mono ?_⟩
  rintro e w1 ⟨m, X, rfl, K1, -, T1⟩
  rw [Z0.out] at K1
  have A31 := hide (T1.at A3.out)
  have TT1 := hide (T0.out.tr T1)
  have HK1 := hide K1
  clear CB A3 T0 T1 K1 Z0
  obtain ⟨B3, hB3⟩ : ∃ B3, B3 = w.heap.size := ⟨_, rfl⟩
  rw [← hB3] at A31 HK1 ⊢
  have HB3 := hide hB3
  clear hB3
  gi_wp2
  refine ⟨trivial, (callsIn_wide.2 (LM.all_any (some ⟨m, 0, none⟩) w1)).mono ?_⟩
  rintro e w3 ⟨fv, rfl, hW, T3⟩
  obtain ⟨lbv, rfl⟩ := hW.shape
  have A33 := hide (T3.at A31.out)
  have TT3 := hide (TT1.out.tr T3)
  have HB := hide (HK1.out.calm T3)
  have HW := hide hW
  clear hW T3 A31 TT1 HK1
  gi_wp2
  have eL : Kd.list cmpS .all X = X := by
    show List.filter _ X = X
    rw [List.filter_eq_self]
    intro a _
    rfl
  have SQ := Wl.seqO cmpOf m .all lbv X (fun key => HB.out.up.dec cmpS_ord key) ⟨by have := HB.out.num; have := HL.out; omega⟩
  rw [eL] at SQ
  have HSQ := hide SQ
  have HLO : Hid (w.heap.size ≤ B3 ∧ B3 < w3.heap.size) := hide ⟨by rw [HB3.out]; exact Nat.le_refl _, lt_of_heap A33.out⟩
  have HRL : Hid (∀ x ∈ X, ∀ g, (rwv x).ownBlock = some g → g < w3.heap.size) := hide fun x hx g hg => by
    obtain ⟨-, cur, hc⟩ := Rc.own_block (HB.out.row x hx) hg
    exact lt_of_heap hc
  have HXL : Hid (X.length ≤ 1000) := hide (Nat.le_trans HB.out.num HL.out)
  have HKX : Hid (∀ x ∈ X, x.1.size ≤ 140737488351232) := hide fun x hx => by
    obtain ⟨p, hp, e⟩ := (HB.out.key x.1).1 ⟨x, hx, rfl⟩
    rw [← e]; exact HK.out p hp
  have HST : Hid (Kst w3 B3 (B3 + 1) L X 0 w3) := hide ⟨⟨none, 0, A33.out, Rc.Own.nil _ _ _⟩, HB.out.row, Touch.refl _ _⟩
  clear SQ eL
  generalize hAn : L.length = an at *
  refine wpIn_rangeO (gf := 58) (lb := lbv) rfl (enters_of Tryz.func58 (by kernel_rfl) rfl) HSQ.out (fun _ => rfl)
    (SK B3 X) ?hs (fun W h => ⟨HW.out.calm h, HB.out.mt.calm h, trivial⟩)
    (fun k W => Kst w3 B3 (B3 + 1) L X k W)
    (fun _ _ _ => False)
    (fun _ x a' _ => a' = { tmps := #[.slice ao an ac, undef, .slice none 0 0, .pointer (some ⟨B3, 0, none⟩), .string x.1, .slice x.2.1 x.2.2.1 x.2.2.2, .slice ao an ac, .pointer (some ⟨m, 0, none⟩), .func (.func 58) #[] lbv, .string x.1, .slice x.2.1 x.2.2.1 x.2.2.2, undef, undef, undef, undef, undef, undef, undef, undef, undef], defers := [] })
    (fun k W W' h ht => h.turn HLO.out.2 HRL.out ht fun g hg => ⟨hg.1, fun cs fr he => by obtain ⟨-, cs2, fr2, h2⟩ := hg; exact tag_ne he h2 (by decide)⟩)
    (fun k W l o o' h hl hw ho => h.turn HLO.out.2 HRL.out (touch_put W l o') fun g hg => by subst hg; exact ⟨hl, fun cs fr he => by rw [hw] at he; injection he with he; subst he; cases ho⟩)
    (fun c k W l o o' h => h.elim)
    (fun k x a' W l o o' h hl hw ho => h)
    HST.out ?assign ?body ?done ?stop
  case hs =>
    rintro g (rfl | ⟨x, hx, hg⟩)
    · exact ⟨HLO.out.2, fun cs fr he => tag_ne he A33.out (by decide)⟩
    · refine ⟨HRL.out x hx g hg, fun cs fr he => ?_⟩
      obtain ⟨-, cur, hc⟩ := Rc.own_block (HB.out.row x hx) hg
      exact tag_ne he hc (by decide)
  case assign =>
    rintro l k x W K hi hkm hx hK
    have HK := hide hK
    have HI := hide hi
    clear hK hi HW HSQ HST HR
    simp only [encs]
    gi_wp2
    exact HK.out _ _ (KeepsOthers.refl _) (Touch.refl _ _) HI.out rfl
  case body =>
    rintro l k x a' W hI hkm hx rfl
    have hxm : x ∈ X := List.mem_of_getElem? hx
    have hI2 := hI
    obtain ⟨⟨a, c, h1, h2⟩, hrow, htr⟩ := hI2
    have hr0 := hrow x hxm
    have hkx := HKX.out x hxm
    obtain ⟨xk, xo, xn, xc⟩ := x
    dsimp only [rwv] at hr0 hkx
    have ex : xn = (ofP L xk).length := (Rc.Own.mem hr0).1
    have hlen : (ofP L xk).length ≤ 1000 := Nat.le_trans (ofP_le L xk) (by rw [hAn]; exact HL.out)
    have CC : Hid (∀ W, Calls Tryz.prog 24 #[.string xk] W fun e w' => e = .returned (.string xk) ∧ Calm W w') := hide fun W => clone_any xk W hkx
    have CA : Hid (∀ W2, encP.Own 40 W2 (B3 + 1) (.slice xo xn xc) (ofP L xk) → Calls Tryz.prog 25 #[.slice xo xn xc] W2 fun e w' => e = .returned (.slice xo xn xc) ∧ encP.Own 40 w' (B3 + 1) (.slice xo xn xc) (ofP L xk) ∧ Touch (fun g => (Value.slice xo xn xc).ownBlock = some g) W2 w') := hide fun W2 h => by
      have := apart_any (ofP L xk) xo xc (B3 + 1) W2 (by rw [← ex]; exact h) (keyB_of HK.out xk) (by omega)
      rw [← ex] at this
      exact this
    have eA : ((X.take k).map kpr).length = k := by rw [List.length_map, List.length_take]; omega
    have n1 : Hid (∀ g, (Value.slice xo xn xc).ownBlock = some g ∨ (Value.slice a k c).ownBlock = some g → g ≠ B3) := hide fun g hg e => by
      rw [e] at hg
      rcases hg with hg | hg
      · obtain ⟨-, cur, hc⟩ := Rc.own_block hr0 hg
        exact tag_ne hc h1 (by decide)
      · obtain ⟨-, cur, hc⟩ := Rc.own_block h2 hg
        exact tag_ne hc h1 (by decide)
    have SEE : Hid (∀ W2, Touch (fun g => (Value.slice xo xn xc).ownBlock = some g ∨ (Value.slice a k c).ownBlock = some g) W W2 → W2.heap[B3]? = some (.cells #[.slice a k c] 25 (0, 0))) := hide fun W2 h => h.heap h1 fun hg => n1.out _ hg rfl
    have n2 : Hid (∀ g, (Value.slice xo xn xc).ownBlock = some g → ¬ (Value.slice a k c).ownBlock = some g) := hide fun g hg hg2 => by
      obtain ⟨-, cur, hc⟩ := Rc.own_block hr0 hg
      obtain ⟨-, cur2, hc2⟩ := Rc.own_block h2 hg2
      exact tag_ne hc hc2 (by decide)
    have HI := hide hI
    have H1 := hide h1
    have H2 := hide h2
    have HR0 := hide hr0
    have HX := hide hx
    have HTR := hide htr.size
    have hkm2 : k ≤ 1000 := by have := HXL.out; omega
    clear hI h1 h2 hr0 hx hrow htr hxm hkx ex hlen HW HSQ HST HR
    gi_wp2
    refine region_z_round 8 (Touch (fun g => (Value.slice xo xn xc).ownBlock = some g ∨ (Value.slice a k c).ownBlock = some g) W) (by kernel_rfl) (by kernel_rfl) ?_
    have hT0 : Touch (fun g => (Value.slice xo xn xc).ownBlock = some g ∨ (Value.slice a k c).ownBlock = some g) W { W with drawn := W.drawn + 1 } := (Touch.refl _ W).drew
    have hTc : Calm W { W with drawn := W.drawn + 1 } := (Touch.refl _ W).drew
    refine wpAnyZ_yield 0 11 (.slice a k c) [7, 8] rfl rfl (by kernel_rfl) (by kernel_rfl) (by kernel_rfl) (by kernel_rfl) (by kernel_rfl) (fun _ _ _ h => h) (by kernel_rfl) (fun W hW => by obtain ⟨c3, -⟩ := one_cell (SEE.out W hW); go_simp) (by assumption) rfl rfl ?_
    simp only [Act.put, List.setIfInBounds_toArray, List.set_cons_zero, List.set_cons_succ]
    refine wpAnyZ_yield 1 12 (.string xk) [2, 5, 6, 7, 8] rfl rfl (by kernel_rfl) (by kernel_rfl) (by kernel_rfl) (by kernel_rfl) (by kernel_rfl) (fun _ _ _ h => h) (by kernel_rfl) (fun W hW => by kernel_rfl) (by assumption) rfl rfl ?_
    simp only [Act.put, List.setIfInBounds_toArray, List.set_cons_zero, List.set_cons_succ]
    refine wpAnyZ_yield 3 14 (.slice xo xn xc) [4, 5, 6, 7, 8] rfl rfl (by kernel_rfl) (by kernel_rfl) (by kernel_rfl) (by kernel_rfl) (by kernel_rfl) (fun _ _ _ h => h) (by kernel_rfl) (fun W hW => by kernel_rfl) (by assumption) rfl rfl ?_
    simp only [Act.put, List.setIfInBounds_toArray, List.set_cons_zero, List.set_cons_succ]
    refine wpAnyZ_enter 2 13 24 #[.string xk] rfl rfl (by decide) (by kernel_rfl) (by kernel_rfl) (by kernel_rfl) ?_
    refine (CC.out _).mono ?_
    rintro r w4 ⟨rfl, T4⟩
    have TC4 := hTc.tr T4
    have hT4 := hT0.trans T4 fun _ _ h => h.elim
    refine ⟨_, rfl, hT4, ?_⟩
    simp only [Act.put, List.setIfInBounds_toArray, List.set_cons_zero, List.set_cons_succ]
    refine wpAnyZ_enter 4 15 25 #[.slice xo xn xc] rfl rfl (by decide) (by kernel_rfl) (by kernel_rfl) (by kernel_rfl) ?_
    refine (CA.out _ (Rc.Own.calm HR0.out TC4)).mono ?_
    rintro r w5 ⟨rfl, O5, T5⟩
    have hT5 := hT4.trans T5 fun _ _ h => .inl h
    refine ⟨_, rfl, hT5, ?_⟩
    simp only [Act.put, List.setIfInBounds_toArray, List.set_cons_zero, List.set_cons_succ]
    refine wpAnyZ_yield 5 16 (.agg #[.string xk, .slice xo xn xc]) [6, 7, 8] rfl rfl (by kernel_rfl) (by kernel_rfl) (by kernel_rfl) (by kernel_rfl) (by kernel_rfl) (fun _ _ _ h => h) (by kernel_rfl) (fun W hW => by go_simp) (by assumption) rfl rfl ?_
    simp only [Act.put, List.setIfInBounds_toArray, List.set_cons_zero, List.set_cons_succ]
    have E5 := Rc.Own.touch (Rc.Own.calm H2.out TC4) T5 fun g hg h => n2.out g h hg
    obtain ⟨a2, p2, w6, hr, ow, t6⟩ := kp_app1 (A := (X.take k).map kpr) ⟨xk, xo, xn, xc⟩ (by rw [eA]; exact E5) (by have := HTR.out; have := hT5.size; omega) (by rw [eA]; omega)
    rw [eA] at hr t6
    have hT6 := hT5.trans t6 fun _ _ h => .inr h
    refine wpAnyZ_value 6 17 (.slice (some ⟨w5.heap.size, 0, none⟩) 1 1) (w' := w5.alloc (.cells (kpc ⟨xk, xo, xn, xc⟩) 32)) rfl rfl (by decide) (by kernel_rfl) (by kernel_rfl) (by go_simp) (hT5.alloc _) ?_
    simp only [Act.put, List.setIfInBounds_toArray, List.set_cons_zero, List.set_cons_succ]
    refine wpAnyZ_value 7 18 (.slice a2 (k + 1) p2) (w' := w6) rfl rfl (by decide) (by kernel_rfl) (by kernel_rfl) (exec_apk (.tmp 11) (.tmp 17) 25 25 rfl _ _ _ rfl rfl hr) hT6 ?_
    simp only [Act.put, List.setIfInBounds_toArray, List.set_cons_zero, List.set_cons_succ]
    refine wpAnyZ_end rfl (by kernel_rfl) (by kernel_rfl) (by kernel_rfl) ?_
    have O6 := Rc.Own.touch O5 t6 fun g hg h => n2.out g hg h
    have el : ((X.take k).map kpr ++ [kpr (xk, xo, xn, xc)]).length = k + 1 := by rw [List.length_append, eA]; rfl
    have b6 := SEE.out w6 hT6
    obtain ⟨c3, f3⟩ := one_cell b6
    have tS : Touch (fun g => g = B3) w6 (w6.setCell ⟨B3, 0, none⟩ (.slice a2 (k + 1) p2)) := (Touch.refl (fun g => g = B3) w6).setCell (p := ⟨B3, 0, none⟩) (fun _ => rfl) _
    have tU : Touch (fun g => g = B3 ∨ (Value.slice xo xn xc).ownBlock = some g ∨ (Value.slice a k c).ownBlock = some g) W (w6.setCell ⟨B3, 0, none⟩ (.slice a2 (k + 1) p2)) := (hT6.mono fun _ _ h => .inr h).trans tS fun _ _ h => .inl h
    obtain ⟨q1, q2, q3⟩ := Kst.push HI.out HX.out HB.out.up HB.out.sep H1.out H2.out (a2 := a2) (c2 := p2) (fun g h => h) tU (set_one _ b6) (by
      have ow' := ow
      rw [el] at ow'
      exact Rc.Own.touch ow' tS fun g hg e => by
        obtain ⟨-, cur, hc⟩ := Rc.own_block ow' hg
        rw [e] at hc
        exact tag_ne hc b6 (by decide)) (Rc.Own.touch O6 tS fun g hg e => by
        obtain ⟨-, cur, hc⟩ := Rc.own_block O6 hg
        rw [e] at hc
        exact tag_ne hc b6 (by decide))
    have Q1 := hide q1
    have Q2 := hide q2
    have Q3 := hide q3
    clear q1 q2 q3 tU tS b6 O6 el hr ow t6 hT6 E5 T5 O5 hT5 hT4 TC4 T4 hTc hT0
    unfold Oper.wp
    go_simp
    exact ⟨Q3.out, Q2.out, Q1.out⟩
  case done =>
    rintro D W hD hI hd
    obtain ⟨⟨a, c, h1, h2⟩, hrow, htr⟩ := hI
    have tP := touch_put W D (.deferred none)
    have fin : Hid (R (.returned (.slice a X.length c)) (W.putObj D (.deferred none))) := hide (by
      rw [HR.out]
      refine Kst.told HB.out.up HB.out.key HB.out.sep (fun x hx => Rc.Own.touch (hrow x hx) tP fun g hg e => ?_) (Rc.Own.touch h2 tP fun g hg e => ?_) (htr.trans tP fun g hg e => by omega) HLO.out.1 (by have := HLO.out.1; omega) TT3.out
      · obtain ⟨-, cur, hc⟩ := Rc.own_block (hrow x hx) hg
        rw [e, hd] at hc; cases hc
      · obtain ⟨-, cur, hc⟩ := Rc.own_block h2 hg
        rw [e, hd] at hc; cases hc)
    obtain ⟨c3, -⟩ := one_cell h1
    have HD2 := hide hd
    clear h1 h2 hrow htr hd HW HSQ HST HR HXL HKX HRL tP
    gi_wp2
    refine ⟨by simp, .inl ⟨_, _, rfl, run_takeDeferred HD2.out, ?_⟩⟩
    exact ⟨.slice a X.length c, by simp [results, Tryz.results7, go_sem], fin.out⟩
  case stop => rintro D c k W hD hkm h; exact h.elim

end Go.Proofs.YtamfcmmhmfhhkaaGreatDoor

namespace Go.Proofs.YtamfcmmhmfhhkaaGreatDoor
open Go.RowKit

theorem panes_k : Ppk where
  line p w hn hy := line_any p w hn hy
  parse s w hs hy := (parse_any s hs w hy).mono fun _ _ ⟨⟨o, ho, he⟩, hc⟩ => ⟨o, ho, he, hc⟩
  alike A B ao bo ac bc w ha hb hl hm := alike_any A B ao bo ac bc w ha hb hl hm
  begins A B ao bo ac bc w ha hb hl hm := begins_any A B ao bo ac bc w ha hb hl hm
theorem panes_l : Ppl where
  toPpk := panes_k
  keys L ao ac w hs hl hk := pkeys_any L ao ac w hs hl hk
  of L k ao ac w hs hl hk := pof_any L k ao ac w hs hl hk
  last L ao ac w hs hl hk := plast_any L ao ac w hs hl hk

end Go.Proofs.YtamfcmmhmfhhkaaGreatDoor
