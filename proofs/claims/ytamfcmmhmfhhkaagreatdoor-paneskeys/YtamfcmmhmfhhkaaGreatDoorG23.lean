/- The program's walks, as iterators. The program's All, From, Back, Copy, New, Of: the calls. Orders: lists that rise by one, with a key put or taken. No memory. cmp.Compare of texts. -/
import Derived.Test.YtamfcmmhmfhhkaaGreatDoorG22
import Derived.Test.YtamfcmmhmfhhkaaGreatDoorG0
import Derived.Test.YtamfcmmhmfhhkaaGreatDoorG21
import Derived.Test.YtamfcmmhmfhhkaaGreatDoorG20
namespace Go.Proofs.YtamfcmmhmfhhkaaGreatDoor.LM
open Go.RowKit

/-- A walk, with what it holds. -/
def Wl (w : World) (fv : Value) (mp : Option Addr) (kd : Kd) : Prop :=
  ∃ B1 B2 B3 lb2, fv = .func (.func 58) #[] #[.pointer (some ⟨B1, 0, none⟩), .pointer (some ⟨B2, 0, none⟩), .pointer (some ⟨B3, 0, none⟩)] ∧
    w.heap[B1]? = some (.cells #[.pointer mp] 49 (0, 0)) ∧ w.heap[B2]? = some (.cells #[.int .i64 (kd.sd : Nat)] 3 (0, 0)) ∧
    w.heap[B3]? = some (.cells #[.func (.func kd.fn) #[] lb2] 72 (0, 0)) ∧ kd.held w mp lb2

theorem Wl.calm {w w' : World} {fv : Value} {mp : Option Addr} {kd : Kd} (h : Wl w fv mp kd) (ht : Calm w w') : Wl w' fv mp kd := by
  obtain ⟨B1, B2, B3, lb2, e, h1, h2, h3, h4⟩ := h
  exact ⟨B1, B2, B3, lb2, e, ht.at h1, ht.at h2, ht.at h3, Kd.held_calm h4 ht⟩

theorem Mon.of_dec {c : ByteArray → ByteArray → Int} {X : List (ByteArray × (Option Addr × Nat × Nat))} (_ : ∀ key, Dec (c key) X) (kd : Kd) : Mon (kd.g c) (dir kd.sd X) := by
  cases kd with
  | all => exact List.pairwise_of_forall fun _ _ _ => rfl

theorem walk_low {c : ByteArray → ByteArray → Int} {X : List (ByteArray × (Option Addr × Nat × Nat))} (kd : Kd) : (kd.list c X).length ≤ X.length := by
  unfold Kd.list
  refine Nat.le_trans (List.length_filter_le _ _) ?_
  unfold dir
  split <;> simp

/-- What a walk hands over. -/
def encs (x : ByteArray × (Option Addr × Nat × Nat)) : Array Value := #[.string x.1, .slice x.2.1 x.2.2.1 x.2.2.2]

set_option maxRecDepth 100000 in
set_option maxHeartbeats 2000000 in
theorem walk0_go {f : Nat} {lb : Array Value} {c : ByteArray → ByteArray → Int} {Y : World → Prop} (hC : Cmp f lb c Y) (m : Nat) (kd : Kd) (hkd : kd.sd = 0) (B1 B2 B3 : Nat) (lb2 : Array Value) (X : List (ByteArray × (Option Addr × Nat × Nat))) (hX : ∀ key, Dec (c key) X) (few : Few X.length)
    (n l : Nat) (S : Nat → Prop) (J Jx : Nat → World → Prop) (W : World) (h1 : W.heap[B1]? = some (.cells #[.pointer (some ⟨m, 0, none⟩)] 49 (0, 0))) (h2 : W.heap[B2]? = some (.cells #[.int .i64 0] 3 (0, 0)))
    (h3 : W.heap[B3]? = some (.cells #[.func (.func kd.fn) #[] lb2] 72 (0, 0))) (h4 : kd.held W (some ⟨m, 0, none⟩) lb2) (hM : Mt W m f lb X) (hYW : Y W)
    (hS : ∀ k, S k → k < W.heap.size ∧ ∀ cs fr, W.heap[k]? ≠ some (.cells cs 85 fr)) (hJ : ∀ k W1 W2, J k W1 → Sly 80 W.heap.size W1 W2 → J k W2)
    (hY : ∀ k x W1, J k W1 → k < (kd.list c X).length → (kd.list c X)[k]? = some x → YieldAt Fence.wide (n - 1) Tryz.prog l (encs x) W1 fun e W' => Touch S W1 W' ∧ ((e = .returned (.bool true) ∧ J (k + 1) W') ∨ (e = .returned (.bool false) ∧ Jx (k + 1) W')))
    (h0 : J 0 W) : Calls Tryz.prog 58 #[.func (.yield l) #[] #[], .pointer (some ⟨B1, 0, none⟩), .pointer (some ⟨B2, 0, none⟩), .pointer (some ⟨B3, 0, none⟩)] W
      fun e W' => (∃ v, e = .returned v) ∧ (J (kd.list c X).length W' ∨ ∃ k, k ≤ (kd.list c X).length ∧ Jx k W') := by
  obtain ⟨ro, hm, htl⟩ := hM
  have TH := hide (there_any W m f lb ro hm)
  have mon := Mon.of_dec hX kd
  have hlist : kd.list c X = (dir 0 X).filter fun a => kd.g c a.1 := by unfold Kd.list; rw [hkd]
  rw [hkd] at mon
  have WA := hide (fun W' (h : Calm W W') => way0_any (Kd.wi hC m kd lb2) W' ro X (htl.calm h) ⟨Kd.held_calm h4 h, hC.calm _ _ hYW h, ro, h.at hm⟩ mon few)
  have TE := hide (fun (W0 W' : World) (ao : Option Addr) (nn cap : Nat) (vs : List Value) (h : Calm W W0) (own : W'.ownsRow W0.heap.size 80 1 (.slice ao nn cap) nn vs) (stk : Stk W0 0 vs (kd.list c X)) (hT : Calm W0 W') =>
    callsIn_wide.1 (tell0_in n l S J Jx W0 (fun k hk => by
        obtain ⟨g1, g2⟩ := hS k hk
        refine ⟨Nat.lt_of_lt_of_le g1 h.size, fun cs fr he => g2 cs fr ?_⟩
        rw [← h.block k g1 (fun h => h)]; exact he) (fun k W1 W2 hj hs => hJ k W1 W2 hj (hs.weak h.size)) (kd.list c X)
      (fun k W1 hj hk => hY k _ W1 hj hk (List.getElem?_eq_getElem hk)) ⟨Nat.le_trans (walk_low kd) few.le⟩ ao nn cap vs W' own stk hT (hJ 0 _ _ h0 (.of_calm (h.tr hT)))))
  rw [hlist] at TE ⊢
  have H1 := hide h1
  have H2 := hide h2
  have H3 := hide h3
  have HM := hide hm
  have c1 := (one_cell h1).1
  generalize (dir 0 X).filter (fun a => kd.g c a.1) = Yl at *
  generalize kd.fn = kf at *
  clear h1 h2 h3 h4 hm htl hX few hS hJ hY h0 mon hYW hC hlist hkd
  go_enter Tryz.func58, Tryz.ntmps58
  go_wp2_with fail
  refine TH.out.mono ?_
  rintro e w' ⟨rfl, hq⟩
  obtain rfl := hq.symm
  clear hq TH
  clear c1
  go_wp2_with fail
  refine wp_region_z 9 (Calm W) (by kernel_rfl) ?_
  have hT0 : Calm W { W with drawn := W.drawn + 1 } := (Touch.refl (fun _ => False) W).drew
  refine wpAnyZ_yield 0 7 (.pointer (some ⟨m, 0, none⟩)) [1, 2, 3, 6, 9] rfl rfl (by kernel_rfl) (by kernel_rfl) (by kernel_rfl) (by kernel_rfl) (by kernel_rfl) (fun _ _ _ h => h) (by kernel_rfl) (fun W hW => by have c0 := (one_cell (hW.at H1.out)).1; go_simp) (by assumption) rfl rfl ?_
  simp only [Act.put, List.setIfInBounds_toArray, List.set_cons_zero, List.set_cons_succ]
  refine wpAnyZ_yield 1 8 (.pointer (some ⟨m, 0, none⟩)) [2, 3, 6, 9] rfl rfl (by kernel_rfl) (by kernel_rfl) (by kernel_rfl) (by kernel_rfl) (by kernel_rfl) (fun _ _ _ h => h) (by kernel_rfl) (fun W hW => by kernel_rfl) (by assumption) rfl rfl ?_
  simp only [Act.put, List.setIfInBounds_toArray, List.set_cons_zero, List.set_cons_succ]
  refine wpAnyZ_yield 2 9 (.pointer (some ⟨m, 1, none⟩)) [3, 6, 9] rfl rfl (by kernel_rfl) (by kernel_rfl) (by kernel_rfl) (by kernel_rfl) (by kernel_rfl) (fun _ _ _ h => h) (by kernel_rfl) (fun W hW => by go_simp) (by assumption) rfl rfl ?_
  simp only [Act.put, List.setIfInBounds_toArray, List.set_cons_zero, List.set_cons_succ]
  refine wpAnyZ_yield 3 10 (.pointer ro) [6, 9] rfl rfl (by kernel_rfl) (by kernel_rfl) (by kernel_rfl) (by kernel_rfl) (by kernel_rfl) (fun _ _ _ h => h) (by kernel_rfl) (fun W hW => by obtain ⟨c0, c1⟩ := cells2 (hW.at HM.out); go_simp) (by assumption) rfl rfl ?_
  simp only [Act.put, List.setIfInBounds_toArray, List.set_cons_zero, List.set_cons_succ]
  refine wpAnyZ_yield 4 11 (.int .i64 0) [6, 9] rfl rfl (by kernel_rfl) (by kernel_rfl) (by kernel_rfl) (by kernel_rfl) (by kernel_rfl) (fun _ _ _ h => h) (by kernel_rfl) (fun W hW => by have c0 := (one_cell (hW.at H2.out)).1; go_simp) (by assumption) rfl rfl ?_
  simp only [Act.put, List.setIfInBounds_toArray, List.set_cons_zero, List.set_cons_succ]
  refine wpAnyZ_yield 5 12 (.func (.func kf) #[] lb2) [6, 9] rfl rfl (by kernel_rfl) (by kernel_rfl) (by kernel_rfl) (by kernel_rfl) (by kernel_rfl) (fun _ _ _ h => h) (by kernel_rfl) (fun W hW => by have c0 := (one_cell (hW.at H3.out)).1; go_simp) (by assumption) rfl rfl ?_
  simp only [Act.put, List.setIfInBounds_toArray, List.set_cons_zero, List.set_cons_succ]
  refine wpAnyZ_yield 7 14 (.int .i64 0) [9] rfl rfl (by kernel_rfl) (by kernel_rfl) (by kernel_rfl) (by kernel_rfl) (by kernel_rfl) (fun _ _ _ h => h) (by kernel_rfl) (fun W hW => by have c0 := (one_cell (hW.at H2.out)).1; go_simp) (by assumption) rfl rfl ?_
  simp only [Act.put, List.setIfInBounds_toArray, List.set_cons_zero, List.set_cons_succ]
  refine wpAnyZ_yield 8 15 (.func (.yield l) #[] #[]) [9] rfl rfl (by kernel_rfl) (by kernel_rfl) (by kernel_rfl) (by kernel_rfl) (by kernel_rfl) (fun _ _ _ h => h) (by kernel_rfl) (fun W hW => by kernel_rfl) (by assumption) rfl rfl ?_
  simp only [Act.put, List.setIfInBounds_toArray, List.set_cons_zero, List.set_cons_succ]
  refine wpAnyZ_enter 6 13 60 #[.pointer ro, .int .i64 0, .func (.func kf) #[] lb2] rfl rfl (by decide) (by kernel_rfl) (by kernel_rfl) (by kernel_rfl) ?_
  refine (WA.out _ hT0).mono ?_
  rintro e w2 ⟨ao, nn, cap, vs, rfl, own2, stk2, t2⟩
  refine ⟨_, rfl, hT0.tr t2, ?_⟩
  simp only [Act.put, List.setIfInBounds_toArray, List.set_cons_zero, List.set_cons_succ]
  refine wpAnyZ_last 16 59 #[.slice ao nn cap, .int .i64 0, .func (.yield l) #[] #[]] rfl rfl (by kernel_rfl) (by kernel_rfl) (by kernel_rfl) (by kernel_rfl) ?_
  refine (TE.out _ w2 ao nn cap vs hT0 own2 stk2 t2).mono ?_
  rintro e w3 ⟨⟨v, rfl⟩, hp⟩
  refine ⟨v, rfl, ?_⟩
  have HP := hide hp
  clear hp own2 stk2 t2 hT0
  simp only [Act.put, List.setIfInBounds_toArray, List.set_cons_zero, List.set_cons_succ]
  go_wp2_with fail
  go_end0
  exact ⟨⟨_, rfl⟩, HP.out⟩

set_option maxRecDepth 100000 in
set_option maxHeartbeats 2000000 in
theorem walk1_go {f : Nat} {lb : Array Value} {c : ByteArray → ByteArray → Int} {Y : World → Prop} (hC : Cmp f lb c Y) (m : Nat) (kd : Kd) (hkd : kd.sd = 1) (B1 B2 B3 : Nat) (lb2 : Array Value) (X : List (ByteArray × (Option Addr × Nat × Nat))) (hX : ∀ key, Dec (c key) X) (few : Few X.length)
    (n l : Nat) (S : Nat → Prop) (J Jx : Nat → World → Prop) (W : World) (h1 : W.heap[B1]? = some (.cells #[.pointer (some ⟨m, 0, none⟩)] 49 (0, 0))) (h2 : W.heap[B2]? = some (.cells #[.int .i64 1] 3 (0, 0)))
    (h3 : W.heap[B3]? = some (.cells #[.func (.func kd.fn) #[] lb2] 72 (0, 0))) (h4 : kd.held W (some ⟨m, 0, none⟩) lb2) (hM : Mt W m f lb X) (hYW : Y W)
    (hS : ∀ k, S k → k < W.heap.size ∧ ∀ cs fr, W.heap[k]? ≠ some (.cells cs 85 fr)) (hJ : ∀ k W1 W2, J k W1 → Sly 80 W.heap.size W1 W2 → J k W2)
    (hY : ∀ k x W1, J k W1 → k < (kd.list c X).length → (kd.list c X)[k]? = some x → YieldAt Fence.wide (n - 1) Tryz.prog l (encs x) W1 fun e W' => Touch S W1 W' ∧ ((e = .returned (.bool true) ∧ J (k + 1) W') ∨ (e = .returned (.bool false) ∧ Jx (k + 1) W')))
    (h0 : J 0 W) : Calls Tryz.prog 58 #[.func (.yield l) #[] #[], .pointer (some ⟨B1, 0, none⟩), .pointer (some ⟨B2, 0, none⟩), .pointer (some ⟨B3, 0, none⟩)] W
      fun e W' => (∃ v, e = .returned v) ∧ (J (kd.list c X).length W' ∨ ∃ k, k ≤ (kd.list c X).length ∧ Jx k W') := by
  obtain ⟨ro, hm, htl⟩ := hM
  have TH := hide (there_any W m f lb ro hm)
  have mon := Mon.of_dec hX kd
  have hlist : kd.list c X = (dir 1 X).filter fun a => kd.g c a.1 := by unfold Kd.list; rw [hkd]
  rw [hkd] at mon
  have WA := hide (fun W' (h : Calm W W') => way1_any (Kd.wi hC m kd lb2) W' ro X (htl.calm h) ⟨Kd.held_calm h4 h, hC.calm _ _ hYW h, ro, h.at hm⟩ mon few)
  have TE := hide (fun (W0 W' : World) (ao : Option Addr) (nn cap : Nat) (vs : List Value) (h : Calm W W0) (own : W'.ownsRow W0.heap.size 80 1 (.slice ao nn cap) nn vs) (stk : Stk W0 1 vs (kd.list c X)) (hT : Calm W0 W') =>
    callsIn_wide.1 (tell1_in n l S J Jx W0 (fun k hk => by
        obtain ⟨g1, g2⟩ := hS k hk
        refine ⟨Nat.lt_of_lt_of_le g1 h.size, fun cs fr he => g2 cs fr ?_⟩
        rw [← h.block k g1 (fun h => h)]; exact he) (fun k W1 W2 hj hs => hJ k W1 W2 hj (hs.weak h.size)) (kd.list c X)
      (fun k W1 hj hk => hY k _ W1 hj hk (List.getElem?_eq_getElem hk)) ⟨Nat.le_trans (walk_low kd) few.le⟩ ao nn cap vs W' own stk hT (hJ 0 _ _ h0 (.of_calm (h.tr hT)))))
  rw [hlist] at TE ⊢
  have H1 := hide h1
  have H2 := hide h2
  have H3 := hide h3
  have HM := hide hm
  have c1 := (one_cell h1).1
  generalize (dir 1 X).filter (fun a => kd.g c a.1) = Yl at *
  generalize kd.fn = kf at *
  clear h1 h2 h3 h4 hm htl hX few hS hJ hY h0 mon hYW hC hlist hkd
  go_enter Tryz.func58, Tryz.ntmps58
  go_wp2_with fail
  refine TH.out.mono ?_
  rintro e w' ⟨rfl, hq⟩
  obtain rfl := hq.symm
  clear hq TH
  clear c1
  go_wp2_with fail
  refine wp_region_z 9 (Calm W) (by kernel_rfl) ?_
  have hT0 : Calm W { W with drawn := W.drawn + 1 } := (Touch.refl (fun _ => False) W).drew
  refine wpAnyZ_yield 0 7 (.pointer (some ⟨m, 0, none⟩)) [1, 2, 3, 6, 9] rfl rfl (by kernel_rfl) (by kernel_rfl) (by kernel_rfl) (by kernel_rfl) (by kernel_rfl) (fun _ _ _ h => h) (by kernel_rfl) (fun W hW => by have c0 := (one_cell (hW.at H1.out)).1; go_simp) (by assumption) rfl rfl ?_
  simp only [Act.put, List.setIfInBounds_toArray, List.set_cons_zero, List.set_cons_succ]
  refine wpAnyZ_yield 1 8 (.pointer (some ⟨m, 0, none⟩)) [2, 3, 6, 9] rfl rfl (by kernel_rfl) (by kernel_rfl) (by kernel_rfl) (by kernel_rfl) (by kernel_rfl) (fun _ _ _ h => h) (by kernel_rfl) (fun W hW => by kernel_rfl) (by assumption) rfl rfl ?_
  simp only [Act.put, List.setIfInBounds_toArray, List.set_cons_zero, List.set_cons_succ]
  refine wpAnyZ_yield 2 9 (.pointer (some ⟨m, 1, none⟩)) [3, 6, 9] rfl rfl (by kernel_rfl) (by kernel_rfl) (by kernel_rfl) (by kernel_rfl) (by kernel_rfl) (fun _ _ _ h => h) (by kernel_rfl) (fun W hW => by go_simp) (by assumption) rfl rfl ?_
  simp only [Act.put, List.setIfInBounds_toArray, List.set_cons_zero, List.set_cons_succ]
  refine wpAnyZ_yield 3 10 (.pointer ro) [6, 9] rfl rfl (by kernel_rfl) (by kernel_rfl) (by kernel_rfl) (by kernel_rfl) (by kernel_rfl) (fun _ _ _ h => h) (by kernel_rfl) (fun W hW => by obtain ⟨c0, c1⟩ := cells2 (hW.at HM.out); go_simp) (by assumption) rfl rfl ?_
  simp only [Act.put, List.setIfInBounds_toArray, List.set_cons_zero, List.set_cons_succ]
  refine wpAnyZ_yield 4 11 (.int .i64 1) [6, 9] rfl rfl (by kernel_rfl) (by kernel_rfl) (by kernel_rfl) (by kernel_rfl) (by kernel_rfl) (fun _ _ _ h => h) (by kernel_rfl) (fun W hW => by have c0 := (one_cell (hW.at H2.out)).1; go_simp) (by assumption) rfl rfl ?_
  simp only [Act.put, List.setIfInBounds_toArray, List.set_cons_zero, List.set_cons_succ]
  refine wpAnyZ_yield 5 12 (.func (.func kf) #[] lb2) [6, 9] rfl rfl (by kernel_rfl) (by kernel_rfl) (by kernel_rfl) (by kernel_rfl) (by kernel_rfl) (fun _ _ _ h => h) (by kernel_rfl) (fun W hW => by have c0 := (one_cell (hW.at H3.out)).1; go_simp) (by assumption) rfl rfl ?_
  simp only [Act.put, List.setIfInBounds_toArray, List.set_cons_zero, List.set_cons_succ]
  refine wpAnyZ_yield 7 14 (.int .i64 1) [9] rfl rfl (by kernel_rfl) (by kernel_rfl) (by kernel_rfl) (by kernel_rfl) (by kernel_rfl) (fun _ _ _ h => h) (by kernel_rfl) (fun W hW => by have c0 := (one_cell (hW.at H2.out)).1; go_simp) (by assumption) rfl rfl ?_
  simp only [Act.put, List.setIfInBounds_toArray, List.set_cons_zero, List.set_cons_succ]
  refine wpAnyZ_yield 8 15 (.func (.yield l) #[] #[]) [9] rfl rfl (by kernel_rfl) (by kernel_rfl) (by kernel_rfl) (by kernel_rfl) (by kernel_rfl) (fun _ _ _ h => h) (by kernel_rfl) (fun W hW => by kernel_rfl) (by assumption) rfl rfl ?_
  simp only [Act.put, List.setIfInBounds_toArray, List.set_cons_zero, List.set_cons_succ]
  refine wpAnyZ_enter 6 13 60 #[.pointer ro, .int .i64 1, .func (.func kf) #[] lb2] rfl rfl (by decide) (by kernel_rfl) (by kernel_rfl) (by kernel_rfl) ?_
  refine (WA.out _ hT0).mono ?_
  rintro e w2 ⟨ao, nn, cap, vs, rfl, own2, stk2, t2⟩
  refine ⟨_, rfl, hT0.tr t2, ?_⟩
  simp only [Act.put, List.setIfInBounds_toArray, List.set_cons_zero, List.set_cons_succ]
  refine wpAnyZ_last 16 59 #[.slice ao nn cap, .int .i64 1, .func (.yield l) #[] #[]] rfl rfl (by kernel_rfl) (by kernel_rfl) (by kernel_rfl) (by kernel_rfl) ?_
  refine (TE.out _ w2 ao nn cap vs hT0 own2 stk2 t2).mono ?_
  rintro e w3 ⟨⟨v, rfl⟩, hp⟩
  refine ⟨v, rfl, ?_⟩
  have HP := hide hp
  clear hp own2 stk2 t2 hT0
  simp only [Act.put, List.setIfInBounds_toArray, List.set_cons_zero, List.set_cons_succ]
  go_wp2_with fail
  go_end0
  exact ⟨⟨_, rfl⟩, HP.out⟩

/-- A walk of a map is an iterator. -/
theorem Wl.seq {f : Nat} {lb : Array Value} {c : ByteArray → ByteArray → Int} {Y : World → Prop} (hC : Cmp f lb c Y) (m : Nat) (kd : Kd) (lbv : Array Value) (X : List (ByteArray × (Option Addr × Nat × Nat))) (hX : ∀ key, Dec (c key) X) (few : Few X.length) :
    Seq Tryz.prog 80 85 58 lbv encs (kd.list c X).length (fun k x => (kd.list c X)[k]? = some x)
      (fun W => Wl W (.func (.func 58) #[] lbv) (some ⟨m, 0, none⟩) kd ∧ Mt W m f lb X ∧ Y W) := by
  rintro n l S J Jx W ⟨⟨B1, B2, B3, lb2, e, h1, h2, h3, h4⟩, hM, hYW⟩ hS hJ hY h0
  injection e with _ _ e
  subst e
  refine callsIn_wide.2 ?_
  have hs : kd.sd = 0 ∨ kd.sd = 1 := by cases kd <;> simp [Kd.sd]
  rcases hs with hs | hs
  · rw [hs] at h2
    exact walk0_go hC m kd hs B1 B2 B3 lb2 X hX few n l S J Jx W h1 h2 h3 h4 hM hYW hS hJ hY h0
  · rw [hs] at h2
    exact walk1_go hC m kd hs B1 B2 B3 lb2 X hX few n l S J Jx W h1 h2 h3 h4 hM hYW hS hJ hY h0

theorem Wl.shape {w : World} {fv : Value} {mp : Option Addr} {kd : Kd} (h : Wl w fv mp kd) : ∃ lbv, fv = .func (.func 58) #[] lbv := by
  obtain ⟨B1, B2, B3, lb2, e, _⟩ := h
  exact ⟨_, e⟩

/-- A walk of nothing. -/
theorem Wl.none_seq (mp : Option Addr) (kd : Kd) (lbv : Array Value) (A : World → Prop) (hA : ∀ W, A W → Wl W (.func (.func 58) #[] lbv) mp kd ∧ Calls Tryz.prog 45 #[.pointer mp] W fun e w' => e = .returned (.bool false) ∧ w' = W) :
    Seq Tryz.prog 80 85 58 lbv encs 0 (fun _ _ => False) A := by
  rintro n l S J Jx W hAW hS hJ hY h0
  obtain ⟨⟨B1, B2, B3, lb2, e, h1, h2, h3, h4⟩, hT⟩ := hA W hAW
  injection e with _ _ e
  subst e
  refine callsIn_wide.2 ?_
  have TH := hide hT
  have H0 := hide h0
  have c1 := (one_cell h1).1
  clear h1 h2 h3 h4 hS hJ hY h0 hT hA hAW
  show Calls Tryz.prog 58 #[.func (.yield l) #[] #[], .pointer (some ⟨B1, 0, none⟩), .pointer (some ⟨B2, 0, none⟩), .pointer (some ⟨B3, 0, none⟩)] W _
  go_enter Tryz.func58, Tryz.ntmps58
  go_wp2_with fail
  refine TH.out.mono ?_
  rintro e w' ⟨rfl, hq⟩
  obtain rfl := hq.symm
  clear hq TH c1
  go_wp2_with fail
  go_end0
  exact ⟨⟨_, rfl⟩, .inl H0.out⟩

set_option maxRecDepth 100000 in
theorem walk_any (mp : Option Addr) (kd : Kd) (lb2 : Array Value) (w : World) (h : kd.held w mp lb2) : Calls Tryz.prog 37 #[.pointer mp, .int .i64 (kd.sd : Nat), .func (.func kd.fn) #[] lb2] w
    fun e w' => ∃ fv, e = .returned fv ∧ Wl w' fv mp kd ∧ Calm w w' := by
  have H := hide h
  clear h
  have F : Hid (∀ (a b : Int) (g : Nat), a = (kd.sd : Nat) → g = kd.fn → ∃ fv, Value.func (.func 58) #[] #[.pointer (some ⟨w.heap.size, 0, none⟩), .pointer (some ⟨w.heap.size + 1, 0, none⟩), .pointer (some ⟨w.heap.size + 2, 0, none⟩)] = fv ∧
      Wl (((w.alloc (.cells #[.pointer mp] 49)).alloc (.cells #[.int .i64 a] 3)).alloc (.cells #[.func (.func g) #[] lb2] 72)) fv mp kd ∧ Calm w (((w.alloc (.cells #[.pointer mp] 49)).alloc (.cells #[.int .i64 a] 3)).alloc (.cells #[.func (.func g) #[] lb2] 72))) := hide (fun a _ g ha hg => by
    subst ha hg
    have t : Calm w (((w.alloc (.cells #[.pointer mp] 49)).alloc (.cells #[.int .i64 (kd.sd : Nat)] 3)).alloc (.cells #[.func (.func kd.fn) #[] lb2] 72)) := (((Touch.refl _ _).alloc _).alloc _).alloc _
    refine ⟨_, rfl, ⟨w.heap.size, w.heap.size + 1, w.heap.size + 2, lb2, rfl, ?_, ?_, ?_, Kd.held_calm H.out t⟩, t⟩
    · exact (Below.heap_alloc _ _ _ (by simp; omega)).trans ((Below.heap_alloc _ _ _ (by simp)).trans (heap_alloc_last w _))
    · refine (Below.heap_alloc _ _ _ (by simp)).trans ?_
      have := heap_alloc_last (w.alloc (.cells #[.pointer mp] 49)) (.cells #[.int .i64 (kd.sd : Nat)] 3)
      simpa using this
    · have := heap_alloc_last ((w.alloc (.cells #[.pointer mp] 49)).alloc (.cells #[.int .i64 (kd.sd : Nat)] 3)) (.cells #[.func (.func kd.fn) #[] lb2] 72)
      simpa using this)
  generalize hsd : ((kd.sd : Nat) : Int) = sdv at *
  generalize hfn : kd.fn = fnv at *
  go_enter Tryz.func37, Tryz.ntmps37
  go_wp2_with fail
  go_ret
  obtain ⟨fv, h1, h2, h3⟩ := F.out sdv 0 fnv rfl rfl
  exact ⟨fv, by rw [← h1]; rfl, h2, h3⟩

end Go.Proofs.YtamfcmmhmfhhkaaGreatDoor.LM

namespace Go.Proofs.YtamfcmmhmfhhkaaGreatDoor.LM
open Go.RowKit

set_option maxRecDepth 100000 in
theorem all_any (mp : Option Addr) (w : World) : Calls Tryz.prog 23 #[.pointer mp] w fun e w' => ∃ fv, e = .returned fv ∧ Wl w' fv mp .all ∧ Calm w w' := by
  have WA := hide (walk_any mp .all #[] w rfl)
  go_enter Tryz.func23, Tryz.ntmps23
  go_wp2_with fail
  refine WA.out.mono ?_
  rintro e w2 ⟨fv, rfl, h2, t2⟩
  have H2 := hide h2
  have T2 := hide t2
  clear h2 t2
  go_wp2_with fail
  go_ret
  exact ⟨fv, rfl, H2.out, T2.out⟩


set_option maxRecDepth 100000 in
theorem of_any (w : World) : Calls Tryz.prog 35 #[] w fun e w' => ∃ m', e = .returned (.pointer (some ⟨m', 0, none⟩)) ∧ Mt w' m' 56 #[] [] ∧ w.heap.size ≤ m' ∧ Calm w w' := by
  have T := hide ((Touch.refl (fun _ => False) w).alloc (.cells #[.func (.func 56) #[] #[], .pointer none] 82))
  go_enter Tryz.func35, Tryz.ntmps35
  go_wp2_with fail
  go_ret
  exact ⟨_, rfl, ⟨none, heap_alloc_last w _, .nil⟩, Nat.le_refl _, T.out⟩

end Go.Proofs.YtamfcmmhmfhhkaaGreatDoor.LM

namespace Go.Proofs.YtamfcmmhmfhhkaaGreatDoor

/-- An order. -/
structure Ordr {K : Type} (c : K → K → Int) : Prop where
  anti : ∀ a b, c b a = - c a b
  trans : ∀ a b d, c a b ≤ 0 → c b d ≤ 0 → c a d ≤ 0

section
variable {K V : Type} {c : K → K → Int}

theorem Ordr.lt_le (h : Ordr c) {a b d : K} (h1 : c a b < 0) (h2 : c b d ≤ 0) : c a d < 0 := by
  rcases (show c a d < 0 ∨ 0 ≤ c a d by omega) with h3 | h3
  · exact h3
  · have h4 := h.trans b d a h2 (by rw [h.anti a d]; omega)
    rw [h.anti a b] at h4
    omega

theorem Ordr.le_lt (h : Ordr c) {a b d : K} (h1 : c a b ≤ 0) (h2 : c b d < 0) : c a d < 0 := by
  rcases (show c a d < 0 ∨ 0 ≤ c a d by omega) with h3 | h3
  · exact h3
  · have h4 := h.trans d a b (by rw [h.anti a d]; omega) h1
    rw [h.anti b d] at h4
    omega

theorem Ordr.self (h : Ordr c) (a : K) : c a a = 0 := by have := h.anti a a; omega

/-- What rises. -/
def Up (c : K → K → Int) (X : List (K × V)) : Prop := X.Pairwise fun a b => c a.1 b.1 < 0

theorem Up.dec (h : Ordr c) {X : List (K × V)} (hX : Up c X) (key : K) : Dec (c key) X := by
  unfold Up at hX
  exact hX.imp fun {a b} hab ha => h.le_lt ha hab

theorem up_mem {f : K → Int} {X : List (K × V)} {a : K × V} : a ∈ up f X ↔ a ∈ X ∧ 0 < f a.1 := by unfold up; simp
theorem dn_mem {f : K → Int} {X : List (K × V)} {a : K × V} : a ∈ dn f X ↔ a ∈ X ∧ f a.1 < 0 := by unfold dn; simp
theorem it_some {f : K → Int} {X : List (K × V)} {a : K × V} (h : it f X = some a) : a ∈ X ∧ f a.1 = 0 := by
  unfold it at h
  exact ⟨List.mem_of_find?_eq_some h, by simpa using List.find?_some h⟩

theorem Up.put (h : Ordr c) {X : List (K × V)} (hX : Up c X) (key : K) (v : V) : Up c (lput (c key) key v X) := by
  unfold Up at hX ⊢
  have hk : ∃ k', Go.Proofs.YtamfcmmhmfhhkaaGreatDoor.lput (c key) key v X = up (c key) X ++ (k', v) :: dn (c key) X ∧ c key k' = 0 := by
    unfold Go.Proofs.YtamfcmmhmfhhkaaGreatDoor.lput
    cases hi : it (c key) X with
    | none => exact ⟨key, rfl, h.self key⟩
    | some a => exact ⟨a.1, rfl, (it_some hi).2⟩
  obtain ⟨k', e, hk'⟩ := hk
  rw [e, List.pairwise_append, List.pairwise_cons]
  have hxk : ∀ a ∈ up (c key) X, c a.1 k' < 0 := fun a ha => by
    have := (up_mem.1 ha).2
    exact h.lt_le (b := key) (by rw [h.anti key a.1]; omega) (by omega)
  have hky : ∀ b ∈ dn (c key) X, c k' b.1 < 0 := fun b hb => by
    have := (dn_mem.1 hb).2
    exact h.le_lt (b := key) (by rw [h.anti key k']; omega) this
  refine ⟨hX.sublist List.filter_sublist, ⟨hky, hX.sublist List.filter_sublist⟩, fun a ha b hb => ?_⟩
  rcases List.mem_cons.1 hb with rfl | hb
  · exact hxk a ha
  · exact h.lt_le (hxk a ha) (Int.le_of_lt (hky b hb))

theorem Up.drop (h : Ordr c) {X : List (K × V)} (hX : Up c X) (key : K) : Up c (ldrop (c key) X) := by
  unfold Up at hX ⊢
  unfold Go.Proofs.YtamfcmmhmfhhkaaGreatDoor.ldrop
  rw [List.pairwise_append]
  refine ⟨hX.sublist List.filter_sublist, hX.sublist List.filter_sublist, fun a ha b hb => ?_⟩
  have h1 := (up_mem.1 ha).2
  have h2 := (dn_mem.1 hb).2
  exact h.lt_le (b := key) (by rw [h.anti key a.1]; omega) (Int.le_of_lt h2)

/-- The place of a key that is there. -/
theorem Up.place (h : Ordr c) {X : List (K × V)} (hX : Up c X) {n : Nat} (hn : n < X.length) : (up (c X[n].1) X).length = n ∧ it (c X[n].1) X = some X[n] := by
  have e : X = X.take n ++ X[n] :: X.drop (n + 1) := by
    rw [← List.drop_eq_getElem_cons hn, List.take_append_drop]
  have hd := hX.dec h X[n].1
  generalize hx : X[n] = x at *
  rw [e] at hd ⊢
  obtain ⟨a, b, d⟩ := at_way hd (h.self x.1)
  rw [a, d]
  exact ⟨by rw [List.length_take]; omega, rfl⟩

theorem mem_lput {f : K → Int} {k : K} {v : V} {X : List (K × V)} {a : K × V} (ha : a ∈ lput f k v X) : (a ∈ X) ∨ (a.2 = v ∧ (a.1 = k ∨ ∃ b ∈ X, f b.1 = 0 ∧ a.1 = b.1)) := by
  unfold lput at ha
  rcases List.mem_append.1 ha with ha | ha
  · exact .inl (up_mem.1 ha).1
  · rcases List.mem_cons.1 ha with rfl | ha
    · refine .inr ⟨rfl, ?_⟩
      cases hi : it f X with
      | none => exact .inl rfl
      | some b => exact .inr ⟨b, (it_some hi).1, (it_some hi).2, rfl⟩
    · exact .inl (dn_mem.1 ha).1

theorem mem_ldrop {f : K → Int} {X : List (K × V)} {a : K × V} (ha : a ∈ ldrop f X) : a ∈ X := by
  unfold ldrop at ha
  rcases List.mem_append.1 ha with ha | ha
  · exact (up_mem.1 ha).1
  · exact (dn_mem.1 ha).1
end

end Go.Proofs.YtamfcmmhmfhhkaaGreatDoor

namespace Go.Proofs.YtamfcmmhmfhhkaaGreatDoor.LM
open Go.RowKit

/-- The model's '<' on texts is the lexical order of their bytes. -/
theorem less_eq : ∀ (x y : List UInt8), Op.bytesLess x y = decide (x < y)
  | [], [] => by simp [Op.bytesLess]
  | _ :: _, [] => by simp [Op.bytesLess]
  | [], _ :: _ => by simp [Op.bytesLess]
  | a :: x, b :: y => by
    rw [Op.bytesLess, less_eq x y]
    simp only [List.cons_lt_cons_iff]
    by_cases h1 : a < b <;> by_cases h2 : a = b <;> by_cases h3 : x < y <;> simp [h1, h2, h3]

/-- How two texts compare. -/
def cmpS (a b : ByteArray) : Int := if Op.bytesLess a.toList b.toList = true then -1 else if (a.toList == b.toList) = true then 0 else 1

theorem cmpS_lt {a b : ByteArray} : cmpS a b < 0 ↔ a.toList < b.toList := by
  unfold cmpS
  rw [less_eq]
  by_cases h : a.toList < b.toList
  · simp [h]
  · simp only [h, decide_false, Bool.false_eq_true, if_false]
    split <;> simp

theorem cmpS_eq {a b : ByteArray} : cmpS a b = 0 ↔ a.toList = b.toList := by
  unfold cmpS
  rw [less_eq]
  by_cases h : a.toList < b.toList
  · simp only [h, decide_true, if_true]
    refine ⟨fun h => by omega, fun e => ?_⟩
    rw [e] at h
    exact absurd h (List.lt_irrefl _)
  · simp only [h, decide_false, Bool.false_eq_true, if_false]
    by_cases e : a.toList = b.toList <;> simp [e]

theorem cmpS_gt {a b : ByteArray} : 0 < cmpS a b ↔ b.toList < a.toList := by
  constructor
  · intro h
    refine Classical.byContradiction fun hn => ?_
    have h1 : ¬ a.toList < b.toList := fun h1 => by have := cmpS_lt.2 h1; omega
    have := cmpS_eq.2 (List.le_antisymm (List.not_lt.1 hn) (List.not_lt.1 h1))
    omega
  · intro h
    rcases (show cmpS a b < 0 ∨ cmpS a b = 0 ∨ 0 < cmpS a b by omega) with h1 | h1 | h1
    · exact absurd (List.lt_trans h (cmpS_lt.1 h1)) (List.lt_irrefl _)
    · rw [cmpS_eq.1 h1] at h; exact absurd h (List.lt_irrefl _)
    · exact h1

theorem cmpS_val (a b : ByteArray) : cmpS a b = -1 ∨ cmpS a b = 0 ∨ cmpS a b = 1 := by
  unfold cmpS
  split
  · simp
  · split <;> simp

theorem cmpS_ord : Ordr cmpS where
  anti := fun a b => by
    rcases cmpS_val a b with h | h | h
    · have h1 := cmpS_gt.2 (cmpS_lt.1 (show cmpS a b < 0 by omega))
      have := cmpS_val b a; omega
    · have h1 := cmpS_eq.2 (cmpS_eq.1 h).symm
      omega
    · have h1 := cmpS_lt.2 (cmpS_gt.1 (show 0 < cmpS a b by omega))
      have := cmpS_val b a; omega
  trans := fun a b d h1 h2 => by
    rcases (show cmpS a b < 0 ∨ cmpS a b = 0 by omega) with g1 | g1
    · rcases (show cmpS b d < 0 ∨ cmpS b d = 0 by omega) with g2 | g2
      · exact Int.le_of_lt (cmpS_lt.2 (List.lt_trans (cmpS_lt.1 g1) (cmpS_lt.1 g2)))
      · refine Int.le_of_lt (cmpS_lt.2 ?_); rw [← cmpS_eq.1 g2]; exact cmpS_lt.1 g1
    · rcases (show cmpS b d < 0 ∨ cmpS b d = 0 by omega) with g2 | g2
      · refine Int.le_of_lt (cmpS_lt.2 ?_); rw [cmpS_eq.1 g1]; exact cmpS_lt.1 g2
      · exact Int.le_of_eq (cmpS_eq.2 ((cmpS_eq.1 g1).trans (cmpS_eq.1 g2)))

set_option maxRecDepth 100000 in
theorem isNaNS_any (a : ByteArray) (w : World) : Calls Tryz.prog 72 #[.string a] w fun e w' => e = .returned (.bool false) ∧ w' = w := by
  go_enter Tryz.func72, Tryz.ntmps72
  go_wp2_with fail
  go_ret
  exact ⟨by simp, rfl⟩

set_option maxRecDepth 100000 in
theorem cmpS_any (a b : ByteArray) (w : World) : Calls Tryz.prog 56 #[.string a, .string b] w fun e w' => e = .returned (.int .i64 (cmpS a b)) ∧ w' = w := by
  have NA := hide (isNaNS_any a w)
  have NB := hide (isNaNS_any b w)
  unfold cmpS
  go_enter Tryz.func56, Tryz.ntmps56
  go_wp2_with fail
  refine NA.out.mono ?_
  rintro e w' ⟨rfl, hq⟩
  obtain rfl := hq.symm
  clear hq
  go_wp2_with fail
  refine NB.out.mono ?_
  rintro e w' ⟨rfl, hq⟩
  obtain rfl := hq.symm
  clear hq
  cases h1 : Op.bytesLess a.toList b.toList <;> cases h2 : (a.toList == b.toList)
  all_goals
    go_wp2_with fail
    all_goals
      go_ret
      exact ⟨by simp, rfl⟩

/-- cmp.Compare of texts as an order. -/
theorem cmpOf : Cmp 56 #[] cmpS (fun _ => True) where
  enter := fun args w => by kernel_rfl
  calls := fun a b w _ => cmpS_any a b w
  calm := fun _ _ _ _ => trivial

end Go.Proofs.YtamfcmmhmfhhkaaGreatDoor.LM
