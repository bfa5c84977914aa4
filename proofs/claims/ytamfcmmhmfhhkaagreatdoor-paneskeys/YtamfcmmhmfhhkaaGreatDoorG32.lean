/- The program's walks, as iterators whose rounds may change other rows made meanwhile. Stores of rows and appends inside a round. The program's Last. The program's tell: what stands on a stack, told one by one; rounds may change other rows made meanwhile. -/
import Derived.Test.YtamfcmmhmfhhkaaGreatDoorG30
import Derived.Test.YtamfcmmhmfhhkaaGreatDoorG31
import Derived.Test.YtamfcmmhmfhhkaaGreatDoorG25
import Derived.Laws.Tables
import Derived.TacticsIn
import Derived.Test.YtamfcmmhmfhhkaaGreatDoorG26
import Derived.Test.YtamfcmmhmfhhkaaGreatDoorG2
import Derived.Deep.CutRange
import Derived.Test.YtamfcmmhmfhhkaaGreatDoorG22
namespace Go.Proofs.YtamfcmmhmfhhkaaGreatDoor.PM
open Go.RowKit

set_option maxRecDepth 100000 in
set_option maxHeartbeats 2000000 in
theorem walk0_goO {f : Nat} {lb : Array Value} {c : Pn → Pn → Int} {Y : World → Prop} (hC : Cmp f lb c Y) (m : Nat) (kd : Kd) (hkd : kd.sd = 0) (B1 B2 B3 : Nat) (lb2 : Array Value) (X : List (Pn × Pn)) (hX : ∀ key, Dec (c key) X) (few : Few X.length)
    (n l : Nat) (S : Nat → Prop) (J Jx : Nat → World → Prop) (W : World) (h1 : W.heap[B1]? = some (.cells #[.pointer (some ⟨m, 0, none⟩)] 55 (0, 0))) (h2 : W.heap[B2]? = some (.cells #[.int .i64 0] 3 (0, 0)))
    (h3 : W.heap[B3]? = some (.cells #[.func (.func kd.fn) #[] lb2] 63 (0, 0))) (h4 : kd.held W (some ⟨m, 0, none⟩) lb2) (hM : Mt W m f lb X) (hYW : Y W)
    (hS : ∀ k, S k → k < W.heap.size ∧ ∀ cs fr, W.heap[k]? ≠ some (.cells cs 133 fr)) (hJ : ∀ k W1 W2, J k W1 → Sly 110 W.heap.size W1 W2 → J k W2)
    (hY : ∀ k x W1, J k W1 → k < (kd.list c X).length → (kd.list c X)[k]? = some x → YieldAt Fence.wide (n - 1) Tryz.prog l (encs x) W1 fun e W' => Touch (Oth 110 S W.heap.size W1) W1 W' ∧ ((e = .returned (.bool true) ∧ J (k + 1) W') ∨ (e = .returned (.bool false) ∧ Jx (k + 1) W')))
    (h0 : J 0 W) : Calls Tryz.prog 65 #[.func (.yield l) #[] #[], .pointer (some ⟨B1, 0, none⟩), .pointer (some ⟨B2, 0, none⟩), .pointer (some ⟨B3, 0, none⟩)] W
      fun e W' => (∃ v, e = .returned v) ∧ (J (kd.list c X).length W' ∨ ∃ k, k ≤ (kd.list c X).length ∧ Jx k W') := by
  obtain ⟨ro, hm, htl⟩ := hM
  have TH := hide (there_any W m f lb ro hm)
  have mon := Mon.of_dec hX kd
  have hlist : kd.list c X = (dir 0 X).filter fun a => kd.g c a.1 := by unfold Kd.list; rw [hkd]
  rw [hkd] at mon
  have WA := hide (fun W' (h : Calm W W') => way0_any (Kd.wi hC m kd lb2) W' ro X (htl.calm h) ⟨Kd.held_calm h4 h, hC.calm _ _ hYW h, ro, h.at hm⟩ mon few)
  have TE := hide (fun (W0 W' : World) (ao : Option Addr) (nn cap : Nat) (vs : List Value) (h : Calm W W0) (hz : W0.heap.size = W.heap.size) (own : W'.ownsRow W0.heap.size 110 1 (.slice ao nn cap) nn vs) (stk : Stk W0 0 vs (kd.list c X)) (hT : Calm W0 W') =>
    callsIn_wide.1 (tell0_inO n l S J Jx W0 (fun k hk => by
        obtain ⟨g1, g2⟩ := hS k hk
        refine ⟨Nat.lt_of_lt_of_le g1 h.size, fun cs fr he => g2 cs fr ?_⟩
        rw [← h.block k g1 (fun h => h)]; exact he) (fun k W1 W2 hj hs => hJ k W1 W2 hj (hs.weak h.size)) (kd.list c X)
      (fun k W1 hj hk => by rw [hz]; exact hY k _ W1 hj hk (List.getElem?_eq_getElem hk)) ⟨Nat.le_trans (walk_low kd) few.le⟩ ao nn cap vs W' own stk hT (hJ 0 _ _ h0 (.of_calm (h.tr hT)))))
  rw [hlist] at TE ⊢
  have H1 := hide h1
  have H2 := hide h2
  have H3 := hide h3
  have HM := hide hm
  have c1 := (one_cell h1).1
  generalize (dir 0 X).filter (fun a => kd.g c a.1) = Yl at *
  generalize kd.fn = kf at *
  clear h1 h2 h3 h4 hm htl hX few hS hJ hY h0 mon hYW hC hlist hkd
  go_enter Tryz.func65, Tryz.ntmps65
  go_wp2_with fail
  refine TH.out.mono ?_
  rintro e w' ⟨rfl, hq⟩
  obtain rfl := hq.symm
  clear hq TH
  clear c1
  go_wp2_with fail
  refine wp_region_z 9 (Calm W) (by kernel_rfl) ?_
  have hT0 : Calm W { W with drawn := W.drawn + 1 } := (Touch.refl (fun _ => False) W).drew
  refine wpAnyZ_yield 0 7 (.pointer (some ⟨m, 0, none⟩)) [1, 2, 3, 6, 9] rfl rfl (by kernel_rfl) (by kernel_rfl) (by kernel_rfl) (by kernel_rfl) (by kernel_rfl) (fun _ _ _ h => h) (by kernel_rfl) (fun W hW => by have c0 := (one_cell (hW.at H1.out)).1; go_simp) (by assumption) rfl rfl ?_
  simp only [Act.put, List.setIfInBounds_toArray, List.set_cons_zero, List.set_cons_succ]
  refine wpAnyZ_yield 1 8 (.pointer (some ⟨m, 0, none⟩)) [2, 3, 6, 9] rfl rfl (by kernel_rfl) (by kernel_rfl) (by kernel_rfl) (by kernel_rfl) (by kernel_rfl) (fun _ _ _ h => h) (by kernel_rfl) (fun W hW => by kernel_rfl) (by assumption) rfl rfl ?_
  simp only [Act.put, List.setIfInBounds_toArray, List.set_cons_zero, List.set_cons_succ]
  refine wpAnyZ_yield 2 9 (.pointer (some ⟨m, 1, none⟩)) [3, 6, 9] rfl rfl (by kernel_rfl) (by kernel_rfl) (by kernel_rfl) (by kernel_rfl) (by kernel_rfl) (fun _ _ _ h => h) (by kernel_rfl) (fun W hW => by go_simp) (by assumption) rfl rfl ?_
  simp only [Act.put, List.setIfInBounds_toArray, List.set_cons_zero, List.set_cons_succ]
  refine wpAnyZ_yield 3 10 (.pointer ro) [6, 9] rfl rfl (by kernel_rfl) (by kernel_rfl) (by kernel_rfl) (by kernel_rfl) (by kernel_rfl) (fun _ _ _ h => h) (by kernel_rfl) (fun W hW => by obtain ⟨c0, c1⟩ := cells2 (hW.at HM.out); go_simp) (by assumption) rfl rfl ?_
  simp only [Act.put, List.setIfInBounds_toArray, List.set_cons_zero, List.set_cons_succ]
  refine wpAnyZ_yield 4 11 (.int .i64 0) [6, 9] rfl rfl (by kernel_rfl) (by kernel_rfl) (by kernel_rfl) (by kernel_rfl) (by kernel_rfl) (fun _ _ _ h => h) (by kernel_rfl) (fun W hW => by have c0 := (one_cell (hW.at H2.out)).1; go_simp) (by assumption) rfl rfl ?_
  simp only [Act.put, List.setIfInBounds_toArray, List.set_cons_zero, List.set_cons_succ]
  refine wpAnyZ_yield 5 12 (.func (.func kf) #[] lb2) [6, 9] rfl rfl (by kernel_rfl) (by kernel_rfl) (by kernel_rfl) (by kernel_rfl) (by kernel_rfl) (fun _ _ _ h => h) (by kernel_rfl) (fun W hW => by have c0 := (one_cell (hW.at H3.out)).1; go_simp) (by assumption) rfl rfl ?_
  simp only [Act.put, List.setIfInBounds_toArray, List.set_cons_zero, List.set_cons_succ]
  refine wpAnyZ_yield 7 14 (.int .i64 0) [9] rfl rfl (by kernel_rfl) (by kernel_rfl) (by kernel_rfl) (by kernel_rfl) (by kernel_rfl) (fun _ _ _ h => h) (by kernel_rfl) (fun W hW => by have c0 := (one_cell (hW.at H2.out)).1; go_simp) (by assumption) rfl rfl ?_
  simp only [Act.put, List.setIfInBounds_toArray, List.set_cons_zero, List.set_cons_succ]
  refine wpAnyZ_yield 8 15 (.func (.yield l) #[] #[]) [9] rfl rfl (by kernel_rfl) (by kernel_rfl) (by kernel_rfl) (by kernel_rfl) (by kernel_rfl) (fun _ _ _ h => h) (by kernel_rfl) (fun W hW => by kernel_rfl) (by assumption) rfl rfl ?_
  simp only [Act.put, List.setIfInBounds_toArray, List.set_cons_zero, List.set_cons_succ]
  refine wpAnyZ_enter 6 13 67 #[.pointer ro, .int .i64 0, .func (.func kf) #[] lb2] rfl rfl (by decide) (by kernel_rfl) (by kernel_rfl) (by kernel_rfl) ?_
  refine (WA.out _ hT0).mono ?_
  rintro e w2 ⟨ao, nn, cap, vs, rfl, own2, stk2, t2⟩
  refine ⟨_, rfl, hT0.tr t2, ?_⟩
  simp only [Act.put, List.setIfInBounds_toArray, List.set_cons_zero, List.set_cons_succ]
  refine wpAnyZ_last 16 66 #[.slice ao nn cap, .int .i64 0, .func (.yield l) #[] #[]] rfl rfl (by kernel_rfl) (by kernel_rfl) (by kernel_rfl) (by kernel_rfl) ?_
  refine (TE.out _ w2 ao nn cap vs hT0 rfl own2 stk2 t2).mono ?_
  rintro e w3 ⟨⟨v, rfl⟩, hp⟩
  refine ⟨v, rfl, ?_⟩
  have HP := hide hp
  clear hp own2 stk2 t2 hT0
  simp only [Act.put, List.setIfInBounds_toArray, List.set_cons_zero, List.set_cons_succ]
  go_wp2_with fail
  go_end0
  exact ⟨⟨_, rfl⟩, HP.out⟩

set_option maxRecDepth 100000 in
set_option maxHeartbeats 2000000 in
theorem walk1_goO {f : Nat} {lb : Array Value} {c : Pn → Pn → Int} {Y : World → Prop} (hC : Cmp f lb c Y) (m : Nat) (kd : Kd) (hkd : kd.sd = 1) (B1 B2 B3 : Nat) (lb2 : Array Value) (X : List (Pn × Pn)) (hX : ∀ key, Dec (c key) X) (few : Few X.length)
    (n l : Nat) (S : Nat → Prop) (J Jx : Nat → World → Prop) (W : World) (h1 : W.heap[B1]? = some (.cells #[.pointer (some ⟨m, 0, none⟩)] 55 (0, 0))) (h2 : W.heap[B2]? = some (.cells #[.int .i64 1] 3 (0, 0)))
    (h3 : W.heap[B3]? = some (.cells #[.func (.func kd.fn) #[] lb2] 63 (0, 0))) (h4 : kd.held W (some ⟨m, 0, none⟩) lb2) (hM : Mt W m f lb X) (hYW : Y W)
    (hS : ∀ k, S k → k < W.heap.size ∧ ∀ cs fr, W.heap[k]? ≠ some (.cells cs 133 fr)) (hJ : ∀ k W1 W2, J k W1 → Sly 110 W.heap.size W1 W2 → J k W2)
    (hY : ∀ k x W1, J k W1 → k < (kd.list c X).length → (kd.list c X)[k]? = some x → YieldAt Fence.wide (n - 1) Tryz.prog l (encs x) W1 fun e W' => Touch (Oth 110 S W.heap.size W1) W1 W' ∧ ((e = .returned (.bool true) ∧ J (k + 1) W') ∨ (e = .returned (.bool false) ∧ Jx (k + 1) W')))
    (h0 : J 0 W) : Calls Tryz.prog 65 #[.func (.yield l) #[] #[], .pointer (some ⟨B1, 0, none⟩), .pointer (some ⟨B2, 0, none⟩), .pointer (some ⟨B3, 0, none⟩)] W
      fun e W' => (∃ v, e = .returned v) ∧ (J (kd.list c X).length W' ∨ ∃ k, k ≤ (kd.list c X).length ∧ Jx k W') := by
  obtain ⟨ro, hm, htl⟩ := hM
  have TH := hide (there_any W m f lb ro hm)
  have mon := Mon.of_dec hX kd
  have hlist : kd.list c X = (dir 1 X).filter fun a => kd.g c a.1 := by unfold Kd.list; rw [hkd]
  rw [hkd] at mon
  have WA := hide (fun W' (h : Calm W W') => way1_any (Kd.wi hC m kd lb2) W' ro X (htl.calm h) ⟨Kd.held_calm h4 h, hC.calm _ _ hYW h, ro, h.at hm⟩ mon few)
  have TE := hide (fun (W0 W' : World) (ao : Option Addr) (nn cap : Nat) (vs : List Value) (h : Calm W W0) (hz : W0.heap.size = W.heap.size) (own : W'.ownsRow W0.heap.size 110 1 (.slice ao nn cap) nn vs) (stk : Stk W0 1 vs (kd.list c X)) (hT : Calm W0 W') =>
    callsIn_wide.1 (tell1_inO n l S J Jx W0 (fun k hk => by
        obtain ⟨g1, g2⟩ := hS k hk
        refine ⟨Nat.lt_of_lt_of_le g1 h.size, fun cs fr he => g2 cs fr ?_⟩
        rw [← h.block k g1 (fun h => h)]; exact he) (fun k W1 W2 hj hs => hJ k W1 W2 hj (hs.weak h.size)) (kd.list c X)
      (fun k W1 hj hk => by rw [hz]; exact hY k _ W1 hj hk (List.getElem?_eq_getElem hk)) ⟨Nat.le_trans (walk_low kd) few.le⟩ ao nn cap vs W' own stk hT (hJ 0 _ _ h0 (.of_calm (h.tr hT)))))
  rw [hlist] at TE ⊢
  have H1 := hide h1
  have H2 := hide h2
  have H3 := hide h3
  have HM := hide hm
  have c1 := (one_cell h1).1
  generalize (dir 1 X).filter (fun a => kd.g c a.1) = Yl at *
  generalize kd.fn = kf at *
  clear h1 h2 h3 h4 hm htl hX few hS hJ hY h0 mon hYW hC hlist hkd
  go_enter Tryz.func65, Tryz.ntmps65
  go_wp2_with fail
  refine TH.out.mono ?_
  rintro e w' ⟨rfl, hq⟩
  obtain rfl := hq.symm
  clear hq TH
  clear c1
  go_wp2_with fail
  refine wp_region_z 9 (Calm W) (by kernel_rfl) ?_
  have hT0 : Calm W { W with drawn := W.drawn + 1 } := (Touch.refl (fun _ => False) W).drew
  refine wpAnyZ_yield 0 7 (.pointer (some ⟨m, 0, none⟩)) [1, 2, 3, 6, 9] rfl rfl (by kernel_rfl) (by kernel_rfl) (by kernel_rfl) (by kernel_rfl) (by kernel_rfl) (fun _ _ _ h => h) (by kernel_rfl) (fun W hW => by have c0 := (one_cell (hW.at H1.out)).1; go_simp) (by assumption) rfl rfl ?_
  simp only [Act.put, List.setIfInBounds_toArray, List.set_cons_zero, List.set_cons_succ]
  refine wpAnyZ_yield 1 8 (.pointer (some ⟨m, 0, none⟩)) [2, 3, 6, 9] rfl rfl (by kernel_rfl) (by kernel_rfl) (by kernel_rfl) (by kernel_rfl) (by kernel_rfl) (fun _ _ _ h => h) (by kernel_rfl) (fun W hW => by kernel_rfl) (by assumption) rfl rfl ?_
  simp only [Act.put, List.setIfInBounds_toArray, List.set_cons_zero, List.set_cons_succ]
  refine wpAnyZ_yield 2 9 (.pointer (some ⟨m, 1, none⟩)) [3, 6, 9] rfl rfl (by kernel_rfl) (by kernel_rfl) (by kernel_rfl) (by kernel_rfl) (by kernel_rfl) (fun _ _ _ h => h) (by kernel_rfl) (fun W hW => by go_simp) (by assumption) rfl rfl ?_
  simp only [Act.put, List.setIfInBounds_toArray, List.set_cons_zero, List.set_cons_succ]
  refine wpAnyZ_yield 3 10 (.pointer ro) [6, 9] rfl rfl (by kernel_rfl) (by kernel_rfl) (by kernel_rfl) (by kernel_rfl) (by kernel_rfl) (fun _ _ _ h => h) (by kernel_rfl) (fun W hW => by obtain ⟨c0, c1⟩ := cells2 (hW.at HM.out); go_simp) (by assumption) rfl rfl ?_
  simp only [Act.put, List.setIfInBounds_toArray, List.set_cons_zero, List.set_cons_succ]
  refine wpAnyZ_yield 4 11 (.int .i64 1) [6, 9] rfl rfl (by kernel_rfl) (by kernel_rfl) (by kernel_rfl) (by kernel_rfl) (by kernel_rfl) (fun _ _ _ h => h) (by kernel_rfl) (fun W hW => by have c0 := (one_cell (hW.at H2.out)).1; go_simp) (by assumption) rfl rfl ?_
  simp only [Act.put, List.setIfInBounds_toArray, List.set_cons_zero, List.set_cons_succ]
  refine wpAnyZ_yield 5 12 (.func (.func kf) #[] lb2) [6, 9] rfl rfl (by kernel_rfl) (by kernel_rfl) (by kernel_rfl) (by kernel_rfl) (by kernel_rfl) (fun _ _ _ h => h) (by kernel_rfl) (fun W hW => by have c0 := (one_cell (hW.at H3.out)).1; go_simp) (by assumption) rfl rfl ?_
  simp only [Act.put, List.setIfInBounds_toArray, List.set_cons_zero, List.set_cons_succ]
  refine wpAnyZ_yield 7 14 (.int .i64 1) [9] rfl rfl (by kernel_rfl) (by kernel_rfl) (by kernel_rfl) (by kernel_rfl) (by kernel_rfl) (fun _ _ _ h => h) (by kernel_rfl) (fun W hW => by have c0 := (one_cell (hW.at H2.out)).1; go_simp) (by assumption) rfl rfl ?_
  simp only [Act.put, List.setIfInBounds_toArray, List.set_cons_zero, List.set_cons_succ]
  refine wpAnyZ_yield 8 15 (.func (.yield l) #[] #[]) [9] rfl rfl (by kernel_rfl) (by kernel_rfl) (by kernel_rfl) (by kernel_rfl) (by kernel_rfl) (fun _ _ _ h => h) (by kernel_rfl) (fun W hW => by kernel_rfl) (by assumption) rfl rfl ?_
  simp only [Act.put, List.setIfInBounds_toArray, List.set_cons_zero, List.set_cons_succ]
  refine wpAnyZ_enter 6 13 67 #[.pointer ro, .int .i64 1, .func (.func kf) #[] lb2] rfl rfl (by decide) (by kernel_rfl) (by kernel_rfl) (by kernel_rfl) ?_
  refine (WA.out _ hT0).mono ?_
  rintro e w2 ⟨ao, nn, cap, vs, rfl, own2, stk2, t2⟩
  refine ⟨_, rfl, hT0.tr t2, ?_⟩
  simp only [Act.put, List.setIfInBounds_toArray, List.set_cons_zero, List.set_cons_succ]
  refine wpAnyZ_last 16 66 #[.slice ao nn cap, .int .i64 1, .func (.yield l) #[] #[]] rfl rfl (by kernel_rfl) (by kernel_rfl) (by kernel_rfl) (by kernel_rfl) ?_
  refine (TE.out _ w2 ao nn cap vs hT0 rfl own2 stk2 t2).mono ?_
  rintro e w3 ⟨⟨v, rfl⟩, hp⟩
  refine ⟨v, rfl, ?_⟩
  have HP := hide hp
  clear hp own2 stk2 t2 hT0
  simp only [Act.put, List.setIfInBounds_toArray, List.set_cons_zero, List.set_cons_succ]
  go_wp2_with fail
  go_end0
  exact ⟨⟨_, rfl⟩, HP.out⟩

/-- A walk of a map is an iterator. -/
theorem Wl.seqO {f : Nat} {lb : Array Value} {c : Pn → Pn → Int} {Y : World → Prop} (hC : Cmp f lb c Y) (m : Nat) (kd : Kd) (lbv : Array Value) (X : List (Pn × Pn)) (hX : ∀ key, Dec (c key) X) (few : Few X.length) :
    SeqO Tryz.prog 110 133 65 lbv encs (kd.list c X).length (fun k x => (kd.list c X)[k]? = some x)
      (fun W => Wl W (.func (.func 65) #[] lbv) (some ⟨m, 0, none⟩) kd ∧ Mt W m f lb X ∧ Y W) := by
  rintro n l S J Jx W ⟨⟨B1, B2, B3, lb2, e, h1, h2, h3, h4⟩, hM, hYW⟩ hS hJ hY h0
  injection e with _ _ e
  subst e
  refine callsIn_wide.2 ?_
  have hs : kd.sd = 0 ∨ kd.sd = 1 := by cases kd <;> simp [Kd.sd]
  rcases hs with hs | hs
  · rw [hs] at h2
    exact walk0_goO hC m kd hs B1 B2 B3 lb2 X hX few n l S J Jx W h1 h2 h3 h4 hM hYW hS hJ hY h0
  · rw [hs] at h2
    exact walk1_goO hC m kd hs B1 B2 B3 lb2 X hX few n l S J Jx W h1 h2 h3 h4 hM hYW hS hJ hY h0

end Go.Proofs.YtamfcmmhmfhhkaaGreatDoor.PM

namespace Go.Proofs.YtamfcmmhmfhhkaaGreatDoor
open Go.RowKit

theorem wpListIn_store_rowTo {l n : Nat} {P : Program} {ops : Array Oper} {rest : List Oper} {o : Oper} {a : Act} {w : World} {Q : Exit → Act → World → Prop} (hgd : o.guard = none) (ty : TypeId) (x y : Operand) (ho : o.op = .store ty x y)
    (hd : o.dst = none) (g : Nat) (cells : Array Value) (hx : a.eval x = .pointer (some ⟨g, 0, none⟩)) (hy : a.eval y = .agg cells)
    (t : TypeId) (old : Array Value) (hg : w.heap[g]? = some (.cells old t (0, 0))) (hi : (P.info? ty).map (·.size) = some cells.size)
    (hold : old.size = cells.size) (h1 : cells.all (·.oneCell') = true)
    (h : wpListIn (Fence.wide.inRound l) n P ops Q rest a (w.setRow g cells)) : wpListIn (Fence.wide.inRound l) n P ops Q (o :: rest) a w :=
  wpListIn_plain hgd fun _ hK => wp_in_round (G := fun _ _ => False) (fun c e => by rw [ho] at e; cases e) (wp_store_row ty x y ho g cells hx hy t old hg hi hold h1 (by rw [hd]; exact hK _ _ h))

/-- An 'append' whose outcome is known, inside a round. -/
theorem wpListIn_appR {l n : Nat} {P : Program} {w w' : World} {ops : Array Oper} {rest : List Oper} {o : Oper} {a : Act} {Q : Exit → Act → World → Prop} (hgd : o.guard = none) (s x : Operand) (t tx : TypeId)
    (ho : o.op = .call { callee := .builtin .append, args := #[s, x], argTypes := #[t, tx] }) (v y r : Value) (hv : a.eval s = v) (hy : a.eval x = y) (hr : (Builtin.append_ #[t, tx] o.type #[v, y]).run P w = .ok r w')
    (h : wpListIn (Fence.wide.inRound l) n P ops Q rest (a.put o.dst r) w') : wpListIn (Fence.wide.inRound l) n P ops Q (o :: rest) a w :=
  wpListIn_plain hgd fun _ hK => wp_in_round (G := fun _ _ => False) (fun c e => by rw [ho] at e; cases e) (by
    unfold Oper.wp execOp
    simp only [ho, resolve, invoke, builtin, Sem.run_bind, Sem.run_pure, Result.andThen_ok, List.map_toArray, List.map_cons, List.map_nil, hv, hy, hr]
    exact hK _ _ h)

end Go.Proofs.YtamfcmmhmfhhkaaGreatDoor

namespace Go.Proofs.YtamfcmmhmfhhkaaGreatDoor
open Go.RowKit PM
attribute [local go_sem] Oper.semAt_some

/-- What Last has at hand between two rounds. -/
structure La (wb : World) (B : Nat) (P : List Pn) (W : World) : Prop where
  ex : ∃ a c, W.heap[B]? = some (.cells #[.slice a P.length c] 22 (0, 0)) ∧ encP.Own 40 W wb.heap.size (.slice a P.length c) P
  tr : Touch (fun g => g = B) wb W
theorem La.turn {S : Nat → Prop} {wb W W' : World} {B : Nat} {P : List Pn} (h : La wb B P W) (hb : B < wb.heap.size) (ht : Touch S W W') (hS : ∀ g, S g → wb.heap.size ≤ g ∧ ∀ cs fr, W.heap[g]? ≠ some (.cells cs 40 fr)) : La wb B P W' := by
  obtain ⟨⟨a, c, h1, h2⟩, h3⟩ := h
  refine ⟨⟨a, c, ht.heap h1 (fun s => by have := (hS _ s).1; omega), Rc.Own.touch h2 ht fun g hg s => ?_⟩, h3.trans ht fun g hg s => by have := (hS _ s).1; omega⟩
  obtain ⟨-, cur, hc⟩ := Rc.own_block h2 hg
  exact (hS g s).2 _ _ hc
theorem La.calm {wb W W' : World} {B : Nat} {P : List Pn} (h : La wb B P W) (hb : B < wb.heap.size) (ht : Calm W W') : La wb B P W' := h.turn hb ht fun _ h => h.elim

/-- The values of the first pairs. -/
def vals (X : List (Pn × Pn)) (k : Nat) : List Pn := (X.take k).map (·.2)
theorem vals_len {X : List (Pn × Pn)} {k : Nat} (h : k ≤ X.length) : (vals X k).length = k := by unfold vals; rw [List.length_map, List.length_take]; omega
theorem vals_next {X : List (Pn × Pn)} {k : Nat} {x : Pn × Pn} (h : X[k]? = some x) : vals X (k + 1) = vals X k ++ [x.2] := by unfold vals; rw [List.take_add_one, h, List.map_append]; rfl

theorem La.step {U : Nat → Prop} {wb W W' : World} {B : Nat} {P : List Pn} {p : Pn} {a a2 : Option Addr} {c c2 : Nat} (h : La wb B P W)
    (hcell : W.heap[B]? = some (.cells #[.slice a P.length c] 22 (0, 0))) (hown : encP.Own 40 W wb.heap.size (.slice a P.length c) P)
    (hU : ∀ g, U g → g = B ∨ (Value.slice a P.length c).ownBlock = some g) (ht : Touch U W W')
    (h7 : W'.heap[B]? = some (.cells #[.slice a2 (P ++ [p]).length c2] 22 (0, 0))) (ow : encP.Own 40 W' wb.heap.size (.slice a2 (P ++ [p]).length c2) (P ++ [p])) :
    La wb B (P ++ [p]) W' ∧ Touch (Oth 110 (fun g => g = B) wb.heap.size W) W W' ∧ KeepsOthers W W' := by
  refine ⟨⟨⟨a2, c2, h7, ow⟩, h.tr.trans ht fun g hg hu => ?_⟩, ht.mono fun g hg hu => ?_, keeps_touch ht fun g hu => ?_⟩
  · rcases hU g hu with e | e
    · exact e
    · have := (Rc.own_block hown e).1; omega
  · rcases hU g hu with e | e
    · exact .inl e
    · obtain ⟨h1, cur, hc⟩ := Rc.own_block hown e
      exact .inr ⟨h1, cur, _, _, hc, by decide⟩
  · rcases hU g hu with e | e
    · rw [e]; exact ⟨_, _, _, hcell⟩
    · obtain ⟨-, cur, hc⟩ := Rc.own_block hown e
      exact ⟨_, _, _, hc⟩

set_option maxRecDepth 100000 in
set_option maxHeartbeats 4000000 in
theorem plast_any (L : List Pn) (ao : Option Addr) (ac : Nat) (w : World) (ha : encP.Sl w ao ac L) (hl : L.length ≤ 1000) (hk : KeyB L) : Calls Tryz.prog 8 #[.slice ao L.length ac] w fun e w' => RetP w e w' (lastP L) := by
  have CB : Hid (∀ W, Calm w W → Calls Tryz.prog 26 #[.slice ao L.length ac] W fun e w' => ∃ m X, e = .returned (.pointer (some ⟨m, 0, none⟩)) ∧ PM.Mt w' m 41 #[] X ∧ Bv L X ∧ W.heap.size ≤ m ∧ Calm W w') := hide fun W hW => byWindows_any L ao ac W (Rc.Mem.calm ha.mem hW) (by omega)
  have HL := hide hl
  have HK := hide hk
  clear ha hl hk
  obtain ⟨Z, hZ⟩ : ∃ Z, Z = lastP L := ⟨_, rfl⟩
  rw [← hZ]
  have HZ := hide hZ
  clear hZ
  unfold RetP
  refine (callsIn_wide (n := 3)).1 (callsIn_of_wp_marks Tryz.func8 rfl trivial ?_ rfl)
  simp only [Tryz.ntmps8, List.size_toArray, List.length_cons, List.length_nil, Nat.reduceAdd, Nat.reduceSub, Array.replicate_succ, Array.replicate_zero, List.push_toArray, List.append_toArray, List.nil_append, List.cons_append]
  gi_wp2
  have A3 := hide (al_new w (.cells #[.slice none 0 0] 22))
  have T0 := hide ((Touch.refl (fun _ => False) w).alloc (.cells #[.slice none 0 0] 22))
  refine ⟨trivial, (callsIn_wide.2 (CB.out _ T0.out)).mono ?_⟩
  rintro e w1 ⟨m, X, rfl, M1, V1, -, T1⟩
  have A31 := hide (T1.at A3.out)
  have TT1 := hide (T0.out.tr T1)
  have HM1 := hide M1
  have HV := hide V1
  clear CB A3 T0 T1 M1 V1
  obtain ⟨B3, hB3⟩ : ∃ B3, B3 = w.heap.size := ⟨_, rfl⟩
  rw [← hB3] at A31 ⊢
  have HB3 := hide hB3
  clear hB3
  gi_wp2
  refine ⟨trivial, (callsIn_wide.2 (PM.all_any (some ⟨m, 0, none⟩) w1)).mono ?_⟩
  rintro e w3 ⟨fv, rfl, hW, T3⟩
  obtain ⟨lbv, rfl⟩ := hW.shape
  have A33 := hide (T3.at A31.out)
  have TT3 := hide (TT1.out.tr T3)
  have HM3 := hide (HM1.out.calm T3)
  have HW := hide hW
  clear hW T3 A31 TT1 HM1
  gi_wp2
  have eL : Kd.list cmpW .all X = X := by
    show List.filter _ X = X
    rw [List.filter_eq_self]
    intro a _
    rfl
  have SQ := Wl.seqO cmpWs m .all lbv X (fun key => HV.out.up.dec cmpW_ord key) ⟨by have := HV.out.num; have := HL.out; omega⟩
  rw [eL] at SQ
  have HSQ := hide SQ
  have HB : Hid (w.heap.size ≤ B3 ∧ B3 < w3.heap.size) := hide ⟨by rw [HB3.out]; exact Nat.le_refl _, lt_of_heap A33.out⟩
  have HXL : Hid (X.length ≤ 1000) := hide (Nat.le_trans HV.out.num HL.out)
  have HEND : Hid (vals X X.length = Z) := hide (by rw [HZ.out]; unfold vals; rw [List.take_length]; exact HV.out.last)
  have HZL : Hid (Z.length ≤ 1000) := hide (by rw [HZ.out, ← HV.out.last, List.length_map]; exact HXL.out)
  have HKY : Hid (KeyB Z) := hide fun p hp => HK.out p (by
    rw [HZ.out, ← HV.out.last] at hp
    obtain ⟨x, hx, rfl⟩ := List.mem_map.1 hp
    have := (HV.out.val x.2).1 ⟨x, hx, rfl⟩
    obtain ⟨A, B, e, -⟩ := this
    rw [e]; simp)
  clear SQ eL HB3 HV HK HZ
  generalize hAn : L.length = an at *
  refine wpIn_rangeO (gf := 65) (lb := lbv) rfl (enters_of Tryz.func65 (by kernel_rfl) rfl) HSQ.out (fun _ => rfl)
    (fun g => g = B3) ?hs (fun W h => ⟨HW.out.calm h, HM3.out.calm h, trivial⟩)
    (fun k W => La w3 B3 (vals X k) W)
    (fun _ _ _ => False)
    (fun _ x a' W => ∃ b, W.heap[b]? = some (.cells (pnc x.2) 40 (0, 0)) ∧ a' = { tmps := #[.slice ao an ac, undef, .slice none 0 0, .pointer (some ⟨B3, 0, none⟩), undef, .pointer (some ⟨b, 0, none⟩), .slice ao an ac, .pointer (some ⟨m, 0, none⟩), .func (.func 65) #[] lbv, pnv x.1, pnv x.2, undef, undef, undef, undef, undef, undef], defers := [] })
    (fun k W W' h ht => h.turn HB.out.2 ht fun g hg => ⟨hg.1, fun cs fr he => by obtain ⟨-, cs2, fr2, h2⟩ := hg; rw [he] at h2; injection h2 with h2; injection h2 with _ h2 _; exact absurd h2 (by decide)⟩)
    (fun k W l o o' h hl hw ho => h.turn HB.out.2 (touch_put W l o') fun g hg => by subst hg; exact ⟨hl, fun cs fr he => by rw [hw] at he; injection he with he; subst he; cases ho⟩)
    (fun c k W l o o' h => h.elim)
    (fun k x a' W l o o' h hl hw ho => by
      obtain ⟨b, h1, h2⟩ := h
      exact ⟨b, (touch_put W l o').heap h1 (fun e => by subst e; rw [hw] at h1; injection h1 with h1; subst h1; cases ho), h2⟩)
    ⟨⟨none, 0, A33.out, Rc.Own.nil _ _ _⟩, Touch.refl _ _⟩ ?assign ?body ?done ?stop
  case hs =>
    rintro g rfl
    exact ⟨HB.out.2, fun cs fr he => by rw [A33.out] at he; injection he with he; injection he with _ he; exact absurd he (by decide)⟩
  case assign =>
    rintro l k x W K hi hkm hx hK
    have HK := hide hK
    have HI := hide hi
    clear hK hi HW HSQ HM3 HEND HKY
    simp only [encs]
    have hi9 : (Tryz.prog.info? 40).map (·.size) = some 9 := by kernel_rfl
    obtain ⟨y, p⟩ := x
    have Z0 := hide (al_new W (.cells (pnc pn0) 40))
    have Z1 := hide (setRow_heap _ _ _ (pnc p) _ _ Z0.out)
    have Z2 : Hid (Calm W ((W.alloc (.cells (pnc pn0) 40)).setRow W.heap.size (pnc p))) := hide (((Touch.refl (fun _ => False) W).alloc _).trans (S' := fun g => g = W.heap.size) ⟨rfl, rfl, rfl, by simp, fun j _ hj => setRow_other _ _ j _ hj⟩ (fun g hg e => by omega))
    have hq1 : Hid ((pnc p).all (·.oneCell') = true) := hide (by simp [Value.oneCell'])
    gi_wp2_with (refine wpListIn_store_rowTo rfl 40 (.tmp 5) (.tmp 10) rfl rfl W.heap.size (pnc p) rfl rfl 40 _ Z0.out hi9 rfl hq1.out ?_)
    exact HK.out _ _ (keeps_touch Z2.out fun g hg => hg.elim) (Z2.out.mono fun _ _ h => h.elim) (HI.out.calm HB.out.2 Z2.out) ⟨W.heap.size, Z1.out, rfl⟩
  case body =>
    rintro l k x a' W hI hkm hx ⟨b, hb, rfl⟩
    have hI2 := hI
    obtain ⟨⟨a, c, h1, h2⟩, htr⟩ := hI2
    have hpl : (vals X k).length ≤ 1000 := by rw [vals_len (by omega)]; have := HXL.out; omega
    obtain ⟨y, p⟩ := x
    have hnx := vals_next hx
    dsimp only at hnx hb
    generalize vals X k = P at *
    obtain ⟨a2, c2, w4, hr, ow, t4⟩ := pn_app1 p h2 htr.size (by omega)
    have el : (P ++ [p]).length = P.length + 1 := by simp
    have h14 : w4.heap[B3]? = some (.cells #[.slice a P.length c] 22 (0, 0)) := t4.heap h1 fun hg => by
      obtain ⟨-, cur, hc⟩ := Rc.own_block h2 hg
      rw [h1] at hc; injection hc with hc; injection hc with _ e _; exact absurd e (by decide)
    have hF : Hid (∀ W', W' = w4.setCell ⟨B3, 0, none⟩ (.slice a2 (P.length + 1) c2) → La w3 B3 (vals X (k + 1)) W' ∧ Touch (Oth 110 (fun g => g = B3) w3.heap.size W) W W' ∧ KeepsOthers W W') := hide (fun W' h => by
      subst h
      have tS : Touch (fun g => g = B3) w4 (w4.setCell ⟨B3, 0, none⟩ (.slice a2 (P.length + 1) c2)) := (Touch.refl (fun g => g = B3) w4).setCell (p := ⟨B3, 0, none⟩) (fun _ => rfl) _
      have tU : Touch (fun g => g = B3 ∨ (Value.slice a P.length c).ownBlock = some g) W (w4.setCell ⟨B3, 0, none⟩ (.slice a2 (P.length + 1) c2)) := (t4.mono (fun _ _ h => .inr h)).trans tS fun _ _ h => .inl h
      rw [hnx]
      exact hI.step h1 h2 (p := p) (a2 := a2) (c2 := c2) (fun g h => h) tU (by rw [el]; exact set_one _ h14) (Rc.Own.touch ow tS fun g hg e => by
        obtain ⟨-, cur, hc⟩ := Rc.own_block ow hg
        rw [e, h14] at hc; injection hc with hc; injection hc with _ e _; exact absurd e (by decide)))
    have HR := hide hr
    obtain ⟨c3, -⟩ := one_cell h1
    obtain ⟨c4, f4⟩ := one_cell h14
    obtain ⟨⟨d0, d1, d2, d3, d4⟩, d5, d6, d7, d8⟩ := pn_cells hb
    obtain ⟨pk, pa, pb, pd, pn, ⟨t0, t1, t2', t3⟩⟩ := p
    clear hI h1 h2 htr hr ow t4 h14 hb hnx el hx HW HSQ HM3 HEND HKY HZL
    gi_wp2_with (gi_at_builtin; refine wpListIn_appR rfl (.tmp 11) (.tmp 13) 22 22 rfl _ _ _ rfl rfl HR.out ?_)
    obtain ⟨q1, q2, q3⟩ := hF.out _ rfl
    exact ⟨q3, q2, q1⟩
  case done =>
    rintro D W hD hI hd
    rw [HEND.out] at hI
    obtain ⟨⟨a, c, h1, h2⟩, htr⟩ := hI
    have CA := hide (apart_any Z a c w3.heap.size W h2 HKY.out (by have := HZL.out; omega))
    obtain ⟨c3, -⟩ := one_cell h1
    have HC : Hid (Calm w W) := hide (TT3.out.trans htr fun g hg e => by have := HB.out; omega)
    have HD : Hid (∀ W2, Touch (fun g => (Value.slice a Z.length c).ownBlock = some g) W W2 → W2.heap[D]? = some (.deferred (some [])) ∧ Calm w W2) := hide fun W2 ht => ⟨ht.heap hd (fun hg => by
      obtain ⟨-, cur, hc⟩ := Rc.own_block h2 hg
      rw [hd] at hc; cases hc), HC.out.trans ht fun g hg hs => by
        have := (Rc.own_block h2 hs).1
        have := TT3.out.size
        omega⟩
    have HBS := hide TT3.out.size
    clear h1 h2 htr hd HW HSQ HM3 HEND HKY HZL HXL HC
    gi_wp2
    refine ⟨trivial, (callsIn_wide.2 CA.out).mono ?_⟩
    rintro e W2 ⟨rfl, O2, T2⟩
    obtain ⟨hd2, hC2⟩ := HD.out W2 T2
    have HO2 := hide O2
    have HD2 := hide hd2
    have HC2 := hide hC2
    clear CA HD O2 T2 hd2 hC2 c3
    gi_wp2
    refine ⟨by simp, .inl ⟨_, _, rfl, run_takeDeferred HD2.out, ?_⟩⟩
    have tP := touch_put W2 D (.deferred none)
    refine ⟨.slice a Z.length c, by simp [results, Tryz.results8, go_sem], a, c, rfl, Rc.Own.base (Rc.Own.touch HO2.out tP fun g hg e => ?_) HBS.out, HC2.out.trans tP fun g hg e => by have := HBS.out; omega⟩
    obtain ⟨-, cur, hc⟩ := Rc.own_block HO2.out hg
    rw [e, HD2.out] at hc; cases hc
  case stop => rintro D c k W hD hkm h; exact h.elim

end Go.Proofs.YtamfcmmhmfhhkaaGreatDoor

namespace Go.Proofs.YtamfcmmhmfhhkaaGreatDoor.LM
open Go.RowKit
attribute [local go_sem] Oper.semAt_some

set_option maxRecDepth 100000 in
set_option maxHeartbeats 2000000 in
theorem tell0_inO (n l : Nat) (S : Nat → Prop) (J Jx : Nat → World → Prop) (W0 : World) (hS : ∀ k, S k → k < W0.heap.size ∧ ∀ cs fr, W0.heap[k]? ≠ some (.cells cs 85 fr)) (hJ : ∀ k W1 W2, J k W1 → Sly 80 W0.heap.size W1 W2 → J k W2) (Y : List (ByteArray × (Option Addr × Nat × Nat)))
    (hY : ∀ k W1, J k W1 → (hk : k < Y.length) → YieldAt Fence.wide (n - 1) Tryz.prog l #[.string Y[k].1, .slice Y[k].2.1 Y[k].2.2.1 Y[k].2.2.2] W1 fun e W' => Touch (Oth 80 S W0.heap.size W1) W1 W' ∧ ((e = .returned (.bool true) ∧ J (k + 1) W') ∨ (e = .returned (.bool false) ∧ Jx (k + 1) W')))
    (few : Few Y.length) (ao : Option Addr) (nn cap : Nat) (vs : List Value) (W1 : World) (own : W1.ownsRow W0.heap.size 80 1 (.slice ao nn cap) nn vs) (stk : Stk W0 0 vs Y) (hT : Calm W0 W1) (h0 : J 0 W1) :
    CallsIn Fence.wide n Tryz.prog 59 #[.slice ao nn cap, .int .i64 0, .func (.yield l) #[] #[]] W1 fun e W' => (∃ v, e = .returned v) ∧ (J Y.length W' ∨ ∃ k, k ≤ Y.length ∧ Jx k W') := by
  obtain ⟨i1, hj, hy0, hy1, hy2⟩ := info_parts2 infoPtr
  have HS := hide hS
  have HJ := hide hJ
  have HY := hide hY
  have FEW := hide few
  have ST : Hid (Tl S J W0 0 Y (2 * Y.length - nn) (.slice ao nn cap) (.pointer none) W1) := hide ⟨0, ao, nn, cap, vs, none, [], Y, rfl, rfl, .nil, own, stk, by simp [dir], Nat.zero_le _, h0, hT.mono (fun _ _ h => h.elim), by
    have h1 := stk.len
    have h2 := own.1
    simp; omega⟩
  clear hS hJ hY few own stk hT h0
  refine callsIn_of_wp Tryz.func59 rfl trivial ?_ rfl
  simp only [Tryz.ntmps59, List.size_toArray, List.length_cons, List.length_nil, Nat.reduceAdd, Nat.reduceSub, Array.replicate_succ, Array.replicate_zero, List.push_toArray, List.append_toArray, List.nil_append, List.cons_append]
  gi_wp2
  refine wpIn_scope_straight ?_
  gi_wp2
  refine wpIn_label ?_
  gi_wp2
  gi_loopw [0, 6] (fun i j wr => ∃ mu, Tl S J W0 0 Y mu i j wr) (fun i j wr => least (fun mu => Tl S J W0 0 Y mu i j wr))
  case atStart => exact ⟨_, ST.out⟩
  case round =>
    obtain ⟨hls, hlm⟩ := least_spec hrel
    obtain ⟨k, ao, n', cap, vs, o, Z, A, rfl, rfl, htl, own, stk, hdr, hk, hJ, ht, hmu⟩ := hls
    have HLM := hide hlm
    have HDR := hide hdr
    have HK := hide hk
    have HT := hide ht
    have HMU := hide hmu
    have OWN := hide own
    have STK := hide stk
    have HJK := hide hJ
    clear hlm hdr hk ht hmu own stk hJ ST hrel
    generalize hmm : least (fun mu => Tl S J W0 0 Y mu (.slice ao n' cap) (.pointer o) wr) = M at *
    have hno : ∀ {b : Nat} {cs : Array Value}, W0.heap[b]? = some (.cells cs 85 (0, 0)) → wr.heap[b]? = some (.cells cs 85 (0, 0)) := fun {b cs} h => HT.out.heap h (fun hs => by
      rcases hs with hs | hs
      · exact (HS.out b hs).2 _ _ h
      · have := lt_of_heap h; omega)
    cases htl with
    | @node b k1 v1 p1 q1 L R hb g1 g2 =>
      have G1 := hide g1
      have G2 := hide g2
      have HB := hide hb
      have hx1 : Hid (n' + 1 ≤ 8796093022208 + 1) := hide (by
        have h1 := STK.out.len
        have h2 := OWN.out.1
        have h3 := congrArg List.length HDR.out
        have h6 := FEW.out.le
        simp only [List.length_append, List.length_drop] at h3
        omega)
      have hx2 : Hid (n' + 1 ≤ maxLen) := hide (by have := hx1.out; unfold maxLen; omega)
      have hx3 : Hid ((n' + 1) * 8 ≤ 140737488355328) := hide (by have := hx1.out; omega)
      have OW2 : Hid ((wr.alloc (.cells #[.pointer (some ⟨b, 0, none⟩)] 80)).ownsRow W0.heap.size 80 1 (.slice ao n' cap) n' vs) := hide (own_touch OWN.out ((Touch.refl (fun _ => False) wr).alloc _) (fun _ _ h => h))
      have TZ := hide ((Touch.refl (fun _ => False) wr).alloc (.cells #[.pointer (some ⟨b, 0, none⟩)] 80))
      have BZ : Hid (W0.heap.size ≤ (wr.alloc (.cells #[.pointer (some ⟨b, 0, none⟩)] 80)).heap.size) := hide (Nat.le_trans HT.out.size TZ.out.size)
      have HNO := hide (hno hb)
      clear hno g1 g2 hb
      refine wpIn_wide.2 ?_
      go_wp2_with (at_builtin; refine wpList_append_sep _ rfl (.tmp 40) (.tmp 42) 107 rfl W0.heap.size 80 i1 (.pointer none) 1 8 Tryz.underlying107 hj hy0 hy1 hy2 rfl (by decide) _ n' vs rfl OW2.out ⟨wr.heap.size, 0, none⟩ 1 1 [.pointer (some ⟨b, 0, none⟩)] rfl rfl (new_cells1 wr _ _) (one_cells1 rfl) hx2.out hx3.out BZ.out (by omega) ?ny)
      case ny =>
        intro ao3 c3 w3 own3 t3 _
        have SL : Hid (Sly 80 W0.heap.size wr w3) := hide ((Touch.mono TZ.out (fun _ _ h => h.elim)).trans t3 (fun g' hg' hs => by
          obtain ⟨h1, cur, h2⟩ := own_block OWN.out hs
          exact ⟨h1, cur, _, h2⟩))
        obtain ⟨-, -, -, d3, d4⟩ := cells5 (SL.out.at HNO.out (by decide))
        have OW3 := hide own3
        clear own3 t3
        have NX : Hid (Tl S J W0 0 Y (M - 1) (.slice ao3 (n' + 1) c3) (.pointer p1) w3) := hide (by
          refine ⟨k, _, _, _, _, p1, L, (k1, v1) :: dir 0 R ++ A, rfl, rfl, G1.out, OW3.out, .push (s := 0) ⟨_, HB.out⟩ G2.out STK.out, ?_, HK.out, HJ.out _ _ _ HJK.out SL.out, HT.out.trans SL.out (fun g' _ hs => .inr hs.1), ?_⟩
          · rw [← HDR.out]; simp [dir]
          · have h1 := STK.out.len
            have h2 := OWN.out.1
            have h3 := HMU.out
            simp [dir] at h3 ⊢
            omega)
        have HMP : Hid (M - 1 < M) := hide (by
          have h1 := STK.out.len
          have h2 := OWN.out.1
          have h3 := HMU.out
          simp at h3
          omega)
        go_wp2_with fail
        go_roundw
        case rel => exact ⟨_, NX.out⟩
        case measure =>
          rw [hmm]
          exact Nat.lt_of_le_of_lt ((least_spec ⟨_, NX.out⟩).2 _ NX.out) HMP.out
    | nil =>
      rcases STK.out.inv with ⟨hvs, hA⟩ | ⟨b, k1, v1, p1, q1, F, A', vs', hvs, hA, hn, hf, stk'⟩
      · have h1 := OWN.out.1
        subst hvs hA
        have hn0 : n' = 0 := by simpa using h1.symm
        subst hn0
        have HKY : Hid (k = Y.length) := hide (by
          have h3 := HDR.out
          simp [dir] at h3
          have := HK.out
          omega)
        clear h1 hno hmm
        refine wpIn_wide.2 ?_
        go_wp2_with fail
        rw [Exit.noGoto_normal]
        go_end0
        exact ⟨⟨_, rfl⟩, .inl (by have h := HJK.out; rw [HKY.out] at h; exact h)⟩
      · have h1 := OWN.out.1
        subst hvs hA
        obtain ⟨m, rfl⟩ : ∃ m, n' = m + 1 := ⟨n' - 1, by simp at h1; omega⟩
        obtain ⟨g, rfl, hg, hcap, hmax, cg, own'⟩ := own_cut OWN.out
        have HST := hide stk'
        have HF := hide hf
        have OW' := hide own'
        have hkY : k < Y.length := by
          have h3 := congrArg List.length HDR.out
          simp [dir] at h3
          omega
        have h5 : (k1, v1) :: (dir 0 F ++ A') = Y.drop k := HDR.out
        rw [List.drop_eq_getElem_cons hkY] at h5
        injection h5 with h6 hrest
        have hYk : Y[k] = (k1, v1) := h6.symm
        obtain ⟨hwm, hm1, hm2⟩ := cut_facts hcap hmax
        have HRE := hide hrest
        have HKY := hide hkY
        have YL := HY.out k wr.drew (HJ.out _ _ _ HJK.out (.of_calm (Touch.refl (fun _ => False) wr).drew)) hkY
        rw [hYk] at YL
        obtain ⟨fn, tmps, assign, body, hy, hR⟩ := YL
        have HR := hide (hR.mono (R' := fun e W' => ∃ r : Bool, e = .returned (.bool r) ∧ Touch (Oth 80 S W0.heap.size wr.drew) wr.drew W' ∧ ((r = true ∧ J (k + 1) W') ∨ (r = false ∧ Jx (k + 1) W'))) (fun e W' h => by
          rcases h with ⟨h1, ⟨h2, h3⟩ | ⟨h2, h3⟩⟩
          · exact ⟨true, h2, h1, .inl ⟨rfl, h3⟩⟩
          · exact ⟨false, h2, h1, .inr ⟨rfl, h3⟩⟩))
        have HG := hide hg
        have HMM := hide hmm
        clear hR hmax hcap hg hmm
        obtain ⟨nb, hb⟩ := hn
        have HB := hide hb
        obtain ⟨c0, c1, -, c3, c4⟩ := cells5 (hno hb)
        clear h1 hno own' hf stk' hrest hkY hYk hb h6
        gi_wp2
        gi_region_with (refine ⟨fun h => (nomatch h), HR.out.mono ?_⟩; rintro e W3 ⟨r, rfl, t3, hr3⟩)
        all_goals
          have T3 : Hid (Touch (fun g => S g ∨ W0.heap.size ≤ g) W0 W3) := hide ((HT.out.drew).trans t3 (fun _ _ hs => hs.imp id fun h => h.1))
          have OW3 := hide (own_touch (OW'.out.touchD) t3 (fun g' hg' hs => by
            obtain ⟨h1, cur, h3⟩ := own_block OW'.out hg'
            rcases hs with hs | ⟨-, cs, t, fr, hc, ht⟩
            · have h2 := (HS.out g' hs).1
              omega
            · have hc' : wr.heap[g']? = some (.cells cs t fr) := hc
              rw [h3] at hc'
              injection hc' with hc'
              injection hc' with _ h4 _
              exact ht h4.symm))
          clear c0 c1 c3 c4 cg hy HR t3
          obtain ⟨-, -, -, d3, d4⟩ := cells5 (show W3.heap[b]? = _ from T3.out.heap HB.out (fun hs => by
            rcases hs with hs | hs
            · exact (HS.out b hs).2 _ _ HB.out
            · have := lt_of_heap HB.out; omega))
          rcases hr3 with ⟨rfl, hJ3⟩ | ⟨rfl, hJx3⟩
          · have NX : Hid (Tl S J W0 0 Y (M - 1) (.slice (some ⟨g, 0, none⟩) m cap) (.pointer q1) W3) := hide (by
              refine ⟨k + 1, _, _, _, vs', q1, F, A', rfl, rfl, HF.out, OW3.out, HST.out, HRE.out, HKY.out, hJ3, T3.out, ?_⟩
              have h3 := HMU.out
              have h4 := HST.out.len
              have h5 := OW'.out.1
              simp [dir] at h3 ⊢
              omega)
            have HMP : Hid (M - 1 < M) := hide (by
              have h3 := HMU.out
              have h4 := HST.out.len
              have h5 := OW'.out.1
              simp [dir] at h3
              omega)
            clear hJ3
            gi_wp2
            go_roundw
            case rel => exact ⟨_, NX.out⟩
            case measure =>
              rw [HMM.out]
              exact Nat.lt_of_le_of_lt ((least_spec ⟨_, NX.out⟩).2 _ NX.out) HMP.out
          · have HX := hide hJx3
            clear hJx3
            gi_wp2
            rw [Exit.noGoto_normal]
            go_end0
            exact ⟨⟨_, rfl⟩, .inr ⟨k + 1, HKY.out, HX.out⟩⟩

set_option maxRecDepth 100000 in
set_option maxHeartbeats 2000000 in
theorem tell1_inO (n l : Nat) (S : Nat → Prop) (J Jx : Nat → World → Prop) (W0 : World) (hS : ∀ k, S k → k < W0.heap.size ∧ ∀ cs fr, W0.heap[k]? ≠ some (.cells cs 85 fr)) (hJ : ∀ k W1 W2, J k W1 → Sly 80 W0.heap.size W1 W2 → J k W2) (Y : List (ByteArray × (Option Addr × Nat × Nat)))
    (hY : ∀ k W1, J k W1 → (hk : k < Y.length) → YieldAt Fence.wide (n - 1) Tryz.prog l #[.string Y[k].1, .slice Y[k].2.1 Y[k].2.2.1 Y[k].2.2.2] W1 fun e W' => Touch (Oth 80 S W0.heap.size W1) W1 W' ∧ ((e = .returned (.bool true) ∧ J (k + 1) W') ∨ (e = .returned (.bool false) ∧ Jx (k + 1) W')))
    (few : Few Y.length) (ao : Option Addr) (nn cap : Nat) (vs : List Value) (W1 : World) (own : W1.ownsRow W0.heap.size 80 1 (.slice ao nn cap) nn vs) (stk : Stk W0 1 vs Y) (hT : Calm W0 W1) (h0 : J 0 W1) :
    CallsIn Fence.wide n Tryz.prog 59 #[.slice ao nn cap, .int .i64 1, .func (.yield l) #[] #[]] W1 fun e W' => (∃ v, e = .returned v) ∧ (J Y.length W' ∨ ∃ k, k ≤ Y.length ∧ Jx k W') := by
  obtain ⟨i1, hj, hy0, hy1, hy2⟩ := info_parts2 infoPtr
  have HS := hide hS
  have HJ := hide hJ
  have HY := hide hY
  have FEW := hide few
  have ST : Hid (Tl S J W0 1 Y (2 * Y.length - nn) (.slice ao nn cap) (.pointer none) W1) := hide ⟨0, ao, nn, cap, vs, none, [], Y, rfl, rfl, .nil, own, stk, by simp [dir], Nat.zero_le _, h0, hT.mono (fun _ _ h => h.elim), by
    have h1 := stk.len
    have h2 := own.1
    simp; omega⟩
  clear hS hJ hY few own stk hT h0
  refine callsIn_of_wp Tryz.func59 rfl trivial ?_ rfl
  simp only [Tryz.ntmps59, List.size_toArray, List.length_cons, List.length_nil, Nat.reduceAdd, Nat.reduceSub, Array.replicate_succ, Array.replicate_zero, List.push_toArray, List.append_toArray, List.nil_append, List.cons_append]
  gi_wp2
  refine wpIn_scope_straight ?_
  gi_wp2
  refine wpIn_label ?_
  gi_wp2
  gi_loopw [0, 6] (fun i j wr => ∃ mu, Tl S J W0 1 Y mu i j wr) (fun i j wr => least (fun mu => Tl S J W0 1 Y mu i j wr))
  case atStart => exact ⟨_, ST.out⟩
  case round =>
    obtain ⟨hls, hlm⟩ := least_spec hrel
    obtain ⟨k, ao, n', cap, vs, o, Z, A, rfl, rfl, htl, own, stk, hdr, hk, hJ, ht, hmu⟩ := hls
    have HLM := hide hlm
    have HDR := hide hdr
    have HK := hide hk
    have HT := hide ht
    have HMU := hide hmu
    have OWN := hide own
    have STK := hide stk
    have HJK := hide hJ
    clear hlm hdr hk ht hmu own stk hJ ST hrel
    generalize hmm : least (fun mu => Tl S J W0 1 Y mu (.slice ao n' cap) (.pointer o) wr) = M at *
    have hno : ∀ {b : Nat} {cs : Array Value}, W0.heap[b]? = some (.cells cs 85 (0, 0)) → wr.heap[b]? = some (.cells cs 85 (0, 0)) := fun {b cs} h => HT.out.heap h (fun hs => by
      rcases hs with hs | hs
      · exact (HS.out b hs).2 _ _ h
      · have := lt_of_heap h; omega)
    cases htl with
    | @node b k1 v1 p1 q1 L R hb g1 g2 =>
      have G1 := hide g1
      have G2 := hide g2
      have HB := hide hb
      have hx1 : Hid (n' + 1 ≤ 8796093022208 + 1) := hide (by
        have h1 := STK.out.len
        have h2 := OWN.out.1
        have h3 := congrArg List.length HDR.out
        have h6 := FEW.out.le
        simp only [List.length_append, List.length_drop] at h3
        omega)
      have hx2 : Hid (n' + 1 ≤ maxLen) := hide (by have := hx1.out; unfold maxLen; omega)
      have hx3 : Hid ((n' + 1) * 8 ≤ 140737488355328) := hide (by have := hx1.out; omega)
      have OW2 : Hid ((wr.alloc (.cells #[.pointer (some ⟨b, 0, none⟩)] 80)).ownsRow W0.heap.size 80 1 (.slice ao n' cap) n' vs) := hide (own_touch OWN.out ((Touch.refl (fun _ => False) wr).alloc _) (fun _ _ h => h))
      have TZ := hide ((Touch.refl (fun _ => False) wr).alloc (.cells #[.pointer (some ⟨b, 0, none⟩)] 80))
      have BZ : Hid (W0.heap.size ≤ (wr.alloc (.cells #[.pointer (some ⟨b, 0, none⟩)] 80)).heap.size) := hide (Nat.le_trans HT.out.size TZ.out.size)
      have HNO := hide (hno hb)
      clear hno g1 g2 hb
      refine wpIn_wide.2 ?_
      go_wp2_with (at_builtin; refine wpList_append_sep _ rfl (.tmp 40) (.tmp 42) 107 rfl W0.heap.size 80 i1 (.pointer none) 1 8 Tryz.underlying107 hj hy0 hy1 hy2 rfl (by decide) _ n' vs rfl OW2.out ⟨wr.heap.size, 0, none⟩ 1 1 [.pointer (some ⟨b, 0, none⟩)] rfl rfl (new_cells1 wr _ _) (one_cells1 rfl) hx2.out hx3.out BZ.out (by omega) ?ny)
      case ny =>
        intro ao3 c3 w3 own3 t3 _
        have SL : Hid (Sly 80 W0.heap.size wr w3) := hide ((Touch.mono TZ.out (fun _ _ h => h.elim)).trans t3 (fun g' hg' hs => by
          obtain ⟨h1, cur, h2⟩ := own_block OWN.out hs
          exact ⟨h1, cur, _, h2⟩))
        obtain ⟨-, -, -, d3, d4⟩ := cells5 (SL.out.at HNO.out (by decide))
        have OW3 := hide own3
        clear own3 t3
        have NX : Hid (Tl S J W0 1 Y (M - 1) (.slice ao3 (n' + 1) c3) (.pointer q1) w3) := hide (by
          refine ⟨k, _, _, _, _, q1, R, (k1, v1) :: dir 1 L ++ A, rfl, rfl, G2.out, OW3.out, .push (s := 1) ⟨_, HB.out⟩ G1.out STK.out, ?_, HK.out, HJ.out _ _ _ HJK.out SL.out, HT.out.trans SL.out (fun g' _ hs => .inr hs.1), ?_⟩
          · rw [← HDR.out]; simp [dir]
          · have h1 := STK.out.len
            have h2 := OWN.out.1
            have h3 := HMU.out
            simp [dir] at h3 ⊢
            omega)
        have HMP : Hid (M - 1 < M) := hide (by
          have h1 := STK.out.len
          have h2 := OWN.out.1
          have h3 := HMU.out
          simp at h3
          omega)
        go_wp2_with fail
        go_roundw
        case rel => exact ⟨_, NX.out⟩
        case measure =>
          rw [hmm]
          exact Nat.lt_of_le_of_lt ((least_spec ⟨_, NX.out⟩).2 _ NX.out) HMP.out
    | nil =>
      rcases STK.out.inv with ⟨hvs, hA⟩ | ⟨b, k1, v1, p1, q1, F, A', vs', hvs, hA, hn, hf, stk'⟩
      · have h1 := OWN.out.1
        subst hvs hA
        have hn0 : n' = 0 := by simpa using h1.symm
        subst hn0
        have HKY : Hid (k = Y.length) := hide (by
          have h3 := HDR.out
          simp [dir] at h3
          have := HK.out
          omega)
        clear h1 hno hmm
        refine wpIn_wide.2 ?_
        go_wp2_with fail
        rw [Exit.noGoto_normal]
        go_end0
        exact ⟨⟨_, rfl⟩, .inl (by have h := HJK.out; rw [HKY.out] at h; exact h)⟩
      · have h1 := OWN.out.1
        subst hvs hA
        obtain ⟨m, rfl⟩ : ∃ m, n' = m + 1 := ⟨n' - 1, by simp at h1; omega⟩
        obtain ⟨g, rfl, hg, hcap, hmax, cg, own'⟩ := own_cut OWN.out
        have HST := hide stk'
        have HF := hide hf
        have OW' := hide own'
        have hkY : k < Y.length := by
          have h3 := congrArg List.length HDR.out
          simp [dir] at h3
          omega
        have h5 : (k1, v1) :: (dir 1 F ++ A') = Y.drop k := HDR.out
        rw [List.drop_eq_getElem_cons hkY] at h5
        injection h5 with h6 hrest
        have hYk : Y[k] = (k1, v1) := h6.symm
        obtain ⟨hwm, hm1, hm2⟩ := cut_facts hcap hmax
        have HRE := hide hrest
        have HKY := hide hkY
        have YL := HY.out k wr.drew (HJ.out _ _ _ HJK.out (.of_calm (Touch.refl (fun _ => False) wr).drew)) hkY
        rw [hYk] at YL
        obtain ⟨fn, tmps, assign, body, hy, hR⟩ := YL
        have HR := hide (hR.mono (R' := fun e W' => ∃ r : Bool, e = .returned (.bool r) ∧ Touch (Oth 80 S W0.heap.size wr.drew) wr.drew W' ∧ ((r = true ∧ J (k + 1) W') ∨ (r = false ∧ Jx (k + 1) W'))) (fun e W' h => by
          rcases h with ⟨h1, ⟨h2, h3⟩ | ⟨h2, h3⟩⟩
          · exact ⟨true, h2, h1, .inl ⟨rfl, h3⟩⟩
          · exact ⟨false, h2, h1, .inr ⟨rfl, h3⟩⟩))
        have HG := hide hg
        have HMM := hide hmm
        clear hR hmax hcap hg hmm
        obtain ⟨nb, hb⟩ := hn
        have HB := hide hb
        obtain ⟨c0, c1, -, c3, c4⟩ := cells5 (hno hb)
        clear h1 hno own' hf stk' hrest hkY hYk hb h6
        gi_wp2
        gi_region_with (refine ⟨fun h => (nomatch h), HR.out.mono ?_⟩; rintro e W3 ⟨r, rfl, t3, hr3⟩)
        all_goals
          have T3 : Hid (Touch (fun g => S g ∨ W0.heap.size ≤ g) W0 W3) := hide ((HT.out.drew).trans t3 (fun _ _ hs => hs.imp id fun h => h.1))
          have OW3 := hide (own_touch (OW'.out.touchD) t3 (fun g' hg' hs => by
            obtain ⟨h1, cur, h3⟩ := own_block OW'.out hg'
            rcases hs with hs | ⟨-, cs, t, fr, hc, ht⟩
            · have h2 := (HS.out g' hs).1
              omega
            · have hc' : wr.heap[g']? = some (.cells cs t fr) := hc
              rw [h3] at hc'
              injection hc' with hc'
              injection hc' with _ h4 _
              exact ht h4.symm))
          clear c0 c1 c3 c4 cg hy HR t3
          obtain ⟨-, -, -, d3, d4⟩ := cells5 (show W3.heap[b]? = _ from T3.out.heap HB.out (fun hs => by
            rcases hs with hs | hs
            · exact (HS.out b hs).2 _ _ HB.out
            · have := lt_of_heap HB.out; omega))
          rcases hr3 with ⟨rfl, hJ3⟩ | ⟨rfl, hJx3⟩
          · have NX : Hid (Tl S J W0 1 Y (M - 1) (.slice (some ⟨g, 0, none⟩) m cap) (.pointer p1) W3) := hide (by
              refine ⟨k + 1, _, _, _, vs', p1, F, A', rfl, rfl, HF.out, OW3.out, HST.out, HRE.out, HKY.out, hJ3, T3.out, ?_⟩
              have h3 := HMU.out
              have h4 := HST.out.len
              have h5 := OW'.out.1
              simp [dir] at h3 ⊢
              omega)
            have HMP : Hid (M - 1 < M) := hide (by
              have h3 := HMU.out
              have h4 := HST.out.len
              have h5 := OW'.out.1
              simp [dir] at h3
              omega)
            clear hJ3
            gi_wp2
            go_roundw
            case rel => exact ⟨_, NX.out⟩
            case measure =>
              rw [HMM.out]
              exact Nat.lt_of_le_of_lt ((least_spec ⟨_, NX.out⟩).2 _ NX.out) HMP.out
          · have HX := hide hJx3
            clear hJx3
            gi_wp2
            rw [Exit.noGoto_normal]
            go_end0
            exact ⟨⟨_, rfl⟩, .inr ⟨k + 1, HKY.out, HX.out⟩⟩

end Go.Proofs.YtamfcmmhmfhhkaaGreatDoor.LM
