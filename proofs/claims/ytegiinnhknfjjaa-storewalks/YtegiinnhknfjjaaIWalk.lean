/- The program's All, From, Back: functions that tell what a map holds. -/
import Derived.Test.YtegiinnhknfjjaaITell
namespace Go.Proofs.Ytegiinnhknfjjaa.IM
open Go.RowKit

/-- The kinds of walks. -/
inductive Kd where
  | all
  | fwd (k : Int)
  | back (k : Int)

def Kd.sd : Kd → Nat
  | .all => 0
  | .fwd _ => 0
  | .back _ => 1

def Kd.g (c : Int → Int → Int) : Kd → Int → Bool
  | .all, _ => true
  | .fwd key, k => decide (c key k ≤ 0)
  | .back key, k => decide (0 ≤ c key k)

/-- What it tells. -/
def Kd.list (c : Int → Int → Int) (kd : Kd) (X : List (Int × Int)) : List (Int × Int) := (dir kd.sd X).filter fun a => kd.g c a.1

/-- The function that tells whether a key is within, and what it holds. -/
def Kd.fn : Kd → Nat
  | .all => 47
  | .fwd _ => 48
  | .back _ => 49

def Kd.held (w : World) (mp : Option Addr) (lb : Array Value) : Kd → Prop
  | .all => lb = #[]
  | .fwd key => ∃ C1 C2, lb = #[.pointer (some ⟨C1, 0, none⟩), .pointer (some ⟨C2, 0, none⟩)] ∧ w.heap[C1]? = some (.cells #[.pointer mp] 23 (0, 0)) ∧ w.heap[C2]? = some (.cells #[.int .i64 key] 3 (0, 0))
  | .back key => ∃ C1 C2, lb = #[.pointer (some ⟨C1, 0, none⟩), .pointer (some ⟨C2, 0, none⟩)] ∧ w.heap[C1]? = some (.cells #[.pointer mp] 23 (0, 0)) ∧ w.heap[C2]? = some (.cells #[.int .i64 key] 3 (0, 0))

theorem Kd.held_calm {w w' : World} {mp : Option Addr} {lb : Array Value} {kd : Kd} (h : kd.held w mp lb) (ht : Calm w w') : kd.held w' mp lb := by
  cases kd with
  | all => exact h
  | fwd k => obtain ⟨C1, C2, e, h1, h2⟩ := h; exact ⟨C1, C2, e, ht.at h1, ht.at h2⟩
  | back k => obtain ⟨C1, C2, e, h1, h2⟩ := h; exact ⟨C1, C2, e, ht.at h1, ht.at h2⟩

set_option maxRecDepth 100000 in
theorem all1_any (a : Int) (w : World) : Calls Try.prog 47 #[.int .i64 a] w fun e w' => e = .returned (.bool true) ∧ Calm w w' := by
  have T := hide (Touch.refl (fun _ => False) w)
  go_enter Try.func47, Try.ntmps47
  go_wp2_with fail
  go_ret
  exact ⟨rfl, T.out⟩

set_option maxRecDepth 100000 in
set_option maxHeartbeats 1000000 in
theorem from1_any {f : Nat} {lb : Array Value} {c : Int → Int → Int} {Y : World → Prop} (hC : Cmp f lb c Y) (m C1 C2 : Nat) (ro : Option Addr) (key k : Int) (w : World) (hY : Y w) (hm : Mp w m f lb ro)
    (h1 : w.heap[C1]? = some (.cells #[.pointer (some ⟨m, 0, none⟩)] 23 (0, 0))) (h2 : w.heap[C2]? = some (.cells #[.int .i64 key] 3 (0, 0))) :
    Calls Try.prog 48 #[.int .i64 k, .pointer (some ⟨C1, 0, none⟩), .pointer (some ⟨C2, 0, none⟩)] w fun e w' => e = .returned (.bool (decide (c key k ≤ 0))) ∧ Calm w w' := by
  have HM := hide hm
  have H1 := hide h1
  have H2 := hide h2
  have HC := hide hC
  have CA := hide (fun W (h : Calm w W) => hC.calls key k W (hC.calm _ _ hY h))
  clear hm h1 h2 hC hY
  generalize c key k = cz at *
  go_enter Try.func48, Try.ntmps48
  go_wp2_with fail
  refine wp_region_held (S := Calm w) (by kernel_rfl) ?_
  have hT0 : Calm w { w with drawn := w.drawn + 1 } := (Touch.refl (fun _ => False) w).drew
  refine wpAnyH_yield 0 5 (.pointer (some ⟨m, 0, none⟩)) rfl rfl (by kernel_rfl) (by kernel_rfl) (by kernel_rfl) (fun _ _ _ h => h) (by kernel_rfl) (fun W hW => by have c0 := (one_cell (hW.at H1.out)).1; go_simp) (by assumption) rfl rfl ?_
  simp only [Act.put, List.setIfInBounds_toArray, List.set_cons_zero, List.set_cons_succ]
  refine wpAnyH_yield 1 6 (.pointer (some ⟨m, 0, none⟩)) rfl rfl (by kernel_rfl) (by kernel_rfl) (by kernel_rfl) (fun _ _ _ h => h) (by kernel_rfl) (fun W hW => by kernel_rfl) (by assumption) rfl rfl ?_
  simp only [Act.put, List.setIfInBounds_toArray, List.set_cons_zero, List.set_cons_succ]
  refine wpAnyH_yield 2 7 (.pointer (some ⟨m, 0, none⟩)) rfl rfl (by kernel_rfl) (by kernel_rfl) (by kernel_rfl) (fun _ _ _ h => h) (by kernel_rfl) (fun W hW => by go_simp) (by assumption) rfl rfl ?_
  simp only [Act.put, List.setIfInBounds_toArray, List.set_cons_zero, List.set_cons_succ]
  refine wpAnyH_yield 3 8 (.func (.func f) #[] lb) rfl rfl (by kernel_rfl) (by kernel_rfl) (by kernel_rfl) (fun _ _ _ h => h) (by kernel_rfl) (fun W hW => by obtain ⟨c0, c1⟩ := cells2 (hW.at HM.out); go_simp) (by assumption) rfl rfl ?_
  simp only [Act.put, List.setIfInBounds_toArray, List.set_cons_zero, List.set_cons_succ]
  refine wpAnyH_yield 4 9 (.int .i64 key) rfl rfl (by kernel_rfl) (by kernel_rfl) (by kernel_rfl) (fun _ _ _ h => h) (by kernel_rfl) (fun W hW => by have c0 := (one_cell (hW.at H2.out)).1; go_simp) (by assumption) rfl rfl ?_
  simp only [Act.put, List.setIfInBounds_toArray, List.set_cons_zero, List.set_cons_succ]
  refine wpAnyH_yield 5 10 (.int .i64 k) rfl rfl (by kernel_rfl) (by kernel_rfl) (by kernel_rfl) (fun _ _ _ h => h) (by kernel_rfl) (fun W hW => by kernel_rfl) (by assumption) rfl rfl ?_
  simp only [Act.put, List.setIfInBounds_toArray, List.set_cons_zero, List.set_cons_succ]
  refine wpAnyH_enter 6 11 f (#[.int .i64 key, .int .i64 k] ++ lb) rfl rfl (by kernel_rfl) (by kernel_rfl) (by have e := HC.out.enter; go_simp) ?_
  refine (CA.out _ hT0).mono ?_
  rintro r _ ⟨rfl, rfl⟩
  refine ⟨_, rfl, hT0, ?_⟩
  simp only [Act.put, List.setIfInBounds_toArray, List.set_cons_zero, List.set_cons_succ]
  refine wpAnyH_yield 7 12 (.bool (decide (cz ≤ 0))) rfl rfl (by kernel_rfl) (by kernel_rfl) (by kernel_rfl) (fun _ _ _ h => h) (by kernel_rfl) (fun W hW => by go_simp) (by assumption) rfl rfl ?_
  simp only [Act.put, List.setIfInBounds_toArray, List.set_cons_zero, List.set_cons_succ]
  refine wpAnyH_yield 8 4 (.bool (decide (cz ≤ 0))) rfl rfl (by kernel_rfl) (by kernel_rfl) (by kernel_rfl) (fun _ _ _ h => h) (by kernel_rfl) (fun W hW => by kernel_rfl) (by assumption) rfl rfl ?_
  simp only [Act.put, List.setIfInBounds_toArray, List.set_cons_zero, List.set_cons_succ]
  refine wpAnyH_done (by kernel_rfl) ?_ _
  generalize ({ w with drawn := w.drawn + 1 } : World) = w2 at *
  go_wp2_with fail
  go_ret
  exact ⟨rfl, hT0⟩

set_option maxRecDepth 100000 in
set_option maxHeartbeats 1000000 in
theorem back1_any {f : Nat} {lb : Array Value} {c : Int → Int → Int} {Y : World → Prop} (hC : Cmp f lb c Y) (m C1 C2 : Nat) (ro : Option Addr) (key k : Int) (w : World) (hY : Y w) (hm : Mp w m f lb ro)
    (h1 : w.heap[C1]? = some (.cells #[.pointer (some ⟨m, 0, none⟩)] 23 (0, 0))) (h2 : w.heap[C2]? = some (.cells #[.int .i64 key] 3 (0, 0))) :
    Calls Try.prog 49 #[.int .i64 k, .pointer (some ⟨C1, 0, none⟩), .pointer (some ⟨C2, 0, none⟩)] w fun e w' => e = .returned (.bool (decide (0 ≤ c key k))) ∧ Calm w w' := by
  have HM := hide hm
  have H1 := hide h1
  have H2 := hide h2
  have HC := hide hC
  have CA := hide (fun W (h : Calm w W) => hC.calls key k W (hC.calm _ _ hY h))
  clear hm h1 h2 hC hY
  generalize c key k = cz at *
  go_enter Try.func49, Try.ntmps49
  go_wp2_with fail
  refine wp_region_held (S := Calm w) (by kernel_rfl) ?_
  have hT0 : Calm w { w with drawn := w.drawn + 1 } := (Touch.refl (fun _ => False) w).drew
  refine wpAnyH_yield 0 5 (.pointer (some ⟨m, 0, none⟩)) rfl rfl (by kernel_rfl) (by kernel_rfl) (by kernel_rfl) (fun _ _ _ h => h) (by kernel_rfl) (fun W hW => by have c0 := (one_cell (hW.at H1.out)).1; go_simp) (by assumption) rfl rfl ?_
  simp only [Act.put, List.setIfInBounds_toArray, List.set_cons_zero, List.set_cons_succ]
  refine wpAnyH_yield 1 6 (.pointer (some ⟨m, 0, none⟩)) rfl rfl (by kernel_rfl) (by kernel_rfl) (by kernel_rfl) (fun _ _ _ h => h) (by kernel_rfl) (fun W hW => by kernel_rfl) (by assumption) rfl rfl ?_
  simp only [Act.put, List.setIfInBounds_toArray, List.set_cons_zero, List.set_cons_succ]
  refine wpAnyH_yield 2 7 (.pointer (some ⟨m, 0, none⟩)) rfl rfl (by kernel_rfl) (by kernel_rfl) (by kernel_rfl) (fun _ _ _ h => h) (by kernel_rfl) (fun W hW => by go_simp) (by assumption) rfl rfl ?_
  simp only [Act.put, List.setIfInBounds_toArray, List.set_cons_zero, List.set_cons_succ]
  refine wpAnyH_yield 3 8 (.func (.func f) #[] lb) rfl rfl (by kernel_rfl) (by kernel_rfl) (by kernel_rfl) (fun _ _ _ h => h) (by kernel_rfl) (fun W hW => by obtain ⟨c0, c1⟩ := cells2 (hW.at HM.out); go_simp) (by assumption) rfl rfl ?_
  simp only [Act.put, List.setIfInBounds_toArray, List.set_cons_zero, List.set_cons_succ]
  refine wpAnyH_yield 4 9 (.int .i64 key) rfl rfl (by kernel_rfl) (by kernel_rfl) (by kernel_rfl) (fun _ _ _ h => h) (by kernel_rfl) (fun W hW => by have c0 := (one_cell (hW.at H2.out)).1; go_simp) (by assumption) rfl rfl ?_
  simp only [Act.put, List.setIfInBounds_toArray, List.set_cons_zero, List.set_cons_succ]
  refine wpAnyH_yield 5 10 (.int .i64 k) rfl rfl (by kernel_rfl) (by kernel_rfl) (by kernel_rfl) (fun _ _ _ h => h) (by kernel_rfl) (fun W hW => by kernel_rfl) (by assumption) rfl rfl ?_
  simp only [Act.put, List.setIfInBounds_toArray, List.set_cons_zero, List.set_cons_succ]
  refine wpAnyH_enter 6 11 f (#[.int .i64 key, .int .i64 k] ++ lb) rfl rfl (by kernel_rfl) (by kernel_rfl) (by have e := HC.out.enter; go_simp) ?_
  refine (CA.out _ hT0).mono ?_
  rintro r _ ⟨rfl, rfl⟩
  refine ⟨_, rfl, hT0, ?_⟩
  simp only [Act.put, List.setIfInBounds_toArray, List.set_cons_zero, List.set_cons_succ]
  refine wpAnyH_yield 7 12 (.bool (decide (0 ≤ cz))) rfl rfl (by kernel_rfl) (by kernel_rfl) (by kernel_rfl) (fun _ _ _ h => h) (by kernel_rfl) (fun W hW => by go_simp) (by assumption) rfl rfl ?_
  simp only [Act.put, List.setIfInBounds_toArray, List.set_cons_zero, List.set_cons_succ]
  refine wpAnyH_yield 8 4 (.bool (decide (0 ≤ cz))) rfl rfl (by kernel_rfl) (by kernel_rfl) (by kernel_rfl) (fun _ _ _ h => h) (by kernel_rfl) (fun W hW => by kernel_rfl) (by assumption) rfl rfl ?_
  simp only [Act.put, List.setIfInBounds_toArray, List.set_cons_zero, List.set_cons_succ]
  refine wpAnyH_done (by kernel_rfl) ?_ _
  generalize ({ w with drawn := w.drawn + 1 } : World) = w2 at *
  go_wp2_with fail
  go_ret
  exact ⟨rfl, hT0⟩

theorem Kd.wi {f : Nat} {lb : Array Value} {c : Int → Int → Int} {Y : World → Prop} (hC : Cmp f lb c Y) (m : Nat) (kd : Kd) (lb2 : Array Value) : Wi kd.fn lb2 (kd.g c) (fun W => kd.held W (some ⟨m, 0, none⟩) lb2 ∧ Y W ∧ ∃ ro, Mp W m f lb ro) where
  enter := by
    intro args w
    cases kd <;> simp only [Kd.fn] <;> kernel_rfl
  calls := by
    rintro a w ⟨h, hY, ro, hm⟩
    cases kd with
    | all =>
      obtain rfl : lb2 = #[] := h
      exact all1_any a w
    | fwd key =>
      obtain ⟨C1, C2, rfl, h1, h2⟩ := h
      exact from1_any hC m C1 C2 ro key a w hY hm h1 h2
    | back key =>
      obtain ⟨C1, C2, rfl, h1, h2⟩ := h
      exact back1_any hC m C1 C2 ro key a w hY hm h1 h2
  calm := by
    rintro w w' ⟨h, hY, ro, hm⟩ ht
    exact ⟨Kd.held_calm h ht, hC.calm _ _ hY ht, ro, ht.at hm⟩

end Go.Proofs.Ytegiinnhknfjjaa.IM
