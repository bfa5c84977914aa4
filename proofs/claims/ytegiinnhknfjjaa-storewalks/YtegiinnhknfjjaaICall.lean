/- The program's All, From, Back, Copy, New, Of: the calls. -/
import Derived.Test.YtegiinnhknfjjaaIWalk2
import Derived.Test.YtegiinnhknfjjaaIAt
namespace Go.Proofs.Ytegiinnhknfjjaa.IM
open Go.RowKit

set_option maxRecDepth 100000 in
theorem all_any (mp : Option Addr) (w : World) : Calls Try.prog 15 #[.pointer mp] w fun e w' => ∃ fv, e = .returned fv ∧ Wl w' fv mp .all ∧ Calm w w' := by
  have WA := hide (walk_any mp .all #[] w rfl)
  go_enter Try.func15, Try.ntmps15
  go_wp2_with fail
  refine WA.out.mono ?_
  rintro e w2 ⟨fv, rfl, h2, t2⟩
  have H2 := hide h2
  have T2 := hide t2
  clear h2 t2
  go_wp2_with fail
  go_ret
  exact ⟨fv, rfl, H2.out, T2.out⟩

set_option maxRecDepth 100000 in
theorem from_any (mp : Option Addr) (key : Int) (w : World) : Calls Try.prog 16 #[.pointer mp, .int .i64 key] w fun e w' => ∃ fv, e = .returned fv ∧ Wl w' fv mp (.fwd key) ∧ Calm w w' := by
  have T1 := hide (((Touch.refl (fun _ => False) w).alloc (.cells #[.pointer mp] 23)).alloc (.cells #[.int .i64 key] 3))
  have WA := hide (walk_any mp (.fwd key) #[.pointer (some ⟨w.heap.size, 0, none⟩), .pointer (some ⟨w.heap.size + 1, 0, none⟩)] ((w.alloc (.cells #[.pointer mp] 23)).alloc (.cells #[.int .i64 key] 3)) ⟨w.heap.size, w.heap.size + 1, rfl, (Below.heap_alloc _ _ _ (by simp)).trans (heap_alloc_last w _), by
    have := heap_alloc_last (w.alloc (.cells #[.pointer mp] 23)) (.cells #[.int .i64 key] 3)
    simpa using this⟩)
  go_enter Try.func16, Try.ntmps16
  go_wp2_with fail
  refine WA.out.mono ?_
  rintro e w2 ⟨fv, rfl, h2, t2⟩
  have H2 := hide h2
  have T2 := hide t2
  clear h2 t2
  go_wp2_with fail
  go_ret
  exact ⟨fv, rfl, H2.out, T1.out.tr T2.out⟩

set_option maxRecDepth 100000 in
theorem back_any (mp : Option Addr) (key : Int) (w : World) : Calls Try.prog 17 #[.pointer mp, .int .i64 key] w fun e w' => ∃ fv, e = .returned fv ∧ Wl w' fv mp (.back key) ∧ Calm w w' := by
  have T1 := hide (((Touch.refl (fun _ => False) w).alloc (.cells #[.pointer mp] 23)).alloc (.cells #[.int .i64 key] 3))
  have WA := hide (walk_any mp (.back key) #[.pointer (some ⟨w.heap.size, 0, none⟩), .pointer (some ⟨w.heap.size + 1, 0, none⟩)] ((w.alloc (.cells #[.pointer mp] 23)).alloc (.cells #[.int .i64 key] 3)) ⟨w.heap.size, w.heap.size + 1, rfl, (Below.heap_alloc _ _ _ (by simp)).trans (heap_alloc_last w _), by
    have := heap_alloc_last (w.alloc (.cells #[.pointer mp] 23)) (.cells #[.int .i64 key] 3)
    simpa using this⟩)
  go_enter Try.func17, Try.ntmps17
  go_wp2_with fail
  refine WA.out.mono ?_
  rintro e w2 ⟨fv, rfl, h2, t2⟩
  have H2 := hide h2
  have T2 := hide t2
  clear h2 t2
  go_wp2_with fail
  go_ret
  exact ⟨fv, rfl, H2.out, T1.out.tr T2.out⟩

set_option maxRecDepth 100000 in
set_option maxHeartbeats 1000000 in
theorem copy_any (f : Nat) (lb : Array Value) (m : Nat) (w : World) (X : List (Int × Int)) (h : Mt w m f lb X) :
    Calls Try.prog 7 #[.pointer (some ⟨m, 0, none⟩)] w fun e w' => ∃ m', e = .returned (.pointer (some ⟨m', 0, none⟩)) ∧ Mt w' m' f lb X ∧ w.heap.size ≤ m' ∧ Calm w w' := by
  obtain ⟨ro, h1, h2⟩ := h
  have TH := hide (there_any w m f lb ro h1)
  have HM := hide h1
  have H2 := hide h2
  clear h1 h2
  go_enter Try.func7, Try.ntmps7
  go_wp2_with fail
  refine TH.out.mono ?_
  rintro e w' ⟨rfl, hq⟩
  obtain rfl := hq.symm
  clear hq TH
  go_wp2_with fail
  refine wp_region_held (S := Calm w) (by kernel_rfl) ?_
  have hT0 : Calm w { w with drawn := w.drawn + 1 } := (Touch.refl (fun _ => False) w).drew
  refine wpAnyH_yield 0 6 (.pointer (some ⟨m, 0, none⟩)) rfl rfl (by kernel_rfl) (by kernel_rfl) (by kernel_rfl) (fun _ _ _ h => h) (by kernel_rfl) (fun W hW => by kernel_rfl) (by assumption) rfl rfl ?_
  simp only [Act.put, List.setIfInBounds_toArray, List.set_cons_zero, List.set_cons_succ]
  refine wpAnyH_yield 1 7 (.pointer (some ⟨m, 0, none⟩)) rfl rfl (by kernel_rfl) (by kernel_rfl) (by kernel_rfl) (fun _ _ _ h => h) (by kernel_rfl) (fun W hW => by kernel_rfl) (by assumption) rfl rfl ?_
  simp only [Act.put, List.setIfInBounds_toArray, List.set_cons_zero, List.set_cons_succ]
  refine wpAnyH_yield 2 8 (.pointer (some ⟨m, 0, none⟩)) rfl rfl (by kernel_rfl) (by kernel_rfl) (by kernel_rfl) (fun _ _ _ h => h) (by kernel_rfl) (fun W hW => by go_simp) (by assumption) rfl rfl ?_
  simp only [Act.put, List.setIfInBounds_toArray, List.set_cons_zero, List.set_cons_succ]
  refine wpAnyH_yield 3 9 (.func (.func f) #[] lb) rfl rfl (by kernel_rfl) (by kernel_rfl) (by kernel_rfl) (fun _ _ _ h => h) (by kernel_rfl) (fun W hW => by obtain ⟨c0, c1⟩ := cells2 (hW.at HM.out); go_simp) (by assumption) rfl rfl ?_
  simp only [Act.put, List.setIfInBounds_toArray, List.set_cons_zero, List.set_cons_succ]
  refine wpAnyH_yield 4 10 (.pointer (some ⟨m, 0, none⟩)) rfl rfl (by kernel_rfl) (by kernel_rfl) (by kernel_rfl) (fun _ _ _ h => h) (by kernel_rfl) (fun W hW => by kernel_rfl) (by assumption) rfl rfl ?_
  simp only [Act.put, List.setIfInBounds_toArray, List.set_cons_zero, List.set_cons_succ]
  refine wpAnyH_yield 5 11 (.pointer (some ⟨m, 0, none⟩)) rfl rfl (by kernel_rfl) (by kernel_rfl) (by kernel_rfl) (fun _ _ _ h => h) (by kernel_rfl) (fun W hW => by kernel_rfl) (by assumption) rfl rfl ?_
  simp only [Act.put, List.setIfInBounds_toArray, List.set_cons_zero, List.set_cons_succ]
  refine wpAnyH_yield 6 12 (.pointer (some ⟨m, 1, none⟩)) rfl rfl (by kernel_rfl) (by kernel_rfl) (by kernel_rfl) (fun _ _ _ h => h) (by kernel_rfl) (fun W hW => by go_simp) (by assumption) rfl rfl ?_
  simp only [Act.put, List.setIfInBounds_toArray, List.set_cons_zero, List.set_cons_succ]
  refine wpAnyH_yield 7 13 (.pointer ro) rfl rfl (by kernel_rfl) (by kernel_rfl) (by kernel_rfl) (fun _ _ _ h => h) (by kernel_rfl) (fun W hW => by obtain ⟨c0, c1⟩ := cells2 (hW.at HM.out); go_simp) (by assumption) rfl rfl ?_
  simp only [Act.put, List.setIfInBounds_toArray, List.set_cons_zero, List.set_cons_succ]
  refine wpAnyH_yield 8 14 (.agg #[.func (.func f) #[] lb, .pointer ro]) rfl rfl (by kernel_rfl) (by kernel_rfl) (by kernel_rfl) (fun _ _ _ h => h) (by kernel_rfl) (fun W hW => by go_simp) (by assumption) rfl rfl ?_
  simp only [Act.put, List.setIfInBounds_toArray, List.set_cons_zero, List.set_cons_succ]
  refine wpAnyH_value 9 15 (.pointer (some ⟨w.heap.size, 0, none⟩)) (w' := w.drew.alloc (.cells #[.func (.func f) #[] lb, .pointer ro] 41)) rfl rfl (by kernel_rfl) (by kernel_rfl) (by go_simp) (((Touch.refl (fun _ => False) w).drew).alloc _) ?_
  simp only [Act.put, List.setIfInBounds_toArray, List.set_cons_zero, List.set_cons_succ]
  have hT2 : Calm w (w.drew.alloc (.cells #[.func (.func f) #[] lb, .pointer ro] 41)) := ((Touch.refl (fun _ => False) w).drew).alloc _
  have hN2 : (w.drew.alloc (.cells #[.func (.func f) #[] lb, .pointer ro] 41)).heap[w.heap.size]? = some (.cells #[.func (.func f) #[] lb, .pointer ro] 41 (0, 0)) := heap_alloc_last w.drew _
  generalize w.drew.alloc (.cells #[.func (.func f) #[] lb, .pointer ro] 41) = w2 at *
  refine wpAnyH_yield 10 2 (.pointer (some ⟨w.heap.size, 0, none⟩)) rfl rfl (by kernel_rfl) (by kernel_rfl) (by kernel_rfl) (fun _ _ _ h => h) (by kernel_rfl) (fun W hW => by kernel_rfl) (by assumption) rfl rfl ?_
  simp only [Act.put, List.setIfInBounds_toArray, List.set_cons_zero, List.set_cons_succ]
  refine wpAnyH_done (by kernel_rfl) ?_ _
  clear hT0
  go_wp2_with fail
  go_ret
  exact ⟨_, rfl, ⟨ro, hN2, H2.out.calm hT2⟩, Nat.le_refl _, hT2⟩

set_option maxRecDepth 100000 in
theorem new_any (f : Nat) (lb : Array Value) (w : World) : Calls Try.prog 30 #[.func (.func f) #[] lb] w fun e w' => ∃ m', e = .returned (.tuple #[.pointer (some ⟨m', 0, none⟩), .int .i64 0]) ∧ Mt w' m' f lb [] ∧ w.heap.size ≤ m' ∧ Calm w w' := by
  have T := hide ((Touch.refl (fun _ => False) w).alloc (.cells #[.func (.func f) #[] lb, .pointer none] 41))
  have hx := fn_eql (.func f) lb w
  go_enter Try.func30, Try.ntmps30
  go_wp2_with fail
  go_ret2
  exact ⟨_, rfl, ⟨none, heap_alloc_last w _, .nil⟩, Nat.le_refl _, T.out⟩

set_option maxRecDepth 100000 in
theorem new_nil (w : World) : Calls Try.prog 30 #[.nilFunc] w fun e w' => e = .returned (.tuple #[.pointer none, .int .i64 1]) ∧ w' = w := by
  have hx := nil_eql w
  go_enter Try.func30, Try.ntmps30
  go_wp2_with fail
  go_ret2
  exact ⟨rfl, rfl⟩

set_option maxRecDepth 100000 in
theorem of_any (w : World) : Calls Try.prog 44 #[] w fun e w' => ∃ m', e = .returned (.pointer (some ⟨m', 0, none⟩)) ∧ Mt w' m' 58 #[] [] ∧ w.heap.size ≤ m' ∧ Calm w w' := by
  have T := hide ((Touch.refl (fun _ => False) w).alloc (.cells #[.func (.func 58) #[] #[], .pointer none] 41))
  go_enter Try.func44, Try.ntmps44
  go_wp2_with fail
  go_ret
  exact ⟨_, rfl, ⟨none, heap_alloc_last w _, .nil⟩, Nat.le_refl _, T.out⟩

end Go.Proofs.Ytegiinnhknfjjaa.IM
