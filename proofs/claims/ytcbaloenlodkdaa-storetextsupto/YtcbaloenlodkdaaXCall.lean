/- The program's All, From, Back, Copy, New, Of: the calls. -/
import Derived.Test.YtcbaloenlodkdaaXWalk2
import Derived.Test.YtcbaloenlodkdaaXAt
namespace Go.Proofs.Ytcbaloenlodkdaa.XM
open Go.RowKit

set_option maxRecDepth 100000 in
theorem all_any (mp : Option Addr) (w : World) : Calls Try.prog 23 #[.pointer mp] w fun e w' => ∃ fv, e = .returned fv ∧ Wl w' fv mp .all ∧ Calm w w' := by
  have WA := hide (walk_any mp .all #[] w rfl)
  go_enter Try.func23, Try.ntmps23
  go_wp2_with fail
  refine WA.out.mono ?_
  rintro e w2 ⟨fv, rfl, h2, t2⟩
  have H2 := hide h2
  have T2 := hide t2
  clear h2 t2
  go_wp2_with fail
  go_ret
  exact ⟨fv, rfl, H2.out, T2.out⟩

set_option maxRecDepth 100000 in
theorem from_any (mp : Option Addr) (key : ByteArray) (w : World) : Calls Try.prog 24 #[.pointer mp, .string key] w fun e w' => ∃ fv, e = .returned fv ∧ Wl w' fv mp (.fwd key) ∧ Calm w w' := by
  have T1 := hide (((Touch.refl (fun _ => False) w).alloc (.cells #[.pointer mp] 60)).alloc (.cells #[.string key] 9))
  have WA := hide (walk_any mp (.fwd key) #[.pointer (some ⟨w.heap.size, 0, none⟩), .pointer (some ⟨w.heap.size + 1, 0, none⟩)] ((w.alloc (.cells #[.pointer mp] 60)).alloc (.cells #[.string key] 9)) ⟨w.heap.size, w.heap.size + 1, rfl, (Below.heap_alloc _ _ _ (by simp)).trans (heap_alloc_last w _), by
    have := heap_alloc_last (w.alloc (.cells #[.pointer mp] 60)) (.cells #[.string key] 9)
    simpa using this⟩)
  go_enter Try.func24, Try.ntmps24
  go_wp2_with fail
  refine WA.out.mono ?_
  rintro e w2 ⟨fv, rfl, h2, t2⟩
  have H2 := hide h2
  have T2 := hide t2
  clear h2 t2
  go_wp2_with fail
  go_ret
  exact ⟨fv, rfl, H2.out, T1.out.tr T2.out⟩

set_option maxRecDepth 100000 in
theorem back_any (mp : Option Addr) (key : ByteArray) (w : World) : Calls Try.prog 25 #[.pointer mp, .string key] w fun e w' => ∃ fv, e = .returned fv ∧ Wl w' fv mp (.back key) ∧ Calm w w' := by
  have T1 := hide (((Touch.refl (fun _ => False) w).alloc (.cells #[.pointer mp] 60)).alloc (.cells #[.string key] 9))
  have WA := hide (walk_any mp (.back key) #[.pointer (some ⟨w.heap.size, 0, none⟩), .pointer (some ⟨w.heap.size + 1, 0, none⟩)] ((w.alloc (.cells #[.pointer mp] 60)).alloc (.cells #[.string key] 9)) ⟨w.heap.size, w.heap.size + 1, rfl, (Below.heap_alloc _ _ _ (by simp)).trans (heap_alloc_last w _), by
    have := heap_alloc_last (w.alloc (.cells #[.pointer mp] 60)) (.cells #[.string key] 9)
    simpa using this⟩)
  go_enter Try.func25, Try.ntmps25
  go_wp2_with fail
  refine WA.out.mono ?_
  rintro e w2 ⟨fv, rfl, h2, t2⟩
  have H2 := hide h2
  have T2 := hide t2
  clear h2 t2
  go_wp2_with fail
  go_ret
  exact ⟨fv, rfl, H2.out, T1.out.tr T2.out⟩


set_option maxRecDepth 100000 in
theorem of_any (w : World) : Calls Try.prog 20 #[] w fun e w' => ∃ m', e = .returned (.pointer (some ⟨m', 0, none⟩)) ∧ Mt w' m' 50 #[] [] ∧ w.heap.size ≤ m' ∧ Calm w w' := by
  have T := hide ((Touch.refl (fun _ => False) w).alloc (.cells #[.func (.func 50) #[] #[], .pointer none] 92))
  go_enter Try.func20, Try.ntmps20
  go_wp2_with fail
  go_ret
  exact ⟨_, rfl, ⟨none, heap_alloc_last w _, .nil⟩, Nat.le_refl _, T.out⟩

end Go.Proofs.Ytcbaloenlodkdaa.XM
