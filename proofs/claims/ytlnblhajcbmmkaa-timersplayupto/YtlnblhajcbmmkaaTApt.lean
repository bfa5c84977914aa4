/- A text, a timer in memory of its own. -/
import Derived.Test.YtlnblhajcbmmkaaTRow
import Derived.Test.YtlnblhajcbmmkaaTMap
import Derived.Lib.Strings
import Derived.Lib.BufferWrite
import Derived.Lib.UnsafeStr
import Derived.Laws.MakeOwn
import Derived.BigQuiet
namespace Go.Proofs.Ytlnblhajcbmmkaa
open Go.RowKit

theorem infoByte : (Try.prog.info? 5).map (fun i => (i.zero, i.size, i.bytes)) = some (some (.int .u8 0), 1, 1) := by kernel_rfl

theorem empty_text {s : ByteArray} (h : s.size = 0) : s = { data := #[] } := ByteArray.ext (Array.eq_empty_of_size_eq_zero h)

set_option maxRecDepth 100000 in
set_option maxHeartbeats 4000000 in
theorem cloned_any (s : ByteArray) (w : World) (hs : s.size ≤ 281474976710656) : Calls Try.prog 59 #[.string s] w fun e w' => e = .returned (.string s) ∧ Touch (fun _ => False) w w' := by
  by_cases h0 : s.size = 0
  · obtain rfl := empty_text h0
    go_enter Try.func59, Try.ntmps59
    go_wp2_with fail
    go_ret
    exact ⟨rfl, Touch.refl _ _⟩
  · obtain ⟨i0, hi, hz0, hz1, hz2⟩ := info_parts2 infoByte
    have hsz1 : (Try.prog.info? 5).map (·.size) = some 1 := by rw [hi]; simp [hz1]
    have hone : Try.prog.cellsOf 5 = 1 := by kernel_rfl
    have hne : s.data.toList ≠ [] := fun e => h0 (by rw [Lib.size_eq, e]; rfl)
    obtain ⟨M, hM, hMs⟩ : ∃ M : Array Value, (∀ W : World, (Instr.makeSlice 103 (.int .i64 (s.size : Int)) (.int .i64 (s.size : Int))).run Try.prog W = .ok (.slice (some ⟨W.heap.size, 0, none⟩) s.size s.size) (W.alloc (.cells M 5))) ∧ M.size = s.size :=
      ⟨madeCells (Value.int .u8 0).cells (((s.size : Nat) : Int).toNat * i0.size), fun W => by
        have h := run_make (P := Try.prog) W 103 5 i0 (.int .u8 0) Try.underlying103 hi hz0 .i64 .i64 (s.size : Int) (s.size : Int) (by omega) (by omega) (by rw [hz2]; omega) (by omega)
        simpa using h, by rw [size_madeCells, hz1]; simp⟩
    have CP := Lib.run_copy_row_string (P := Try.prog) (w.alloc (.cells M 5)) 103 9 3 5 w.heap.size 0 s.size s.size s M 5 Try.underlying103 hsz1 (heap_alloc_last w _) (Nat.le_refl _) (by omega)
    generalize hY : (M.toList.take 0 ++ Lib.byteCells s.data.toList ++ M.toList.drop (0 + s.size)).toArray = Y at CP
    have hYl : Y.toList = Lib.byteCells s.data.toList := by
      rw [← hY, List.toList_toArray, List.take_zero, List.nil_append, List.drop_of_length_le (by rw [Array.length_toList]; omega), List.append_nil]
    have hYs : Y.size = s.size := by rw [← Array.length_toList, hYl, Lib.byteCells_length, ← Lib.size_eq]
    have hrow : ((w.alloc (.cells M 5)).setRow w.heap.size Y).heap[w.heap.size]? = some (.cells Y 5 (0, 0)) := setRow_heap _ _ M _ 5 (0, 0) (heap_alloc_last w _)
    have US := Lib.run_unsafeString_row (P := Try.prog) ((w.alloc (.cells M 5)).setRow w.heap.size Y) 104 3 9 5 Try.underlying104 hone w.heap.size Y.size (by unfold World.shape?; rw [hrow]) s.data.toList hne (by rw [← Lib.size_eq]; omega) (by rw [← Lib.size_eq]; omega)
      (fun j x hx => Lib.cells_of_row hrow Y.size j _ (by rw [List.take_of_length_le (by rw [Array.length_toList]; exact Nat.le_refl _), hYl]; simp [Lib.byteCells, hx]))
    rw [← Lib.size_eq] at US
    clear hY
    have b1 : Below w.heap.size w (w.alloc (.cells M 5)) := ((Touch.refl (fun _ => False) w).alloc _).below (fun _ _ h => h)
    have b2 : Below w.heap.size (w.alloc (.cells M 5)) ((w.alloc (.cells M 5)).setRow w.heap.size Y) := ⟨rfl, rfl, rfl, by simp, fun k hk => setRow_other _ _ _ _ (by omega)⟩
    have HB := hide (Lib.below_freeze (b1.trans b2) (p := ⟨w.heap.size, 0, none⟩) (Nat.le_refl _) s.size)
    clear b1 b2 hrow hYl hYs hMs hi hz0 hz1 hz2
    go_enter Try.func59, Try.ntmps59
    go_wp2_with fail
    go_ret
    exact ⟨rfl, (Touch.of_below HB.out).mono (fun k hk h => by omega)⟩

set_option maxRecDepth 100000 in
theorem clone_any (s : ByteArray) (w : World) (hs : s.size ≤ 281474976710656) : Calls Try.prog 43 #[.string s] w fun e w' => e = .returned (.string s) ∧ Touch (fun _ => False) w w' := by
  have K := hide (fun W => cloned_any s W hs)
  go_enter Try.func43, Try.ntmps43
  go_wp2_with fail
  refine (K.out _).mono ?_
  rintro e w1 ⟨rfl, t1⟩
  go_wp2_with fail
  go_ret
  exact ⟨rfl, t1⟩

theorem cells4 {w : World} {b : Nat} {x y z u : Value} {t : TypeId} (h : w.heap[b]? = some (.cells #[x, y, z, u] t (0, 0))) : (w.cell? ⟨b, 0, none⟩ = some x ∧ w.cell? ⟨b, 1, none⟩ = some y ∧ w.cell? ⟨b, 2, none⟩ = some z ∧ w.cell? ⟨b, 3, none⟩ = some u) ∧
    w.frozen? ⟨b, 0, none⟩ = false ∧ w.frozen? ⟨b, 1, none⟩ = false ∧ w.frozen? ⟨b, 2, none⟩ = false ∧ w.frozen? ⟨b, 3, none⟩ = false := by simp [World.cell?, World.frozen?, h]

set_option maxRecDepth 100000 in
theorem apart_any (t : Tm) (w : World) (g : Good t) : Calls Try.prog 34 #[tv t] w fun e w' => e = .returned (tv t) ∧ Calm w w' := by
  have K := hide (fun W => clone_any t.key W g.k)
  have hA : ((w.alloc (.cells (tc t) 35)).alloc (.cells #[.int .i64 0, .string { data := #[] }, .int .i64 0, .int .i64 0] 35)).heap[w.heap.size]? = some (.cells (tc t) 35 (0, 0)) := by
    exact (Below.heap_alloc _ _ _ (by simp)).trans (heap_alloc_last w _)
  have hB : ((w.alloc (.cells (tc t) 35)).alloc (.cells #[.int .i64 0, .string { data := #[] }, .int .i64 0, .int .i64 0] 35)).heap[w.heap.size + 1]? = some (.cells #[.int .i64 0, .string { data := #[] }, .int .i64 0, .int .i64 0] 35 (0, 0)) := by
    have := heap_alloc_last (w.alloc (.cells (tc t) 35)) (.cells #[.int .i64 0, .string { data := #[] }, .int .i64 0, .int .i64 0] 35)
    simpa using this
  have HA := hide hA
  have HB := hide hB
  have T0 : Hid (Calm w ((w.alloc (.cells (tc t) 35)).alloc (.cells #[.int .i64 0, .string { data := #[] }, .int .i64 0, .int .i64 0] 35))) := hide (((Touch.refl _ _).alloc _).alloc _)
  clear hA hB
  go_enter Try.func34, Try.ntmps34
  go_wp2_with fail
  refine (K.out _).mono ?_
  rintro e w1 ⟨rfl, t1⟩
  have T1 := hide (T0.out.tr t1)
  have h1 := t1.at HA.out
  have h2 := t1.at HB.out
  obtain ⟨⟨a0, a1, a2, a3⟩, -, f1, -, -⟩ := cells4 h1
  obtain ⟨⟨c0, c1, c2, c3⟩, b0, b1, b2, b3⟩ := cells4 h2
  clear t1 h1 h2 HA HB T0
  go_wp2_with fail
  refine ⟨rfl, tv t, ?_, rfl, ?_⟩
  · simp [results, Try.results34, go_sem, c0, c1, c2, c3]
  · exact ((((T1.out.setCell (p := ⟨w.heap.size, 1, none⟩) (fun h => by simp at h) _).setCell (p := ⟨w.heap.size + 1, 0, none⟩) (fun h => by simp at h; omega) _).setCell (p := ⟨w.heap.size + 1, 1, none⟩) (fun h => by simp at h; omega) _).setCell (p := ⟨w.heap.size + 1, 2, none⟩) (fun h => by simp at h; omega) _).setCell (p := ⟨w.heap.size + 1, 3, none⟩) (fun h => by simp at h; omega) _

end Go.Proofs.Ytlnblhajcbmmkaa
