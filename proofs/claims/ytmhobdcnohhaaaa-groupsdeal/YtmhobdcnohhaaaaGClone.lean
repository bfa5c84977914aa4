/- A copy of a text; lists of texts held against each other. -/
import Derived.Test.YtmhobdcnohhaaaaGKnown
import Derived.Lib.Strings
import Derived.Lib.BufferWrite
import Derived.Lib.UnsafeStr
import Derived.Laws.MakeOwn
import Derived.BigQuiet
namespace Go.Proofs.Ytmhobdcnohhaaaa
open Go.RowKit

theorem infoByte : (Try.prog.info? 5).map (fun i => (i.zero, i.size, i.bytes)) = some (some (.int .u8 0), 1, 1) := by kernel_rfl

theorem empty_text {s : ByteArray} (h : s.size = 0) : s = { data := #[] } := ByteArray.ext (Array.eq_empty_of_size_eq_zero h)

set_option maxRecDepth 100000 in
set_option maxHeartbeats 4000000 in
theorem cloned_any (s : ByteArray) (w : World) (hs : s.size ≤ 1000000) : Calls Try.prog 37 #[.string s] w fun e w' => e = .returned (.string s) ∧ Touch (fun _ => False) w w' := by
  by_cases h0 : s.size = 0
  · obtain rfl := empty_text h0
    go_enter Try.func37, Try.ntmps37
    go_wp2_with fail
    go_ret
    exact ⟨rfl, Touch.refl _ _⟩
  · obtain ⟨i0, hi, hz0, hz1, hz2⟩ := info_parts2 infoByte
    have hsz1 : (Try.prog.info? 5).map (·.size) = some 1 := by rw [hi]; simp [hz1]
    have hone : Try.prog.cellsOf 5 = 1 := by kernel_rfl
    have hne : s.data.toList ≠ [] := fun e => h0 (by rw [Lib.size_eq, e]; rfl)
    obtain ⟨M, hM, hMs⟩ : ∃ M : Array Value, (∀ W : World, (Instr.makeSlice 63 (.int .i64 (s.size : Int)) (.int .i64 (s.size : Int))).run Try.prog W = .ok (.slice (some ⟨W.heap.size, 0, none⟩) s.size s.size) (W.alloc (.cells M 5))) ∧ M.size = s.size :=
      ⟨madeCells (Value.int .u8 0).cells (((s.size : Nat) : Int).toNat * i0.size), fun W => by
        have h := run_make (P := Try.prog) W 63 5 i0 (.int .u8 0) Try.underlying63 hi hz0 .i64 .i64 (s.size : Int) (s.size : Int) (by omega) (by omega) (by rw [hz2]; omega) (by omega)
        simpa using h, by rw [size_madeCells, hz1]; simp⟩
    have CP := Lib.run_copy_row_string (P := Try.prog) (w.alloc (.cells M 5)) 63 9 3 5 w.heap.size 0 s.size s.size s M 5 Try.underlying63 hsz1 (heap_alloc_last w _) (Nat.le_refl _) (by omega)
    generalize hY : (M.toList.take 0 ++ Lib.byteCells s.data.toList ++ M.toList.drop (0 + s.size)).toArray = Y at CP
    have hYl : Y.toList = Lib.byteCells s.data.toList := by
      rw [← hY, List.toList_toArray, List.take_zero, List.nil_append, List.drop_of_length_le (by rw [Array.length_toList]; omega), List.append_nil]
    have hYs : Y.size = s.size := by rw [← Array.length_toList, hYl, Lib.byteCells_length, ← Lib.size_eq]
    have hrow : ((w.alloc (.cells M 5)).setRow w.heap.size Y).heap[w.heap.size]? = some (.cells Y 5 (0, 0)) := setRow_heap _ _ M _ 5 (0, 0) (heap_alloc_last w _)
    have US := Lib.run_unsafeString_row (P := Try.prog) ((w.alloc (.cells M 5)).setRow w.heap.size Y) 72 3 9 5 Try.underlying72 hone w.heap.size Y.size (by unfold World.shape?; rw [hrow]) s.data.toList hne (by rw [← Lib.size_eq]; omega) (by rw [← Lib.size_eq]; omega)
      (fun j x hx => Lib.cells_of_row hrow Y.size j _ (by rw [List.take_of_length_le (by rw [Array.length_toList]; exact Nat.le_refl _), hYl]; simp [Lib.byteCells, hx]))
    rw [← Lib.size_eq] at US
    clear hY
    have b1 : Below w.heap.size w (w.alloc (.cells M 5)) := ((Touch.refl (fun _ => False) w).alloc _).below (fun _ _ h => h)
    have b2 : Below w.heap.size (w.alloc (.cells M 5)) ((w.alloc (.cells M 5)).setRow w.heap.size Y) := ⟨rfl, rfl, rfl, by simp, fun k hk => setRow_other _ _ _ _ (by omega)⟩
    have HB := hide (Lib.below_freeze (b1.trans b2) (p := ⟨w.heap.size, 0, none⟩) (Nat.le_refl _) s.size)
    clear b1 b2 hrow hYl hYs hMs hi hz0 hz1 hz2
    go_enter Try.func37, Try.ntmps37
    go_wp2_with fail
    go_ret
    exact ⟨rfl, (Touch.of_below HB.out).mono (fun k hk h => by omega)⟩

set_option maxRecDepth 100000 in
theorem clone_any (s : ByteArray) (w : World) (hs : s.size ≤ 1000000) : Calls Try.prog 36 #[.string s] w fun e w' => e = .returned (.string s) ∧ Touch (fun _ => False) w w' := by
  have K := hide (fun W => cloned_any s W hs)
  go_enter Try.func36, Try.ntmps36
  go_wp2_with fail
  refine (K.out _).mono ?_
  rintro e w1 ⟨rfl, t1⟩
  go_wp2_with fail
  go_ret
  exact ⟨rfl, t1⟩

/-- A list of texts that can be read. -/
structure SegT (w : World) (ao : Option Addr) (l : List ByteArray) : Prop where
  addr : 0 < l.length → ∃ b off, ao = some ⟨b, off, none⟩
  cell : ∀ b off, ao = some ⟨b, off, none⟩ → ∀ i (h : i < l.length), w.cell? ⟨b, off + i, none⟩ = some (.string l[i])

theorem SegT.touch {S : Nat → Prop} {w w' : World} {ao : Option Addr} {l : List ByteArray} (h : SegT w ao l) (ht : Touch S w w') (hn : ∀ b off, ao = some ⟨b, off, none⟩ → 0 < l.length → ¬ S b) : SegT w' ao l := by
  refine ⟨h.addr, fun b off e i hi => ?_⟩
  have h0 := h.cell b off e i hi
  exact (ht.cell (p := ⟨b, _, none⟩) (lt_of_cell h0) (hn b off e (by omega))).trans h0

theorem SegT.of_own {w : World} {base n c : Nat} {ao : Option Addr} {l : List ByteArray} (h : w.ownsRow base 9 1 (.slice ao n c) l.length (l.map Value.string)) : SegT w ao l := by
  refine ⟨fun h0 => ?_, fun b off e i hi => ?_⟩
  · rcases h.2 with ⟨h1, h2⟩ | ⟨b, cap, cur, h1, _⟩
    · omega
    · injection h1 with h1 _ _; exact ⟨b, 0, h1⟩
  · subst e
    rcases h.2 with ⟨h1, h2⟩ | ⟨b', cap, cur, h1, _⟩
    · cases h1
    · injection h1 with h1 _ _; injection h1 with h1; injection h1 with h1 h2 _
      subst h1 h2
      have := h.cells (g := b) rfl i (.string l[i]) (by simp [hi])
      rwa [Addr.add_lit] at this

set_option maxRecDepth 100000 in
set_option maxHeartbeats 2000000 in
theorem sameTexts_any (a1 a2 : Option Addr) (c1 c2 : Nat) (l : List ByteArray) (n : Nat) (hn : l.length = n) (hb : n ≤ 140737488355328) (w : World) (h1 : SegT w a1 l) (h2 : SegT w a2 l) : Calls Try.prog 27 #[.slice a1 n c1, .slice a2 n c2] w fun e w' => e = .returned (.bool true) ∧ ∃ k, w' = w.drewN k := by
  have H1 := hide h1
  have H2 := hide h2
  have HN := hide hn
  have HB := hide hb
  clear h1 h2 hn hb
  go_enter Try.func27, Try.ntmps27
  go_wp2_with fail
  go_loopw [5] (fun i wr => ∃ k : Nat, i = .int .i64 (k : Int) ∧ k ≤ n ∧ ∃ j, wr = w.drewN j) (fun i _ => n - (intOf i).toNat)
  case atStart => exact ⟨0, rfl, Nat.zero_le _, 0, rfl⟩
  case round =>
    obtain ⟨k, rfl, hk, j, rfl⟩ := hrel
    by_cases hlt : k < n
    · have hlt' : (k : Int) < (n : Int) := by omega
      have SW := hide (wrap_up (n := k) (m := n) hlt (by have := HB.out; omega))
      have hkl : k < l.length := by have := HN.out; omega
      obtain ⟨b1, o1, rfl⟩ := H1.out.addr (by omega)
      obtain ⟨b2, o2, rfl⟩ := H2.out.addr (by omega)
      have p0 := H1.out.cell b1 o1 rfl k hkl
      have q0 := H2.out.cell b2 o2 rfl k hkl
      generalize l[k] = s at *
      clear hkl
      go_wp2_with fail
      go_quiet (fail)
      go_wp2_with fail
      go_roundw
      case rel => exact ⟨k + 1, by rw [SW.out], hlt, _, rfl⟩
      case measure => rw [SW.out]; simp [intOf]; omega
    · have e : k = n := by omega
      subst e
      go_wp2_with fail
      go_ret
      exact ⟨rfl, j, rfl⟩

end Go.Proofs.Ytmhobdcnohhaaaa
