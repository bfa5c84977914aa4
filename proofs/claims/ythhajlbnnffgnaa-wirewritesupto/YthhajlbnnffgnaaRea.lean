/- Walks: new writers and readers, their lengths and bytes. -/
import Derived.Test.YthhajlbnnffgnaaPutRis
import Derived.Test.YthhajlbnnffgnaaMem
import Derived.Laws.BytesArg
namespace Go.Proofs.Ythhajlbnnffgnaa
open Go.RowKit

theorem Try.one5 : (Try.prog.info? 5).map (·.size) = some 1 := by kernel_rfl

set_option maxRecDepth 100000 in
set_option maxHeartbeats 400000 in
theorem fresh_any (ao : Option Addr) (xs : List Int) (cap : Nat) (w : World) (hs : Seg w .u8 ao xs) (hb : xs.length ≤ 140737488351232) :
    Calls Try.prog 44 #[.slice ao xs.length cap] w fun e w' => ∃ n c, e = .returned (.slice (some ⟨w.heap.size, 0, none⟩) n c) ∧ Row w' 5 .u8 (.slice (some ⟨w.heap.size, 0, none⟩) n c) xs ∧ Touch (fun _ => False) w w' ∧ w.heap.size < w'.heap.size := by
  obtain ⟨i0, hi, hz0, hz1, hz2⟩ := info_parts Try.info5
  go_enter Try.func44, Try.ntmps44
  go_wp2_with (at_make; refine wpList_make_new _ rfl (.tmp 5) (.tmp 5) 25 rfl 5 i0 (.int .u8 0) 1 Try.underlying25 hi hz0 hz1 hz2 xs.length rfl rfl ?b1 ?b2 ?nx)
  case b1 => omega
  case b2 => unfold maxLen; omega
  case nx =>
    intro w1 cur hcell hcur ht
    have hlt := lt_of_block hcell
    have hs1 := hs.touch ht (fun _ _ h => h)
    go_wp2_with (refine wpList_copy_new rfl (.tmp 7) (.tmp 8) 25 25 rfl 5 .u8 Try.underlying25 Try.one5 w.heap.size ao cap xs rfl rfl cur hcell hcur ?b3 hs1 ?nx2)
    case b3 => unfold maxLen; omega
    case nx2 =>
      intro w2 hrow ht2
      have T2 : Touch (fun _ => False) w w2 := ht.trans ht2 (fun k hk e => by omega)
      have hl2 : w.heap.size < w2.heap.size := Nat.lt_of_lt_of_le hlt ht2.size
      clear hs1 hs hcell hcur ht ht2
      go_wp2
      go_ret
      exact ⟨_, _, rfl, hrow, T2, hl2⟩

theorem len_any (pb : Nat) (v : Value) (bs : List Int) (w : World) (h : Wr w pb v bs) :
    Calls Try.prog 11 #[.pointer (some ⟨pb, 0, none⟩)] w fun e w' => e = .returned (.int .i64 bs.length) ∧ w' = w := by
  have hc := cell_of_one h.cell
  obtain ⟨ao, n, cap, rfl⟩ := h.row.shape
  have hn := h.row.len
  subst hn
  go_enter Try.func11, Try.ntmps11
  go_wp2
  go_ret
  exact ⟨rfl, rfl⟩

theorem bytes_any (pb : Nat) (v : Value) (bs : List Int) (w : World) (h : Wr w pb v bs) (hb : bs.length ≤ 140737488351232) :
    Calls Try.prog 12 #[.pointer (some ⟨pb, 0, none⟩)] w fun e w' => ∃ n c, e = .returned (.slice (some ⟨w.heap.size, 0, none⟩) n c) ∧ Row w' 5 .u8 (.slice (some ⟨w.heap.size, 0, none⟩) n c) bs ∧ Touch (fun _ => False) w w' ∧ w.heap.size < w'.heap.size := by
  have hc := cell_of_one h.cell
  obtain ⟨ao, n, cap, rfl⟩ := h.row.shape
  have hn := h.row.len
  subst hn
  have H := hide (fresh_any ao bs cap w (Seg.of_row h.row) hb)
  go_enter Try.func12, Try.ntmps12
  go_wp2_with (go_at_call 44; refine H.out.mono ?_; rintro e w1 ⟨n1, c1, rfl, hr1, ht1, hl1⟩)
  go_ret
  exact ⟨_, _, rfl, hr1, ht1, hl1⟩

theorem newWriter_any (w : World) :
    Calls Try.prog 9 #[] w fun e w' => e = .returned (.pointer (some ⟨w.heap.size, 0, none⟩)) ∧ Wr w' w.heap.size (.slice none 0 0) [] ∧ Touch (fun _ => False) w w' ∧ w.heap.size < w'.heap.size := by
  go_enter Try.func9, Try.ntmps9
  go_wp2
  go_ret
  exact ⟨rfl, ⟨heap_alloc_new w _, Row.nil _ _ _⟩, (Touch.refl _ _).alloc _, by simp⟩

/-- A reader at block rb: its bytes bs, the place p. -/
structure Rd (w : World) (rb : Nat) (ao : Option Addr) (cap : Nat) (bs : List Int) (p : Nat) : Prop where
  cell : w.heap[rb]? = some (.cells #[.slice ao bs.length cap, .int .i64 p] 75 (0, 0))
  row : Row w 5 .u8 (.slice ao bs.length cap) bs
  place : p ≤ bs.length

theorem newReader_any (ao : Option Addr) (xs : List Int) (cap : Nat) (w : World) (hs : Seg w .u8 ao xs) (hb : xs.length ≤ 140737488351232) :
    Calls Try.prog 16 #[.slice ao xs.length cap] w fun e w' => ∃ rb c, e = .returned (.pointer (some ⟨rb, 0, none⟩)) ∧ w.heap.size < rb ∧ Rd w' rb (some ⟨w.heap.size, 0, none⟩) c xs 0 ∧ Touch (fun _ => False) w w' := by
  have H := hide (fresh_any ao xs cap w hs hb)
  go_enter Try.func16, Try.ntmps16
  go_wp2_with (go_at_call 44; refine H.out.mono ?_; rintro e w1 ⟨n1, c1, rfl, hr1, ht1, hl1⟩)
  go_ret
  have hn := hr1.len
  subst hn
  exact ⟨w1.heap.size, c1, rfl, hl1, ⟨heap_alloc_new w1 _, hr1.alloc _, Nat.zero_le _⟩, ht1.alloc _⟩

theorem cell_two {w : World} {b : Nat} {u v : Value} {t : TypeId} (h : w.heap[b]? = some (.cells #[u, v] t (0, 0))) : w.cell? ⟨b, 0, none⟩ = some u ∧ w.cell? ⟨b, 1, none⟩ = some v ∧ w.frozen? ⟨b, 0, none⟩ = false ∧ w.frozen? ⟨b, 1, none⟩ = false := by simp [World.cell?, World.frozen?, h]

theorem two_set {w : World} {b : Nat} {u v x : Value} {t : TypeId} (h : w.heap[b]? = some (.cells #[u, v] t (0, 0))) : (w.setCell ⟨b, 1, none⟩ x).heap[b]? = some (.cells #[u, x] t (0, 0)) := by
  have hlt : b < w.heap.size := (Array.getElem?_eq_some_iff.1 h).1
  have hg : w.heap[b] = .cells #[u, v] t (0, 0) := (Array.getElem?_eq_some_iff.1 h).2
  simp [World.setCell, Array.getElem_modify, hlt, hg]

theorem Rd.apart {w : World} {rb : Nat} {ao : Option Addr} {cap : Nat} {bs : List Int} {p : Nat} (h : Rd w rb ao cap bs p) : (Value.slice ao bs.length cap).ownBlock ≠ some rb := by
  intro e
  obtain ⟨cur, hc⟩ := h.row.block e
  rw [h.cell] at hc
  simp at hc

theorem Rd.lt {w : World} {rb : Nat} {ao : Option Addr} {cap : Nat} {bs : List Int} {p : Nat} (h : Rd w rb ao cap bs p) : rb < w.heap.size := lt_of_block h.cell

theorem Rd.moved {w : World} {rb : Nat} {ao : Option Addr} {cap : Nat} {bs : List Int} {p : Nat} (h : Rd w rb ao cap bs p) (q : Nat) (hq : q ≤ bs.length) : Rd (w.setCell ⟨rb, 1, none⟩ (.int .i64 q)) rb ao cap bs q :=
  ⟨two_set h.cell, h.row.stays fun g hg => Below.heap_setCell _ _ _ _ fun e => h.apart (by simp at e; rw [hg, e]), hq⟩

theorem Rd.touch {S : Nat → Prop} {w w' : World} {rb : Nat} {ao : Option Addr} {cap : Nat} {bs : List Int} {p : Nat} (h : Rd w rb ao cap bs p) (ht : Touch S w w') (h1 : ¬ S rb) (h2 : ∀ g, (Value.slice ao bs.length cap).ownBlock = some g → ¬ S g) : Rd w' rb ao cap bs p :=
  ⟨(ht.block rb h.lt h1).trans h.cell, h.row.touch ht h2, h.place⟩

theorem place_any (rb : Nat) (ao : Option Addr) (cap : Nat) (bs : List Int) (p : Nat) (w : World) (h : Rd w rb ao cap bs p) :
    Calls Try.prog 19 #[.pointer (some ⟨rb, 0, none⟩)] w fun e w' => e = .returned (.int .i64 p) ∧ w' = w := by
  obtain ⟨c0, c1, f0, f1⟩ := cell_two h.cell
  go_enter Try.func19, Try.ntmps19
  go_wp2
  go_ret
  exact ⟨rfl, rfl⟩

end Go.Proofs.Ythhajlbnnffgnaa
