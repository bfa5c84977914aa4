/- Walks: the writer as frames use it: Byte, Number, Bytes. -/
import Derived.Test.YtdcpmpbfnfjncaaGreatDoorPut
import Derived.Test.YtdcpmpbfnfjncaaGreatDoorMem
import Derived.Laws.BytesArg
namespace Go.Proofs.YtdcpmpbfnfjncaaGreatDoor
open Go.RowKit

/-- A writer at block pb, its slice v, its bytes bs. -/
structure Wr (w : World) (pb : Nat) (v : Value) (bs : List Int) : Prop where
  cell : w.heap[pb]? = some (.cells #[v] 74 (0, 0))
  row : Row w 5 .u8 v bs

theorem Wr.apart {w : World} {pb : Nat} {v : Value} {bs : List Int} (h : Wr w pb v bs) : v.ownBlock ≠ some pb := by
  intro e
  obtain ⟨cur, hc⟩ := h.row.block e
  rw [h.cell] at hc
  simp at hc

theorem Wr.lt {w : World} {pb : Nat} {v : Value} {bs : List Int} (h : Wr w pb v bs) : pb < w.heap.size := (Array.getElem?_eq_some_iff.1 h.cell).1

/-- What a call that writes to it does. -/
structure Wrote (w : World) (pb : Nat) (v : Value) (w' : World) (v' : Value) : Prop where
  touch : Touch (fun k => k = pb ∨ v.ownBlock = some k) w w'
  fresh : Fresh w v v'

theorem Wrote.refl (w : World) (pb : Nat) (v : Value) : Wrote w pb v w v := ⟨Touch.refl _ _, .inl rfl⟩

theorem Wrote.trans {a b c : World} {pb : Nat} {u v x : Value} (h : Wrote a pb u b v) (g : Wrote b pb v c x) : Wrote a pb u c x := by
  refine ⟨h.touch.trans g.touch fun k hk hv => ?_, ?_⟩
  · rcases hv with hv | hv
    · exact .inl hv
    · rcases h.fresh with e | ⟨n, e, hn⟩
      · rw [e] at hv; exact .inr hv
      · rw [e] at hv; simp at hv; omega
  · rcases g.fresh with e | ⟨n, e, hn⟩
    · rcases h.fresh with e' | ⟨m, e', hm⟩
      · exact .inl (e.trans e')
      · exact .inr ⟨m, e.trans e', hm⟩
    · exact .inr ⟨n, e, Nat.le_trans h.touch.size hn⟩

/-- Behind the growth the writer's cell is there as it was. -/
theorem wr_there {w w1 : World} {pb : Nat} {v v1 : Value} {bs : List Int} (h : Wr w pb v bs) (hg : Grew w v w1 v1) : w1.cell? ⟨pb, 0, none⟩ = some v ∧ w1.frozen? ⟨pb, 0, none⟩ = false := by
  have hc : w1.heap[pb]? = some (.cells #[v] 74 (0, 0)) := (hg.touch.block pb h.lt h.apart).trans h.cell
  exact ⟨cell_of_one hc, free_of_one hc⟩

theorem Wr.alloc {w : World} {pb : Nat} {v : Value} {bs : List Int} (h : Wr w pb v bs) (o : Obj) : Wr (w.alloc o) pb v bs := ⟨(Below.heap_alloc w o pb h.lt).trans h.cell, h.row.alloc o⟩

theorem Wrote.of_alloc {w w' : World} {pb : Nat} {v v' : Value} (o : Obj) (h : Wrote (w.alloc o) pb v w' v') : Wrote w pb v w' v' :=
  ⟨((Touch.refl _ w).alloc o).trans h.touch fun _ _ hk => hk, by
    rcases h.fresh with e | ⟨g, e, hg⟩
    · exact .inl e
    · exact .inr ⟨g, e, by simp at hg; omega⟩⟩

/-- The store of the grown slice back into the writer. -/
theorem wr_stored {w w1 : World} {pb : Nat} {v v1 : Value} {bs cs : List Int} (h : Wr w pb v bs) (hr : Row w1 5 .u8 v1 cs) (hg : Grew w v w1 v1) :
    Wr (w1.setCell ⟨pb, 0, none⟩ v1) pb v1 cs ∧ Wrote w pb v (w1.setCell ⟨pb, 0, none⟩ v1) v1 := by
  have hc : w1.heap[pb]? = some (.cells #[v] 74 (0, 0)) := (hg.touch.block pb h.lt h.apart).trans h.cell
  have hne : v1.ownBlock ≠ some pb := by
    rcases hg.fresh with e | ⟨g, e, hge⟩
    · rw [e]; exact h.apart
    · rw [e]; have := h.lt; simp; omega
  refine ⟨⟨one_setCell hc, hr.stays fun g hgb => Below.heap_setCell _ _ _ _ fun e => hne (by simp at e; rw [hgb, e])⟩, ⟨?_, hg.fresh⟩⟩
  exact (hg.touch.mono fun k _ hk => .inr hk).setCell (fun _ => .inl rfl) _

theorem number1_any (v : Value) (bs : List Int) (X xb : Nat) (w : World) (hX : X < 18446744073709551616) (hx : w.cell? ⟨xb, 0, none⟩ = some (.int .u64 X)) (hown : Row w 5 .u8 v bs) (hb : bs.length ≤ 140737488351232) :
    Calls Tryz.prog 36 #[v, .pointer (some ⟨xb, 0, none⟩)] w (RetRow 5 .u8 w v (bs ++ numb X)) := by
  have HX : Hid (X < 18446744073709551616) := hX
  clear hX
  go_enter Tryz.func36, Tryz.ntmps36
  go_wp2_with (go_at_call 37; refine (putNumber_any v bs X w HX.out hown hb).mono ?_; rintro e w' ⟨ao, n, cap, rfl, hr, hg⟩)
  go_ret
  exact RetRow.mk hr hg

set_option maxRecDepth 100000 in
set_option maxHeartbeats 400000 in
theorem wNumber_any (pb : Nat) (v : Value) (bs : List Int) (X : Nat) (w : World) (hX : X < 18446744073709551616) (h : Wr w pb v bs) (hb : bs.length ≤ 140737488351232) :
    Calls Tryz.prog 18 #[.pointer (some ⟨pb, 0, none⟩), .int .u64 X] w fun e w' => e = .returned (.int .i64 0) ∧ ∃ v', Wr w' pb v' (bs ++ numb X) ∧ Wrote w pb v w' v' := by
  have HX : Hid (X < 18446744073709551616) := hX
  clear hX
  have hc := cell_of_one h.cell
  have hlt := h.lt
  go_enter Tryz.func18, Tryz.ntmps18
  go_wp2_with (first | (go_at_call 35; go_in) | (go_at_call 36; refine (number1_any v bs X w.heap.size _ HX.out (cell_new _ _ _) (h.row.alloc _) hb).mono ?_; rintro e w1 ⟨ao, n, cap, rfl, hr, hg⟩; obtain ⟨hc1, hf1⟩ := wr_there (h.alloc _) hg))
  go_ret
  obtain ⟨a, b⟩ := wr_stored (h.alloc _) hr hg
  exact ⟨rfl, _, a, b.of_alloc _⟩

theorem Tryz.one5 : (Tryz.prog.info? 5).map (·.size) = some 1 := by kernel_rfl

set_option maxRecDepth 100000 in
set_option maxHeartbeats 400000 in
theorem wfresh_any (ao : Option Addr) (xs : List Int) (cap : Nat) (w : World) (hs : Seg w .u8 ao xs) (hb : xs.length ≤ 140737488351232) :
    Calls Tryz.prog 38 #[.slice ao xs.length cap] w fun e w' => ∃ n c, e = .returned (.slice (some ⟨w.heap.size, 0, none⟩) n c) ∧ Row w' 5 .u8 (.slice (some ⟨w.heap.size, 0, none⟩) n c) xs ∧ Touch (fun _ => False) w w' ∧ w.heap.size < w'.heap.size := by
  obtain ⟨i0, hi, hz0, hz1, hz2⟩ := info_parts Tryz.info5
  go_enter Tryz.func38, Tryz.ntmps38
  go_wp2_with (at_make; refine wpList_make_new _ rfl (.tmp 5) (.tmp 5) 25 rfl 5 i0 (.int .u8 0) 1 Tryz.underlying25 hi hz0 hz1 hz2 xs.length rfl rfl ?b1 ?b2 ?nx)
  case b1 => omega
  case b2 => unfold maxLen; omega
  case nx =>
    intro w1 cur hcell hcur ht
    have hlt := lt_of_block hcell
    have hs1 := hs.touch ht (fun _ _ h => h)
    go_wp2_with (refine wpList_copy_new rfl (.tmp 7) (.tmp 8) 25 25 rfl 5 .u8 Tryz.underlying25 Tryz.one5 w.heap.size ao cap xs rfl rfl cur hcell hcur ?b3 hs1 ?nx2)
    case b3 => unfold maxLen; omega
    case nx2 =>
      intro w2 hrow ht2
      have T2 : Touch (fun _ => False) w w2 := ht.trans ht2 (fun k hk e => by omega)
      have hl2 : w.heap.size < w2.heap.size := Nat.lt_of_lt_of_le hlt ht2.size
      clear hs1 hs hcell hcur ht ht2
      go_wp2
      go_ret
      exact ⟨_, _, rfl, hrow, T2, hl2⟩

theorem wBytes_any (pb : Nat) (v : Value) (bs : List Int) (w : World) (h : Wr w pb v bs) (hb : bs.length ≤ 140737488351232) :
    Calls Tryz.prog 19 #[.pointer (some ⟨pb, 0, none⟩)] w fun e w' => ∃ n c, e = .returned (.slice (some ⟨w.heap.size, 0, none⟩) n c) ∧ Row w' 5 .u8 (.slice (some ⟨w.heap.size, 0, none⟩) n c) bs ∧ Touch (fun _ => False) w w' ∧ w.heap.size < w'.heap.size := by
  have hc := cell_of_one h.cell
  obtain ⟨ao, n, cap, rfl⟩ := h.row.shape
  have hn := h.row.len
  subst hn
  have H := hide (wfresh_any ao bs cap w (Seg.of_row h.row) hb)
  go_enter Tryz.func19, Tryz.ntmps19
  go_wp2_with (go_at_call 38; refine H.out.mono ?_; rintro e w1 ⟨n1, c1, rfl, hr1, ht1, hl1⟩)
  go_ret
  exact ⟨_, _, rfl, hr1, ht1, hl1⟩

theorem newWriter_any (w : World) :
    Calls Tryz.prog 16 #[] w fun e w' => e = .returned (.pointer (some ⟨w.heap.size, 0, none⟩)) ∧ Wr w' w.heap.size (.slice none 0 0) [] ∧ Touch (fun _ => False) w w' ∧ w.heap.size < w'.heap.size := by
  go_enter Tryz.func16, Tryz.ntmps16
  go_wp2
  go_ret
  exact ⟨rfl, ⟨heap_alloc_new w _, Row.nil _ _ _⟩, (Touch.refl _ _).alloc _, by simp⟩

/-- A reader at block rb: its bytes bs, the place p. -/
structure Rd (w : World) (rb : Nat) (ao : Option Addr) (cap : Nat) (bs : List Int) (p : Nat) : Prop where
  cell : w.heap[rb]? = some (.cells #[.slice ao bs.length cap, .int .i64 p] 98 (0, 0))
  row : Row w 5 .u8 (.slice ao bs.length cap) bs
  place : p ≤ bs.length

theorem newReader_any (ao : Option Addr) (xs : List Int) (cap : Nat) (w : World) (hs : Seg w .u8 ao xs) (hb : xs.length ≤ 140737488351232) :
    Calls Tryz.prog 30 #[.slice ao xs.length cap] w fun e w' => ∃ rb c, e = .returned (.pointer (some ⟨rb, 0, none⟩)) ∧ w.heap.size < rb ∧ Rd w' rb (some ⟨w.heap.size, 0, none⟩) c xs 0 ∧ Touch (fun _ => False) w w' := by
  have H := hide (wfresh_any ao xs cap w hs hb)
  go_enter Tryz.func30, Tryz.ntmps30
  go_wp2_with (go_at_call 38; refine H.out.mono ?_; rintro e w1 ⟨n1, c1, rfl, hr1, ht1, hl1⟩)
  go_ret
  have hn := hr1.len
  subst hn
  exact ⟨w1.heap.size, c1, rfl, hl1, ⟨heap_alloc_new w1 _, hr1.alloc _, Nat.zero_le _⟩, ht1.alloc _⟩

theorem cell_two {w : World} {b : Nat} {u v : Value} {t : TypeId} (h : w.heap[b]? = some (.cells #[u, v] t (0, 0))) : w.cell? ⟨b, 0, none⟩ = some u ∧ w.cell? ⟨b, 1, none⟩ = some v ∧ w.frozen? ⟨b, 0, none⟩ = false ∧ w.frozen? ⟨b, 1, none⟩ = false := by simp [World.cell?, World.frozen?, h]

theorem two_set {w : World} {b : Nat} {u v x : Value} {t : TypeId} (h : w.heap[b]? = some (.cells #[u, v] t (0, 0))) : (w.setCell ⟨b, 1, none⟩ x).heap[b]? = some (.cells #[u, x] t (0, 0)) := by
  have hlt : b < w.heap.size := (Array.getElem?_eq_some_iff.1 h).1
  have hg : w.heap[b] = .cells #[u, v] t (0, 0) := (Array.getElem?_eq_some_iff.1 h).2
  simp [World.setCell, Array.getElem_modify, hlt, hg]

theorem Rd.apart {w : World} {rb : Nat} {ao : Option Addr} {cap : Nat} {bs : List Int} {p : Nat} (h : Rd w rb ao cap bs p) : (Value.slice ao bs.length cap).ownBlock ≠ some rb := by
  intro e
  obtain ⟨cur, hc⟩ := h.row.block e
  rw [h.cell] at hc
  simp at hc

theorem Rd.lt {w : World} {rb : Nat} {ao : Option Addr} {cap : Nat} {bs : List Int} {p : Nat} (h : Rd w rb ao cap bs p) : rb < w.heap.size := lt_of_block h.cell

theorem Rd.moved {w : World} {rb : Nat} {ao : Option Addr} {cap : Nat} {bs : List Int} {p : Nat} (h : Rd w rb ao cap bs p) (q : Nat) (hq : q ≤ bs.length) : Rd (w.setCell ⟨rb, 1, none⟩ (.int .i64 q)) rb ao cap bs q :=
  ⟨two_set h.cell, h.row.stays fun g hg => Below.heap_setCell _ _ _ _ fun e => h.apart (by simp at e; rw [hg, e]), hq⟩

theorem Rd.touch {S : Nat → Prop} {w w' : World} {rb : Nat} {ao : Option Addr} {cap : Nat} {bs : List Int} {p : Nat} (h : Rd w rb ao cap bs p) (ht : Touch S w w') (h1 : ¬ S rb) (h2 : ∀ g, (Value.slice ao bs.length cap).ownBlock = some g → ¬ S g) : Rd w' rb ao cap bs p :=
  ⟨(ht.block rb h.lt h1).trans h.cell, h.row.touch ht h2, h.place⟩

end Go.Proofs.YtdcpmpbfnfjncaaGreatDoor
