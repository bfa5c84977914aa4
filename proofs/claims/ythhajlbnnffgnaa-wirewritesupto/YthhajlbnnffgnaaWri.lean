/- Walks: wire's Writer, method by method. -/
import Derived.Test.YthhajlbnnffgnaaFold
namespace Go.Proofs.Ythhajlbnnffgnaa
open Go.RowKit

/-- A writer at block pb, its slice v, its bytes bs. -/
structure Wr (w : World) (pb : Nat) (v : Value) (bs : List Int) : Prop where
  cell : w.heap[pb]? = some (.cells #[v] 27 (0, 0))
  row : Row w 5 .u8 v bs

theorem Wr.apart {w : World} {pb : Nat} {v : Value} {bs : List Int} (h : Wr w pb v bs) : v.ownBlock ≠ some pb := by
  intro e
  obtain ⟨cur, hc⟩ := h.row.block e
  rw [h.cell] at hc
  simp at hc

theorem Wr.lt {w : World} {pb : Nat} {v : Value} {bs : List Int} (h : Wr w pb v bs) : pb < w.heap.size := (Array.getElem?_eq_some_iff.1 h.cell).1

/-- What a call that writes to it does. -/
structure Wrote (w : World) (pb : Nat) (v : Value) (w' : World) (v' : Value) : Prop where
  touch : Touch (fun k => k = pb ∨ v.ownBlock = some k) w w'
  fresh : Fresh w v v'

theorem Wrote.refl (w : World) (pb : Nat) (v : Value) : Wrote w pb v w v := ⟨Touch.refl _ _, .inl rfl⟩
theorem Wrote.trans {a b c : World} {pb : Nat} {u v x : Value} (h : Wrote a pb u b v) (g : Wrote b pb v c x) : Wrote a pb u c x := by
  refine ⟨h.touch.trans g.touch fun k hk hv => ?_, ?_⟩
  · rcases hv with hv | hv
    · exact .inl hv
    · rcases h.fresh with e | ⟨n, e, hn⟩
      · rw [e] at hv; exact .inr hv
      · rw [e] at hv; simp at hv; omega
  · rcases g.fresh with e | ⟨n, e, hn⟩
    · rcases h.fresh with e' | ⟨m, e', hm⟩
      · exact .inl (e.trans e')
      · exact .inr ⟨m, e.trans e', hm⟩
    · exact .inr ⟨n, e, Nat.le_trans h.touch.size hn⟩

/-- Behind the growth the writer's cell is there as it was. -/
theorem wr_there {w w1 : World} {pb : Nat} {v v1 : Value} {bs : List Int} (h : Wr w pb v bs) (hg : Grew w v w1 v1) : w1.cell? ⟨pb, 0, none⟩ = some v ∧ w1.frozen? ⟨pb, 0, none⟩ = false := by
  have hc : w1.heap[pb]? = some (.cells #[v] 27 (0, 0)) := (hg.touch.block pb h.lt h.apart).trans h.cell
  exact ⟨cell_of_one hc, free_of_one hc⟩

theorem Wr.alloc {w : World} {pb : Nat} {v : Value} {bs : List Int} (h : Wr w pb v bs) (o : Obj) : Wr (w.alloc o) pb v bs := ⟨(Below.heap_alloc w o pb h.lt).trans h.cell, h.row.alloc o⟩

theorem Wrote.of_alloc {w w' : World} {pb : Nat} {v v' : Value} (o : Obj) (h : Wrote (w.alloc o) pb v w' v') : Wrote w pb v w' v' :=
  ⟨((Touch.refl _ w).alloc o).trans h.touch fun _ _ hk => hk, by
    rcases h.fresh with e | ⟨g, e, hg⟩
    · exact .inl e
    · exact .inr ⟨g, e, by simp at hg; omega⟩⟩

/-- The store of the grown slice back into the writer. -/
theorem wr_stored {w w1 : World} {pb : Nat} {v v1 : Value} {bs cs : List Int} (h : Wr w pb v bs) (hr : Row w1 5 .u8 v1 cs) (hg : Grew w v w1 v1) :
    Wr (w1.setCell ⟨pb, 0, none⟩ v1) pb v1 cs ∧ Wrote w pb v (w1.setCell ⟨pb, 0, none⟩ v1) v1 := by
  have hc : w1.heap[pb]? = some (.cells #[v] 27 (0, 0)) := (hg.touch.block pb h.lt h.apart).trans h.cell
  have hne : v1.ownBlock ≠ some pb := by
    rcases hg.fresh with e | ⟨g, e, hge⟩
    · rw [e]; exact h.apart
    · rw [e]; have := h.lt; simp; omega
  refine ⟨⟨one_setCell hc, hr.stays fun g hgb => Below.heap_setCell _ _ _ _ fun e => hne (by simp at e; rw [hgb, e])⟩, ⟨?_, hg.fresh⟩⟩
  exact (hg.touch.mono fun k _ hk => .inr hk).setCell (fun _ => .inl rfl) _

theorem number1_any (v : Value) (bs : List Int) (X xb : Nat) (w : World) (hX : X < 18446744073709551616) (hx : w.cell? ⟨xb, 0, none⟩ = some (.int .u64 X)) (hown : Row w 5 .u8 v bs) (hb : bs.length ≤ 140737488351232) :
    Calls Try.prog 59 #[v, .pointer (some ⟨xb, 0, none⟩)] w (RetRow 5 .u8 w v (bs ++ numb X)) := by
  have HX : Hid (X < 18446744073709551616) := hX
  clear hX
  go_enter Try.func59, Try.ntmps59
  go_wp2_with (go_at_call 60; refine (putNumber_any v bs X w HX.out hown hb).mono ?_; rintro e w' ⟨ao, n, cap, rfl, hr, hg⟩)
  go_ret
  exact RetRow.mk hr hg

set_option maxRecDepth 100000 in
set_option maxHeartbeats 400000 in
theorem wNumber_any (pb : Nat) (v : Value) (bs : List Int) (X : Nat) (w : World) (hX : X < 18446744073709551616) (h : Wr w pb v bs) (hb : bs.length ≤ 140737488351232) :
    Calls Try.prog 25 #[.pointer (some ⟨pb, 0, none⟩), .int .u64 X] w fun e w' => e = .returned (.int .i64 0) ∧ ∃ v', Wr w' pb v' (bs ++ numb X) ∧ Wrote w pb v w' v' := by
  have HX : Hid (X < 18446744073709551616) := hX
  clear hX
  have hc := cell_of_one h.cell
  have hlt := h.lt
  go_enter Try.func25, Try.ntmps25
  go_wp2_with (first | (go_at_call 58; go_in) | (go_at_call 59; refine (number1_any v bs X w.heap.size _ HX.out (cell_new _ _ _) (h.row.alloc _) hb).mono ?_; rintro e w1 ⟨ao, n, cap, rfl, hr, hg⟩; obtain ⟨hc1, hf1⟩ := wr_there (h.alloc _) hg))
  go_ret
  obtain ⟨a, b⟩ := wr_stored (h.alloc _) hr hg
  exact ⟨rfl, _, a, b.of_alloc _⟩

theorem byte1_any (v : Value) (bs : List Int) (ao : Option Addr) (xs : List Int) (cap xb : Nat) (w : World) (hx : w.cell? ⟨xb, 0, none⟩ = some (.slice ao xs.length cap)) (hs : Seg w .u8 ao xs) (hown : Row w 5 .u8 v bs) (hb : bs.length + xs.length ≤ 140737488351232) :
    Calls Try.prog 69 #[v, .pointer (some ⟨xb, 0, none⟩)] w (RetRow 5 .u8 w v (bs ++ xs)) := by
  obtain ⟨i0, hi, hz0, hz1, hz2⟩ := info_parts Try.info5
  go_enter Try.func69, Try.ntmps69
  go_wp2_with (at_builtin; refine wpList_append_row _ rfl (.tmp 4) (.tmp 5) 25 25 rfl 5 i0 (.int .u8 0) .u8 1 Try.underlying25 hi hz0 hz1 hz2 rfl _ bs rfl hown _ xs rfl (hs.src Try.underlying25 _) ?b1 ?b2 ?nx)
  case b1 => unfold maxLen; omega
  case b2 => omega
  case nx =>
    intro ao1 n1 cap1 w1 hrow1 hgrew1
    go_wp2
    go_ret
    exact RetRow.mk hrow1 hgrew1

theorem signed1_any (v : Value) (bs : List Int) (x : Int) (xb : Nat) (w : World) (h0 : -9223372036854775808 ≤ x) (h1 : x ≤ 9223372036854775807) (hx : w.cell? ⟨xb, 0, none⟩ = some (.int .i64 x)) (hown : Row w 5 .u8 v bs) (hb : bs.length ≤ 140737488351232) :
    Calls Try.prog 70 #[v, .pointer (some ⟨xb, 0, none⟩)] w (RetRow 5 .u8 w v (bs ++ numb (Lib.zigzag x))) := by
  have H0 := hide (fold_any x w h0 h1)
  have H1 := hide (Lib.zigzag_lt h0 h1)
  clear h0 h1
  go_enter Try.func70, Try.ntmps70
  go_wp2_with (first | (go_at_call 71; refine H0.out.mono ?_; rintro e w' ⟨rfl, rfl⟩) | (go_at_call 60; refine (putNumber_any v bs (Lib.zigzag x) _ H1.out hown hb).mono ?_; rintro e w' ⟨ao, n, cap, rfl, hr, hg⟩))
  go_ret
  exact RetRow.mk hr hg

set_option maxRecDepth 100000 in
set_option maxHeartbeats 400000 in
theorem text1_any (v : Value) (bs : List Int) (s : ByteArray) (xb : Nat) (w : World) (hs : s.size ≤ 140737488351232) (hx : w.cell? ⟨xb, 0, none⟩ = some (.string s)) (hown : Row w 5 .u8 v bs) (hb : bs.length + s.size ≤ 140737488351232) (hv : v.ownBlock ≠ some xb) :
    Calls Try.prog 63 #[v, .pointer (some ⟨xb, 0, none⟩)] w (RetRow 5 .u8 w v (bs ++ (numb s.size ++ bytesOf s))) := by
  obtain ⟨i0, hi, hz0, hz1, hz2⟩ := info_parts Try.info5
  have B0 : Hid (s.size < 18446744073709551616) := by show _ < _; omega
  have hl := numb_len10 B0.out
  have B1 : Hid ((bs ++ numb s.size).length + (bytesOf s).length ≤ maxLen) := by show _ ≤ _; rw [bytesOf_length, List.length_append]; unfold maxLen; omega
  have B2 : Hid (((bs ++ numb s.size).length + (bytesOf s).length) * 1 ≤ 140737488355328) := by show _ ≤ _; rw [bytesOf_length, List.length_append]; omega
  have B3 : Hid (bs.length ≤ 140737488351232) := by show _ ≤ _; omega
  have hlt : xb < w.heap.size := lt_of_cell hx
  have T : Hid (∀ {w1 : World} {v1 : Value}, Grew w.drew v w1 v1 → w1.cell? ⟨xb, 0, none⟩ = some (.string s)) := fun hg => (hg.touch.cell (p := ⟨xb, 0, none⟩) hlt hv).trans hx
  have hwr : IntKind.u64.wrap (s.size : Int) = s.size := by rw [IntKind.wrap_u64]; omega
  clear hs hb hl hv hlt
  go_enter Try.func63, Try.ntmps63
  go_wp2
  go_region_law (first | (refine step_append_row rfl (.tmp 8) (.tmp 9) 25 9 rfl 5 i0 (.int .u8 0) .u8 1 Try.underlying25 hi hz0 hz1 hz2 rfl _ (bs ++ numb s.size) rfl hr _ (bytesOf s) rfl (src_string Try.underlying9 s _) B1.out B2.out ?_; intro ao2 n2 cap2 w2 hr2 hg2) | (go_simp; go_at_call 60; refine (putNumber_any v bs s.size _ B0.out hown.drew B3.out).mono ?_; rintro e w1 ⟨ao, n, cap, rfl, hr, hg⟩; have hx1 := T.out hg))
  all_goals go_wp2
  all_goals go_ret
  all_goals exact RetRow.mk (by rw [← List.append_assoc]; exact hr2) (drew_grew (hg.trans hg2))

end Go.Proofs.Ythhajlbnnffgnaa
