/- Walks: wire's Writer, further methods. -/
import Derived.Test.YthhajlbnnffgnaaWri
namespace Go.Proofs.Ythhajlbnnffgnaa
open Go.RowKit

set_option maxRecDepth 100000 in
set_option maxHeartbeats 400000 in
theorem fixed1_any (v : Value) (bs : List Int) (x : Nat) (xb : Nat) (w : World) (h1 : x < 4294967296) (hx : w.cell? ⟨xb, 0, none⟩ = some (.int .u32 x)) (hown : Row w 5 .u8 v bs) (hb : bs.length ≤ 140737488351232) :
    Calls Try.prog 72 #[v, .pointer (some ⟨xb, 0, none⟩)] w (RetRow 5 .u8 w v (bs ++ fixb x)) := by
  obtain ⟨i0, hi, hz0, hz1, hz2⟩ := info_parts Try.info5
  go_enter Try.func72, Try.ntmps72
  go_wp2_with (at_builtin; refine wpList_append_row _ rfl (.tmp 4) (.tmp 16) 25 25 rfl 5 i0 (.int .u8 0) .u8 1 Try.underlying25 hi hz0 hz1 hz2 rfl _ bs rfl (hown.alloc _) _ [(x : Int) % 256, (x : Int) / 256 % 256, (x : Int) / 65536 % 256, (x : Int) / 16777216] rfl (src_four Try.underlying25 _ _ _ _ _ _ _) ?b1 ?b2 ?nx)
  case b1 => simp only [List.length_cons, List.length_nil]; unfold maxLen; omega
  case b2 => simp only [List.length_cons, List.length_nil]; omega
  case nx =>
    intro ao n cap w1 hrow1 hgrew1
    go_wp2
    go_ret
    exact RetRow.mk hrow1 (((Grew.refl _ _).alloc _).trans hgrew1)

set_option maxRecDepth 100000 in
set_option maxHeartbeats 400000 in
theorem wByte_any (pb : Nat) (v : Value) (bs : List Int) (ao : Option Addr) (xs : List Int) (cap : Nat) (w : World) (hs : Seg w .u8 ao xs) (hb : bs.length + xs.length ≤ 140737488351232) (h : Wr w pb v bs) :
    Calls Try.prog 32 #[.pointer (some ⟨pb, 0, none⟩), .slice ao xs.length cap] w fun e w' => e = .returned (.int .i64 0) ∧ ∃ v', Wr w' pb v' (bs ++ xs) ∧ Wrote w pb v w' v' := by
  have hc := cell_of_one h.cell
  have hlt := h.lt
  go_enter Try.func32, Try.ntmps32
  go_wp2_with (first | (go_at_call 58; go_in) | (go_at_call 69; refine (byte1_any v bs ao xs cap w.heap.size _ (cell_new _ _ _) (hs.alloc _) (h.row.alloc _) hb).mono ?_; rintro e w1 ⟨ao1, n1, cap1, rfl, hr, hg⟩; obtain ⟨hc1, hf1⟩ := wr_there (h.alloc _) hg))
  go_ret
  obtain ⟨a, b⟩ := wr_stored (h.alloc _) hr hg
  exact ⟨rfl, _, a, b.of_alloc _⟩

set_option maxRecDepth 100000 in
set_option maxHeartbeats 400000 in
theorem wSigned_any (pb : Nat) (v : Value) (bs : List Int) (x : Int) (w : World) (h0 : -9223372036854775808 ≤ x) (h1 : x ≤ 9223372036854775807) (hb : bs.length ≤ 140737488351232) (h : Wr w pb v bs) :
    Calls Try.prog 33 #[.pointer (some ⟨pb, 0, none⟩), .int .i64 x] w fun e w' => e = .returned (.int .i64 0) ∧ ∃ v', Wr w' pb v' (bs ++ numb (Lib.zigzag x)) ∧ Wrote w pb v w' v' := by
  have H0 := hide h0
  have H1 := hide h1
  clear h0 h1
  have hc := cell_of_one h.cell
  have hlt := h.lt
  go_enter Try.func33, Try.ntmps33
  go_wp2_with (first | (go_at_call 58; go_in) | (go_at_call 70; refine (signed1_any v bs x w.heap.size _ H0.out H1.out (cell_new _ _ _) (h.row.alloc _) hb).mono ?_; rintro e w1 ⟨ao1, n1, cap1, rfl, hr, hg⟩; obtain ⟨hc1, hf1⟩ := wr_there (h.alloc _) hg))
  go_ret
  obtain ⟨a, b⟩ := wr_stored (h.alloc _) hr hg
  exact ⟨rfl, _, a, b.of_alloc _⟩

set_option maxRecDepth 100000 in
set_option maxHeartbeats 400000 in
theorem wText_any (pb : Nat) (v : Value) (bs : List Int) (s : ByteArray) (w : World) (hb : bs.length + s.size ≤ 140737488351232) (h : Wr w pb v bs) :
    Calls Try.prog 27 #[.pointer (some ⟨pb, 0, none⟩), .string s] w fun e w' => e = .returned (.int .i64 0) ∧ ∃ v', Wr w' pb v' (bs ++ (numb s.size ++ bytesOf s)) ∧ Wrote w pb v w' v' := by
  have hne : v.ownBlock ≠ some w.heap.size := fun e => Nat.lt_irrefl _ (h.row.lt e)
  have H0 : Hid (s.size ≤ 140737488351232) := by show _ ≤ _; omega
  have hc := cell_of_one h.cell
  have hlt := h.lt
  go_enter Try.func27, Try.ntmps27
  go_wp2_with (first | (go_at_call 58; go_in) | (go_at_call 63; refine (text1_any v bs s w.heap.size _ H0.out (cell_new _ _ _) (h.row.alloc _) hb hne).mono ?_; rintro e w1 ⟨ao1, n1, cap1, rfl, hr, hg⟩; obtain ⟨hc1, hf1⟩ := wr_there (h.alloc _) hg))
  go_ret
  obtain ⟨a, b⟩ := wr_stored (h.alloc _) hr hg
  exact ⟨rfl, _, a, b.of_alloc _⟩

set_option maxRecDepth 100000 in
set_option maxHeartbeats 400000 in
theorem wFixed_any (pb : Nat) (v : Value) (bs : List Int) (x : Nat) (w : World) (h1 : x < 4294967296) (hb : bs.length ≤ 140737488351232) (h : Wr w pb v bs) :
    Calls Try.prog 34 #[.pointer (some ⟨pb, 0, none⟩), .int .u32 x] w fun e w' => e = .returned (.int .i64 0) ∧ ∃ v', Wr w' pb v' (bs ++ fixb x) ∧ Wrote w pb v w' v' := by
  have hc := cell_of_one h.cell
  have hlt := h.lt
  go_enter Try.func34, Try.ntmps34
  go_wp2_with (first | (go_at_call 58; go_in) | (go_at_call 72; refine (fixed1_any v bs x w.heap.size _ h1 (cell_new _ _ _) (h.row.alloc _) hb).mono ?_; rintro e w1 ⟨ao1, n1, cap1, rfl, hr, hg⟩; obtain ⟨hc1, hf1⟩ := wr_there (h.alloc _) hg))
  go_ret
  obtain ⟨a, b⟩ := wr_stored (h.alloc _) hr hg
  exact ⟨rfl, _, a, b.of_alloc _⟩

end Go.Proofs.Ythhajlbnnffgnaa
