/- Walks: puts of a signed number. -/
import Derived.Test.YthhajlbnnffgnaaPuts
namespace Go.Proofs.Ythhajlbnnffgnaa
open Go.RowKit

set_option maxRecDepth 100000 in
set_option maxHeartbeats 1000000 in
theorem put_signed (pb : Nat) (v : Value) (bs : List Int) (X : Nat) (s : ByteArray) (bo lo : Option Addr) (bn bc ln lc : Nat) (w : World) (h : Wr w pb v bs) (hb : bs.length ≤ 140737487000000) :
    Calls Try.prog 10 #[.pointer (some ⟨pb, 0, none⟩), putVal 3 X s bo bn bc lo ln lc] w (PutEnd w pb v bs (numb (Lib.zigzag (IntKind.i64.wrap X)))) := by
  have hx0 : -9223372036854775808 ≤ IntKind.i64.wrap (X : Int) := by simp only [IntKind.wrap, IntKind.bits, IntKind.signed, Bool.true_and]; split <;> rename_i hc <;> simp at hc <;> omega
  have hx1 : IntKind.i64.wrap (X : Int) ≤ 9223372036854775807 := by simp only [IntKind.wrap, IntKind.bits, IntKind.signed, Bool.true_and]; split <;> rename_i hc <;> simp at hc <;> omega
  obtain ⟨x, hx⟩ : ∃ x, IntKind.i64.wrap (X : Int) = x := ⟨_, rfl⟩
  rw [hx] at hx0 hx1 ⊢
  have FN := hide (fun W => refFold_any x W hx0 hx1)
  have hz := Lib.zigzag_lt hx0 hx1
  have RN := hide (fun W => refNumber_any (Lib.zigzag x) W hz)
  have WN := hide (fun W (g : Wr W pb v bs) => wSigned_any pb v bs x W hx0 hx1 (by omega) g)
  have hw0 := (h.alloc (.cells #[.int .i64 3, .int .u64 X, .string s, .slice bo bn bc, .slice lo ln lc] 36)).drew
  clear hx0 hx1 hz
  unfold putVal
  go_enter Try.func10, Try.ntmps10
  go_wp2_with fail
  go_region_with (first | (go_at_call 37; refine (FN.out _).mono ?_; rintro r w' ⟨rfl, rfl⟩) | (go_at_call 36; refine (RN.out _).mono ?_; rintro r w1 ⟨a1, n1, c1, rfl, hr1, hg1⟩; have k1 := ((nil_touch hg1).cell (p := ⟨w.heap.size, 1, none⟩) (by simp) (fun h => h)).trans (show _ = some (Value.int IntKind.u64 X) by simp)) | (go_at_call 33; refine (WN.out _ (hw0.touch (nil_touch hg1) (fun h => h) (fun _ _ h => h))).mono ?_; rintro r w2 ⟨rfl, v2, hw2, ho2⟩) | (go_at_call 24; refine (num_any _ _).mono ?_; rintro e w' ⟨rfl, rfl⟩))
  all_goals go_wp2_with fail
  all_goals go_ret2
  all_goals first | exact PutEnd.mk (row_beside hr1 hg1 hw0 ho2) hw2 (wrote_chain hg1 ho2) | skip

end Go.Proofs.Ythhajlbnnffgnaa
