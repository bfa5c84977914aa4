/- Walks: puts of a number, a signed number, a text, four bytes. -/
import Derived.Test.YthhajlbnnffgnaaPuts
namespace Go.Proofs.Ythhajlbnnffgnaa
open Go.RowKit

set_option maxRecDepth 100000 in
set_option maxHeartbeats 1000000 in
theorem put_number (pb : Nat) (v : Value) (bs : List Int) (X : Nat) (s : ByteArray) (bo lo : Option Addr) (bn bc ln lc : Nat) (w : World) (h : Wr w pb v bs) (hX : X < 18446744073709551616) (hb : bs.length ≤ 140737487000000) :
    Calls Try.prog 10 #[.pointer (some ⟨pb, 0, none⟩), putVal 2 X s bo bn bc lo ln lc] w (PutEnd w pb v bs (numb X)) := by
  have RN := hide (fun W => refNumber_any X W hX)
  have WN := hide (fun W (g : Wr W pb v bs) => wNumber_any pb v bs X W hX g (by omega))
  have hw0 := (h.alloc (.cells #[.int .i64 2, .int .u64 X, .string s, .slice bo bn bc, .slice lo ln lc] 36)).drew
  clear hX
  unfold putVal
  go_enter Try.func10, Try.ntmps10
  go_wp2_with fail
  go_region_with (first | (go_at_call 36; refine (RN.out _).mono ?_; rintro r w1 ⟨a1, n1, c1, rfl, hr1, hg1⟩; have k1 := ((nil_touch hg1).cell (p := ⟨w.heap.size, 1, none⟩) (by simp) (fun h => h)).trans (show _ = some (Value.int IntKind.u64 X) by simp)) | (go_at_call 25; refine (WN.out _ (hw0.touch (nil_touch hg1) (fun h => h) (fun _ _ h => h))).mono ?_; rintro r w2 ⟨rfl, v2, hw2, ho2⟩) | (go_at_call 24; refine (num_any _ _).mono ?_; rintro e w' ⟨rfl, rfl⟩))
  all_goals go_wp2_with fail
  all_goals go_ret2
  all_goals first | exact PutEnd.mk (row_beside hr1 hg1 hw0 ho2) hw2 (wrote_chain hg1 ho2) | skip

end Go.Proofs.Ythhajlbnnffgnaa
