/- Walks: puts of four bytes. -/
import Derived.Test.YthhajlbnnffgnaaPuts
namespace Go.Proofs.Ythhajlbnnffgnaa
open Go.RowKit

set_option maxRecDepth 100000 in
set_option maxHeartbeats 1000000 in
theorem put_fixed (pb : Nat) (v : Value) (bs : List Int) (X : Nat) (s : ByteArray) (bo lo : Option Addr) (bn bc ln lc : Nat) (w : World) (h : Wr w pb v bs) (hb : bs.length ≤ 140737487000000) :
    Calls Try.prog 10 #[.pointer (some ⟨pb, 0, none⟩), putVal 5 X s bo bn bc lo ln lc] w (PutEnd w pb v bs (fixb (X % 4294967296))) := by
  have hx : IntKind.u32.wrap (X : Int) = ((X % 4294967296 : Nat) : Int) := by rw [IntKind.wrap_u32]; omega
  have hx2 : X % 4294967296 < 4294967296 := Nat.mod_lt _ (by decide)
  generalize X % 4294967296 = x at hx hx2 ⊢
  have RN := hide (fun W => refFixed_w x W hx2)
  have WN := hide (fun W (g : Wr W pb v bs) => wFixed_any pb v bs x W hx2 (by omega) g)
  have hw0 := (h.alloc (.cells #[.int .i64 5, .int .u64 X, .string s, .slice bo bn bc, .slice lo ln lc] 36)).drew
  clear hx2
  unfold putVal
  go_enter Try.func10, Try.ntmps10
  go_wp2_with fail
  go_region_with (first | (go_at_call 39; refine (RN.out _).mono ?_; rintro r w1 ⟨a1, n1, c1, rfl, hr1, hg1⟩; have k1 := ((nil_touch hg1).cell (p := ⟨w.heap.size, 1, none⟩) (by simp) (fun h => h)).trans (show _ = some (Value.int IntKind.u64 X) by simp)) | (go_at_call 34; refine (WN.out _ (hw0.touch (nil_touch hg1) (fun h => h) (fun _ _ h => h))).mono ?_; rintro r w2 ⟨rfl, v2, hw2, ho2⟩) | (go_at_call 24; refine (num_any _ _).mono ?_; rintro e w' ⟨rfl, rfl⟩))
  all_goals go_wp2_with fail
  all_goals go_ret2
  all_goals first | exact PutEnd.mk (row_beside hr1 hg1 hw0 ho2) hw2 (wrote_chain hg1 ho2) | skip

end Go.Proofs.Ythhajlbnnffgnaa
