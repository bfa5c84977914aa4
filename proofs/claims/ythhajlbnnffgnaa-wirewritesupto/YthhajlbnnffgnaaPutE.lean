/- Walks: puts of no kind. -/
import Derived.Test.YthhajlbnnffgnaaPuts
namespace Go.Proofs.Ythhajlbnnffgnaa
open Go.RowKit

set_option maxRecDepth 100000 in
set_option maxHeartbeats 1000000 in
theorem put_none (pb : Nat) (v : Value) (bs : List Int) (kind : Int) (X : Nat) (s : ByteArray) (bo lo : Option Addr) (bn bc ln lc : Nat) (w : World) (h : Wr w pb v bs) (hk : kind < 1 ∨ 6 < kind) :
    Calls Try.prog 10 #[.pointer (some ⟨pb, 0, none⟩), putVal kind X s bo bn bc lo ln lc] w (PutEnd w pb v bs []) := by
  have k1 : (kind == 1) = false := by simp; omega
  have k2 : (kind == 2) = false := by simp; omega
  have k3 : (kind == 3) = false := by simp; omega
  have k4 : (kind == 4) = false := by simp; omega
  have k5 : (kind == 5) = false := by simp; omega
  have k6 : (kind == 6) = false := by simp; omega
  clear hk
  unfold putVal
  go_enter Try.func10, Try.ntmps10
  go_wp2_with fail
  go_ret2
  exact PutEnd.mk (Row.nil _ _ _) (by rw [List.append_nil]; exact h.alloc _) ((Wrote.refl _ pb v).of_alloc _)

end Go.Proofs.Ythhajlbnnffgnaa
