/- The program's From. -/
import Derived.Test.YtmmeglpglaogeaaDoorMov2
import Derived.Laws.BitsAll
namespace Go.Proofs.YtmmeglpglaogeaaDoor
open Go.RowKit Crcx

/-- The number of four bytes. -/
def word (a b c d : Nat) : Nat := a + 256 * b + 65536 * c + 16777216 * d

theorem or_word (a b c d : Nat) (ha : a < 256) (hb : b < 256) (hc : c < 256) (hd : d < 256) :
    bits .or .u32 (bits .or .u32 (bits .or .u32 (a : Int) ((b : Int) * 256)) ((c : Int) * 65536)) ((d : Int) * 16777216) = ((word a b c d : Nat) : Int) := by
  have e1 : bits .or .u32 (a : Int) ((b : Int) * 256) = ((a + 256 * b : Nat) : Int) := by go_bits2
  rw [e1]
  have e2 : bits .or .u32 ((a + 256 * b : Nat) : Int) ((c : Int) * 65536) = ((a + 256 * b + 65536 * c : Nat) : Int) := by go_bits2
  rw [e2]
  unfold word
  go_bits2

set_option maxRecDepth 100000 in
set_option maxHeartbeats 4000000 in
theorem from_four (b off : Nat) (a0 a1 a2 a3 : Nat) (cap : Nat) (w : World) (h0 : w.cell? ⟨b, off, none⟩ = some (.int .u8 (a0 : Int))) (h1 : w.cell? ⟨b, off + 1, none⟩ = some (.int .u8 (a1 : Int))) (h2 : w.cell? ⟨b, off + 2, none⟩ = some (.int .u8 (a2 : Int))) (h3 : w.cell? ⟨b, off + 3, none⟩ = some (.int .u8 (a3 : Int))) (l0 : a0 < 256) (l1 : a1 < 256) (l2 : a2 < 256) (l3 : a3 < 256) :
    Calls Tryd.prog 19 #[.slice (some ⟨b, off, none⟩) 4 cap] w fun e w' => e = .returned (.tuple #[.int .u32 ((word a0 a1 a2 a3 : Nat) : Int), .bool true]) ∧ Touch (fun _ => False) w w' := by
  have HO := hide (or_word a0 a1 a2 a3 l0 l1 l2 l3)
  go_enter Tryd.func19, Tryd.ntmps19
  go_wp2_with fail
  go_region
  rw [HO.out]
  go_wp2_with fail
  go_ret2
  exact ⟨rfl, (Touch.refl _ _).drew⟩

set_option maxRecDepth 100000 in
theorem from_not (ao : Option Addr) (len cap : Nat) (w : World) (h : len ≠ 4) :
    Calls Tryd.prog 19 #[.slice ao len cap] w fun e w' => e = .returned (.tuple #[.int .u32 0, .bool false]) ∧ Touch (fun _ => False) w w' := by
  have h' : ¬ (len : Int) = 4 := by omega
  clear h
  go_enter Tryd.func19, Tryd.ntmps19
  go_wp2_with fail
  go_ret2
  exact ⟨rfl, Touch.refl _ _⟩

end Go.Proofs.YtmmeglpglaogeaaDoor
