/- Cells that may be written; x[:k]. -/
import Derived.Test.YtdcpmpbfnfjncaaGreatDoorMR
namespace Go.Proofs.YtdcpmpbfnfjncaaGreatDoor
open Go.RowKit

theorem wn_frozen {w : World} {b : Nat} {c : Array Value} {ty : TypeId} (h : w.heap[b]? = some (.cells c ty (0, 0))) (o : Nat) : w.frozen? ⟨b, o, none⟩ = false := by simp [World.frozen?, h]

/-- x[:k] of what begins its block. -/
theorem cut_to {P : Program} {t e : TypeId} {i : TypeInfo} (ht : P.underlying t = some (.slice e)) (he : P.elem t = e) (hi : P.info? e = some i) {g n cap k : Nat} (hk : k ≤ cap) (W : World) :
    (Instr.slice t (.slice (some ⟨g, 0, none⟩) n cap) none (some (.int .i64 (k : Nat))) none).run P W = .ok (.slice (some ⟨g, 0, none⟩) k cap) W := by
  rw [run_slice_h W t (some ⟨g, 0, none⟩) n cap (by rw [he]; exact ht) .i64 (k : Nat) (by omega) (by omega), he]
  simp only [sizeOf, typeInfo]
  simp [hi, sliced, Addr.add_lit]

end Go.Proofs.YtdcpmpbfnfjncaaGreatDoor
