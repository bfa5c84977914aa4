/- An append, as an operation. Keys: each key and its panes (the document's; the walk). Two lists of keys' panes that are the same are told to be so (the document's). Begins (the document's). -/
import Derived.Test.YtamfcmmhmfhhkaaGreatDoorG0
import Derived.Test.YtamfcmmhmfhhkaaGreatDoorG4
import Derived.Great.BuildSlice
namespace Go.Proofs.YtamfcmmhmfhhkaaGreatDoor
open Go.RowKit

/-- An append, as an operation. -/
theorem exec_apk {P : Program} {w w' : World} {o : Oper} {a : Act} (s x : Operand) (t tx : TypeId) (ho : o.op = .call { callee := .builtin .append, args := #[s, x], argTypes := #[t, tx] }) (v y r : Value) (hv : a.eval s = v) (hy : a.eval x = y)
    (hr : (Builtin.append_ #[t, tx] o.type #[v, y]).run P w = .ok r w') : (execOp a.eval o).run P w = .ok (.value r) w' := by
  unfold execOp
  simp only [ho, resolve, invoke, builtin, Sem.run_bind, Sem.run_pure, Result.andThen_ok, List.map_toArray, List.map_cons, List.map_nil, hv, hy, hr]

end Go.Proofs.YtamfcmmhmfhhkaaGreatDoor

namespace Go.Proofs.YtamfcmmhmfhhkaaGreatDoor
open Go.RowKit

end Go.Proofs.YtamfcmmhmfhhkaaGreatDoor

namespace Go.Proofs.YtamfcmmhmfhhkaaGreatDoor
open Go.RowKit

theorem kp_W {w : World} {ao : Option Addr} {L : List Kp} (h : encG.Mem w ao L) (j : Nat) (hj : j < L.length) : ∃ g off, ao = some ⟨g, off, none⟩ ∧ ∀ W, Calm w W → W.cell? ⟨g, off + j * 2, none⟩ = some (.string (L.getD j kp0).k) ∧ W.cell? ⟨g, off + j * 2 + 1, none⟩ = some (.slice (L.getD j kp0).o (L.getD j kp0).n (L.getD j kp0).c) := by
  obtain ⟨g, off, e, -⟩ := kp_at h j hj
  refine ⟨g, off, e, fun W hW => ?_⟩
  obtain ⟨g2, off2, e2, k⟩ := kp_at (Rc.Mem.calm h hW) j hj
  rw [e] at e2
  injection e2 with e2
  injection e2 with e3 e4
  subst e3 e4
  exact k

end Go.Proofs.YtamfcmmhmfhhkaaGreatDoor

namespace Go.Proofs.YtamfcmmhmfhhkaaGreatDoor
open Go.RowKit

/-- Are a key's panes of the one list the first ones of the other's? -/
def okB (A B : List Pn) (k : ByteArray) : Bool := decide ((ofP A k).length ≤ (ofP B k).length) && decide (ofP A k = (ofP B k).take (ofP A k).length)
def beginsP (A B : List Pn) : Bool := (keysP A).all (okB A B)

end Go.Proofs.YtamfcmmhmfhhkaaGreatDoor
