/- An append, as an operation. -/
import Derived.Test.YtapnjofplilefaaGreatBase
namespace Go.Proofs.YtapnjofplilefaaGreat
open Go.RowKit

/-- An append, as an operation. -/
theorem exec_apk {P : Program} {w w' : World} {o : Oper} {a : Act} (s x : Operand) (t tx : TypeId) (ho : o.op = .call { callee := .builtin .append, args := #[s, x], argTypes := #[t, tx] }) (v y r : Value) (hv : a.eval s = v) (hy : a.eval x = y)
    (hr : (Builtin.append_ #[t, tx] o.type #[v, y]).run P w = .ok r w') : (execOp a.eval o).run P w = .ok (.value r) w' := by
  unfold execOp
  simp only [ho, resolve, invoke, builtin, Sem.run_bind, Sem.run_pure, Result.andThen_ok, List.map_toArray, List.map_cons, List.map_nil, hv, hy, hr]

end Go.Proofs.YtapnjofplilefaaGreat
