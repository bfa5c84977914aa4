/-
  No cell of these rows narrows 'for every input' (looked for: loops, veiled, ifaces, maps, wideKeys, modest, calm, conditions, laid).
  DERIVED. THE GIVEN ROWS OF THIS SEAT. 3 by the template 'for every input the law returns true; each argument reads behind the call as it read before'; 0 by the template 'total and deterministic' (their statements: YtapnjofplilefaaTotals.lean).
  GIVEN WITH THE SEED: the statements are not yours to turn. If you find one false, say at which input.
  Laid BY PROGRAM, IN A SANDBOX (cutbox-rows.mjs): the forced cells as the released guide's own fill.sh prints them over the translation 8ae8ffcca358b1e3… (all of the seat's roots in one cut). By AI agents, Wed Nov 11 2026. No macro, syntax, notation, axiom, sorry.
-/
import Derived.Test.YtapnjofplilefaaChecked
import GoSem.Claim
import GoSem.ClaimJoined
import GoSem.ClaimMapViews
import Derived.JoinedTies
import Derived.KernelRfl
namespace Go.Proofs.Ytapnjofplilefaa
/- THE CELL 'sum', in the pinned program and in every row, IS THE sha256 OF THE DUMP (.gsa) THAT YtapnjofplilefaaProg.lean LOADS. Nothing in Lean hashes anything: it is a label: what it is worth is what the hold of that sum in a sandbox is worth. -/
noncomputable def Try.pinned : Pinned := { name := "ytapnjofplilefaa", sum := "8ae8ffcca358b1e306fe021ac15e81703132f638f7b8fa260218f0a3e7121c91", checked := Try.checked }
namespace Rows
def none {H : Type} : Left H := { results := [], args := [] }

/-- 'keepsakelaw15.RouteFrom': WHATEVER THE INPUT: true; the input reads as it did. -/
def routeFromSpec : ChangeSpec := { name := "routeFrom", fn := fun _ => fun
  | [d1, d2] => { results := [.lit (.bool true)], args := [d1, d2] }
  | _ => none }
def routeFromRow : OpenClaim := { program := "ytapnjofplilefaa", sum := "8ae8ffcca358b1e306fe021ac15e81703132f638f7b8fa260218f0a3e7121c91", func := "keepsake/keepsakelaw15.RouteFrom", spec := "routeFrom", unfollowed := true, recurses := true, apart := false }
def RouteFromSaid : Prop := routeFromRow.holds Try.pinned (OpenSpec.ofChange routeFromSpec)

/-- ITS FALSE NEIGHBOUR: 'it returns false'. Refute it at one input. -/
def routeFromWrong : ChangeSpec := { name := "routeFrom", fn := fun _ => fun
  | [d1, d2] => { results := [.lit (.bool false)], args := [d1, d2] }
  | _ => none }
def RouteFromWrongFalsely : Prop := routeFromRow.holds Try.pinned (OpenSpec.ofChange routeFromWrong)

/-- 'keepsakelaw15.RouteEach': WHATEVER THE INPUT: true; the input reads as it did. -/
def routeEachSpec : ChangeSpec := { name := "routeEach", fn := fun _ => fun
  | [d1, d2, d3] => { results := [.lit (.bool true)], args := [d1, d2, d3] }
  | _ => none }
def routeEachRow : OpenClaim := { program := "ytapnjofplilefaa", sum := "8ae8ffcca358b1e306fe021ac15e81703132f638f7b8fa260218f0a3e7121c91", func := "keepsake/keepsakelaw15.RouteEach", spec := "routeEach", unfollowed := true, recurses := true, apart := false }
def RouteEachSaid : Prop := routeEachRow.holds Try.pinned (OpenSpec.ofChange routeEachSpec)

/-- ITS FALSE NEIGHBOUR: 'it returns false'. Refute it at one input. -/
def routeEachWrong : ChangeSpec := { name := "routeEach", fn := fun _ => fun
  | [d1, d2, d3] => { results := [.lit (.bool false)], args := [d1, d2, d3] }
  | _ => none }
def RouteEachWrongFalsely : Prop := routeEachRow.holds Try.pinned (OpenSpec.ofChange routeEachWrong)

/-- 'keepsakelaw15.RouteNil': WHATEVER THE INPUT: true; the input reads as it did. -/
def routeNilSpec : ChangeSpec := { name := "routeNil", fn := fun _ => fun
  | [d1, d2] => { results := [.lit (.bool true)], args := [d1, d2] }
  | _ => none }
def routeNilRow : OpenClaim := { program := "ytapnjofplilefaa", sum := "8ae8ffcca358b1e306fe021ac15e81703132f638f7b8fa260218f0a3e7121c91", func := "keepsake/keepsakelaw15.RouteNil", spec := "routeNil", inPlace := ["internal/bytealg.abigen_runtime_cmpstring"], unfollowed := true, recurses := true, apart := false }
def RouteNilSaid : Prop := routeNilRow.holds Try.pinned (OpenSpec.ofChange routeNilSpec)

/-- ITS FALSE NEIGHBOUR: 'it returns false'. Refute it at one input. -/
def routeNilWrong : ChangeSpec := { name := "routeNil", fn := fun _ => fun
  | [d1, d2] => { results := [.lit (.bool false)], args := [d1, d2] }
  | _ => none }
def RouteNilWrongFalsely : Prop := routeNilRow.holds Try.pinned (OpenSpec.ofChange routeNilWrong)

/- THE SECOND FORM. 'bulk': how many values and letters a reading holds, each counted each time it is reached (what is shared counts as often as it is met; a slice's spare places count too). A statement '..UptoSaid' is the law's where the arguments, and the package variables that the reading takes, are together of bulk at most 1048576: NARROWER than '..Said'. Prove '..Said' where nothing that the law and all that it calls make is longer than what came in: it says more and counts as full. Else prove '..UptoSaid'. A law counts once. -/
mutual
def uptoBulk {H : Type} : DataW H → Nat
  | .lit (.string bytes) => bytes.length + 1
  | .lit _ => 1
  | .nil => 1
  | .ptr d => uptoBulk d + 1
  | .slice elems spare => uptoBulkAll elems + uptoBulkAll spare + 1
  | .agg parts => uptoBulkAll parts + 1
  | .iface _ d => uptoBulk d + 1
  | .map entries => uptoBulkEntries entries + 1
  | .held _ => 1
def uptoBulkAll {H : Type} : List (DataW H) → Nat
  | [] => 0
  | d :: r => uptoBulk d + uptoBulkAll r
def uptoBulkEntries {H : Type} : List (Lit × DataW H) → Nat
  | [] => 0
  | x :: r => uptoBulkEntry x + uptoBulkEntries r
def uptoBulkEntry {H : Type} : Lit × DataW H → Nat
  | (.string bytes, d) => bytes.length + uptoBulk d + 1
  | (_, d) => uptoBulk d + 1
 end
def uptoSmall : (H : Type) → List (DataW H) → Bool := fun _ ds => decide (uptoBulkAll ds ≤ 1048576)
def OpenSpec.upto (s : _root_.Go.ChangeSpec) : _root_.Go.OpenSpec := { _root_.Go.OpenSpec.ofChange s with cond := some uptoSmall }

/-- 'keepsakelaw15.RouteFrom', WHERE WHAT IT READS IS OF BULK AT MOST 1048576: true; the input reads as it did. -/
def routeFromUptoRow : OpenClaim := { program := "ytapnjofplilefaa", sum := "8ae8ffcca358b1e306fe021ac15e81703132f638f7b8fa260218f0a3e7121c91", func := "keepsake/keepsakelaw15.RouteFrom", spec := "routeFrom", unfollowed := true, recurses := true, apart := false, narrowed := true }
def RouteFromUptoSaid : Prop := routeFromUptoRow.holds Try.pinned (OpenSpec.upto routeFromSpec)

/-- 'keepsakelaw15.RouteEach', WHERE WHAT IT READS IS OF BULK AT MOST 1048576: true; the input reads as it did. -/
def routeEachUptoRow : OpenClaim := { program := "ytapnjofplilefaa", sum := "8ae8ffcca358b1e306fe021ac15e81703132f638f7b8fa260218f0a3e7121c91", func := "keepsake/keepsakelaw15.RouteEach", spec := "routeEach", unfollowed := true, recurses := true, apart := false, narrowed := true }
def RouteEachUptoSaid : Prop := routeEachUptoRow.holds Try.pinned (OpenSpec.upto routeEachSpec)

/-- 'keepsakelaw15.RouteNil', WHERE WHAT IT READS IS OF BULK AT MOST 1048576: true; the input reads as it did. -/
def routeNilUptoRow : OpenClaim := { program := "ytapnjofplilefaa", sum := "8ae8ffcca358b1e306fe021ac15e81703132f638f7b8fa260218f0a3e7121c91", func := "keepsake/keepsakelaw15.RouteNil", spec := "routeNil", inPlace := ["internal/bytealg.abigen_runtime_cmpstring"], unfollowed := true, recurses := true, apart := false, narrowed := true }
def RouteNilUptoSaid : Prop := routeNilUptoRow.holds Try.pinned (OpenSpec.upto routeNilSpec)

end Rows
end Go.Proofs.Ytapnjofplilefaa
