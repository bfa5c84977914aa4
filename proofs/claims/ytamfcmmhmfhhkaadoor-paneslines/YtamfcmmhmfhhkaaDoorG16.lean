/- Read: panes out of lines (the document's; the walk). What the program's panes are to answer: Compare, Text, Read. Small facts of panes (mathematics; a row that was lent). -/
import Derived.Test.YtamfcmmhmfhhkaaDoorG11
import Derived.Test.YtamfcmmhmfhhkaaDoorG7
import Derived.Deep.CutRange
import Derived.Test.YtamfcmmhmfhhkaaDoorG15
import Derived.Test.YtamfcmmhmfhhkaaDoorG8
import Derived.Test.YtamfcmmhmfhhkaaDoorG13
namespace Go.Proofs.YtamfcmmhmfhhkaaDoor
open Go.RowKit

theorem parV_eq (o : Option Pn) : parV o = .tuple #[pnv (o.getD pn0), .bool o.isSome] := by cases o <;> rfl
/-- What a function answers that reads lines. -/
def RetRd (w : World) (e : Ending) (w' : World) (L : List Pn) (r : List UInt8) (v : Value) : Prop :=
  ∃ Z ao cap, Z = (if r = [] then L else []) ∧ e = .returned (.tuple #[.slice ao Z.length cap, .int .i64 (L.length : Int), v]) ∧ encP.Own 29 w' w.heap.size (.slice ao Z.length cap) Z ∧ Calm w w'
theorem RetRd.no {w w' : World} {L : List Pn} {r : List UInt8} {v : Value} (hr : r ≠ []) (h : Calm w w') : RetRd w (.returned (.tuple #[.slice none 0 0, .int .i64 (L.length : Int), v])) w' L r v :=
  ⟨[], none, 0, by rw [if_neg hr], rfl, Rc.Own.nil _ _ _, h⟩

end Go.Proofs.YtamfcmmhmfhhkaaDoor

namespace Go.Proofs.YtamfcmmhmfhhkaaDoor
open Go.RowKit

abbrev textV (L : List Pn) : Value := .tuple #[.string (if mayT L then strOfNums (txT L L.length) else ⟨#[]⟩), .int .i64 (if mayT L then 0 else 2)]
structure Ppt : Prop extends Ppk where
  comp : ∀ (p q : Pn) (w : World), Calls Tryd.prog 13 #[pnv p, pnv q] w fun e w' => e = .returned (.int .i64 (cmpP p q)) ∧ Calm w w'
  text : ∀ (L : List Pn) (ao : Option Addr) (ac : Nat) (w : World), encP.Sl w ao ac L → L.length ≤ 1000 → (∀ j, j < L.length → NumOk (L.getD j pn0)) → Yv w → Calls Tryd.prog 10 #[.slice ao L.length ac] w fun e w' => e = .returned (textV L) ∧ Calm w w'
  read : ∀ (s : ByteArray) (w : World), s.size ≤ 900000 → Yv w → Calls Tryd.prog 17 #[.string s] w fun e w' => ∃ L r, RdR s.toList L r ∧ RetRd w e w' L r (.int .i64 (if r = [] then 0 else 280))

end Go.Proofs.YtamfcmmhmfhhkaaDoor

namespace Go.Proofs.YtamfcmmhmfhhkaaDoor
open Go.RowKit

theorem less_irr : ∀ x : List UInt8, Op.bytesLess x x = false
  | [] => rfl
  | a :: x => by simp [Op.bytesLess, less_irr x]
theorem kLt_self (k : ByteArray) : kLt k k = false := less_irr _
theorem cmpP_self (p : Pn) : cmpP p p = 0 := by
  unfold cmpP
  rw [kLt_self, if_neg (by decide), if_pos rfl, cmpL_eq]
theorem LentP.sl {w : World} {base g c : Nat} {L : List Pn} (h : LentP w base g c L) : encP.Sl w (some ⟨g, 0, none⟩) c L := ⟨h.mem.1, fun h => (nomatch h), by have := h.mem.2.1; omega⟩


end Go.Proofs.YtamfcmmhmfhhkaaDoor
