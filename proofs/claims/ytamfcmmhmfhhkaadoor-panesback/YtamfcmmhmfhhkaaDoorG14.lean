/- The program's kinds and the library's tables in memory. keys: of all panes, rising, each once (the document's; the walk). Keys: each key and its panes (the document's). -/
import Derived.Test.YtamfcmmhmfhhkaaDoorG13
import Derived.Test.YtamfcmmhmfhhkaaDoorG9
import Derived.Test.YtamfcmmhmfhhkaaDoorG10
import Derived.Lib.ItoaLen
import Derived.Lib.AppendIntMem
import Derived.Lib.ParseIntBTie
import Derived.Test.YtamfcmmhmfhhkaaDoorG4
namespace Go.Proofs.YtamfcmmhmfhhkaaDoor
open Go.RowKit

/-- The library's table of tens stands. -/
def Tab (w : World) : Prop := Lib.TabIs Tryd.prog w "internal/strconv.uint64pow10" .u64 Lib.pow10Tab
theorem Tab.calm {w w' : World} (h : Tab w) (ht : Calm w w') : Tab w' := Lib.tabBelow_of_tabIs h w' (Touch.below ht fun _ _ h => h)
theorem Tab.below {w : World} (h : Tab w) {B : Nat} (hB : B = w.heap.size) : Lib.TabBelow Tryd.prog B w "internal/strconv.uint64pow10" .u64 Lib.pow10Tab := by subst hB; exact Lib.tabBelow_of_tabIs h

theorem cell_calm {w w' : World} {b i : Nat} {v : Value} (h : w.cell? ⟨b, i, none⟩ = some v) (ht : Calm w w') : w'.cell? ⟨b, i, none⟩ = some v := by
  rw [ht.cell (p := ⟨b, i, none⟩) ?_ (fun h => h)]
  · exact h
  · rcases Nat.lt_or_ge b w.heap.size with h' | h'
    · exact h'
    · exfalso; simp [World.cell?, Array.getElem?_eq_none h'] at h

/-- The library's errors and the limit of its search lie there. -/
def Errs (w : World) : Prop := (∃ te pe, w.cell? ⟨3, 0, none⟩ = some (.iface te pe)) ∧ (∃ te pe, w.cell? ⟨4, 0, none⟩ = some (.iface te pe)) ∧ ∃ m, w.cell? ⟨1, 0, none⟩ = some (.int .i64 m)
theorem Errs.calm {w w' : World} (h : Errs w) (ht : Calm w w') : Errs w' := by
  obtain ⟨⟨a, b, h1⟩, ⟨c, d, h2⟩, m, h3⟩ := h
  exact ⟨⟨a, b, cell_calm h1 ht⟩, ⟨c, d, cell_calm h2 ht⟩, m, cell_calm h3 ht⟩

/-- The program's words for kinds: at 0 none. -/
def kdB (i : Nat) : ByteArray := if i = 0 then ⟨#[]⟩ else nameB (i : Int)
/-- They lie there. -/
def Kds (w : World) : Prop := ∀ i, i < 4 → w.cell? ⟨0, i, none⟩ = some (.string (kdB i))
theorem Kds.calm {w w' : World} (h : Kds w) (ht : Calm w w') : Kds w' := fun i hi => cell_calm (h i hi) ht

/-- What the program's variables hold. -/
structure Yv (w : World) : Prop where
  tab : Tab w
  errs : Errs w
  kds : Kds w
theorem Yv.calm {w w' : World} (h : Yv w) (ht : Calm w w') : Yv w' := ⟨h.tab.calm ht, h.errs.calm ht, h.kds.calm ht⟩
theorem calm_below {w w' : World} (h : Below w.heap.size w w') : Calm w w' := ⟨h.os, h.tape, h.output, h.size, fun k hk _ => h.block k hk⟩

end Go.Proofs.YtamfcmmhmfhhkaaDoor

namespace Go.Proofs.YtamfcmmhmfhhkaaDoor
open Go.RowKit

/-- A text's cell, in every world that stays calm. -/
theorem st_W {w : World} {ao : Option Addr} {L : List ByteArray} (h : encZ.Mem w ao L) (j : Nat) (hj : j < L.length) : ∃ g off, ao = some ⟨g, off, none⟩ ∧ ∀ W, Calm w W → W.cell? ⟨g, off + j, none⟩ = some (.string (L.getD j ⟨#[]⟩)) := by
  obtain ⟨g, off, e, -⟩ := st_at h j hj
  refine ⟨g, off, e, fun W hW => ?_⟩
  obtain ⟨g2, off2, e2, k⟩ := st_at (Rc.Mem.calm h hW) j hj
  rw [e] at e2
  injection e2 with e2
  injection e2 with e3 e4
  subst e3 e4
  exact k

end Go.Proofs.YtamfcmmhmfhhkaaDoor

namespace Go.Proofs.YtamfcmmhmfhhkaaDoor
open Go.RowKit

/-- A key, and where its panes lie. -/
structure Kp where
  k : ByteArray
  o : Option Addr
  n : Nat
  c : Nat
abbrev kpc (p : Kp) : Array Value := #[.string p.k, .slice p.o p.n p.c]
abbrev kp0 : Kp := ⟨⟨#[]⟩, none, 0, 0⟩
def encG : Rc.Enc Kp := ⟨2, fun x => (kpc x).toList, fun _ => rfl, fun _ u hu => by simp at hu; rcases hu with rfl | rfl <;> rfl, by decide⟩
theorem kp_at {w : World} {ao : Option Addr} {L : List Kp} (h : encG.Mem w ao L) (j : Nat) (hj : j < L.length) : ∃ b off, ao = some ⟨b, off, none⟩ ∧ w.cell? ⟨b, off + j * 2, none⟩ = some (.string (L.getD j kp0).k) ∧ w.cell? ⟨b, off + j * 2 + 1, none⟩ = some (.slice (L.getD j kp0).o (L.getD j kp0).n (L.getD j kp0).c) := by
  obtain ⟨b, off, e, g⟩ := Rc.Mem.at h j hj
  rw [List.getD_eq_getElem?_getD, List.getElem?_eq_getElem hj]
  exact ⟨b, off, e, g 0 _ rfl, g 1 _ rfl⟩
/-- The rows of the panes of the keys lie there, each one a row of its own. -/
def KpIn (W : World) (base : Nat) (L : List Pn) (K : List ByteArray) (P : List Kp) : Prop :=
  ∀ j, j < P.length → (P.getD j kp0).k = K.getD j ⟨#[]⟩ ∧ (P.getD j kp0).n = (ofP L (K.getD j ⟨#[]⟩)).length ∧ encP.Own 29 W base (.slice (P.getD j kp0).o (P.getD j kp0).n (P.getD j kp0).c) (ofP L (K.getD j ⟨#[]⟩))
theorem KpIn.calm {W W' : World} {base : Nat} {L : List Pn} {K : List ByteArray} {P : List Kp} (h : KpIn W base L K P) (ht : Calm W W') : KpIn W' base L K P := fun j hj => by
  obtain ⟨h1, h2, h3⟩ := h j hj
  exact ⟨h1, h2, Rc.Own.calm h3 ht⟩
theorem KpIn.push {W : World} {base : Nat} {L : List Pn} {K : List ByteArray} {P : List Kp} {o : Option Addr} {c : Nat} (h : KpIn W base L K P) (hw : encP.Own 29 W base (.slice o (ofP L (K.getD P.length ⟨#[]⟩)).length c) (ofP L (K.getD P.length ⟨#[]⟩))) : KpIn W base L K (P ++ [(⟨K.getD P.length ⟨#[]⟩, o, (ofP L (K.getD P.length ⟨#[]⟩)).length, c⟩ : Kp)]) := fun j hj => by
  rcases Nat.lt_or_ge j P.length with h1 | h1
  · have e : (P ++ [(⟨K.getD P.length ⟨#[]⟩, o, (ofP L (K.getD P.length ⟨#[]⟩)).length, c⟩ : Kp)]).getD j kp0 = P.getD j kp0 := by
      simp [List.getD_eq_getElem?_getD, List.getElem?_append_left h1]
    rw [e]
    exact h j h1
  · obtain rfl : j = P.length := by simp at hj; omega
    have e : (P ++ [(⟨K.getD P.length ⟨#[]⟩, o, (ofP L (K.getD P.length ⟨#[]⟩)).length, c⟩ : Kp)]).getD P.length kp0 = ⟨K.getD P.length ⟨#[]⟩, o, (ofP L (K.getD P.length ⟨#[]⟩)).length, c⟩ := by
      simp [List.getD_eq_getElem?_getD]
    rw [e]
    exact ⟨rfl, rfl, hw⟩

end Go.Proofs.YtamfcmmhmfhhkaaDoor
