/- keys: of all panes, rising, each once (the document's; the walk). Keys: each key and its panes (the document's). Keys: each key and its panes (the document's; the walk). -/
import Derived.Test.YtamfcmmhmfhhkaaDoorG7
import Derived.Test.YtamfcmmhmfhhkaaDoorG6
import Derived.Great.BuildSlice
namespace Go.Proofs.YtamfcmmhmfhhkaaDoor
open Go.RowKit

/-- A text's cell, in every world that stays calm. -/
theorem st_W {w : World} {ao : Option Addr} {L : List ByteArray} (h : encZ.Mem w ao L) (j : Nat) (hj : j < L.length) : ∃ g off, ao = some ⟨g, off, none⟩ ∧ ∀ W, Calm w W → W.cell? ⟨g, off + j, none⟩ = some (.string (L.getD j ⟨#[]⟩)) := by
  obtain ⟨g, off, e, -⟩ := st_at h j hj
  refine ⟨g, off, e, fun W hW => ?_⟩
  obtain ⟨g2, off2, e2, k⟩ := st_at (Rc.Mem.calm h hW) j hj
  rw [e] at e2
  injection e2 with e2
  injection e2 with e3 e4
  subst e3 e4
  exact k

end Go.Proofs.YtamfcmmhmfhhkaaDoor

namespace Go.Proofs.YtamfcmmhmfhhkaaDoor
open Go.RowKit

/-- A key, and where its panes lie. -/
structure Kp where
  k : ByteArray
  o : Option Addr
  n : Nat
  c : Nat
abbrev kpc (p : Kp) : Array Value := #[.string p.k, .slice p.o p.n p.c]
abbrev kp0 : Kp := ⟨⟨#[]⟩, none, 0, 0⟩
def encG : Rc.Enc Kp := ⟨2, fun x => (kpc x).toList, fun _ => rfl, fun _ u hu => by simp at hu; rcases hu with rfl | rfl <;> rfl, by decide⟩
theorem kp_at {w : World} {ao : Option Addr} {L : List Kp} (h : encG.Mem w ao L) (j : Nat) (hj : j < L.length) : ∃ b off, ao = some ⟨b, off, none⟩ ∧ w.cell? ⟨b, off + j * 2, none⟩ = some (.string (L.getD j kp0).k) ∧ w.cell? ⟨b, off + j * 2 + 1, none⟩ = some (.slice (L.getD j kp0).o (L.getD j kp0).n (L.getD j kp0).c) := by
  obtain ⟨b, off, e, g⟩ := Rc.Mem.at h j hj
  rw [List.getD_eq_getElem?_getD, List.getElem?_eq_getElem hj]
  exact ⟨b, off, e, g 0 _ rfl, g 1 _ rfl⟩
/-- The rows of the panes of the keys lie there, each one a row of its own. -/
def KpIn (W : World) (base : Nat) (L : List Pn) (K : List ByteArray) (P : List Kp) : Prop :=
  ∀ j, j < P.length → (P.getD j kp0).k = K.getD j ⟨#[]⟩ ∧ (P.getD j kp0).n = (ofP L (K.getD j ⟨#[]⟩)).length ∧ encP.Own 29 W base (.slice (P.getD j kp0).o (P.getD j kp0).n (P.getD j kp0).c) (ofP L (K.getD j ⟨#[]⟩))
theorem KpIn.calm {W W' : World} {base : Nat} {L : List Pn} {K : List ByteArray} {P : List Kp} (h : KpIn W base L K P) (ht : Calm W W') : KpIn W' base L K P := fun j hj => by
  obtain ⟨h1, h2, h3⟩ := h j hj
  exact ⟨h1, h2, Rc.Own.calm h3 ht⟩
theorem KpIn.push {W : World} {base : Nat} {L : List Pn} {K : List ByteArray} {P : List Kp} {o : Option Addr} {c : Nat} (h : KpIn W base L K P) (hw : encP.Own 29 W base (.slice o (ofP L (K.getD P.length ⟨#[]⟩)).length c) (ofP L (K.getD P.length ⟨#[]⟩))) : KpIn W base L K (P ++ [(⟨K.getD P.length ⟨#[]⟩, o, (ofP L (K.getD P.length ⟨#[]⟩)).length, c⟩ : Kp)]) := fun j hj => by
  rcases Nat.lt_or_ge j P.length with h1 | h1
  · have e : (P ++ [(⟨K.getD P.length ⟨#[]⟩, o, (ofP L (K.getD P.length ⟨#[]⟩)).length, c⟩ : Kp)]).getD j kp0 = P.getD j kp0 := by
      simp [List.getD_eq_getElem?_getD, List.getElem?_append_left h1]
    rw [e]
    exact h j h1
  · obtain rfl : j = P.length := by simp at hj; omega
    have e : (P ++ [(⟨K.getD P.length ⟨#[]⟩, o, (ofP L (K.getD P.length ⟨#[]⟩)).length, c⟩ : Kp)]).getD P.length kp0 = ⟨K.getD P.length ⟨#[]⟩, o, (ofP L (K.getD P.length ⟨#[]⟩)).length, c⟩ := by
      simp [List.getD_eq_getElem?_getD]
    rw [e]
    exact ⟨rfl, rfl, hw⟩

end Go.Proofs.YtamfcmmhmfhhkaaDoor

namespace Go.Proofs.YtamfcmmhmfhhkaaDoor
open Go.RowKit

end Go.Proofs.YtamfcmmhmfhhkaaDoor
