/- What the program's clocks are to answer: the laws are walked over this, and the program is held against it. -/
import Derived.Test.YtcmigkemhoecfaaKR
namespace Go.Proofs.Ytcmigkemhoecfaa
open Go.RowKit

abbrev capH : Nat := 4600000000000
abbrev cp (q : Nat) : Value := .pointer (some ⟨q, 0, none⟩)

/-- Pk w q G L H: the program's clock lies at q, in the blocks G; its marks are L, its holds H. -/
structure Pki (Pk : World → Nat → (Nat → Prop) → List Int → List Hd → Prop) : Prop where
  touch : ∀ {w w' : World} {q : Nat} {G S : Nat → Prop} {L : List Int} {H : List Hd}, Pk w q G L H → Touch S w w' → (∀ g, G g → ¬ S g) → Pk w' q G L H
  lt : ∀ {w : World} {q : Nat} {G : Nat → Prop} {L : List Int} {H : List Hd}, Pk w q G L H → ∀ g, G g → g < w.heap.size
  len : ∀ {w : World} {q : Nat} {G : Nat → Prop} {L : List Int} {H : List Hd}, Pk w q G L H → L.length ≤ 64
  set_bad : ∀ {w : World} {q : Nat} {G : Nat → Prop} {L : List Int} {H : List Hd} (s t : Int), Pk w q G L H → setB L s t = false → Calls Try.prog 27 #[cp q, .int .i64 s, .int .i64 t] w fun e w' => e = .returned (.tuple #[.int .i64 0, .int .i64 0, .int .i64 5]) ∧ Calm w w'
  set_ok : ∀ {w : World} {q : Nat} {G : Nat → Prop} {L : List Int} {H : List Hd} (i : Nat) (t : Int), Pk w q G L H → i < L.length → timC t = true → Calls Try.prog 27 #[cp q, .int .i64 (i : Int), .int .i64 t] w fun e w' => e = .returned (.tuple #[.int .i64 (mkN L), .int .i64 (mkN (L.set i (max (L.getD i 0) t))), .int .i64 0]) ∧ Touch G w w' ∧ ∃ G', Pk w' q G' (L.set i (max (L.getD i 0) t)) H ∧ ∀ g, G' g → G g ∨ w.heap.size ≤ g
  hold_bad : ∀ {w : World} {q : Nat} {G : Nat → Prop} {L : List Int} {H : List Hd} (x : ByteArray) (t : Int), Pk w q G L H → timC t = false → Calls Try.prog 21 #[cp q, .string x, .int .i64 t] w fun e w' => e = .returned (.int .i64 2) ∧ Calm w w'
  hold_ok : ∀ {w : World} {q : Nat} {G : Nat → Prop} {L : List Int} {H : List Hd} (x : ByteArray) (t : Int), Pk w q G L H → timC t = true → H.length ≤ capH → x.size ≤ 140737488351232 → Calls Try.prog 21 #[cp q, .string x, .int .i64 t] w fun e w' => e = .returned (.int .i64 0) ∧ Touch G w w' ∧ ∃ G', Pk w' q G' L (holdH H x t) ∧ ∀ g, G' g → G g ∨ w.heap.size ≤ g
  free : ∀ {w : World} {q : Nat} {G : Nat → Prop} {L : List Int} {H : List Hd} (x : ByteArray), Pk w q G L H → H.length ≤ capH → x.size ≤ 140737488351232 → Calls Try.prog 28 #[cp q, .string x] w fun e w' => e = .returned (.bool (hasH H x)) ∧ Touch G w w' ∧ ∃ G', Pk w' q G' L (freeH H x) ∧ ∀ g, G' g → G g ∨ w.heap.size ≤ g
  first : ∀ {w : World} {q : Nat} {G : Nat → Prop} {L : List Int} {H : List Hd}, Pk w q G L H → H.length ≤ capH → Calls Try.prog 40 #[cp q] w fun e w' => e = .returned (firV H) ∧ Calm w w'
  mark : ∀ {w : World} {q : Nat} {G : Nat → Prop} {L : List Int} {H : List Hd}, Pk w q G L H → Calls Try.prog 24 #[cp q] w fun e w' => e = .returned (.int .i64 (mkN L)) ∧ Calm w w'
  marks : ∀ {w : World} {q : Nat} {G : Nat → Prop} {L : List Int} {H : List Hd}, Pk w q G L H → Calls Try.prog 26 #[cp q] w fun e w' => ∃ a c, e = .returned (.slice a L.length c) ∧ encJ.Own 2 w' w.heap.size (.slice a L.length c) L ∧ Calm w w'
  size : ∀ {w : World} {q : Nat} {G : Nat → Prop} {L : List Int} {H : List Hd}, Pk w q G L H → H.length ≤ capH → Calls Try.prog 43 #[cp q] w fun e w' => e = .returned (.int .i64 (H.length : Int)) ∧ Calm w w'
  out : ∀ {w : World} {q : Nat} {G : Nat → Prop} {L : List Int} {H : List Hd}, Pk w q G L H → H.length ≤ capH → Calls Try.prog 25 #[cp q] w fun e w' => e = .returned (.int .i64 (outN L H)) ∧ Calm w w'
  holds : ∀ {w : World} {q : Nat} {G : Nat → Prop} {L : List Int} {H : List Hd}, Pk w q G L H → H.length ≤ capH → Calls Try.prog 23 #[cp q] w fun e w' => ∃ fv, e = .returned fv ∧ Calm w w' ∧ Tells w' fv H
  copy : ∀ {w : World} {q : Nat} {G : Nat → Prop} {L : List Int} {H : List Hd}, Pk w q G L H → H.length ≤ capH → Calls Try.prog 15 #[cp q] w fun e w' => ∃ q', e = .returned (cp q') ∧ Pk w' q' (fun g => w.heap.size ≤ g ∧ g < w'.heap.size) L H ∧ Calm w w'
  new_bad : ∀ (n : Int) (w : World), n < 1 ∨ 64 < n → Calls Try.prog 8 #[.int .i64 n] w fun e w' => e = .returned (.tuple #[.pointer none, .int .i64 2]) ∧ Calm w w'
  new_ok : ∀ (n : Nat) (w : World), 1 ≤ n → n ≤ 64 → Calls Try.prog 8 #[.int .i64 (n : Int)] w fun e w' => ∃ q, e = .returned (.tuple #[cp q, .int .i64 0]) ∧ Pk w' q (fun g => w.heap.size ≤ g ∧ g < w'.heap.size) (List.replicate n minT) [] ∧ Calm w w'
  of : ∀ (M : List Int) (mo : Option Addr) (mc : Nat) (w : World), encJ.Sl w mo mc M → M.length ≤ 17592186043904 → Calls Try.prog 9 #[.slice mo M.length mc] w fun e w' => (ofB M = false ∧ e = .returned (.tuple #[.pointer none, .int .i64 2]) ∧ Calm w w') ∨ (ofB M = true ∧ ∃ q, e = .returned (.tuple #[cp q, .int .i64 0]) ∧ Pk w' q (fun g => w.heap.size ≤ g ∧ g < w'.heap.size) M [] ∧ Calm w w')

/-- A clock that is not there. -/
structure Pkn (cv : Value) : Prop where
  set : ∀ (s t : Int) (w : World), Calls Try.prog 27 #[cv, .int .i64 s, .int .i64 t] w fun e w' => e = .returned (.tuple #[.int .i64 0, .int .i64 0, .int .i64 1]) ∧ Calm w w'
  hold : ∀ (x : ByteArray) (t : Int) (w : World), Calls Try.prog 21 #[cv, .string x, .int .i64 t] w fun e w' => e = .returned (.int .i64 1) ∧ Calm w w'
  free : ∀ (x : ByteArray) (w : World), Calls Try.prog 28 #[cv, .string x] w fun e w' => e = .returned (.bool false) ∧ Calm w w'
  first : ∀ w : World, Calls Try.prog 40 #[cv] w fun e w' => e = .returned (firV []) ∧ Calm w w'
  mark : ∀ w : World, Calls Try.prog 24 #[cv] w fun e w' => e = .returned (.int .i64 0) ∧ Calm w w'
  marks : ∀ w : World, Calls Try.prog 26 #[cv] w fun e w' => ∃ a c, e = .returned (.slice a 0 c) ∧ encJ.Own 2 w' w.heap.size (.slice a 0 c) [] ∧ Calm w w'
  size : ∀ w : World, Calls Try.prog 43 #[cv] w fun e w' => e = .returned (.int .i64 0) ∧ Calm w w'
  out : ∀ w : World, Calls Try.prog 25 #[cv] w fun e w' => e = .returned (.int .i64 0) ∧ Calm w w'
  holds : ∀ w : World, Calls Try.prog 23 #[cv] w fun e w' => ∃ fv, e = .returned fv ∧ Calm w w' ∧ Tells w' fv []
  copy : ∀ w : World, Calls Try.prog 15 #[cv] w fun e w' => e = .returned (.pointer none) ∧ Calm w w'

theorem Pki.calm {Pk : World → Nat → (Nat → Prop) → List Int → List Hd → Prop} (I : Pki Pk) {w w' : World} {q : Nat} {G : Nat → Prop} {L : List Int} {H : List Hd} (h : Pk w q G L H) (ht : Calm w w') : Pk w' q G L H := I.touch h ht fun _ _ h => h

/-- They tell the same. -/
theorem told_of {Pk : World → Nat → (Nat → Prop) → List Int → List Hd → Prop} (I : Pki Pk) {w : World} {q r : Nat} {G F : Nat → Prop} {L : List Int} {H : List Hd} (hp : Pk w q G L H) (hr : Rk w r F L H) (hl : H.length ≤ capH) : Told w (cp q) (cp r) L H (mkN L) (outN L H) := by
  have hm := I.len hp
  have hl2 : H.length ≤ 4600000000000 := hl
  exact ⟨fun W hW => I.first (I.calm hp hW) hl, fun W hW => rfirst_any r F L H W (hr.calm hW) (by omega), fun W hW => I.mark (I.calm hp hW), fun W hW => (rmark_any r F L H W (hr.calm hW) (by omega)).mono fun e w' h => ⟨h.1, by rw [h.2]; exact Touch.refl _ _⟩, fun W hW => I.size (I.calm hp hW) hl, fun W hW => (rlen_any r F L H W (hr.calm hW)).mono fun e w' h => ⟨h.1, by rw [h.2]; exact Touch.refl _ _⟩, fun W hW => I.out (I.calm hp hW) hl, fun W hW => routward_any r F L H W (hr.calm hW) (by omega) (by omega), fun W hW => I.marks (I.calm hp hW), fun W hW => (rmarks_any r F L H W (hr.calm hW)).mono fun e w' h => by
    obtain ⟨a, c, h1, h2, h3⟩ := h
    exact ⟨a, c, h1, by rw [h3]; exact h2, by rw [h3]; exact Touch.refl _ _⟩, hm⟩
theorem told_nil {cv : Value} (I : Pkn cv) (w : World) : Told w cv (.pointer none) [] [] 0 0 :=
  ⟨fun W _ => I.first W, fun W _ => (rfirst_nil W).mono fun e w' h => ⟨h.1, by rw [h.2]; exact Touch.refl _ _⟩, fun W _ => I.mark W, fun W _ => (rmark_nil W).mono fun e w' h => ⟨h.1, by rw [h.2]; exact Touch.refl _ _⟩, fun W _ => I.size W, fun W _ => (rlen_nil W).mono fun e w' h => ⟨h.1, by rw [h.2]; exact Touch.refl _ _⟩, fun W _ => I.out W, fun W _ => (routward_nil W).mono fun e w' h => ⟨h.1, by rw [h.2]; exact Touch.refl _ _⟩, fun W _ => I.marks W, fun W _ => (rmarks_nil W).mono fun e w' h => ⟨none, 0, h.1, Rc.Sl.empty _, by rw [h.2]; exact Touch.refl _ _⟩, by simp⟩
theorem want_of {w : World} {r : Nat} {F : Nat → Prop} {L : List Int} {H : List Hd} (hr : Rk w r F L H) : ∃ ho hc, Want w (cp r) ho hc H := by
  obtain ⟨lo, lc, ho, hc, -, s2, see⟩ := hr.see
  exact ⟨ho, hc, s2, .inr ⟨r, rfl, fun W hW => (see W hW).2⟩⟩
theorem want_nil (w : World) : Want w (.pointer none) none 0 [] := ⟨Rc.Sl.empty _, .inl ⟨rfl, rfl, rfl, rfl⟩⟩

end Go.Proofs.Ytcmigkemhoecfaa
