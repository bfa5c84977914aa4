/- Read: panes out of lines (the document's; the walk). What the program's panes are to answer: Compare, Text, Read. Small answers of the document: a digit to the base 16, a kind's word, whether a pane may be, its numbers. -/
import Derived.Test.YtamfcmmhmfhhkaaDoorG11
import Derived.Test.YtamfcmmhmfhhkaaDoorG7
import Derived.Deep.CutRange
import Derived.Test.YtamfcmmhmfhhkaaDoorG15
import Derived.Test.YtamfcmmhmfhhkaaDoorG8
import Derived.Test.YtamfcmmhmfhhkaaDoorG4
namespace Go.Proofs.YtamfcmmhmfhhkaaDoor
open Go.RowKit

theorem parV_eq (o : Option Pn) : parV o = .tuple #[pnv (o.getD pn0), .bool o.isSome] := by cases o <;> rfl
/-- What a function answers that reads lines. -/
def RetRd (w : World) (e : Ending) (w' : World) (L : List Pn) (r : List UInt8) (v : Value) : Prop :=
  ∃ Z ao cap, Z = (if r = [] then L else []) ∧ e = .returned (.tuple #[.slice ao Z.length cap, .int .i64 (L.length : Int), v]) ∧ encP.Own 29 w' w.heap.size (.slice ao Z.length cap) Z ∧ Calm w w'
theorem RetRd.no {w w' : World} {L : List Pn} {r : List UInt8} {v : Value} (hr : r ≠ []) (h : Calm w w') : RetRd w (.returned (.tuple #[.slice none 0 0, .int .i64 (L.length : Int), v])) w' L r v :=
  ⟨[], none, 0, by rw [if_neg hr], rfl, Rc.Own.nil _ _ _, h⟩

end Go.Proofs.YtamfcmmhmfhhkaaDoor

namespace Go.Proofs.YtamfcmmhmfhhkaaDoor
open Go.RowKit

abbrev textV (L : List Pn) : Value := .tuple #[.string (if mayT L then strOfNums (txT L L.length) else ⟨#[]⟩), .int .i64 (if mayT L then 0 else 2)]
structure Ppt : Prop extends Ppk where
  comp : ∀ (p q : Pn) (w : World), Calls Tryd.prog 13 #[pnv p, pnv q] w fun e w' => e = .returned (.int .i64 (cmpP p q)) ∧ Calm w w'
  text : ∀ (L : List Pn) (ao : Option Addr) (ac : Nat) (w : World), encP.Sl w ao ac L → L.length ≤ 1000 → (∀ j, j < L.length → NumOk (L.getD j pn0)) → Yv w → Calls Tryd.prog 10 #[.slice ao L.length ac] w fun e w' => e = .returned (textV L) ∧ Calm w w'
  read : ∀ (s : ByteArray) (w : World), s.size ≤ 900000 → Yv w → Calls Tryd.prog 17 #[.string s] w fun e w' => ∃ L r, RdR s.toList L r ∧ RetRd w e w' L r (.int .i64 (if r = [] then 0 else 280))

end Go.Proofs.YtamfcmmhmfhhkaaDoor

namespace Go.Proofs.YtamfcmmhmfhhkaaDoor
open Go.RowKit

set_option maxRecDepth 100000 in
theorem hex_any (n : Int) (h0 : 0 ≤ n) (h1 : n < 16) (w : World) : Calls Tryd.prog 42 #[.int .u8 n] w fun e w' => e = .returned (.int .u8 (hexB n)) ∧ w' = w := by
  by_cases h : n < 10
  · have hn := h
    go_enter Tryd.func42, Tryd.ntmps42
    go_wp2_with fail
    go_ret
    refine ⟨?_, rfl⟩
    unfold hexB
    rw [if_pos (by omega)]
    go_num
  · go_enter Tryd.func42, Tryd.ntmps42
    go_wp2_with fail
    go_ret
    refine ⟨?_, rfl⟩
    unfold hexB
    rw [if_neg (by omega)]
    go_num

set_option maxRecDepth 100000 in
theorem name_any (d : Int) (w : World) : Calls Tryd.prog 27 #[.int .i64 d] w fun e w' => e = .returned (.string (nameB d)) ∧ w' = w := by
  by_cases h1 : d = 1
  · subst h1
    go_enter Tryd.func27, Tryd.ntmps27
    go_wp2_with fail
    go_ret
    exact ⟨rfl, rfl⟩
  · by_cases h2 : d = 2
    · subst h2
      go_enter Tryd.func27, Tryd.ntmps27
      go_wp2_with fail
      go_ret
      exact ⟨rfl, rfl⟩
    · have e : Hid (nameB d = ⟨#[108, 97, 116, 101]⟩) := hide (by unfold nameB; rw [if_neg h1, if_neg h2])
      go_enter Tryd.func27, Tryd.ntmps27
      go_wp2_with fail
      go_ret
      exact ⟨by rw [e.out]; rfl, rfl⟩

set_option maxRecDepth 100000 in
set_option maxHeartbeats 1000000 in
theorem may_any (p : Pn) (w : World) : Calls Tryd.prog 25 #[pnv p] w fun e w' => e = .returned (.bool (mayP p)) ∧ Calm w w' := by
  have T0 : Hid (∀ o, Calm w (w.alloc o)) := hide fun o => (Touch.refl _ w).alloc o
  have A0 := hide (al_new w (.cells (pnc p) 29))
  obtain ⟨k, a, b, d, n, t⟩ := p
  have c0 : Hid ((w.alloc (.cells (pnc ⟨k, a, b, d, n, t⟩) 29)).cell? ⟨w.heap.size, 0, none⟩ = some (.string k) ∧ (w.alloc (.cells (pnc ⟨k, a, b, d, n, t⟩) 29)).cell? ⟨w.heap.size, 3, none⟩ = some (.int .i64 d)) := hide ⟨(pn_cells A0.out).1.1, (pn_cells A0.out).1.2.2.2.1⟩
  have g : Hid (mayP ⟨k, a, b, d, n, t⟩ = decide (k.size ≤ 256 ∧ 1 ≤ d ∧ d ≤ 3)) := hide rfl
  by_cases h1 : k.size ≤ 256
  · have z1 : (k.size : Int) ≤ 256 := by omega
    by_cases h2 : 1 ≤ d
    · by_cases h3 : d ≤ 3
      · go_enter Tryd.func25, Tryd.ntmps25
        obtain ⟨c1, c2⟩ := c0.out
        go_wp2_with fail
        go_ret
        exact ⟨by rw [g.out, decide_eq_true ⟨h1, h2, h3⟩]; rfl, T0.out _⟩
      · go_enter Tryd.func25, Tryd.ntmps25
        obtain ⟨c1, c2⟩ := c0.out
        go_wp2_with fail
        go_ret
        exact ⟨by rw [g.out, decide_eq_false (fun h => by omega)]; rfl, T0.out _⟩
    · go_enter Tryd.func25, Tryd.ntmps25
      obtain ⟨c1, c2⟩ := c0.out
      go_wp2_with fail
      go_ret
      exact ⟨by rw [g.out, decide_eq_false (fun h => by omega)]; rfl, T0.out _⟩
  · have z1 : ¬ (k.size : Int) ≤ 256 := by omega
    go_enter Tryd.func25, Tryd.ntmps25
    obtain ⟨c1, c2⟩ := c0.out
    go_wp2_with fail
    go_ret
    exact ⟨by rw [g.out, decide_eq_false (fun h => by omega)]; rfl, T0.out _⟩

set_option maxRecDepth 100000 in
set_option maxHeartbeats 1000000 in
theorem numbers_any (p : Pn) (w : World) : Calls Tryd.prog 28 #[pnv p] w fun e w' => ∃ g, e = .returned (.slice (some ⟨g, 0, none⟩) 7 7) ∧ encJ.Mem w' (some ⟨g, 0, none⟩) (numsP p) ∧ w.heap.size ≤ g ∧ Calm w w' := by
  have T0 : Hid (∀ o, Calm w (w.alloc o)) := hide fun o => (Touch.refl _ w).alloc o
  have S0 := hide (al_size w (.cells (pnc p) 29))
  have A0 := hide (al_new w (.cells (pnc p) 29))
  have M0 : Hid (∀ W : World, encJ.Mem (W.alloc (.cells #[.int .i64 p.a, .int .i64 p.b, .int .i64 p.n, .int .i64 p.t.c, .int .i64 p.t.s, .int .i64 p.t.m, .int .i64 p.t.x] 2)) (some ⟨W.heap.size, 0, none⟩) (numsP p)) := hide fun W => Rc.Mem.new W (numsP p) 2
  obtain ⟨k, a, b, d, n, ⟨x0, x1, x2, x3⟩⟩ := p
  have K0 := hide (pn_cells A0.out)
  clear A0
  go_enter Tryd.func28, Tryd.ntmps28
  obtain ⟨⟨c0, c1, c2, c3, c4⟩, c5, c6, c7, c8⟩ := K0.out
  go_wp2_with fail
  go_ret
  exact ⟨_, rfl, by have h := M0.out (w.alloc (.cells (pnc ⟨k, a, b, d, n, ⟨x0, x1, x2, x3⟩⟩) 29)); rw [S0.out] at h; exact h, by have := S0.out; omega, (T0.out _).alloc _⟩

end Go.Proofs.YtamfcmmhmfhhkaaDoor
