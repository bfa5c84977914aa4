/- Walks: wire's Reader: Rising. -/
import Derived.Test.YthhajlbnnffgnaaClimb
namespace Go.Proofs.Ythhajlbnnffgnaa
open Go.RowKit

theorem rising_neg (rb : Nat) (most : Int) (w : World) (hn : most < 0) :
    Calls Try.prog 28 #[.pointer (some ⟨rb, 0, none⟩), .int .i64 most] w fun r w' => r = .returned (.tuple #[.slice none 0 0, .int .i64 2]) ∧ w' = w := by
  go_enter Try.func28, Try.ntmps28
  go_wp2
  go_ret2
  exact ⟨rfl, rfl⟩

set_option maxRecDepth 100000 in
set_option maxHeartbeats 400000 in
theorem rising_err (rb : Nat) (ao : Option Addr) (cap : Nat) (bs : List Int) (p e : Nat) (most : Int) (w : World) (h : Rd w rb ao cap bs p) (h8 : In8 bs) (hb : bs.length ≤ 140737488351232) (hs : scan (bs.drop p) = (0, 0, e)) (he : e ≠ 0) (hm : 0 ≤ most) :
    Calls Try.prog 28 #[.pointer (some ⟨rb, 0, none⟩), .int .i64 most] w fun r w' => r = .returned (.tuple #[.slice none 0 0, .int .i64 e]) ∧ Touch (fun _ => False) w w' := by
  obtain ⟨c0, c1, f0, f1⟩ := cell_two h.cell
  have hlt := h.lt
  have H := hide (count_err w.heap.size ao cap bs p e most _ h.copy h8 (by omega) hs he)
  have t : ((e : Int) != 0) = true := by simp; omega
  clear hs hb h8
  go_enter Try.func28, Try.ntmps28
  go_wp2_with fail
  refine H.out.mono ?_
  rintro r w1 ⟨rfl, hrd, ht⟩
  go_wp2_with fail
  go_ret2
  exact ⟨rfl, ((Touch.refl _ w).alloc _).trans ht (fun k hk e => by omega)⟩

set_option maxRecDepth 100000 in
set_option maxHeartbeats 400000 in
theorem rising_long (rb : Nat) (ao : Option Addr) (cap : Nat) (bs : List Int) (p x n most : Nat) (w : World) (h : Rd w rb ao cap bs p) (h8 : In8 bs) (hb : bs.length ≤ 140737488351232) (hs : scan (bs.drop p) = (x, n, 0)) (hm : most ≤ 9223372036854775807) (hx : most < x) :
    Calls Try.prog 28 #[.pointer (some ⟨rb, 0, none⟩), .int .i64 most] w fun r w' => r = .returned (.tuple #[.slice none 0 0, .int .i64 3]) ∧ Touch (fun _ => False) w w' := by
  obtain ⟨c0, c1, f0, f1⟩ := cell_two h.cell
  have hlt := h.lt
  have H := hide (count_long w.heap.size ao cap bs p x n most _ h.copy h8 (by omega) hs hm hx)
  clear hs hb h8 hm hx
  go_enter Try.func28, Try.ntmps28
  go_wp2_with fail
  refine H.out.mono ?_
  rintro r w1 ⟨rfl, hrd, ht⟩
  go_wp2_with fail
  go_ret2
  exact ⟨rfl, ((Touch.refl _ w).alloc _).trans ht (fun k hk e => by omega)⟩

/-- What Rising answers where the count may be. -/
def RsEnd (w : World) (rb : Nat) (ao : Option Addr) (cap : Nat) (bs : List Int) (p n : Nat) (r : Ending) (w' : World) : Prop :=
  ((climbF bs p n).2.2 ≠ 0 ∧ r = .returned (.tuple #[.slice none 0 0, .int .i64 (climbF bs p n).2.2]) ∧ Touch (fun _ => False) w w') ∨
   (∃ l q g m c, climbF bs p n = (l, q, 0) ∧ r = .returned (.tuple #[.slice (some ⟨g, 0, none⟩) m c, .int .i64 0]) ∧ w.heap.size ≤ g ∧ Row w' 2 .i64 (.slice (some ⟨g, 0, none⟩) m c) l ∧ Rd w' rb ao cap bs q ∧ Touch (fun k => k = rb) w w')

set_option maxRecDepth 100000 in
set_option maxHeartbeats 1000000 in
theorem rising_any (rb : Nat) (ao : Option Addr) (cap : Nat) (bs : List Int) (p x n most : Nat) (w : World) (h : Rd w rb ao cap bs p) (h8 : In8 bs) (hb : bs.length ≤ 140737488351232) (hsm : x ≤ 4000000000000 ∨ bs.length ≤ 4000000000000) (hs : scan (bs.drop p) = (x, n, 0)) (hm : most ≤ 9223372036854775807) (hx : x ≤ most) :
    Calls Try.prog 28 #[.pointer (some ⟨rb, 0, none⟩), .int .i64 most] w (RsEnd w rb ao cap bs (p + n) x) := by
  obtain ⟨c0, c1, f0, f1⟩ := cell_two h.cell
  have hlt := h.lt
  have H := hide (count_ok w.heap.size ao cap bs p x n most _ h.copy h8 (by omega) hs hm hx)
  have K := hide (fun W (g : Rd W w.heap.size ao cap bs (p + n)) => climb_any w.heap.size ao cap bs (p + n) x W g h8 hb hsm (by omega))
  clear hs hb h8 hm hx hsm
  go_enter Try.func28, Try.ntmps28
  go_wp2_with fail
  refine H.out.mono ?_
  rintro r w1 ⟨rfl, hrd, ht⟩
  go_wp2_with fail
  refine (K.out _ hrd).mono ?_
  rintro r w2 ⟨ht2, hE | hO⟩
  · obtain ⟨he, hr⟩ := hE
    subst hr
    have T2 := hide ((((Touch.refl (fun _ => False) w).alloc _).trans ht (fun k hk e => by omega)).trans ht2 (fun k hk e => by omega))
    obtain ⟨e, hee⟩ : ∃ e, (climbF bs (p + n) x).2.2 = e := ⟨_, rfl⟩
    have HE := hide hee
    rw [hee] at he
    have t : ((e : Int) != 0) = true := by simp; omega
    rw [hee]
    clear hee ht ht2 H K
    go_wp2_with fail
    go_ret2
    exact .inl (by rw [HE.out]; exact ⟨he, rfl, T2.out⟩)
  · obtain ⟨l, q, g, m, c, hcl, hr, hg, hrow, hrd2⟩ := hO
    subst hr
    have T2 : Touch (fun _ => False) w w2 := (((Touch.refl _ w).alloc _).trans ht (fun k hk e => by omega)).trans ht2 (fun k hk e => by omega)
    have hr2 := h.touch T2 (fun h => h) (fun _ _ h => h)
    obtain ⟨d0, d1, g0, g1⟩ := cell_two hr2.cell
    obtain ⟨e0, e1, j0, j1⟩ := cell_two hrd2.cell
    have T3 : Touch (fun k => k = rb) w2 ((w2.setCell ⟨rb, 0, none⟩ (.slice ao bs.length cap)).setCell ⟨rb, 1, none⟩ (.int .i64 (q : Int))) :=
      Touch.setCell (S := fun k => k = rb) (p := ⟨rb, 1, none⟩) (Touch.setCell (S := fun k => k = rb) (p := ⟨rb, 0, none⟩) (Touch.refl _ w2) (fun _ => rfl) _) (fun _ => rfl) _
    have R3 : Rd ((w2.setCell ⟨rb, 0, none⟩ (.slice ao bs.length cap)).setCell ⟨rb, 1, none⟩ (.int .i64 (q : Int))) rb ao cap bs q :=
      Rd.moved (p := p) ⟨two_set0 hr2.cell, hr2.row.stays fun g hg => Below.heap_setCell _ _ _ _ fun e => hr2.apart (by simp at e; rw [hg, e]), hr2.place⟩ _ hrd2.place
    have hrow3 := hrow.touch T3 (fun j hj e => hr2.row_ne hrow (by rw [hj, e]))
    have hg2 : w.heap.size ≤ g := Nat.le_trans (by simp) (Nat.le_trans ht.size hg)
    have HH := hide (show RsEnd w rb ao cap bs (p + n) x (.returned (.tuple #[.slice (some ⟨g, 0, none⟩) m c, .int .i64 0])) _ from .inr ⟨l, q, g, m, c, hcl, rfl, hg2, hrow3, R3, (T2.mono fun _ _ h => h.elim).trans T3 (fun _ _ h => h)⟩)
    clear R3 T3 T2 hrd2 hr2 hrow3 hrow hcl hg2 hg ht ht2 H K
    go_wp2_with fail
    go_ret2
    exact HH.out

end Go.Proofs.Ythhajlbnnffgnaa
