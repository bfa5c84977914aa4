/- Walks: asks, the other kinds that hand back plain values. -/
import Derived.Test.YthhajlbnnffgnaaAsk
namespace Go.Proofs.Ythhajlbnnffgnaa
open Go.RowKit

theorem box_n {w w1 : World} {rb : Nat} {kind n : Int} {t : TypeId} (ht : Touch (fun k => k = rb) (w.alloc (.cells #[.int .i64 kind, .int .i64 n] t)) w1) (hl : rb < w.heap.size) : w1.cell? ⟨w.heap.size, 1, none⟩ = some (.int .i64 n) :=
  (ht.cell (p := ⟨w.heap.size, 1, none⟩) (by simp) (by simp; omega)).trans (by simp)

set_option maxRecDepth 100000 in
set_option maxHeartbeats 400000 in
theorem ask_number (rb db : Nat) (ra ao : Option Addr) (rc cap : Nat) (bs : List Int) (p : Nat) (n : Int) (w : World) (h : Both w rb db ra ao rc cap bs p) (h8 : In8 bs) (hb : bs.length ≤ 1048576) :
    Calls Try.prog 18 #[.pointer (some ⟨rb, 0, none⟩), .pointer (some ⟨db, 0, none⟩), .agg #[.int .i64 2, .int .i64 n]] w (Asked w rb db ra ao rc cap bs) := by
  have h0 := h.none ((Touch.refl _ w).alloc (.cells #[.int .i64 2, .int .i64 n] 51))
  obtain ⟨x, m, e, hs⟩ : ∃ x m e, scan (bs.drop p) = (x, m, e) := ⟨_, _, _, rfl⟩
  have A := hide (fun W g => number_eq rb ra rc bs p x m e W g h8 (by omega) hs)
  have B := hide (fun W g => refNumber_eq db ao cap bs p x m e W g h8 hb hs)
  clear h8 hs
  go_enter Try.func18, Try.ntmps18
  go_wp2_with fail
  refine (A.out _ h0.rd).mono ?_
  rintro r w1 ⟨rfl, hrd1, ht1⟩
  have hrr1 := rr_keep h0.rd h0.rr ht1
  go_wp2_with fail
  refine (B.out _ hrr1).mono ?_
  rintro r w2 ⟨rfl, hrr2, ht2⟩
  have hrd2 := rd_keep hrd1 hrr1 ht2
  have T2 := t_t (t_t (t_0 (rb := rb) (db := db) ((Touch.refl _ w).alloc _)) (t_l ht1)) (t_r ht2)
  go_wp2_with (go_at_call 24; refine (num_any _ _).mono ?_; rintro e w' ⟨rfl, rfl⟩)
  go_ret
  exact ⟨rfl, ⟨p + m, hrd2, hrr2⟩, T2⟩

theorem signed_both (rb db : Nat) (ra ao : Option Addr) (rc cap : Nat) (bs : List Int) (p : Nat) (h8 : In8 bs) (hb : bs.length ≤ 1048576) : ∃ (v : Int) (e q : Nat),
    (∀ W, Rd W rb ra rc bs p → Calls Try.prog 48 #[.pointer (some ⟨rb, 0, none⟩)] W fun r w' => r = .returned (.tuple #[.int .i64 v, .int .i64 e]) ∧ Rd w' rb ra rc bs q ∧ Touch (fun k => k = rb) W w') ∧
    (∀ W, Rr W db ao cap bs p → Calls Try.prog 49 #[.pointer (some ⟨db, 0, none⟩)] W fun r w' => r = .returned (.tuple #[.int .i64 v, .int .i64 e]) ∧ Rr w' db ao cap bs q ∧ Touch (fun k => k = db) W w') := by
  obtain ⟨x, m, e, hs⟩ : ∃ x m e, scan (bs.drop p) = (x, m, e) := ⟨_, _, _, rfl⟩
  by_cases he : e = 0
  · subst he
    exact ⟨unz x, 0, p + m, fun W g => signed_ok rb ra rc bs p x m W g h8 (by omega) hs, fun W g => refSigned_ok db ao cap bs p x m W g h8 hb hs⟩
  · have hs0 := scan_of_err (by rw [hs] : (scan (bs.drop p)).2.2 = e) he
    exact ⟨0, e, p, fun W g => signed_err rb ra rc bs p e W g h8 (by omega) hs0 he, fun W g => refSigned_err db ao cap bs p e W g h8 hb hs0 he⟩

theorem take4 (l : List Int) (h : 4 ≤ l.length) : ∃ a b c d, l.take 4 = [a, b, c, d] := by
  match l, h with
  | a :: b :: c :: d :: r, _ => exact ⟨a, b, c, d, rfl⟩

theorem fixed_both (rb db : Nat) (ra ao : Option Addr) (rc cap : Nat) (bs : List Int) (p : Nat) (h8 : In8 bs) (hb : bs.length ≤ 1048576) : ∃ (v : Int) (e q : Nat),
    (∀ W, Rd W rb ra rc bs p → Calls Try.prog 51 #[.pointer (some ⟨rb, 0, none⟩)] W fun r w' => r = .returned (.tuple #[.int .u32 v, .int .i64 e]) ∧ Rd w' rb ra rc bs q ∧ Touch (fun k => k = rb) W w') ∧
    (∀ W, Rr W db ao cap bs p → Calls Try.prog 52 #[.pointer (some ⟨db, 0, none⟩)] W fun r w' => r = .returned (.tuple #[.int .u32 v, .int .i64 e]) ∧ Rr w' db ao cap bs q ∧ Touch (fun k => k = db) W w') := by
  by_cases hl : bs.length - p < 4
  · refine ⟨0, 110, p, fun W g => (fixed_no rb ra rc bs p W g (by omega) hl).mono ?_, fun W g => (refFixed_no db ao cap bs p W g hb hl).mono ?_⟩
    · rintro r w' ⟨rfl, n, rfl⟩
      exact ⟨rfl, g.drewN n, (Touch.refl _ _).drewN n⟩
    · rintro r w' ⟨rfl, n, rfl⟩
      exact ⟨rfl, g.drewN n, (Touch.refl _ _).drewN n⟩
  · obtain ⟨a, b, c, d, h4⟩ := take4 (bs.drop p) (by simp; omega)
    exact ⟨_, 0, p + 4, fun W g => fixed_yes rb ra rc bs p a b c d W g h8 (by omega) h4, fun W g => refFixed_yes db ao cap bs p a b c d W g h8 hb h4⟩

theorem text_both (rb db : Nat) (ra ao : Option Addr) (rc cap : Nat) (bs : List Int) (p : Nat) (n : Int) (h8 : In8 bs) (hb : bs.length ≤ 1048576) (hn : n ≤ 9223372036854775807) : ∃ (st : ByteArray) (e q : Nat),
    (∀ W, Rd W rb ra rc bs p → Calls Try.prog 26 #[.pointer (some ⟨rb, 0, none⟩), .int .i64 n] W fun r w' => r = .returned (.tuple #[.string st, .int .i64 e]) ∧ Rd w' rb ra rc bs q ∧ Touch (fun k => k = rb) W w') ∧
    (∀ W, Rr W db ao cap bs p → Calls Try.prog 50 #[.pointer (some ⟨db, 0, none⟩), .int .i64 n] W fun r w' => r = .returned (.tuple #[.string st, .int .i64 e]) ∧ Rr w' db ao cap bs q ∧ Touch (fun k => k = db) W w') := by
  have off : ∀ {W w' : World}, Rd W rb ra rc bs p → Touch (fun _ => False) W w' → Rd w' rb ra rc bs p ∧ Touch (fun k => k = rb) W w' := fun g ht => ⟨g.touch ht (fun h => h) (fun _ _ h => h), ht.mono fun _ _ h => h.elim⟩
  by_cases h0 : n < 0
  · refine ⟨⟨#[]⟩, 2, p, fun W g => (text_neg rb n W h0).mono ?_, fun W g => refText_bad db ao cap bs p 2 n W g (by decide) ((length_neg db n W h0).mono ?_)⟩
    · rintro r w' ⟨rfl, rfl⟩
      exact ⟨rfl, g, Touch.refl _ _⟩
    · rintro r w' ⟨rfl, rfl⟩
      exact ⟨rfl, p, g, Touch.refl _ _⟩
  · obtain ⟨most, rfl⟩ := Int.eq_ofNat_of_zero_le (show 0 ≤ n by omega)
    obtain ⟨x, m, e, hs⟩ : ∃ x m e, scan (bs.drop p) = (x, m, e) := ⟨_, _, _, rfl⟩
    by_cases he : e = 0
    · subst he
      by_cases hx : x ≤ most
      · by_cases hl : x ≤ bs.length - (p + m)
        · exact ⟨_, 0, p + m + x, fun W g => text_ok rb ra rc bs p x m most W g h8 (by omega) hs (by omega) hx hl, fun W g => refText_ok db ao cap bs p x m most W g h8 hb hs (by omega) hx hl⟩
        · refine ⟨_, 110, p, fun W g => (text_end rb ra rc bs p x m most W g h8 (by omega) hs (by omega) hx (by omega)).mono ?_, fun W g => refText_end db ao cap bs p x m most W g h8 hb hs (by omega) hx (by omega)⟩
          rintro r w' ⟨rfl, ht⟩
          exact ⟨rfl, off g ht⟩
      · refine ⟨_, 3, p, fun W g => (text_long rb ra rc bs p x m most W g h8 (by omega) hs (by omega) (by omega)).mono ?_, fun W g => refText_bad db ao cap bs p 3 most W g (by decide) ((length_long db ao cap bs p x m most W g h8 hb hs (by omega) (by omega)).mono ?_)⟩
        · rintro r w' ⟨rfl, ht⟩
          exact ⟨rfl, off g ht⟩
        · rintro r w' ⟨rfl, g2, ht⟩
          exact ⟨rfl, _, g2, ht⟩
    · have hs0 := scan_of_err (by rw [hs] : (scan (bs.drop p)).2.2 = e) he
      refine ⟨_, e, p, fun W g => (text_err rb ra rc bs p e most W g h8 (by omega) hs0 he (by omega)).mono ?_, fun W g => refText_bad db ao cap bs p e most W g he ((length_err db ao cap bs p e most W g h8 hb hs0 he (by omega)).mono ?_)⟩
      · rintro r w' ⟨rfl, ht⟩
        exact ⟨rfl, off g ht⟩
      · rintro r w' ⟨rfl, g2, ht⟩
        exact ⟨rfl, _, g2, ht⟩

set_option maxRecDepth 100000 in
set_option maxHeartbeats 400000 in
theorem ask_signed (rb db : Nat) (ra ao : Option Addr) (rc cap : Nat) (bs : List Int) (p : Nat) (n : Int) (w : World) (h : Both w rb db ra ao rc cap bs p) (h8 : In8 bs) (hb : bs.length ≤ 1048576) :
    Calls Try.prog 18 #[.pointer (some ⟨rb, 0, none⟩), .pointer (some ⟨db, 0, none⟩), .agg #[.int .i64 3, .int .i64 n]] w (Asked w rb db ra ao rc cap bs) := by
  have h0 := h.none ((Touch.refl _ w).alloc (.cells #[.int .i64 3, .int .i64 n] 51))
  obtain ⟨v, e, q, A1, B1⟩ := signed_both rb db ra ao rc cap bs p h8 hb
  have A := hide A1
  have B := hide B1
  clear h8 A1 B1
  go_enter Try.func18, Try.ntmps18
  go_wp2_with fail
  refine (A.out _ h0.rd).mono ?_
  rintro r w1 ⟨rfl, hrd1, ht1⟩
  have hrr1 := rr_keep h0.rd h0.rr ht1
  go_wp2_with fail
  refine (B.out _ hrr1).mono ?_
  rintro r w2 ⟨rfl, hrr2, ht2⟩
  have hrd2 := rd_keep hrd1 hrr1 ht2
  have T2 := t_t (t_t (t_0 (rb := rb) (db := db) ((Touch.refl _ w).alloc _)) (t_l ht1)) (t_r ht2)
  go_wp2_with (go_at_call 24; refine (num_any _ _).mono ?_; rintro e w' ⟨rfl, rfl⟩)
  go_ret
  exact ⟨rfl, ⟨q, hrd2, hrr2⟩, T2⟩

set_option maxRecDepth 100000 in
set_option maxHeartbeats 400000 in
theorem ask_text (rb db : Nat) (ra ao : Option Addr) (rc cap : Nat) (bs : List Int) (p : Nat) (n : Int) (w : World) (h : Both w rb db ra ao rc cap bs p) (h8 : In8 bs) (hb : bs.length ≤ 1048576) (hn : n ≤ 9223372036854775807) :
    Calls Try.prog 18 #[.pointer (some ⟨rb, 0, none⟩), .pointer (some ⟨db, 0, none⟩), .agg #[.int .i64 4, .int .i64 n]] w (Asked w rb db ra ao rc cap bs) := by
  have h0 := h.none ((Touch.refl _ w).alloc (.cells #[.int .i64 4, .int .i64 n] 51))
  obtain ⟨v, e, q, A1, B1⟩ := text_both rb db ra ao rc cap bs p n h8 hb hn
  have A := hide A1
  have B := hide B1
  clear h8 A1 B1 hn
  go_enter Try.func18, Try.ntmps18
  go_wp2_with fail
  refine (A.out _ h0.rd).mono ?_
  rintro r w1 ⟨rfl, hrd1, ht1⟩
  have hrr1 := rr_keep h0.rd h0.rr ht1
  have hrl := h.rd.lt
  have kN := box_n (n := n) ht1 hrl
  go_wp2_with fail
  refine (B.out _ hrr1).mono ?_
  rintro r w2 ⟨rfl, hrr2, ht2⟩
  have hrd2 := rd_keep hrd1 hrr1 ht2
  have T2 := t_t (t_t (t_0 (rb := rb) (db := db) ((Touch.refl _ w).alloc _)) (t_l ht1)) (t_r ht2)
  go_wp2_with (go_at_call 24; refine (num_any _ _).mono ?_; rintro e w' ⟨rfl, rfl⟩)
  go_ret
  exact ⟨rfl, ⟨q, hrd2, hrr2⟩, T2⟩

set_option maxRecDepth 100000 in
set_option maxHeartbeats 400000 in
theorem ask_fixed (rb db : Nat) (ra ao : Option Addr) (rc cap : Nat) (bs : List Int) (p : Nat) (n : Int) (w : World) (h : Both w rb db ra ao rc cap bs p) (h8 : In8 bs) (hb : bs.length ≤ 1048576) :
    Calls Try.prog 18 #[.pointer (some ⟨rb, 0, none⟩), .pointer (some ⟨db, 0, none⟩), .agg #[.int .i64 5, .int .i64 n]] w (Asked w rb db ra ao rc cap bs) := by
  have h0 := h.none ((Touch.refl _ w).alloc (.cells #[.int .i64 5, .int .i64 n] 51))
  obtain ⟨v, e, q, A1, B1⟩ := fixed_both rb db ra ao rc cap bs p h8 hb
  have A := hide A1
  have B := hide B1
  clear h8 A1 B1
  go_enter Try.func18, Try.ntmps18
  go_wp2_with fail
  refine (A.out _ h0.rd).mono ?_
  rintro r w1 ⟨rfl, hrd1, ht1⟩
  have hrr1 := rr_keep h0.rd h0.rr ht1
  go_wp2_with fail
  refine (B.out _ hrr1).mono ?_
  rintro r w2 ⟨rfl, hrr2, ht2⟩
  have hrd2 := rd_keep hrd1 hrr1 ht2
  have T2 := t_t (t_t (t_0 (rb := rb) (db := db) ((Touch.refl _ w).alloc _)) (t_l ht1)) (t_r ht2)
  go_wp2_with (go_at_call 24; refine (num_any _ _).mono ?_; rintro e w' ⟨rfl, rfl⟩)
  go_ret
  exact ⟨rfl, ⟨q, hrd2, hrr2⟩, T2⟩

end Go.Proofs.Ythhajlbnnffgnaa
