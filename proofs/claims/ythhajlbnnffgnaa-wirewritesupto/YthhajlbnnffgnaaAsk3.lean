/- Walks: asks, the kinds that hand back slices. -/
import Derived.Test.YthhajlbnnffgnaaAsk2
namespace Go.Proofs.Ythhajlbnnffgnaa
open Go.RowKit

theorem rising_both (rb db : Nat) (ra ao : Option Addr) (rc cap : Nat) (bs : List Int) (p : Nat) (n : Int) (h8 : In8 bs) (hb : bs.length ≤ 1048576) (hn : n ≤ 9223372036854775807) : ∃ (l : List Int) (e q : Nat), l.length ≤ 1048576 ∧
    (∀ W, Rd W rb ra rc bs p → Calls Try.prog 28 #[.pointer (some ⟨rb, 0, none⟩), .int .i64 n] W fun r w' => ∃ a m c, r = .returned (.tuple #[.slice a m c, .int .i64 e]) ∧ Row w' 2 .i64 (.slice a m c) l ∧ (∀ g, (Value.slice a m c).ownBlock = some g → W.heap.size ≤ g) ∧ Rd w' rb ra rc bs q ∧ Touch (fun k => k = rb) W w') ∧
    (∀ W, Rr W db ao cap bs p → (∀ a, ao = some a → bs ≠ [] → a.block < W.heap.size) → Calls Try.prog 53 #[.pointer (some ⟨db, 0, none⟩), .int .i64 n] W fun r w' => ∃ a m c, r = .returned (.tuple #[.slice a m c, .int .i64 e]) ∧ Row w' 2 .i64 (.slice a m c) l ∧ Rr w' db ao cap bs q ∧ Touch (fun k => k = db) W w') := by
  have off : ∀ {W w' : World}, Rd W rb ra rc bs p → Touch (fun _ => False) W w' → Rd w' rb ra rc bs p ∧ Touch (fun k => k = rb) W w' := fun g ht => ⟨g.touch ht (fun h => h) (fun _ _ h => h), ht.mono fun _ _ h => h.elim⟩
  have bad : ∀ e : Nat, (∀ W, Rd W rb ra rc bs p → Calls Try.prog 28 #[.pointer (some ⟨rb, 0, none⟩), .int .i64 n] W fun r w' => r = .returned (.tuple #[.slice none 0 0, .int .i64 e]) ∧ Touch (fun _ => False) W w') →
      (∀ W, Rr W db ao cap bs p → (∀ a, ao = some a → bs ≠ [] → a.block < W.heap.size) → Calls Try.prog 53 #[.pointer (some ⟨db, 0, none⟩), .int .i64 n] W fun r w' => r = .returned (.tuple #[.slice none 0 0, .int .i64 e]) ∧ Rr w' db ao cap bs p ∧ Touch (fun k => k = db) W w') → _ := fun e hA hB =>
    show ∃ (l : List Int) (e q : Nat), l.length ≤ 1048576 ∧
      (∀ W, Rd W rb ra rc bs p → Calls Try.prog 28 #[.pointer (some ⟨rb, 0, none⟩), .int .i64 n] W fun r w' => ∃ a m c, r = .returned (.tuple #[.slice a m c, .int .i64 e]) ∧ Row w' 2 .i64 (.slice a m c) l ∧ (∀ g, (Value.slice a m c).ownBlock = some g → W.heap.size ≤ g) ∧ Rd w' rb ra rc bs q ∧ Touch (fun k => k = rb) W w') ∧
      (∀ W, Rr W db ao cap bs p → (∀ a, ao = some a → bs ≠ [] → a.block < W.heap.size) → Calls Try.prog 53 #[.pointer (some ⟨db, 0, none⟩), .int .i64 n] W fun r w' => ∃ a m c, r = .returned (.tuple #[.slice a m c, .int .i64 e]) ∧ Row w' 2 .i64 (.slice a m c) l ∧ Rr w' db ao cap bs q ∧ Touch (fun k => k = db) W w') from
    ⟨[], e, p, by simp, fun W g => (hA W g).mono fun r w' ⟨hr, ht⟩ => ⟨none, 0, 0, hr, Row.nil _ _ _, fun g hg => (by cases hg), off g ht⟩, fun W g hk => (hB W g hk).mono fun r w' ⟨hr, g2, ht⟩ => ⟨none, 0, 0, hr, Row.nil _ _ _, g2, ht⟩⟩
  by_cases h0 : n < 0
  · refine bad 2 (fun W g => (rising_neg rb n W h0).mono ?_) (fun W g _ => refRising_bad db ao cap bs p 2 n W g (by decide) ((length_neg db n W h0).mono ?_))
    · rintro r w' ⟨rfl, rfl⟩
      exact ⟨rfl, Touch.refl _ _⟩
    · rintro r w' ⟨rfl, rfl⟩
      exact ⟨rfl, p, g, Touch.refl _ _⟩
  · obtain ⟨most, rfl⟩ := Int.eq_ofNat_of_zero_le (show 0 ≤ n by omega)
    obtain ⟨x, m, e, hs⟩ : ∃ x m e, scan (bs.drop p) = (x, m, e) := ⟨_, _, _, rfl⟩
    by_cases he : e = 0
    · subst he
      by_cases hx : x ≤ most
      · by_cases hce : (climbF bs (p + m) x).2.2 = 0
        · obtain ⟨l, q, e2, hcl⟩ : ∃ l q e2, climbF bs (p + m) x = (l, q, e2) := ⟨_, _, _, rfl⟩
          rw [hcl] at hce
          simp only at hce
          subst hce
          have hlen : l.length ≤ 1048576 ∨ bs.length < p + m := by
            obtain ⟨ll, hq, _, _⟩ := climb_ok h8 x l q hcl
            by_cases hpm : p + m ≤ bs.length
            · obtain ⟨_, _, hqb⟩ := climb_form h8 hpm x l q hcl
              exact .inl (by omega)
            · exact .inr (by omega)
          by_cases hpm : p ≤ bs.length
          · have hsz := scan_size (bs.drop p)
            rw [hs] at hsz
            simp at hsz
            refine ⟨l, 0, q, by omega, fun W g => (rising_any rb ra rc bs p x m most W g h8 (by omega) (.inr (by omega)) hs (by omega) hx).mono ?_, fun W g hk => (refRising_any db ao cap bs p x m most W g h8 hb hs (by omega) hx hk).mono ?_⟩
            · rintro r w' (⟨hne, _⟩ | ⟨l2, q2, g2, m2, c2, hcl2, hr, hg, hrow, hrd, ht⟩)
              · rw [hcl] at hne; exact absurd rfl hne
              · rw [hcl] at hcl2
                simp only [Prod.mk.injEq] at hcl2
                obtain ⟨rfl, rfl, _⟩ := hcl2
                exact ⟨_, m2, c2, hr, hrow, fun j hj => (by simp [Value.ownBlock] at hj; omega), hrd, ht⟩
            · rintro r w' ⟨ht, ⟨hne, _⟩ | ⟨l2, q2, a2, m2, c2, hcl2, hr, hrow, hrr⟩⟩
              · rw [hcl] at hne; exact absurd rfl hne
              · rw [hcl] at hcl2
                simp only [Prod.mk.injEq] at hcl2
                obtain ⟨rfl, rfl, _⟩ := hcl2
                exact ⟨a2, m2, c2, hr, hrow, hrr, ht⟩
          · exact ⟨[], 0, 0, by simp, fun W g => absurd g.place hpm, fun W g => absurd g.place hpm⟩
        · obtain ⟨e2, he2⟩ : ∃ e2, (climbF bs (p + m) x).2.2 = e2 := ⟨_, rfl⟩
          rw [he2] at hce
          refine bad e2 (fun W g => (rising_any rb ra rc bs p x m most W g h8 (by omega) (.inr (by omega)) hs (by omega) hx).mono ?_) (fun W g hk => (refRising_any db ao cap bs p x m most W g h8 hb hs (by omega) hx hk).mono ?_)
          · rintro r w' (⟨hne, hr, ht⟩ | ⟨l2, q2, g2, m2, c2, hcl2, _⟩)
            · rw [he2] at hr; exact ⟨hr, ht⟩
            · rw [hcl2] at he2; exact absurd he2.symm hce
          · rintro r w' ⟨ht, ⟨hne, hr, hrr⟩ | ⟨l2, q2, a2, m2, c2, hcl2, _⟩⟩
            · rw [he2] at hr; exact ⟨hr, hrr, ht⟩
            · rw [hcl2] at he2; exact absurd he2.symm hce
      · refine bad 3 (fun W g => rising_long rb ra rc bs p x m most W g h8 (by omega) hs (by omega) (by omega)) (fun W g _ => refRising_bad db ao cap bs p 3 most W g (by decide) ((length_long db ao cap bs p x m most W g h8 hb hs (by omega) (by omega)).mono ?_))
        rintro r w' ⟨rfl, g2, ht⟩
        exact ⟨rfl, _, g2, ht⟩
    · have hs0 := scan_of_err (by rw [hs] : (scan (bs.drop p)).2.2 = e) he
      refine bad e (fun W g => rising_err rb ra rc bs p e most W g h8 (by omega) hs0 he (by omega)) (fun W g _ => refRising_bad db ao cap bs p e most W g he ((length_err db ao cap bs p e most W g h8 hb hs0 he (by omega)).mono ?_))
      rintro r w' ⟨rfl, g2, ht⟩
      exact ⟨rfl, _, g2, ht⟩

theorem raw_both (rb db : Nat) (ra ao : Option Addr) (rc cap : Nat) (bs : List Int) (p : Nat) (n : Int) (h8 : In8 bs) (hb : bs.length ≤ 1048576) : ∃ (l : List Int) (e q : Nat), l.length ≤ 1048576 ∧ In8 l ∧
    (∀ W, Rd W rb ra rc bs p → Calls Try.prog 55 #[.pointer (some ⟨rb, 0, none⟩), .int .i64 n] W fun r w' => ∃ a m c, r = .returned (.tuple #[.slice a m c, .int .i64 e]) ∧ Row w' 5 .u8 (.slice a m c) l ∧ (∀ g, (Value.slice a m c).ownBlock = some g → W.heap.size ≤ g) ∧ Rd w' rb ra rc bs q ∧ Touch (fun k => k = rb) W w') ∧
    (∀ W, Rr W db ao cap bs p → Calls Try.prog 56 #[.pointer (some ⟨db, 0, none⟩), .int .i64 n] W fun r w' => ∃ a c, r = .returned (.tuple #[.slice a l.length c, .int .i64 e]) ∧ Seg w' .u8 a l ∧ Rr w' db ao cap bs q ∧ Touch (fun k => k = db) W w') := by
  have hnil : ∀ W : World, Seg W .u8 none [] := fun W => ⟨fun _ => rfl, fun _ h => (nomatch h), fun _ h => (nomatch h)⟩
  by_cases h0 : n < 0
  · refine ⟨[], 2, p, by simp, fun _ h => (nomatch h), fun W g => (raw_neg rb n W h0).mono ?_, fun W g => (refRaw_neg db n W h0).mono ?_⟩
    · rintro r w' ⟨rfl, rfl⟩
      exact ⟨none, 0, 0, rfl, Row.nil _ _ _, fun g hg => (by cases hg), g, Touch.refl _ _⟩
    · rintro r w' ⟨rfl, rfl⟩
      exact ⟨none, 0, rfl, hnil _, g, Touch.refl _ _⟩
  · obtain ⟨k, rfl⟩ := Int.eq_ofNat_of_zero_le (show 0 ≤ n by omega)
    by_cases hl : k ≤ bs.length - p
    · refine ⟨(bs.drop p).take k, 0, p + k, by simp; omega, fun x hx => h8 x (List.mem_of_mem_drop (List.mem_of_mem_take hx)), fun W g => (raw_yes rb ra rc bs p k W g (by omega) hl).mono ?_, fun W g => (refRaw_yes db ao cap bs p k W g hb hl).mono ?_⟩
      · rintro r w' ⟨g2, m2, c2, rfl, hg, hrow, hrd, ht⟩
        exact ⟨_, m2, c2, rfl, hrow, fun j hj => (by simp [Value.ownBlock] at hj; omega), hrd, ht⟩
      · rintro r w' ⟨a2, c2, rfl, hseg, hrr, ht⟩
        exact ⟨a2, c2, rfl, hseg, hrr, ht⟩
    · refine ⟨[], 110, p, by simp, fun _ h => (nomatch h), fun W g => (raw_no rb ra rc bs p k W g (by omega) (by omega)).mono ?_, fun W g => (refRaw_no db ao cap bs p k W g hb (by omega)).mono ?_⟩
      · rintro r w' ⟨rfl, j, rfl⟩
        exact ⟨none, 0, 0, rfl, Row.nil _ _ _, fun g hg => (by cases hg), g.drewN j, (Touch.refl _ _).drewN j⟩
      · rintro r w' ⟨rfl, j, rfl⟩
        exact ⟨none, 0, rfl, hnil _, g.drewN j, (Touch.refl _ _).drewN j⟩

end Go.Proofs.Ythhajlbnnffgnaa
