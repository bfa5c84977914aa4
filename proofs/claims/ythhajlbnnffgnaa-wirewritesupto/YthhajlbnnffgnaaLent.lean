/- Walks: lent; a slice of a slice from its head; what Text and Rising answer from the first byte on. -/
import Derived.Test.YthhajlbnnffgnaaAgM
import Derived.Test.YthhajlbnnffgnaaRsg
import Derived.Test.YthhajlbnnffgnaaKnown
namespace Go.Proofs.Ythhajlbnnffgnaa
open Go.RowKit

theorem Seg.prefix {w : World} {k : IntKind} {ao : Option Addr} {xs ys : List Int} (h : Seg w k ao (xs ++ ys)) : Seg w k ao xs := by
  refine ⟨fun e => ?_, fun a ha hx => h.spot a ha (fun e => hx (List.append_eq_nil_iff.1 e).1), fun a ha j hj => ?_⟩
  · have := h.none e; exact (List.append_eq_nil_iff.1 this).1
  · have := h.cell a ha j (by simp; omega)
    rw [this, List.getElem_append_left hj]

theorem slice_to {w : World} {ao : Option Addr} {cap : Nat} {bs : List Int} (h : Seg w .u8 ao bs) (hc : bs.length ≤ cap) (q : Nat) (hq : q ≤ bs.length) (xs : List Int) (hxs : bs.take q = xs) :
    ∃ A c, (∀ W, (Instr.slice 25 (.slice ao bs.length cap) none (some (.int .i64 q)) none).run Try.prog W = .ok (.slice A xs.length c) W) ∧ Seg w .u8 A xs := by
  refine ⟨if cap = 0 then ao else ao.map (·.add (0 * 1)), cap, fun W => ?_, ?_⟩
  · obtain ⟨i0, hi, hz0, hz1, hz2⟩ := info_parts Try.info5
    have he : Try.prog.elem 25 = 5 := by kernel_rfl
    rw [run_slice_h W 25 ao bs.length cap (by rw [he]; exact Try.underlying25) .i64 q (by omega) (by omega), he]
    have e2 : xs.length = q := by rw [← hxs]; simp; omega
    simp only [sizeOf, typeInfo]
    simp [hi, hz1, sliced, e2]
  · subst hxs
    by_cases h0 : bs.take q = []
    · rw [h0]
      refine ⟨fun _ => rfl, fun _ _ h => absurd rfl h, fun _ _ j hj => absurd hj (by simp)⟩
    · have hbs : bs ≠ [] := fun e => h0 (by rw [e]; simp)
      obtain ⟨b, off, rfl⟩ := h.addr (List.length_pos_iff.2 hbs)
      have hlen := List.length_pos_iff.2 hbs
      have hcap : ¬ cap = 0 := by omega
      rw [if_neg hcap]
      simp only [Option.map_some, Addr.add_lit, Nat.zero_mul, Nat.add_zero]
      have e : bs = bs.take q ++ bs.drop q := (List.take_append_drop q bs).symm
      rw [e] at h
      exact h.prefix

theorem src_two {P : Program} {tx e' : TypeId} (hk : P.underlying tx = some (.slice e')) (w : World) (k : IntKind) (a b : Int) (e : TypeId) : Src P 1 tx (.slice (some ⟨w.heap.size, 0, none⟩) 2 2) [a, b].length ([a, b].map (Value.int k)) (w.alloc (.cells #[.int k a, .int k b] e)) := src_new hk w k [a, b] e

set_option maxRecDepth 100000 in
set_option maxHeartbeats 400000 in
theorem lent_any (ao : Option Addr) (xs : List Int) (cap : Nat) (w : World) (hs : Seg w .u8 ao xs) (hb : xs.length ≤ 140737488351232) :
    Calls Try.prog 15 #[.slice ao xs.length cap] w fun e w' => ∃ g c, e = .returned (.slice (some ⟨g, 0, none⟩) xs.length c) ∧ w.heap.size ≤ g ∧ Row w' 5 .u8 (.slice (some ⟨g, 0, none⟩) (xs.length + 2) c) (xs ++ [165, 166]) ∧ Touch (fun _ => False) w w' := by
  obtain ⟨i0, hi, hz0, hz1, hz2⟩ := info_parts Try.info5
  go_enter Try.func15, Try.ntmps15
  go_wp2_with (at_builtin; refine wpList_append_row _ rfl (.const (.slice none 0 0)) (.tmp 4) 25 25 rfl 5 i0 (.int .u8 0) .u8 1 Try.underlying25 hi hz0 hz1 hz2 rfl _ [] rfl (Row.nil _ _ _) _ xs rfl (hs.src Try.underlying25 _) ?b1 ?b2 ?nx)
  case b1 => simp only [List.length_nil]; unfold maxLen; omega
  case b2 => simp only [List.length_nil]; omega
  case nx =>
    intro ao1 n1 c1 w1 hr1 hg1
    have hn1 := hr1.len
    subst hn1
    go_wp2_with (at_builtin; refine wpList_append_row _ rfl (.tmp 5) (.tmp 6) 25 25 rfl 5 i0 (.int .u8 0) .u8 1 Try.underlying25 hi hz0 hz1 hz2 rfl _ xs rfl (hr1.alloc _) _ [165, 166] rfl (src_two Try.underlying25 _ _ _ _ _) ?b3 ?b4 ?nx2)
    case b3 => simp only [List.length_cons, List.length_nil]; unfold maxLen; omega
    case b4 => simp only [List.length_cons, List.length_nil]; omega
    case nx2 =>
      intro ao2 n2 c2 w2 hr2 hg2
      obtain ⟨g, hgao⟩ := hr2.mem (by simp)
      have hn2 := hr2.len
      have hnn : n2 = xs.length + 2 := by rw [hn2]; simp
      subst hgao hnn
      have G := (hg1.alloc _).trans hg2
      have hgn : w.heap.size ≤ g := grew_new G (Nat.le_refl _) (fun j hj => by cases hj)
      have T := G.touch.mono (S' := fun _ => False) (fun k _ h => by cases h)
      have hcap : xs.length + 2 ≤ c2 := by
        rcases hr2.form with ⟨hv, _⟩ | ⟨g', cap', cur, hv, _, hc, _⟩
        · cases hv
        · injection hv with _ _ h3; rw [h3]; simpa using hc
      have hsl : ∀ W, (Instr.slice 25 (.slice (some ⟨g, 0, none⟩) (xs.length + 2) c2) none (some (.int .i64 xs.length)) none).run Try.prog W = .ok (.slice (some ⟨g, 0, none⟩) xs.length c2) W := by
        intro W
        have he : Try.prog.elem 25 = 5 := by kernel_rfl
        rw [run_slice_h W 25 (some ⟨g, 0, none⟩) (xs.length + 2) c2 (by rw [he]; exact Try.underlying25) .i64 xs.length (by omega) (by omega), he]
        simp only [sizeOf, typeInfo]
        simp [hi, hz1, sliced, Addr.add_lit]
      clear hr1 hg1 hg2 G hn2 hs
      go_wp2
      go_ret
      exact ⟨g, c2, rfl, hgn, hr2, T⟩

/-- Text(1 << 20) from the first byte on. -/
theorem text_from (rb : Nat) (ao : Option Addr) (cap : Nat) (bs : List Int) (w : World) (h : Rd w rb ao cap bs 0) (h8 : In8 bs) (hb : bs.length ≤ 140737488351232) :
    Calls Try.prog 26 #[.pointer (some ⟨rb, 0, none⟩), .int .i64 1048576] w fun r w' =>
      (∃ e : Nat, e ≠ 0 ∧ r = .returned (.tuple #[.string ⟨#[]⟩, .int .i64 e]) ∧ Rd w' rb ao cap bs 0 ∧ Touch (fun k => k = rb) w w') ∨
      (∃ x n : Nat, scan bs = (x, n, 0) ∧ x ≤ 1048576 ∧ n + x ≤ bs.length ∧ r = .returned (.tuple #[.string (strOfNums ((bs.drop n).take x)), .int .i64 0]) ∧ Rd w' rb ao cap bs (n + x) ∧ Touch (fun k => k = rb) w w') := by
  obtain ⟨x, n, e, hs⟩ : ∃ x n e, scan bs = (x, n, e) := ⟨_, _, _, rfl⟩
  have bad : ∀ e : Nat, e ≠ 0 → ∀ (r : Ending) (w' : World), (r = .returned (.tuple #[.string ⟨#[]⟩, .int .i64 e]) ∧ Touch (fun _ => False) w w') → (∃ e : Nat, e ≠ 0 ∧ r = .returned (.tuple #[.string ⟨#[]⟩, .int .i64 e]) ∧ Rd w' rb ao cap bs 0 ∧ Touch (fun k => k = rb) w w') ∨
      (∃ x n : Nat, scan bs = (x, n, 0) ∧ x ≤ 1048576 ∧ n + x ≤ bs.length ∧ r = .returned (.tuple #[.string (strOfNums ((bs.drop n).take x)), .int .i64 0]) ∧ Rd w' rb ao cap bs (n + x) ∧ Touch (fun k => k = rb) w w') := by
    intro e he r w' ⟨hr, ht⟩
    exact .inl ⟨e, he, hr, h.touch ht (fun h => h) (fun _ _ h => h), ht.mono fun _ _ h => h.elim⟩
  by_cases he : e = 0
  · subst he
    have hsz := scan_size bs
    rw [hs] at hsz
    simp only at hsz
    by_cases hx : x ≤ 1048576
    · by_cases hl : x ≤ bs.length - (0 + n)
      · refine (text_ok rb ao cap bs 0 x n 1048576 w h h8 hb hs (by omega) hx hl).mono ?_
        rintro r w' ⟨rfl, hrd, ht⟩
        rw [Nat.zero_add] at hrd ⊢
        exact .inr ⟨x, n, hs, hx, by omega, rfl, hrd, ht⟩
      · exact (text_end rb ao cap bs 0 x n 1048576 w h h8 hb hs (by omega) hx (by omega)).mono (bad 110 (by decide))
    · exact (text_long rb ao cap bs 0 x n 1048576 w h h8 hb hs (by omega) (by omega)).mono (bad 3 (by decide))
  · have hs0 := scan_of_err (by rw [hs] : (scan bs).2.2 = e) he
    exact (text_err rb ao cap bs 0 e 1048576 w h h8 hb hs0 he (by omega)).mono (bad e he)

/-- Rising(1 << 20) from the first byte on. -/
theorem rising_from (rb : Nat) (ao : Option Addr) (cap : Nat) (bs : List Int) (w : World) (h : Rd w rb ao cap bs 0) (h8 : In8 bs) (hb : bs.length ≤ 140737488351232) :
    Calls Try.prog 28 #[.pointer (some ⟨rb, 0, none⟩), .int .i64 1048576] w fun r w' =>
      (∃ e : Nat, e ≠ 0 ∧ r = .returned (.tuple #[.slice none 0 0, .int .i64 e]) ∧ Rd w' rb ao cap bs 0 ∧ Touch (fun k => k = rb) w w') ∨
      (∃ (l : List Int) (q g m c : Nat), l.length ≤ 1048576 ∧ In64 l ∧ Up l ∧ risb l = bs.take q ∧ q ≤ bs.length ∧ r = .returned (.tuple #[.slice (some ⟨g, 0, none⟩) m c, .int .i64 0]) ∧ w.heap.size ≤ g ∧ Row w' 2 .i64 (.slice (some ⟨g, 0, none⟩) m c) l ∧ Rd w' rb ao cap bs q ∧ Touch (fun k => k = rb) w w') := by
  obtain ⟨x, n, e, hs⟩ : ∃ x n e, scan bs = (x, n, e) := ⟨_, _, _, rfl⟩
  have bad : ∀ e : Nat, e ≠ 0 → ∀ (r : Ending) (w' : World), (r = .returned (.tuple #[.slice none 0 0, .int .i64 e]) ∧ Touch (fun _ => False) w w') → (∃ e : Nat, e ≠ 0 ∧ r = .returned (.tuple #[.slice none 0 0, .int .i64 e]) ∧ Rd w' rb ao cap bs 0 ∧ Touch (fun k => k = rb) w w') ∨
      (∃ (l : List Int) (q g m c : Nat), l.length ≤ 1048576 ∧ In64 l ∧ Up l ∧ risb l = bs.take q ∧ q ≤ bs.length ∧ r = .returned (.tuple #[.slice (some ⟨g, 0, none⟩) m c, .int .i64 0]) ∧ w.heap.size ≤ g ∧ Row w' 2 .i64 (.slice (some ⟨g, 0, none⟩) m c) l ∧ Rd w' rb ao cap bs q ∧ Touch (fun k => k = rb) w w') := by
    intro e he r w' ⟨hr, ht⟩
    exact .inl ⟨e, he, hr, h.touch ht (fun h => h) (fun _ _ h => h), ht.mono fun _ _ h => h.elim⟩
  by_cases he : e = 0
  · subst he
    have hsz := scan_size bs
    rw [hs] at hsz
    simp only at hsz
    by_cases hx : x ≤ 1048576
    · refine (rising_any rb ao cap bs 0 x n 1048576 w h h8 hb (.inl (by omega)) hs (by omega) hx).mono ?_
      rintro r w' (⟨hne, hr, ht⟩ | ⟨l, q, g, m, c, hcl, hr, hg, hrow, hrd, ht⟩)
      · exact bad _ hne r w' ⟨hr, ht⟩
      · rw [Nat.zero_add] at hcl
        obtain ⟨ll, _, h64, hup⟩ := climb_ok h8 x l q hcl
        obtain ⟨hf, hnq, hq⟩ := climb_form h8 hsz x l q hcl
        refine .inr ⟨l, q, g, m, c, by omega, h64, hup, ?_, hq, hr, hg, hrow, hrd, ht⟩
        unfold risb
        rw [ll, hf, scan_form h8 hs]
        have := take_more bs 0 n (q - n) (by omega)
        rw [List.drop_zero, Nat.sub_zero, Nat.sub_zero] at this
        rw [this, show n + (q - n) = q by omega]
    · exact (rising_long rb ao cap bs 0 x n 1048576 w h h8 hb hs (by omega) (by omega)).mono (bad 3 (by decide))
  · have hs0 := scan_of_err (by rw [hs] : (scan bs).2.2 = e) he
    exact (rising_err rb ao cap bs 0 e 1048576 w h h8 hb hs0 he (by omega)).mono (bad e he)

/-- Number from the first byte on. -/
theorem number_from (rb : Nat) (ao : Option Addr) (cap : Nat) (bs : List Int) (w : World) (h : Rd w rb ao cap bs 0) (h8 : In8 bs) (hb : bs.length ≤ 140737488351232) :
    Calls Try.prog 23 #[.pointer (some ⟨rb, 0, none⟩)] w fun r w' =>
      (∃ e : Nat, e ≠ 0 ∧ r = .returned (.tuple #[.int .u64 0, .int .i64 e]) ∧ Rd w' rb ao cap bs 0 ∧ Touch (fun k => k = rb) w w') ∨
      (∃ x n : Nat, x < 18446744073709551616 ∧ numb x = bs.take n ∧ n ≤ bs.length ∧ r = .returned (.tuple #[.int .u64 x, .int .i64 0]) ∧ Rd w' rb ao cap bs n ∧ Touch (fun k => k = rb) w w') := by
  obtain ⟨x, n, e, hs⟩ : ∃ x n e, scan bs = (x, n, e) := ⟨_, _, _, rfl⟩
  by_cases he : e = 0
  · subst he
    have hsz := scan_size bs
    rw [hs] at hsz
    simp only at hsz
    have hx := scan_lt h8
    rw [hs] at hx
    refine (number_eq rb ao cap bs 0 x n 0 w h h8 hb hs).mono ?_
    rintro r w' ⟨rfl, hrd, ht⟩
    rw [Nat.zero_add] at hrd
    exact .inr ⟨x, n, hx, scan_form h8 hs, hsz, rfl, hrd, ht⟩
  · have hs0 := scan_of_err (by rw [hs] : (scan bs).2.2 = e) he
    refine (number_eq rb ao cap bs 0 0 0 e w h h8 hb hs0).mono ?_
    rintro r w' ⟨rfl, hrd, ht⟩
    exact .inl ⟨e, he, rfl, hrd, ht⟩

end Go.Proofs.Ythhajlbnnffgnaa
