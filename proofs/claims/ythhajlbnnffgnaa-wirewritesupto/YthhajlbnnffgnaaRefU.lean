/- Walks: the document's Reader: Rising. -/
import Derived.Test.YthhajlbnnffgnaaRefT
namespace Go.Proofs.Ythhajlbnnffgnaa
open Go.RowKit

theorem sum2_eq (x : Int) (d : Nat) (h0 : -9223372036854775808 ≤ x) (h1 : x ≤ 9223372036854775807) (h : (d : Int) < top - x) : wrap64 (wrap64 (x + wrap64 (d : Int)) + 1) = x + d + 1 := by
  unfold top at h; unfold wrap64; omega

theorem Rr.row_ne {w : World} {db : Nat} {ao : Option Addr} {cap : Nat} {bs : List Int} {p : Nat} (h : Rr w db ao cap bs p) {v : Value} {xs : List Int} (hr : Row w 2 .i64 v xs) : v.ownBlock ≠ some db := by
  intro e
  obtain ⟨cur, hc⟩ := hr.block e
  rw [h.cell] at hc
  simp at hc

/-- What the document's Rising keeps. -/
def Rc (w : World) (db : Nat) (ao : Option Addr) (cap : Nat) (bs : List Int) (p k : Nat) (b : Value) (wr : World) : Prop :=
  ∃ l q a n c, climbF bs p k = (l, q, 0) ∧ b = .slice a n c ∧ (∀ g, (Value.slice a n c).ownBlock = some g → w.heap.size ≤ g) ∧ Row wr 2 .i64 (.slice a n c) l ∧ Rr wr db ao cap bs q ∧ Touch (fun k => k = db) w wr

theorem rc_next {w w2 w3 : World} {db : Nat} {v : Value} {n3 c3 : Nat} {ao ao3 : Option Addr} {cap : Nat} {bs : List Int} {p q2 k2 : Nat} {l : List Int} {z : Int} {o : Obj} (hgo : ∀ g, v.ownBlock = some g → w.heap.size ≤ g) (hrow2 : Row w2 2 .i64 v l) (hrd2 : Rr w2 db ao cap bs q2) (htt2 : Touch (fun k => k = db) w w2)
    (hrow3 : Row w3 2 .i64 (.slice ao3 n3 c3) (l ++ [z])) (hgrew3 : Grew (w2.alloc o) v w3 (.slice ao3 n3 c3)) (hc : climbF bs p k2 = (l ++ [z], q2, 0)) (hbk : ∀ a, ao = some a → bs ≠ [] → a.block < w.heap.size) :
    Rc w db ao cap bs p k2 (.slice ao3 n3 c3) w3 := by
  refine ⟨_, _, ao3, n3, c3, hc, rfl, ?_, hrow3, ?_, ?_⟩
  · intro g hg
    rcases hgrew3.fresh with e | ⟨j, e, hj⟩
    · exact hgo g (by rw [← e]; exact hg)
    · rw [e] at hg; injection hg with hg; subst hg; have := htt2.size; simp at hj; omega
  · refine (hrd2.touch ((Touch.refl (fun _ => False) _).alloc _) (fun h => h) (fun _ _ _ h => h)).touch hgrew3.touch (hrd2.row_ne hrow2) (fun a ha hne h => ?_)
    have := hgo _ h
    have := hbk a ha hne
    omega
  · exact (htt2.alloc _).trans hgrew3.touch (fun j hj e => by have := hgo _ e; omega)

set_option maxRecDepth 100000 in
set_option maxHeartbeats 400000 in
theorem refRising_bad (db : Nat) (ao : Option Addr) (cap : Nat) (bs : List Int) (p e : Nat) (most : Int) (w : World) (h : Rr w db ao cap bs p) (he : e ≠ 0)
    (hl : Calls Try.prog 76 #[.pointer (some ⟨db, 0, none⟩), .int .i64 most] w fun r w' => r = .returned (.tuple #[.int .u64 0, .int .i64 e]) ∧ ∃ q, Rr w' db ao cap bs q ∧ Touch (fun k => k = db) w w') :
    Calls Try.prog 53 #[.pointer (some ⟨db, 0, none⟩), .int .i64 most] w fun r w' => r = .returned (.tuple #[.slice none 0 0, .int .i64 e]) ∧ Rr w' db ao cap bs p ∧ Touch (fun k => k = db) w w' := by
  obtain ⟨c0, c1, f0, f1⟩ := cell_two h.cell
  have t2 : ((e : Int) != 0) = true := by simp; omega
  have H := hide hl
  have HP := hide h.place
  clear hl
  go_enter Try.func53, Try.ntmps53
  go_wp2_with fail
  refine H.out.mono ?_
  rintro r w1 ⟨rfl, q, hrd, ht⟩
  obtain ⟨d0, d1, g0, g1⟩ := cell_two hrd.cell
  go_wp2_with fail
  refine wp_loop_rounds 1 ?_
  rw [rounds_succ]
  go_wp2_with fail
  go_ret2
  exact ⟨rfl, hrd.moved p HP.out, ht.trans (touch_set _ _ _ _) (fun _ _ h => h)⟩

/-- What the document's Rising answers where the count may be. -/
def RcEnd (w : World) (db : Nat) (ao : Option Addr) (cap : Nat) (bs : List Int) (p0 p n : Nat) (r : Ending) (w' : World) : Prop :=
  Touch (fun k => k = db) w w' ∧
  (((climbF bs p n).2.2 ≠ 0 ∧ r = .returned (.tuple #[.slice none 0 0, .int .i64 (climbF bs p n).2.2]) ∧ Rr w' db ao cap bs p0) ∨
   (∃ l q a m c, climbF bs p n = (l, q, 0) ∧ r = .returned (.tuple #[.slice a m c, .int .i64 0]) ∧ Row w' 2 .i64 (.slice a m c) l ∧ Rr w' db ao cap bs q))

set_option maxRecDepth 100000 in
set_option maxHeartbeats 1000000 in
theorem refRising_any (db : Nat) (ao : Option Addr) (cap : Nat) (bs : List Int) (p x n most : Nat) (w : World) (h : Rr w db ao cap bs p) (h8 : In8 bs) (hb : bs.length ≤ 1048576) (hs : scan (bs.drop p) = (x, n, 0)) (hm : most ≤ 9223372036854775807) (hx : x ≤ most) (hbk : ∀ a, ao = some a → bs ≠ [] → a.block < w.heap.size) :
    Calls Try.prog 53 #[.pointer (some ⟨db, 0, none⟩), .int .i64 most] w (RcEnd w db ao cap bs p (p + n) x) := by
  obtain ⟨i0, hi, hz0, hz1, hz2⟩ := info_parts Try.info2
  obtain ⟨c0, c1, f0, f1⟩ := cell_two h.cell
  have H := hide (length_ok db ao cap bs p x n most w h h8 hb hs hm hx)
  have HP := hide h.place
  have H8 := hide h8
  have HX := hide (show x ≤ 9223372036854775807 by omega)
  obtain ⟨p1, hp1⟩ : ∃ p1, p + n = p1 := ⟨_, rfl⟩
  rw [hp1] at H ⊢
  clear hs h8 hm hx hp1
  go_enter Try.func53, Try.ntmps53
  go_wp2_with fail
  refine H.out.mono ?_
  rintro r w1 ⟨rfl, hrd, ht⟩
  have HC := hide (show Rc w db ao cap bs p1 0 (.slice none 0 0) w1 from ⟨[], p1, none, 0, 0, rfl, rfl, fun g hg => (by cases hg), Row.nil _ _ _, hrd, ht⟩)
  clear hrd ht
  go_wp2_with fail
  go_loopw [8, 9, 10, 11, 12] (fun e b i _ _ wr => ∃ k : Nat, k ≤ x ∧ i = .int .u64 k ∧ e = .int .i64 0 ∧ Rc w db ao cap bs p1 k b wr) (fun _ _ i _ _ _ => x - (intOf i).toNat)
  case atStart => exact ⟨0, Nat.zero_le _, rfl, rfl, HC.out⟩
  case round =>
    obtain ⟨k, hk, rfl, rfl, l, q, a, nn, cc, hcl, rfl, hgo, hrow, hrd, htt⟩ := hrel
    obtain ⟨ll, hpq, h64, hup⟩ := climb_ok H8.out k l q hcl
    have hqb := hrd.place
    have hkb : k ≤ 1048576 := by omega
    have hnl := hrow.len.symm
    rw [ll] at hnl
    subst hnl
    clear hup HC
    by_cases hlt : k < x
    · obtain ⟨y, m2, e, hsc⟩ : ∃ y m2 e, scan (bs.drop q) = (y, m2, e) := ⟨_, _, _, rfl⟩
      have NM := hide (refNumber_eq db ao cap bs q y m2 e _ hrd H8.out hb hsc)
      have hwk : IntKind.u64.wrap ((k : Int) + 1) = (k : Int) + 1 := by rw [IntKind.wrap_u64]; omega
      by_cases he : e = 0
      · subst he
        have hy : y < 18446744073709551616 := by have := scan_lt (H8.out.drop q); rw [hsc] at this; exact this
        by_cases hk0 : k = 0
        · have hq : q = p1 := by subst hk0; simp [climbF] at hcl; omega
          have hl : l = [] := List.eq_nil_of_length_eq_zero (by omega)
          have t0 : ((k : Int) == 0) = true := by simp; omega
          have UF := hide (fun W => refUnfold_any y W hy)
          have CL : Hid (climbF bs p1 (k + 1) = (l ++ [unz y], q + m2, 0)) := by
            show _ = _
            rw [hk0, hl, hq] ; rw [hq] at hsc; exact climb_first hsc
          obtain ⟨z, hz⟩ : ∃ z, unz y = z := ⟨_, rfl⟩
          rw [hz] at UF CL
          clear hcl hsc hy h64 hz hq hl hk0
          go_wp2_with fail
          refine NM.out.mono ?_
          rintro r w2 ⟨rfl, hrd2, ht2⟩
          have hrow2 := hrow.touch ht2 (fun j hj e => hrd.row_ne hrow (by rw [hj, e]))
          have htt2 := htt.trans ht2 (fun _ _ h => h)
          go_wp2_with fail
          refine (UF.out _).mono ?_
          rintro r w' ⟨rfl, rfl⟩
          go_wp2_with (at_builtin; refine wpList_append_row _ rfl (.tmp 41) (.tmp 44) 34 34 rfl 2 i0 (.int .i64 0) .i64 8 Try.underlying34 hi hz0 hz1 hz2 rfl _ l rfl (hrow2.alloc _) _ [z] rfl (src_one Try.underlying34 _ _ _ _) ?b1f ?b2f ?nf)
          case b1f => simp only [List.length_singleton]; unfold maxLen; omega
          case b2f => simp only [List.length_singleton]; omega
          case nf =>
            intro ao3 n3 c3 w3 hrow3 hgrew3
            have HH := hide (rc_next hgo hrow2 hrd2 htt2 hrow3 hgrew3 CL.out hbk)
            clear hrow3 hgrew3 hrow2 hrow hrd hrd2
            go_wp2
            go_roundw
            case rel => exact ⟨k + 1, by omega, by go_num, rfl, HH.out⟩
            case measure => simp [intOf]; omega
        · have hl := h64 (k - 1) (by omega)
          have t0 : ((k : Int) == 0) = false := by simp; omega
          obtain ⟨g, hga⟩ := hrow.mem (fun e => by rw [e] at ll; simp at ll; omega)
          subst hga
          have hrowS := (Seg.of_row hrow).at (k - 1) (by omega)
          rw [Nat.zero_add] at hrowS
          have e1 : ((k : Int) - 1).toNat = k - 1 := by omega
          have hroom := room_eq (l.getD (k - 1) 0) hl.1 hl.2
          by_cases htop : top - l.getD (k - 1) 0 ≤ (y : Int)
          · have E := hide (climb_stays (climb_no hcl hk0 hsc htop) (by decide) x (by omega))
            obtain ⟨v, hv⟩ : ∃ v, l.getD (k - 1) 0 = v := ⟨_, rfl⟩
            rw [hv] at hrowS hroom htop
            obtain ⟨t, ht⟩ : ∃ t, top - v = t := ⟨_, rfl⟩
            rw [ht] at hroom htop
            have hne := hrd.row_ne hrow
            clear hcl hsc hy h64 hl hv ht
            go_wp2_with fail
            refine NM.out.mono ?_
            rintro r w2 ⟨rfl, hrd2, ht2⟩
            have k1 := (ht2.cell (p := ⟨g, k - 1, none⟩) (lt_of_cell hrowS) (fun e => hne (by simp at e; rw [e]; rfl))).trans hrowS
            obtain ⟨d0, d1, g0, g1⟩ := cell_two hrd2.cell
            have htt2 := htt.trans ht2 (fun _ _ h => h)
            go_wp2_with fail
            go_ret2
            exact ⟨htt2.trans (touch_set _ _ _ _) (fun _ _ h => h), .inl (by rw [E.out]; exact ⟨by decide, rfl, hrd2.moved p HP.out⟩)⟩
          · have CL := hide (climb_next hcl hk0 hsc htop)
            have hsum := sum2_eq (l.getD (k - 1) 0) y hl.1 hl.2 (by omega)
            obtain ⟨v, hv⟩ : ∃ v, l.getD (k - 1) 0 = v := ⟨_, rfl⟩
            rw [hv] at hrowS hroom htop CL hsum
            obtain ⟨t, ht⟩ : ∃ t, top - v = t := ⟨_, rfl⟩
            rw [ht] at hroom htop
            obtain ⟨z, hz⟩ : ∃ z, v + (y : Int) + 1 = z := ⟨_, rfl⟩
            rw [hz] at CL hsum
            have hne := hrd.row_ne hrow
            clear hcl hsc hy h64 hl hv ht hz
            go_wp2_with fail
            refine NM.out.mono ?_
            rintro r w2 ⟨rfl, hrd2, ht2⟩
            have k1 := (ht2.cell (p := ⟨g, k - 1, none⟩) (lt_of_cell hrowS) (fun e => hne (by simp at e; rw [e]; rfl))).trans hrowS
            have hrow2 := hrow.touch ht2 (fun j hj e => hrd.row_ne hrow (by rw [hj, e]))
            have htt2 := htt.trans ht2 (fun _ _ h => h)
            go_wp2_with (at_builtin; refine wpList_append_row _ rfl (.tmp 57) (.tmp 63) 34 34 rfl 2 i0 (.int .i64 0) .i64 8 Try.underlying34 hi hz0 hz1 hz2 rfl _ l rfl (hrow2.alloc _) _ [z] rfl (src_one Try.underlying34 _ _ _ _) ?b1g ?b2g ?ng)
            case b1g => simp only [List.length_singleton]; unfold maxLen; omega
            case b2g => simp only [List.length_singleton]; omega
            case ng =>
              intro ao3 n3 c3 w3 hrow3 hgrew3
              have HH := hide (rc_next hgo hrow2 hrd2 htt2 hrow3 hgrew3 CL.out hbk)
              clear hrow3 hgrew3 hrow2 hrow hrd hrd2
              go_wp2
              go_roundw
              case rel => exact ⟨k + 1, by omega, by go_num, rfl, HH.out⟩
              case measure => simp [intOf]; omega
      · have E := hide (climb_stays (climb_err hcl hsc he) he x (by omega))
        have t : ((e : Int) != 0) = true := by simp; omega
        clear hcl hsc h64
        go_wp2_with fail
        refine NM.out.mono ?_
        rintro r w2 ⟨rfl, hrd2, ht2⟩
        obtain ⟨d0, d1, g0, g1⟩ := cell_two hrd2.cell
        have htt2 := htt.trans ht2 (fun _ _ h => h)
        go_wp2_with fail
        go_ret2
        exact ⟨htt2.trans (touch_set _ _ _ _) (fun _ _ h => h), .inl (by rw [E.out]; exact ⟨he, rfl, hrd2.moved p HP.out⟩)⟩
    · have hkn : k = x := by omega
      have HCl := hide hcl
      clear hcl h64
      go_wp2_with fail
      go_ret2
      subst hkn
      exact ⟨htt, .inr ⟨l, q, a, _, cc, HCl.out, rfl, hrow, hrd⟩⟩

end Go.Proofs.Ythhajlbnnffgnaa
