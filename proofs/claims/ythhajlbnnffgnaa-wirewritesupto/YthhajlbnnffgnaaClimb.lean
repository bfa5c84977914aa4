/- Walks: wire's Reader: climb, Rising. -/
import Derived.Test.YthhajlbnnffgnaaRd4
namespace Go.Proofs.Ythhajlbnnffgnaa
open Go.RowKit

/-- The first k numbers of a rising form read from place p on: the numbers, the place, the error. -/
def climbF (bs : List Int) (p : Nat) : Nat → List Int × Nat × Nat
  | 0 => ([], p, 0)
  | k + 1 =>
    if (climbF bs p k).2.2 ≠ 0 then climbF bs p k
    else if (scan (bs.drop (climbF bs p k).2.1)).2.2 ≠ 0 then ((climbF bs p k).1, (climbF bs p k).2.1, (scan (bs.drop (climbF bs p k).2.1)).2.2)
    else if k = 0 then ([unz (scan (bs.drop (climbF bs p k).2.1)).1], (climbF bs p k).2.1 + (scan (bs.drop (climbF bs p k).2.1)).2.1, 0)
    else if top - (climbF bs p k).1.getD (k - 1) 0 ≤ ((scan (bs.drop (climbF bs p k).2.1)).1 : Int) then ((climbF bs p k).1, (climbF bs p k).2.1, 112)
    else ((climbF bs p k).1 ++ [(climbF bs p k).1.getD (k - 1) 0 + ((scan (bs.drop (climbF bs p k).2.1)).1 : Int) + 1], (climbF bs p k).2.1 + (scan (bs.drop (climbF bs p k).2.1)).2.1, 0)

theorem climb_err {bs : List Int} {p k q x m e : Nat} {l : List Int} (h : climbF bs p k = (l, q, 0)) (hs : scan (bs.drop q) = (x, m, e)) (he : e ≠ 0) : (climbF bs p (k + 1)).2.2 = e := by
  rw [climbF, h]; simp only [hs]; simp [he]
theorem climb_first {bs : List Int} {p x m : Nat} (hs : scan (bs.drop p) = (x, m, 0)) : climbF bs p 1 = ([unz x], p + m, 0) := by
  simp [climbF, hs]
theorem climb_no {bs : List Int} {p k q x m : Nat} {l : List Int} (h : climbF bs p k = (l, q, 0)) (hk : k ≠ 0) (hs : scan (bs.drop q) = (x, m, 0)) (hx : top - l.getD (k - 1) 0 ≤ (x : Int)) : (climbF bs p (k + 1)).2.2 = 112 := by
  rw [climbF, h]; simp only [hs]; simp only [if_neg hk, if_pos hx]; simp
theorem climb_next {bs : List Int} {p k q x m : Nat} {l : List Int} (h : climbF bs p k = (l, q, 0)) (hk : k ≠ 0) (hs : scan (bs.drop q) = (x, m, 0)) (hx : ¬ top - l.getD (k - 1) 0 ≤ (x : Int)) : climbF bs p (k + 1) = (l ++ [l.getD (k - 1) 0 + (x : Int) + 1], q + m, 0) := by
  rw [climbF, h]; simp only [hs]; simp only [if_neg hk, if_neg hx]; simp
theorem climb_stays {bs : List Int} {p k e : Nat} (h : (climbF bs p k).2.2 = e) (he : e ≠ 0) : ∀ n, k ≤ n → (climbF bs p n).2.2 = e
  | n, hn => by
    by_cases hkn : k = n
    · subst hkn; exact h
    · match n, hn, hkn with
      | 0, hn, hkn => exact absurd (by omega) hkn
      | n + 1, hn, hkn =>
        have ih := climb_stays h he n (by omega)
        rw [climbF, if_pos (by rw [ih]; exact he)]; exact ih

theorem scanF_pos : ∀ (l : List Int) (i acc : Nat), (scanF i acc l).2.2 = 0 → 1 ≤ (scanF i acc l).2.1
  | [], i, acc, h => by simp [scanF] at h
  | c :: r, i, acc, h => by
    rw [scanF] at h ⊢
    split at h
    · rename_i h9
      rw [if_pos h9]
      split at h
      · rename_i h1; rw [if_pos h1]; show 1 ≤ 10; omega
      · cases h
    · rename_i h9
      rw [if_neg h9]
      split at h
      · rename_i h1; rw [if_pos h1]; exact scanF_pos r _ _ h
      · rename_i h1
        rw [if_neg h1]
        split at h
        · cases h
        · rename_i h2; rw [if_neg h2]; simp

theorem scan_pos {l : List Int} {x m : Nat} (h : scan l = (x, m, 0)) : 1 ≤ m := by
  have := scanF_pos l 0 0 (by show (scan l).2.2 = 0; rw [h])
  have e : (scanF 0 0 l).2.1 = m := by show (scan l).2.1 = m; rw [h]
  omega

theorem scan_of_err {l : List Int} {e : Nat} (h : (scan l).2.2 = e) (he : e ≠ 0) : scan l = (0, 0, e) := by
  have := scanF_err l 0 0 (by show (scan l).2.2 ≠ 0; rw [h]; exact he)
  have e2 : (scanF 0 0 l).2.2 = e := h
  rw [e2] at this
  exact this

theorem unz_in (u : Nat) (h : u < 18446744073709551616) : -9223372036854775808 ≤ unz u ∧ unz u ≤ 9223372036854775807 := by
  unfold unz; split <;> omega

/-- What is read so rises, and is as long as it should be. -/
theorem climb_ok {bs : List Int} {p : Nat} (h8 : In8 bs) : ∀ (k : Nat) (l : List Int) (q : Nat), climbF bs p k = (l, q, 0) → l.length = k ∧ p + k ≤ q ∧ In64 l ∧ Up l
  | 0, l, q, h => by
    simp [climbF] at h
    obtain ⟨rfl, rfl⟩ := h
    exact ⟨rfl, by omega, fun i hi => by simp at hi, fun i hi => by simp at hi⟩
  | k + 1, l, q, h => by
    have hz : (climbF bs p k).2.2 = 0 := by
      by_cases e : (climbF bs p k).2.2 = 0
      · exact e
      · exfalso
        have := climb_stays (n := k + 1) rfl e (by omega)
        rw [h] at this; exact e this.symm
    obtain ⟨l0, q0, e0, hl0⟩ : ∃ l0 q0 e0, climbF bs p k = (l0, q0, e0) := ⟨_, _, _, rfl⟩
    rw [hl0] at hz
    simp only at hz
    subst hz
    obtain ⟨a, b, c, d⟩ := climb_ok h8 k l0 q0 hl0
    obtain ⟨x, m, e, hs⟩ : ∃ x m e, scan (bs.drop q0) = (x, m, e) := ⟨_, _, _, rfl⟩
    have hx : x < 18446744073709551616 := by have := scan_lt (h8.drop q0); rw [hs] at this; exact this
    by_cases he : e = 0
    · subst he
      have hm := scan_pos hs
      by_cases hk : k = 0
      · subst hk
        have hq : q0 = p := by simp [climbF] at hl0; omega
        subst hq
        rw [climb_first hs] at h
        simp at h
        obtain ⟨rfl, rfl⟩ := h
        refine ⟨rfl, by omega, fun i hi => ?_, fun i hi => by simp at hi⟩
        have : i = 0 := by simp at hi; exact hi
        subst this
        exact unz_in x hx
      · by_cases ht : top - l0.getD (k - 1) 0 ≤ (x : Int)
        · have := climb_no hl0 hk hs ht
          rw [h] at this; cases this
        · rw [climb_next hl0 hk hs ht] at h
          simp only [Prod.mk.injEq] at h
          obtain ⟨rfl, rfl, _⟩ := h
          have hlast := c (k - 1) (by omega)
          have hn : ∀ i, i < k → (l0 ++ [l0.getD (k - 1) 0 + (x : Int) + 1]).getD i 0 = l0.getD i 0 := by
            intro i hi
            rw [List.getD_eq_getElem?_getD, List.getElem?_append_left (by omega), ← List.getD_eq_getElem?_getD]
          have hk1 : (l0 ++ [l0.getD (k - 1) 0 + (x : Int) + 1]).getD k 0 = l0.getD (k - 1) 0 + (x : Int) + 1 := by
            rw [List.getD_eq_getElem?_getD, List.getElem?_append_right (by omega), a]; simp
          unfold top at ht
          refine ⟨by simp [a], by omega, fun i hi => ?_, fun i hi => ?_⟩
          · simp [a] at hi
            by_cases hik : i < k
            · rw [hn i hik]; exact c i (by omega)
            · obtain rfl : i = k := by omega
              rw [hk1]; omega
          · simp [a] at hi
            rw [hn i (by omega)]
            by_cases hik : i + 1 < k
            · rw [hn (i + 1) hik]; exact d i (by omega)
            · obtain rfl : k = i + 1 := by omega
              rw [hk1]; simp only [Nat.add_sub_cancel]; omega
    · have := climb_err hl0 hs he
      rw [h] at this; exact absurd this.symm he

theorem Row.mem {w : World} {e : TypeId} {k : IntKind} {ao : Option Addr} {n cap : Nat} {xs : List Int} (h : Row w e k (.slice ao n cap) xs) (hx : xs ≠ []) : ∃ g, ao = some ⟨g, 0, none⟩ := by
  rcases h.form with ⟨_, e⟩ | ⟨g, cap', cur, hv, _⟩
  · exact absurd e hx
  · injection hv with h1 _ _; exact ⟨g, h1⟩

theorem row_ne {w : World} {e e' : TypeId} {k k' : IntKind} {v v' : Value} {xs ys : List Int} (h : Row w e k v xs) (h' : Row w e' k' v' ys) (hne : e ≠ e') : ∀ g, v.ownBlock = some g → v'.ownBlock ≠ some g := by
  intro g hg hg'
  obtain ⟨c, hc⟩ := h.block hg
  obtain ⟨c', hc'⟩ := h'.block hg'
  rw [hc] at hc'
  injection hc' with hc'
  injection hc' with _ hc' _
  exact hne hc'

theorem Rd.row_ne {w : World} {rb : Nat} {ao : Option Addr} {cap : Nat} {bs : List Int} {p : Nat} (h : Rd w rb ao cap bs p) {v : Value} {xs : List Int} (hr : Row w 2 .i64 v xs) : v.ownBlock ≠ some rb := by
  intro e
  obtain ⟨cur, hc⟩ := hr.block e
  rw [h.cell] at hc
  simp at hc

/-- Behind an append onto a row of numbers the reader is as it was. -/
theorem Rd.grew {w w' : World} {rb : Nat} {ao : Option Addr} {cap : Nat} {bs : List Int} {p : Nat} (h : Rd w rb ao cap bs p) {v v' : Value} {xs : List Int} (hr : Row w 2 .i64 v xs) (hg : Grew w v w' v') : Rd w' rb ao cap bs p :=
  h.touch hg.touch (h.row_ne hr) (fun g e1 e2 => Go.Proofs.Ythhajlbnnffgnaa.row_ne hr h.row (by decide) g e2 e1)

theorem grew_new {B : Nat} {w w' : World} {v : Value} {g n c : Nat} (h : Grew w v w' (.slice (some ⟨g, 0, none⟩) n c)) (hB : B ≤ w.heap.size) (hv : ∀ j, v.ownBlock = some j → B ≤ j) : B ≤ g := by
  rcases h.fresh with e | ⟨j, e, hj⟩
  · exact hv g e.symm
  · simp [Value.ownBlock] at e; omega

/-- What a round that appends leaves. -/
theorem cl_next {w wr w2 w3 : World} {rb g k c n2 c2 : Nat} {ao ao2 : Option Addr} {cap : Nat} {bs : List Int} {p q q2 k2 : Nat} {l : List Int} {y : Int} {o : Obj} (hgl : w.heap.size ≤ g) (hrow : Row wr 2 .i64 (.slice (some ⟨g, 0, none⟩) k c) l) (hrd : Rd wr rb ao cap bs q) (htt : Touch (fun k => k = rb) w wr) (hrd2 : Rd w2 rb ao cap bs q2) (ht2 : Touch (fun k => k = rb) wr w2)
    (hrow3 : Row w3 2 .i64 (.slice ao2 n2 c2) (l ++ [y])) (hgrew3 : Grew (w2.alloc o) (.slice (some ⟨g, 0, none⟩) k c) w3 (.slice ao2 n2 c2)) (hc : climbF bs p k2 = (l ++ [y], q2, 0)) :
    ∃ l q g n c, climbF bs p k2 = (l, q, 0) ∧ (Value.slice ao2 n2 c2) = .slice (some ⟨g, 0, none⟩) n c ∧ w.heap.size ≤ g ∧ Row w3 2 .i64 (.slice (some ⟨g, 0, none⟩) n c) l ∧ Rd w3 rb ao cap bs q ∧ Touch (fun k => k = rb) w w3 := by
  have hrow2 := hrow.touch ht2 (fun j hj e => hrd.row_ne hrow (by rw [hj, e]))
  obtain ⟨g3, rfl⟩ := hrow3.mem (by simp)
  have hg3 : w.heap.size ≤ g3 := grew_new hgrew3 (Nat.le_trans htt.size (Nat.le_trans ht2.size (by simp))) (fun j hj => by simp [Value.ownBlock] at hj; omega)
  refine ⟨_, _, g3, n2, c2, hc, rfl, hg3, hrow3, ?_, ?_⟩
  · exact Rd.grew (hrd2.touch ((Touch.refl (fun _ => False) _).alloc _) (fun h => h) (fun _ _ h => h)) (hrow2.alloc _) hgrew3
  · exact ((htt.trans ht2 (fun _ _ h => h)).alloc _).trans hgrew3.touch (fun j hj e => by simp [Value.ownBlock] at e; omega)

/-- What climb keeps. -/
def Cl (w : World) (rb : Nat) (ao : Option Addr) (cap : Nat) (bs : List Int) (p k : Nat) (b : Value) (wr : World) : Prop :=
  ∃ l q g n c, climbF bs p k = (l, q, 0) ∧ b = .slice (some ⟨g, 0, none⟩) n c ∧ w.heap.size ≤ g ∧ Row wr 2 .i64 (.slice (some ⟨g, 0, none⟩) n c) l ∧ Rd wr rb ao cap bs q ∧ Touch (fun k => k = rb) w wr

/-- What climb answers. -/
def ClEnd (w : World) (rb : Nat) (ao : Option Addr) (cap : Nat) (bs : List Int) (p n : Nat) (r : Ending) (w' : World) : Prop :=
  Touch (fun k => k = rb) w w' ∧
  (((climbF bs p n).2.2 ≠ 0 ∧ r = .returned (.tuple #[.slice none 0 0, .int .i64 (climbF bs p n).2.2])) ∨
   (∃ l q g m c, climbF bs p n = (l, q, 0) ∧ r = .returned (.tuple #[.slice (some ⟨g, 0, none⟩) m c, .int .i64 0]) ∧ w.heap.size ≤ g ∧ Row w' 2 .i64 (.slice (some ⟨g, 0, none⟩) m c) l ∧ Rd w' rb ao cap bs q))

set_option maxRecDepth 100000 in
set_option maxHeartbeats 1000000 in
theorem climb_any (rb : Nat) (ao : Option Addr) (cap : Nat) (bs : List Int) (p n : Nat) (w : World) (h : Rd w rb ao cap bs p) (h8 : In8 bs) (hb : bs.length ≤ 140737488351232) (hs : n ≤ 4000000000000 ∨ bs.length ≤ 4000000000000) (hn : n ≤ 9223372036854775807) :
    Calls Try.prog 64 #[.pointer (some ⟨rb, 0, none⟩), .int .i64 n] w (ClEnd w rb ao cap bs p n) := by
  obtain ⟨i0, hi, hz0, hz1, hz2⟩ := info_parts Try.info2
  have HN := hide hn
  clear hn
  have HLf := hide (left_any rb ao cap bs p w h (by omega))
  have H8 := hide h8
  clear h8
  obtain ⟨m, hm⟩ : ∃ m : Nat, (if bs.length - p < n then ((bs.length - p : Nat) : Int) else (n : Int)) = (m : Int) := ⟨if bs.length - p < n then bs.length - p else n, by split <;> rfl⟩
  have hml : m ≤ 4000000000000 := by split at hm <;> omega
  obtain ⟨lf, hlf⟩ : ∃ lf, bs.length - p = lf := ⟨_, rfl⟩
  rw [hlf] at hm HLf
  clear hlf
  go_enter Try.func64, Try.ntmps64
  go_wp2_with fail
  refine HLf.out.mono ?_
  rintro r w0 ⟨rfl, nq, rfl⟩
  go_wp2_with (at_make; refine wpList_make_own _ rfl (.const (.int .i64 0)) (.tmp 13) 34 rfl 0 2 i0 (.int .i64 0) 1 Try.underlying34 hi hz0 hz1 .i64 .i64 _ m rfl rfl rfl ?b1 ?b2 (Nat.zero_le _) ?nx)
  case b1 => rw [hz2]; omega
  case b2 => unfold maxLen; omega
  case nx =>
    intro w1 hown hgr
    have C0 : Cl w rb ao cap bs p 0 (.slice (some ⟨w.heap.size, 0, none⟩) 0 m) w1 := by
      have ht : Touch (fun _ => False) w w1 := ⟨hgr.os, hgr.tape, hgr.output, hgr.size, fun k hk _ => hgr.block k hk (by simp)⟩
      exact ⟨[], p, w.heap.size, 0, m, rfl, rfl, Nat.le_refl _, hown, h.touch ht (fun h => h) (fun _ _ h => h), ht.mono fun _ _ h => h.elim⟩
    have HC := hide C0
    clear C0 hown hgr HLf hm
    go_wp2_with fail
    go_loopw [6, 7, 8, 9, 16] (fun b _ _ _ i wr => ∃ k : Nat, k ≤ n ∧ i = .int .i64 k ∧ Cl w rb ao cap bs p k b wr) (fun _ _ _ _ i _ => n - (intOf i).toNat)
    case atStart => exact ⟨0, Nat.zero_le _, rfl, HC.out⟩
    case round =>
      obtain ⟨k, hk, rfl, l, q, g, nn, cc, hcl, rfl, hgl, hrow, hrd, htt⟩ := hrel
      obtain ⟨ll, hpq, h64, hup⟩ := climb_ok H8.out k l q hcl
      have hqb := hrd.place
      have hkb : k ≤ 4000000000000 := by omega
      have hnl := hrow.len.symm
      rw [ll] at hnl
      subst hnl
      clear hup HC
      by_cases hlt : k < n
      · obtain ⟨x, m2, e, hsc⟩ : ∃ x m2 e, scan (bs.drop q) = (x, m2, e) := ⟨_, _, _, rfl⟩
        by_cases he : e = 0
        · subst he
          have hx : x < 18446744073709551616 := by have := scan_lt (H8.out.drop q); rw [hsc] at this; exact this
          by_cases hk0 : k = 0
          · subst hk0
            have hq : q = p := by simp [climbF] at hcl; omega
            subst hq
            have SG := hide (signed_ok rb ao cap bs q x m2 _ hrd H8.out (by omega) hsc)
            have hl : l = [] := List.eq_nil_of_length_eq_zero ll
            subst hl
            have CL : Hid (climbF bs q (0 + 1) = ([] ++ [unz x], q + m2, 0)) := climb_first hsc
            obtain ⟨z, hz⟩ : ∃ z, unz x = z := ⟨_, rfl⟩
            rw [hz] at SG CL
            clear hcl hsc hx h64 hz
            have t0 : (((0 : Nat) : Int) == 0) = true := rfl
            go_wp2_with fail
            refine SG.out.mono ?_
            rintro r w2 ⟨rfl, hrd2, ht2⟩
            have hrow2 := hrow.touch ht2 (fun j hj e => hrd.row_ne hrow (by rw [hj, e]))
            go_wp2_with (at_builtin; refine wpList_append_row _ rfl (.tmp 39) (.tmp 41) 34 34 rfl 2 i0 (.int .i64 0) .i64 8 Try.underlying34 hi hz0 hz1 hz2 rfl _ [] rfl (hrow2.alloc _) _ [z] rfl (src_one Try.underlying34 _ _ _ _) ?b1f ?b2f ?nf)
            case b1f => simp only [List.length_singleton, List.length_nil]; unfold maxLen; omega
            case b2f => simp only [List.length_singleton, List.length_nil]; omega
            case nf =>
              intro ao3 n3 c3 w3 hrow3 hgrew3
              have HH := hide (cl_next (p := q) hgl hrow hrd htt hrd2 ht2 hrow3 hgrew3 CL.out)
              clear hrow3 hgrew3 hrow2 hrow hrd hrd2
              go_wp2
              go_roundw
              case rel => exact ⟨0 + 1, by omega, by go_num, HH.out⟩
              case measure => simp [intOf]; omega
          · have hl := h64 (k - 1) (by omega)
            have t0 : ((k : Int) == 0) = false := by simp; omega
            have c1 := (Seg.of_row hrow).at (k - 1) (by omega)
            rw [Nat.zero_add] at c1
            have e1 : ((k : Int) - 1).toNat = k - 1 := by omega
            by_cases htop : top - l.getD (k - 1) 0 ≤ (x : Int)
            · have SG := hide (further_no rb ao cap bs q x m2 (l.getD (k - 1) 0) _ hrd H8.out (by omega) hsc hl.1 hl.2 htop)
              have E := hide (climb_stays (climb_no hcl hk0 hsc htop) (by decide) n (by omega))
              obtain ⟨y, hy⟩ : ∃ y, l.getD (k - 1) 0 = y := ⟨_, rfl⟩
              rw [hy] at c1 SG
              clear hcl hsc hx h64 hl hy htop
              go_wp2_with fail
              refine SG.out.mono ?_
              rintro r w2 ⟨rfl, ht2⟩
              go_wp2_with fail
              go_ret2
              exact ⟨htt.trans ht2 (fun _ _ h => h), .inl (by rw [E.out]; exact ⟨by decide, rfl⟩)⟩
            · have SG := hide (further_ok rb ao cap bs q x m2 (l.getD (k - 1) 0) _ hrd H8.out (by omega) hsc hl.1 hl.2 (by omega))
              have CL := hide (climb_next hcl hk0 hsc htop)
              obtain ⟨y, hy⟩ : ∃ y, l.getD (k - 1) 0 = y := ⟨_, rfl⟩
              rw [hy] at c1 SG CL
              obtain ⟨z, hz⟩ : ∃ z, y + (x : Int) + 1 = z := ⟨_, rfl⟩
              rw [hz] at SG CL
              clear hcl hsc hx h64 hl hy htop hz
              go_wp2_with fail
              refine SG.out.mono ?_
              rintro r w2 ⟨rfl, hrd2, ht2⟩
              have hrow2 := hrow.touch ht2 (fun j hj e => hrd.row_ne hrow (by rw [hj, e]))
              go_wp2_with (at_builtin; refine wpList_append_row _ rfl (.tmp 39) (.tmp 41) 34 34 rfl 2 i0 (.int .i64 0) .i64 8 Try.underlying34 hi hz0 hz1 hz2 rfl _ l rfl (hrow2.alloc _) _ [z] rfl (src_one Try.underlying34 _ _ _ _) ?b1g ?b2g ?ng)
              case b1g => simp only [List.length_singleton]; unfold maxLen; omega
              case b2g => simp only [List.length_singleton]; omega
              case ng =>
                intro ao3 n3 c3 w3 hrow3 hgrew3
                have HH := hide (cl_next (p := p) hgl hrow hrd htt hrd2 ht2 hrow3 hgrew3 CL.out)
                clear hrow3 hgrew3 hrow2 hrow hrd hrd2
                go_wp2
                go_roundw
                case rel => exact ⟨k + 1, by omega, by go_num, HH.out⟩
                case measure => simp [intOf]; omega
        · have hs0 := scan_of_err (by rw [hsc] : (scan (bs.drop q)).2.2 = e) he
          have E := hide (climb_stays (climb_err hcl hsc he) he n (by omega))
          have t : ((e : Int) != 0) = true := by simp; omega
          by_cases hk0 : k = 0
          · have SG := hide (signed_err rb ao cap bs q e _ hrd H8.out (by omega) hs0 he)
            have t0 : ((k : Int) == 0) = true := by simp; omega
            clear hcl hsc hs0 h64
            go_wp2_with fail
            refine SG.out.mono ?_
            rintro r w2 ⟨rfl, hrd2, ht2⟩
            go_wp2_with fail
            go_ret2
            exact ⟨htt.trans ht2 (fun _ _ h => h), .inl (by rw [E.out]; exact ⟨he, rfl⟩)⟩
          · have hl := h64 (k - 1) (by omega)
            have SG := hide (further_err rb ao cap bs q e (l.getD (k - 1) 0) _ hrd H8.out (by omega) hs0 he)
            have t0 : ((k : Int) == 0) = false := by simp; omega
            have c1 := (Seg.of_row hrow).at (k - 1) (by omega)
            rw [Nat.zero_add] at c1
            obtain ⟨y, hy⟩ : ∃ y, l.getD (k - 1) 0 = y := ⟨_, rfl⟩
            rw [hy] at c1 SG
            have e1 : ((k : Int) - 1).toNat = k - 1 := by omega
            clear hcl hsc hs0 h64 hl hy
            go_wp2_with fail
            refine SG.out.mono ?_
            rintro r w2 ⟨rfl, ht2⟩
            go_wp2_with fail
            go_ret2
            exact ⟨htt.trans ht2 (fun _ _ h => h), .inl (by rw [E.out]; exact ⟨he, rfl⟩)⟩
      · have hkn : k = n := by omega
        have HCl := hide hcl
        clear hcl h64
        go_wp2
        go_ret2
        subst hkn
        exact ⟨htt, .inr ⟨l, q, g, _, cc, HCl.out, rfl, hgl, hrow, hrd⟩⟩

end Go.Proofs.Ythhajlbnnffgnaa
