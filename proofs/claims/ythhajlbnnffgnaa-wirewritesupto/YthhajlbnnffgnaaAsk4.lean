/- Walks: asks, Rising and Raw: the answers are the caller's. -/
import Derived.Test.YthhajlbnnffgnaaAsk3
namespace Go.Proofs.Ythhajlbnnffgnaa
open Go.RowKit

theorem seg_lt {w : World} {k : IntKind} {ao : Option Addr} {xs : List Int} (h : Seg w k ao xs) : ∀ a, ao = some a → xs ≠ [] → a.block < w.heap.size := by
  intro a ha hx
  have hl := List.length_pos_iff.2 hx
  obtain ⟨b, off, e⟩ := h.addr hl
  rw [ha] at e
  injection e with e
  subst e
  have hc := h.cell _ ha 0 hl
  rw [Addr.add_lit] at hc
  exact lt_of_cell hc

theorem ret_bool {a b : Bool} (h : a = b) : Ending.returned (.bool a) = .returned (.bool b) := by rw [h]

/-- Behind writes into a row of its own both readers are as they were. -/
theorem both_own {w w' w0 : World} {rb db : Nat} {ra ao : Option Addr} {rc cap : Nat} {bs : List Int} {q : Nat} (h : Both w rb db ra ao rc cap bs q) {v : Value} (hv : ∀ g, v.ownBlock = some g → w0.heap.size ≤ g) (hrb : rb < w0.heap.size) (hdb : db < w0.heap.size) (hrg : ∀ g, (Value.slice ra bs.length rc).ownBlock = some g → g < w0.heap.size) (hao : ∀ a, ao = some a → bs ≠ [] → a.block < w0.heap.size)
    (ht : Touch (fun j => v.ownBlock = some j) w w') : Both w' rb db ra ao rc cap bs q :=
  ⟨h.rd.touch ht (fun e => by have := hv _ e; omega) (fun g hg e => by have := hv _ e; have := hrg g hg; omega),
   h.rr.touch ht (fun e => by have := hv _ e; omega) (fun a ha hne e => by have := hv _ e; have := hao a ha hne; omega)⟩

set_option maxRecDepth 100000 in
set_option maxHeartbeats 1000000 in
theorem ask_rising (rb db : Nat) (ra ao : Option Addr) (rc cap : Nat) (bs : List Int) (p : Nat) (n : Int) (w : World) (h : Both w rb db ra ao rc cap bs p) (h8 : In8 bs) (hb : bs.length ≤ 1048576) (hn : n ≤ 9223372036854775807) :
    Calls Try.prog 18 #[.pointer (some ⟨rb, 0, none⟩), .pointer (some ⟨db, 0, none⟩), .agg #[.int .i64 6, .int .i64 n]] w (Asked w rb db ra ao rc cap bs) := by
  have h0 := h.none ((Touch.refl _ w).alloc (.cells #[.int .i64 6, .int .i64 n] 51))
  obtain ⟨l, e, q, hll, A1, B1⟩ := rising_both rb db ra ao rc cap bs p n h8 hb hn
  have A := hide A1
  have B := hide B1
  have F1 := hide h.rd.lt
  have F2 := hide h.rr.lt
  have F3 := hide (fun g (hg : (Value.slice ra bs.length rc).ownBlock = some g) => h.rd.row.lt hg)
  have F4 := hide (seg_lt h.rr.seg)
  clear h8 A1 B1 hn
  go_enter Try.func18, Try.ntmps18
  go_wp2_with fail
  refine (A.out _ h0.rd).mono ?_
  rintro r w1 ⟨a, m, c, rfl, hrowx, hown, hrd1, ht1⟩
  have hrr1 := rr_keep h0.rd h0.rr ht1
  have kN := box_n (n := n) ht1 F1.out
  go_wp2_with fail
  refine (B.out _ hrr1 (seg_lt hrr1.seg)).mono ?_
  rintro r w2 ⟨a2, m2, c2, rfl, hrowy, hrr2, ht2⟩
  have hrd2 := rd_keep hrd1 hrr1 ht2
  have T2 := t_t (t_t (t_0 (rb := rb) (db := db) ((Touch.refl _ w).alloc _)) (t_l ht1)) (t_r ht2)
  have hrowx2 := hrowx.touch ht2 (fun j hj e => hrr1.row_ne hrowx (by rw [hj]; exact congrArg some e))
  have hm := hrowx2.len
  have hm2 := hrowy.len
  subst hm hm2
  have hown2 : ∀ g, (Value.slice a l.length c).ownBlock = some g → w.heap.size ≤ g := fun g hg => by have := hown g hg; simp at this; omega
  clear A B hrowx hrd1 ht1 hrr1 kN h0 ht2 hown h
  go_wp2_with fail
  refine (sameList_any a a2 l l c c2 w2 (Seg.of_row hrowx2) (Seg.of_row hrowy) (by omega) (by omega)).mono ?_
  rintro r w' ⟨b, rfl, hbb, j, rfl⟩
  obtain rfl : b = true := hbb.2 rfl
  obtain ⟨w3, hw3⟩ : ∃ w3, w2.drewN j = w3 := ⟨_, rfl⟩
  have hrowX := hide (show Row w3 2 .i64 (.slice a l.length c) l by rw [← hw3]; exact hrowx2.stays fun _ _ => rfl)
  have BO := hide (show Both w3 rb db ra ao rc cap bs q by rw [← hw3]; exact ⟨hrd2.drewN j, hrr2.drewN j⟩)
  have T3 := hide (show Touch (fun k => k = rb ∨ k = db) w w3 by rw [← hw3]; exact T2.drewN j)
  rw [hw3]
  clear hbb hw3 hrowx2 hrowy hrd2 hrr2 T2
  go_wp2_with (go_at_call 24; refine (num_any _ _).mono ?_; rintro e w' ⟨rfl, rfl⟩)
  go_loopw [32] (fun i wr => ∃ (k : Nat) (zs : List Int), k ≤ l.length ∧ i = .int .i64 k ∧ zs.length = l.length ∧ Row wr 2 .i64 (.slice a l.length c) zs ∧ Touch (fun j => (Value.slice a l.length c).ownBlock = some j) w3 wr) (fun i _ => l.length - (intOf i).toNat)
  case atStart => exact ⟨0, l, Nat.zero_le _, rfl, rfl, hrowX.out, Touch.refl _ _⟩
  case round =>
    obtain ⟨k, zs, hk, rfl, hzl, hrowZ, htZ⟩ := hrel
    by_cases hlt : k < l.length
    · obtain ⟨g, hga⟩ := hrowZ.mem (fun e => by rw [e] at hzl; simp at hzl; omega)
      have hrowZ' := hrowZ
      rw [hga] at hrowZ'
      have k1 := hrowZ'.cell k (by omega)
      have k2 := hrowZ'.frozen k
      have RS := hide (hrowZ'.set k 99)
      have TS := hide (Touch.setCell (p := ⟨g, k, none⟩) (u := .int .i64 99) htZ (fun _ => by rw [hga]; rfl))
      obtain ⟨zk, hzk⟩ : ∃ zk, zs[k]'(by omega) = zk := ⟨_, rfl⟩
      rw [hzk] at k1
      have hll := hide hlt
      have HZ := hide hzl
      have HGA := hide hga
      subst hga
      clear hrowZ hrowZ' hzk hzl htZ
      go_wp2
      go_roundw
      case rel => exact ⟨k + 1, zs.set k 99, by have := hll.out; omega, by go_num, by rw [List.length_set]; exact HZ.out, RS.out, TS.out⟩
      case measure => have := hll.out; simp [intOf]; omega
    · go_wp2
      go_ret
      refine ⟨rfl, ⟨q, both_own BO.out hown2 F1.out F2.out F3.out F4.out htZ⟩, ?_⟩
      exact T3.out.trans htZ (fun j hj e => by have := hown2 j e; omega)

set_option maxRecDepth 100000 in
set_option maxHeartbeats 1000000 in
theorem ask_raw (rb db : Nat) (ra ao : Option Addr) (rc cap : Nat) (bs : List Int) (p : Nat) (n : Int) (w : World) (h : Both w rb db ra ao rc cap bs p) (h8 : In8 bs) (hb : bs.length ≤ 1048576) :
    Calls Try.prog 18 #[.pointer (some ⟨rb, 0, none⟩), .pointer (some ⟨db, 0, none⟩), .agg #[.int .i64 7, .int .i64 n]] w (Asked w rb db ra ao rc cap bs) := by
  obtain ⟨i0, hi, hz0, hz1, hz2⟩ := info_parts Try.info5
  have h0 := h.none ((Touch.refl _ w).alloc (.cells #[.int .i64 7, .int .i64 n] 51))
  obtain ⟨l, e, q, hll, hl8, A1, B1⟩ := raw_both rb db ra ao rc cap bs p n h8 hb
  have A := hide A1
  have B := hide B1
  have F1 := hide h.rd.lt
  have F2 := hide h.rr.lt
  have F3 := hide (fun g (hg : (Value.slice ra bs.length rc).ownBlock = some g) => h.rd.row.lt hg)
  have F4 := hide (seg_lt h.rr.seg)
  clear h8 A1 B1
  go_enter Try.func18, Try.ntmps18
  go_wp2_with fail
  refine (A.out _ h0.rd).mono ?_
  rintro r w1 ⟨a, m, c, rfl, hrowx, hown, hrd1, ht1⟩
  have hrr1 := rr_keep h0.rd h0.rr ht1
  have kN := box_n (n := n) ht1 F1.out
  go_wp2_with fail
  refine (B.out _ hrr1).mono ?_
  rintro r w2 ⟨a2, c2, rfl, hsegy, hrr2, ht2⟩
  have hrd2 := rd_keep hrd1 hrr1 ht2
  have T2 := t_t (t_t (t_0 (rb := rb) (db := db) ((Touch.refl _ w).alloc _)) (t_l ht1)) (t_r ht2)
  have hrowx2 := hrowx.touch ht2 (fun j hj e => by
    have e : j = db := e
    obtain ⟨cur, hc⟩ := hrowx.block hj
    rw [e, hrr1.cell] at hc
    simp at hc)
  have hm := hrowx2.len
  subst hm
  have hown2 : ∀ g, (Value.slice a l.length c).ownBlock = some g → w.heap.size ≤ g := fun g hg => by have := hown g hg; simp at this; omega
  clear A B hrowx hrd1 ht1 hrr1 kN h0 ht2 hown h
  go_wp2_with fail
  refine (same_any a a2 l l c c2 w2 (Seg.of_row hrowx2) hsegy hl8 hl8).mono ?_
  rintro r w' ⟨b, rfl, hbb, hq⟩
  obtain rfl := hq.symm
  obtain rfl : b = true := hbb.2 rfl
  obtain ⟨w3, hw3⟩ : ∃ w3, w2 = w3 := ⟨_, rfl⟩
  subst hw3
  have hrowX := hide hrowx2
  have BO := hide (show Both w2 rb db ra ao rc cap bs q from ⟨hrd2, hrr2⟩)
  have T3 := hide T2
  clear hbb hrowx2 hsegy hrd2 hrr2 T2 hl8
  go_wp2_with (go_at_call 24; refine (num_any _ _).mono ?_; rintro e w' ⟨rfl, rfl⟩)
  go_loopw [38] (fun i wr => ∃ (k : Nat) (zs : List Int), k ≤ l.length ∧ i = .int .i64 k ∧ zs.length = l.length ∧ Row wr 5 .u8 (.slice a l.length c) zs ∧ Touch (fun j => (Value.slice a l.length c).ownBlock = some j) w2 wr) (fun i _ => l.length - (intOf i).toNat)
  case atStart => exact ⟨0, l, Nat.zero_le _, rfl, rfl, hrowX.out, Touch.refl _ _⟩
  case round =>
    obtain ⟨k, zs, hk, rfl, hzl, hrowZ, htZ⟩ := hrel
    by_cases hlt : k < l.length
    · obtain ⟨g, hga⟩ := hrowZ.mem (fun e => by rw [e] at hzl; simp at hzl; omega)
      have hrowZ' := hrowZ
      rw [hga] at hrowZ'
      have k1 := hrowZ'.cell k (by omega)
      have k2 := hrowZ'.frozen k
      have RS := hide (hrowZ'.set k 99)
      have TS := hide (Touch.setCell (p := ⟨g, k, none⟩) (u := .int .u8 99) htZ (fun _ => by rw [hga]; rfl))
      obtain ⟨zk, hzk⟩ : ∃ zk, zs[k]'(by omega) = zk := ⟨_, rfl⟩
      rw [hzk] at k1
      have hll := hide hlt
      have HZ := hide hzl
      have HGA := hide hga
      subst hga
      clear hrowZ hrowZ' hzk hzl htZ
      go_wp2
      go_roundw
      case rel => exact ⟨k + 1, zs.set k 99, by have := hll.out; omega, by go_num, by rw [List.length_set]; exact HZ.out, RS.out, TS.out⟩
      case measure => have := hll.out; simp [intOf]; omega
    · have B4 := hide (both_own BO.out hown2 F1.out F2.out F3.out F4.out htZ)
      have T4 := hide (T3.out.trans htZ (fun j hj e => by have := hown2 j e; omega))
      have hrZ := hide hrowZ
      have hzz := hide hzl
      clear hrowZ htZ hzl BO T3 hrowX
      go_wp2_with fail
      go_loopw [33, 39] (fun x i ws => ∃ (k : Nat) (ys : List Int) (a9 : Option Addr) (n9 c9 : Nat), k ≤ 9 ∧ i = .int .i64 k ∧ x = .slice a9 n9 c9 ∧ ys.length = l.length + k ∧ Row ws 5 .u8 (.slice a9 n9 c9) ys ∧ Grew wr (.slice a l.length c) ws (.slice a9 n9 c9)) (fun _ i _ => 9 - (intOf i).toNat)
      case atStart => exact ⟨0, zs, a, l.length, c, by omega, rfl, rfl, hzz.out, hrZ.out, Grew.refl _ _⟩
      case round =>
        obtain ⟨k, ys, a9, n9, c9, hk9, rfl, rfl, hyl, hrow9, hgrew9⟩ := hrel
        have hn9 := hrow9.len.symm
        by_cases hlt9 : k < 9
        · go_wp2_with (at_builtin; refine wpList_append_row _ rfl (.tmp 224) (.tmp 225) 25 25 rfl 5 i0 (.int .u8 0) .u8 1 Try.underlying25 hi hz0 hz1 hz2 rfl _ ys rfl (hrow9.alloc _) _ [99] rfl (src_one Try.underlying25 _ _ _ _) ?b1 ?b2 ?nx)
          case b1 => simp only [List.length_singleton]; unfold maxLen; omega
          case b2 => simp only [List.length_singleton]; omega
          case nx =>
            intro ao3 n3 c3 w4 hrow4 hgrew4
            have G := hide ((hgrew9.alloc _).trans hgrew4)
            have R := hide hrow4
            clear hrow4 hgrew4 hgrew9 hrow9 hn9
            go_wp2
            go_roundw
            case rel => exact ⟨k + 1, _, ao3, n3, c3, by omega, by go_num, rfl, by simp; omega, R.out, G.out⟩
            case measure => simp [intOf]; omega
        · have hn99 : 9 ≤ n9 := by omega
          have E5 := hide (both_own B4.out hown2 F1.out F2.out F3.out F4.out hgrew9.touch)
          have T5 := hide (T4.out.trans hgrew9.touch (fun j hj e => by have := hown2 j e; omega))
          clear hgrew9 hrow9 hn9 hyl
          go_wp2
          go_ret
          exact ⟨ret_bool (by simp; omega), ⟨q, E5.out⟩, T5.out⟩

theorem ask_any (rb db : Nat) (ra ao : Option Addr) (rc cap : Nat) (bs : List Int) (p : Nat) (kind n : Int) (w : World) (h : Both w rb db ra ao rc cap bs p) (h8 : In8 bs) (hb : bs.length ≤ 1048576) (hn : n ≤ 9223372036854775807) :
    Calls Try.prog 18 #[.pointer (some ⟨rb, 0, none⟩), .pointer (some ⟨db, 0, none⟩), .agg #[.int .i64 kind, .int .i64 n]] w (Asked w rb db ra ao rc cap bs) := by
  by_cases h1 : kind = 1
  · subst h1; exact ask_byte rb db ra ao rc cap bs p n w h hb
  by_cases h2 : kind = 2
  · subst h2; exact ask_number rb db ra ao rc cap bs p n w h h8 hb
  by_cases h3 : kind = 3
  · subst h3; exact ask_signed rb db ra ao rc cap bs p n w h h8 hb
  by_cases h4 : kind = 4
  · subst h4; exact ask_text rb db ra ao rc cap bs p n w h h8 hb hn
  by_cases h5 : kind = 5
  · subst h5; exact ask_fixed rb db ra ao rc cap bs p n w h h8 hb
  by_cases h6 : kind = 6
  · subst h6; exact ask_rising rb db ra ao rc cap bs p n w h h8 hb hn
  by_cases h7 : kind = 7
  · subst h7; exact ask_raw rb db ra ao rc cap bs p n w h h8 hb
  exact ask_other rb db ra ao rc cap bs p kind n w h (by omega)

end Go.Proofs.Ythhajlbnnffgnaa
