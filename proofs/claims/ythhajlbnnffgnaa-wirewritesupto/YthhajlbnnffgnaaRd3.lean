/- Walks: wire's Reader: Signed, Raw, Fixed, count, Text. -/
import Derived.Test.YthhajlbnnffgnaaRd2
namespace Go.Proofs.Ythhajlbnnffgnaa
open Go.RowKit

theorem scanF_err : ∀ (l : List Int) (i acc : Nat), (scanF i acc l).2.2 ≠ 0 → scanF i acc l = (0, 0, (scanF i acc l).2.2)
  | [], i, acc, _ => rfl
  | c :: r, i, acc, h => by
    rw [scanF] at h ⊢
    split at h
    · rename_i h9
      rw [if_pos h9]
      split at h
      · exact absurd rfl h
      · rename_i h1; rw [if_neg h1]
    · rename_i h9
      rw [if_neg h9]
      split at h
      · rename_i h1; rw [if_pos h1]; exact scanF_err r _ _ h
      · rename_i h1
        rw [if_neg h1]
        split at h
        · rename_i h2; rw [if_pos h2]
        · exact absurd rfl h

theorem scanF_lt : ∀ (l : List Int) (i acc : Nat), i ≤ 9 → acc < 128 ^ i → (∀ c ∈ l, c ≤ 255) → (scanF i acc l).1 < 18446744073709551616
  | [], i, acc, _, _, _ => by simp [scanF]
  | c :: r, i, acc, hi, ha, hc => by
    have hc0 := hc c (by simp)
    rw [scanF]
    split
    · rename_i h9
      subst h9
      split
      · have : (128 : Nat) ^ 9 = 9223372036854775808 := by decide
        rw [this] at ha; simp; omega
      · simp
    · rename_i h9
      split
      · exact scanF_lt r (i + 1) _ (by omega) (by
          have := Nat.mul_le_mul_right (128 ^ i) (show c.toNat - 128 ≤ 127 by omega)
          rw [Nat.pow_succ]; omega) (fun x hx => hc x (by simp [hx]))
      · split
        · simp
        · have hp : (128 : Nat) ^ i ≤ 128 ^ 8 := Nat.pow_le_pow_right (by decide) (by omega)
          have h8 : (128 : Nat) ^ 8 = 72057594037927936 := by decide
          have := Nat.mul_le_mul (show c.toNat ≤ 127 by omega) hp
          rw [h8] at this hp
          simp only
          generalize c.toNat * 128 ^ i = z at this ⊢
          omega

theorem scan_lt {l : List Int} (h : In8 l) : (scan l).1 < 18446744073709551616 := scanF_lt l 0 0 (by omega) (by decide) (fun c hc => (h c hc).2)

theorem In8.drop {bs : List Int} (h : In8 bs) (p : Nat) : In8 (bs.drop p) := fun x hx => h x (List.mem_of_mem_drop hx)

theorem number_eq (rb : Nat) (ao : Option Addr) (cap : Nat) (bs : List Int) (p x n e : Nat) (w : World) (h : Rd w rb ao cap bs p) (h8 : In8 bs) (hb : bs.length ≤ 140737488351232) (hs : scan (bs.drop p) = (x, n, e)) :
    Calls Try.prog 23 #[.pointer (some ⟨rb, 0, none⟩)] w fun r w' => r = .returned (.tuple #[.int .u64 x, .int .i64 e]) ∧ Rd w' rb ao cap bs (p + n) ∧ Touch (fun k => k = rb) w w' := by
  have := number_any rb ao cap bs p w h h8 hb
  rw [hs] at this
  exact this

set_option maxRecDepth 100000 in
theorem signed_ok (rb : Nat) (ao : Option Addr) (cap : Nat) (bs : List Int) (p x n : Nat) (w : World) (h : Rd w rb ao cap bs p) (h8 : In8 bs) (hb : bs.length ≤ 140737488351232) (hs : scan (bs.drop p) = (x, n, 0)) :
    Calls Try.prog 48 #[.pointer (some ⟨rb, 0, none⟩)] w fun r w' => r = .returned (.tuple #[.int .i64 (unz x), .int .i64 0]) ∧ Rd w' rb ao cap bs (p + n) ∧ Touch (fun k => k = rb) w w' := by
  have H := hide (number_eq rb ao cap bs p x n 0 w h h8 hb hs)
  have hx : x < 18446744073709551616 := by have := scan_lt (h8.drop p); rw [hs] at this; exact this
  have U := hide (fun W => unfold_any x W hx)
  clear hx hs hb h8
  go_enter Try.func48, Try.ntmps48
  go_wp2_with fail
  refine H.out.mono ?_
  rintro e w1 ⟨rfl, hrd, ht⟩
  go_wp2_with fail
  refine (U.out _).mono ?_
  rintro e w' ⟨rfl, rfl⟩
  go_wp2
  go_ret2
  exact ⟨rfl, hrd, ht⟩

set_option maxRecDepth 100000 in
theorem signed_err (rb : Nat) (ao : Option Addr) (cap : Nat) (bs : List Int) (p e : Nat) (w : World) (h : Rd w rb ao cap bs p) (h8 : In8 bs) (hb : bs.length ≤ 140737488351232) (hs : scan (bs.drop p) = (0, 0, e)) (he : e ≠ 0) :
    Calls Try.prog 48 #[.pointer (some ⟨rb, 0, none⟩)] w fun r w' => r = .returned (.tuple #[.int .i64 0, .int .i64 e]) ∧ Rd w' rb ao cap bs p ∧ Touch (fun k => k = rb) w w' := by
  have H := hide (number_eq rb ao cap bs p 0 0 e w h h8 hb hs)
  have t : ((e : Int) != 0) = true := by simp; omega
  clear hs hb h8
  go_enter Try.func48, Try.ntmps48
  go_wp2_with fail
  refine H.out.mono ?_
  rintro r w1 ⟨rfl, hrd, ht⟩
  go_wp2_with fail
  go_ret2
  exact ⟨rfl, hrd, ht⟩

set_option maxRecDepth 100000 in
theorem raw_yes (rb : Nat) (ao : Option Addr) (cap : Nat) (bs : List Int) (p n : Nat) (w : World) (h : Rd w rb ao cap bs p) (hb : bs.length ≤ 140737488351232) (hn : n ≤ bs.length - p) :
    Calls Try.prog 55 #[.pointer (some ⟨rb, 0, none⟩), .int .i64 n] w fun r w' => ∃ g k c, r = .returned (.tuple #[.slice (some ⟨g, 0, none⟩) k c, .int .i64 0]) ∧ w.heap.size ≤ g ∧ Row w' 5 .u8 (.slice (some ⟨g, 0, none⟩) k c) ((bs.drop p).take n) ∧ Rd w' rb ao cap bs (p + n) ∧ Touch (fun k => k = rb) w w' := by
  have H := hide (take_yes rb ao cap bs p n w h hb hn)
  have hl : ((bs.drop p).take n).length ≤ 140737488351232 := by simp; omega
  obtain ⟨xs, hxs⟩ : ∃ xs, (bs.drop p).take n = xs := ⟨_, rfl⟩
  rw [hxs] at H hl ⊢
  have hlt := h.lt
  have hrow := fun g => h.row.lt (g := g)
  clear hxs hn hb
  go_enter Try.func55, Try.ntmps55
  go_wp2_with fail
  refine H.out.mono ?_
  rintro e w1 ⟨A, c1, rfl, hseg, hrd, ht⟩
  go_wp2_with fail
  refine (fresh_any A xs c1 w1 hseg hl).mono ?_
  rintro e w2 ⟨n2, c2, rfl, hr2, ht2, hl2⟩
  go_wp2
  go_ret2
  exact ⟨w1.heap.size, n2, c2, rfl, ht.size, hr2, hrd.touch ht2 (fun h => h) (fun _ _ h => h), ht.trans ht2 (fun _ _ h => h.elim)⟩

set_option maxRecDepth 100000 in
theorem raw_no (rb : Nat) (ao : Option Addr) (cap : Nat) (bs : List Int) (p : Nat) (n : Int) (w : World) (h : Rd w rb ao cap bs p) (hb : bs.length ≤ 140737488351232) (hn : ((bs.length - p : Nat) : Int) < n) :
    Calls Try.prog 55 #[.pointer (some ⟨rb, 0, none⟩), .int .i64 n] w fun r w' => r = .returned (.tuple #[.slice none 0 0, .int .i64 110]) ∧ ∃ n, w' = w.drewN n := by
  have H := hide (take_no rb ao cap bs p n w h hb hn)
  have hn0 : ¬ n < 0 := by omega
  clear hn hb
  go_enter Try.func55, Try.ntmps55
  go_wp2_with fail
  refine H.out.mono ?_
  rintro e w1 ⟨rfl, k, rfl⟩
  go_wp2
  go_ret2
  exact ⟨rfl, k, rfl⟩

theorem raw_neg (rb : Nat) (n : Int) (w : World) (hn : n < 0) :
    Calls Try.prog 55 #[.pointer (some ⟨rb, 0, none⟩), .int .i64 n] w fun r w' => r = .returned (.tuple #[.slice none 0 0, .int .i64 2]) ∧ w' = w := by
  go_enter Try.func55, Try.ntmps55
  go_wp2
  go_ret2
  exact ⟨rfl, rfl⟩

theorem ret2_int {k : IntKind} {a b : Int} {v : Value} (h : a = b) : Ending.returned (.tuple #[.int k a, v]) = .returned (.tuple #[.int k b, v]) := by rw [h]

theorem fix_eq (a b c d : Int) (ha : 0 ≤ a ∧ a ≤ 255) (hb : 0 ≤ b ∧ b ≤ 255) (hc : 0 ≤ c ∧ c ≤ 255) (hd : 0 ≤ d ∧ d ≤ 255) :
    bits .or .u32 (bits .or .u32 (bits .or .u32 a (b * 256)) (c * 65536)) (d * 16777216) = a + b * 256 + c * 65536 + d * 16777216 := by
  rw [u32_or8 a (b * 256) (by omega) (by omega) (by omega) (by omega) (by omega), u32_or16 (a + b * 256) (c * 65536) (by omega) (by omega) (by omega) (by omega) (by omega), u32_or24 (a + b * 256 + c * 65536) (d * 16777216) (by omega) (by omega) (by omega) (by omega) (by omega)]

set_option maxRecDepth 100000 in
set_option maxHeartbeats 400000 in
theorem fixed_yes (rb : Nat) (ao : Option Addr) (cap : Nat) (bs : List Int) (p : Nat) (a b c d : Int) (w : World) (h : Rd w rb ao cap bs p) (h8 : In8 bs) (hb : bs.length ≤ 140737488351232) (hc : (bs.drop p).take 4 = [a, b, c, d]) :
    Calls Try.prog 51 #[.pointer (some ⟨rb, 0, none⟩)] w fun e w' => e = .returned (.tuple #[.int .u32 (a + b * 256 + c * 65536 + d * 16777216), .int .i64 0]) ∧ Rd w' rb ao cap bs (p + 4) ∧ Touch (fun k => k = rb) w w' := by
  have hl : 4 ≤ bs.length - p := by have := congrArg List.length hc; simp at this; omega
  have H := hide (take_yes rb ao cap bs p 4 w h hb hl)
  have h4 : ∀ x ∈ [a, b, c, d], 0 ≤ x ∧ x ≤ 255 := fun x hx => h8 x (by rw [← hc] at hx; exact List.mem_of_mem_drop (List.mem_of_mem_take hx))
  have ha := h4 a (by simp)
  have hb' := h4 b (by simp)
  have hc' := h4 c (by simp)
  have hd := h4 d (by simp)
  rw [hc] at H
  clear hc hl hb h8 h4
  go_enter Try.func51, Try.ntmps51
  go_wp2_with fail
  refine H.out.mono ?_
  rintro e w1 ⟨A, c1, rfl, hseg, hrd, ht⟩
  obtain ⟨bk, off, rfl⟩ := hseg.addr (by simp)
  have k0 := hseg.at 0 (by simp)
  have k1 := hseg.at 1 (by simp)
  have k2 := hseg.at 2 (by simp)
  have k3 := hseg.at 3 (by simp)
  rw [Nat.add_zero, show [a, b, c, d].getD 0 0 = a from rfl] at k0
  rw [show [a, b, c, d].getD 1 0 = b from rfl] at k1
  rw [show [a, b, c, d].getD 2 0 = c from rfl] at k2
  rw [show [a, b, c, d].getD 3 0 = d from rfl] at k3
  go_wp2
  go_quiet (fail)
  go_wp2
  go_ret2
  exact ⟨ret2_int (fix_eq a b c d ha hb' hc' hd), hrd.drewN nq, ht.drewN nq⟩

set_option maxRecDepth 100000 in
theorem fixed_no (rb : Nat) (ao : Option Addr) (cap : Nat) (bs : List Int) (p : Nat) (w : World) (h : Rd w rb ao cap bs p) (hb : bs.length ≤ 140737488351232) (hn : bs.length - p < 4) :
    Calls Try.prog 51 #[.pointer (some ⟨rb, 0, none⟩)] w fun e w' => e = .returned (.tuple #[.int .u32 0, .int .i64 110]) ∧ ∃ n, w' = w.drewN n := by
  have H := hide (take_no rb ao cap bs p 4 w h hb (by omega))
  clear hn hb
  go_enter Try.func51, Try.ntmps51
  go_wp2_with fail
  refine H.out.mono ?_
  rintro e w1 ⟨rfl, n, rfl⟩
  go_wp2
  go_ret2
  exact ⟨rfl, n, rfl⟩

set_option maxRecDepth 100000 in
theorem count_err (rb : Nat) (ao : Option Addr) (cap : Nat) (bs : List Int) (p e : Nat) (most : Int) (w : World) (h : Rd w rb ao cap bs p) (h8 : In8 bs) (hb : bs.length ≤ 140737488351232) (hs : scan (bs.drop p) = (0, 0, e)) (he : e ≠ 0) :
    Calls Try.prog 61 #[.pointer (some ⟨rb, 0, none⟩), .int .i64 most] w fun r w' => r = .returned (.tuple #[.int .i64 0, .int .i64 e]) ∧ Rd w' rb ao cap bs p ∧ Touch (fun k => k = rb) w w' := by
  have H := hide (number_eq rb ao cap bs p 0 0 e w h h8 hb hs)
  have t : ((e : Int) != 0) = true := by simp; omega
  clear hs hb h8
  go_enter Try.func61, Try.ntmps61
  go_wp2_with fail
  refine H.out.mono ?_
  rintro r w1 ⟨rfl, hrd, ht⟩
  go_wp2_with fail
  go_ret2
  exact ⟨rfl, hrd, ht⟩

set_option maxRecDepth 100000 in
theorem count_long (rb : Nat) (ao : Option Addr) (cap : Nat) (bs : List Int) (p x n most : Nat) (w : World) (h : Rd w rb ao cap bs p) (h8 : In8 bs) (hb : bs.length ≤ 140737488351232) (hs : scan (bs.drop p) = (x, n, 0)) (hm : most ≤ 9223372036854775807) (hx : most < x) :
    Calls Try.prog 61 #[.pointer (some ⟨rb, 0, none⟩), .int .i64 most] w fun r w' => r = .returned (.tuple #[.int .i64 0, .int .i64 3]) ∧ Rd w' rb ao cap bs (p + n) ∧ Touch (fun k => k = rb) w w' := by
  have H := hide (number_eq rb ao cap bs p x n 0 w h h8 hb hs)
  have hwr : IntKind.u64.wrap (most : Int) = most := by rw [IntKind.wrap_u64]; omega
  clear hs hb h8 hm
  go_enter Try.func61, Try.ntmps61
  go_wp2_with fail
  refine H.out.mono ?_
  rintro r w1 ⟨rfl, hrd, ht⟩
  go_wp2_with fail
  go_ret2
  exact ⟨rfl, hrd, ht⟩

set_option maxRecDepth 100000 in
theorem count_ok (rb : Nat) (ao : Option Addr) (cap : Nat) (bs : List Int) (p x n most : Nat) (w : World) (h : Rd w rb ao cap bs p) (h8 : In8 bs) (hb : bs.length ≤ 140737488351232) (hs : scan (bs.drop p) = (x, n, 0)) (hm : most ≤ 9223372036854775807) (hx : x ≤ most) :
    Calls Try.prog 61 #[.pointer (some ⟨rb, 0, none⟩), .int .i64 most] w fun r w' => r = .returned (.tuple #[.int .i64 x, .int .i64 0]) ∧ Rd w' rb ao cap bs (p + n) ∧ Touch (fun k => k = rb) w w' := by
  have H := hide (number_eq rb ao cap bs p x n 0 w h h8 hb hs)
  have hwr : IntKind.u64.wrap (most : Int) = most := by rw [IntKind.wrap_u64]; omega
  have hwx : wrap64 (x : Int) = x := by unfold wrap64; omega
  clear hs hb h8 hm
  go_enter Try.func61, Try.ntmps61
  go_wp2_with fail
  refine H.out.mono ?_
  rintro r w1 ⟨rfl, hrd, ht⟩
  go_wp2_with fail
  go_ret2
  exact ⟨ret2_int hwx, hrd, ht⟩

/-- A copy of a reader in a new block. -/
theorem Rd.copy {w : World} {rb : Nat} {ao : Option Addr} {cap : Nat} {bs : List Int} {p : Nat} (h : Rd w rb ao cap bs p) : Rd (w.alloc (.cells #[.slice ao bs.length cap, .int .i64 p] 75)) w.heap.size ao cap bs p :=
  ⟨heap_alloc_new w _, h.row.alloc _, h.place⟩

theorem text_neg (rb : Nat) (most : Int) (w : World) (hn : most < 0) :
    Calls Try.prog 26 #[.pointer (some ⟨rb, 0, none⟩), .int .i64 most] w fun r w' => r = .returned (.tuple #[.string ⟨#[]⟩, .int .i64 2]) ∧ w' = w := by
  go_enter Try.func26, Try.ntmps26
  go_wp2
  go_ret2
  exact ⟨rfl, rfl⟩

set_option maxRecDepth 100000 in
set_option maxHeartbeats 400000 in
theorem text_err (rb : Nat) (ao : Option Addr) (cap : Nat) (bs : List Int) (p e : Nat) (most : Int) (w : World) (h : Rd w rb ao cap bs p) (h8 : In8 bs) (hb : bs.length ≤ 140737488351232) (hs : scan (bs.drop p) = (0, 0, e)) (he : e ≠ 0) (hm : 0 ≤ most) :
    Calls Try.prog 26 #[.pointer (some ⟨rb, 0, none⟩), .int .i64 most] w fun r w' => r = .returned (.tuple #[.string ⟨#[]⟩, .int .i64 e]) ∧ Touch (fun _ => False) w w' := by
  obtain ⟨c0, c1, f0, f1⟩ := cell_two h.cell
  have hlt := h.lt
  have H := hide (count_err w.heap.size ao cap bs p e most _ h.copy h8 hb hs he)
  have t : ((e : Int) != 0) = true := by simp; omega
  clear hs hb h8
  go_enter Try.func26, Try.ntmps26
  go_wp2_with fail
  refine H.out.mono ?_
  rintro r w1 ⟨rfl, hrd, ht⟩
  go_wp2_with fail
  go_ret2
  exact ⟨rfl, ((Touch.refl _ w).alloc _).trans ht (fun k hk e => by omega)⟩

theorem two_set0 {w : World} {b : Nat} {u v x : Value} {t : TypeId} (h : w.heap[b]? = some (.cells #[u, v] t (0, 0))) : (w.setCell ⟨b, 0, none⟩ x).heap[b]? = some (.cells #[x, v] t (0, 0)) := by
  have hlt : b < w.heap.size := (Array.getElem?_eq_some_iff.1 h).1
  have hg : w.heap[b] = .cells #[u, v] t (0, 0) := (Array.getElem?_eq_some_iff.1 h).2
  simp [World.setCell, Array.getElem_modify, hlt, hg]

/-- A slice of bytes does not lie over a reader's own cells. -/
theorem seg_ne {w : World} {ao bo : Option Addr} {xs : List Int} {rb n cap : Nat} {q : Int} {t : TypeId} (h : Seg w .u8 ao xs) (hc : w.heap[rb]? = some (.cells #[.slice bo n cap, .int .i64 q] t (0, 0))) : ∀ a, ao = some a → xs ≠ [] → a.block ≠ rb := by
  intro a ha hx e
  have hlen : 0 < xs.length := List.length_pos_iff.2 hx
  have := h.cell a ha 0 hlen
  obtain ⟨b, off, e2⟩ := h.addr hlen
  rw [ha] at e2; injection e2 with e2; subst e2
  simp at e; subst e
  rw [Addr.add_lit] at this
  simp [World.cell?, hc] at this
  revert this
  rcases off with _ | _ | off
  · simp
  · simp
  · simp

set_option maxRecDepth 100000 in
set_option maxHeartbeats 400000 in
theorem text_long (rb : Nat) (ao : Option Addr) (cap : Nat) (bs : List Int) (p x n most : Nat) (w : World) (h : Rd w rb ao cap bs p) (h8 : In8 bs) (hb : bs.length ≤ 140737488351232) (hs : scan (bs.drop p) = (x, n, 0)) (hm : most ≤ 9223372036854775807) (hx : most < x) :
    Calls Try.prog 26 #[.pointer (some ⟨rb, 0, none⟩), .int .i64 most] w fun r w' => r = .returned (.tuple #[.string ⟨#[]⟩, .int .i64 3]) ∧ Touch (fun _ => False) w w' := by
  obtain ⟨c0, c1, f0, f1⟩ := cell_two h.cell
  have hlt := h.lt
  have H := hide (count_long w.heap.size ao cap bs p x n most _ h.copy h8 hb hs hm hx)
  clear hs hb h8 hm hx
  go_enter Try.func26, Try.ntmps26
  go_wp2_with fail
  refine H.out.mono ?_
  rintro r w1 ⟨rfl, hrd, ht⟩
  go_wp2_with fail
  go_ret2
  exact ⟨rfl, ((Touch.refl _ w).alloc _).trans ht (fun k hk e => by omega)⟩

set_option maxRecDepth 100000 in
set_option maxHeartbeats 400000 in
theorem text_end (rb : Nat) (ao : Option Addr) (cap : Nat) (bs : List Int) (p x n most : Nat) (w : World) (h : Rd w rb ao cap bs p) (h8 : In8 bs) (hb : bs.length ≤ 140737488351232) (hs : scan (bs.drop p) = (x, n, 0)) (hm : most ≤ 9223372036854775807) (hx : x ≤ most) (hl : bs.length - (p + n) < x) :
    Calls Try.prog 26 #[.pointer (some ⟨rb, 0, none⟩), .int .i64 most] w fun r w' => r = .returned (.tuple #[.string ⟨#[]⟩, .int .i64 110]) ∧ Touch (fun _ => False) w w' := by
  obtain ⟨c0, c1, f0, f1⟩ := cell_two h.cell
  have hlt := h.lt
  have H := hide (count_ok w.heap.size ao cap bs p x n most _ h.copy h8 hb hs hm hx)
  have K := hide (fun W (g : Rd W w.heap.size ao cap bs (p + n)) => take_no w.heap.size ao cap bs (p + n) x W g hb (by omega))
  clear hs hb h8 hm hx hl
  go_enter Try.func26, Try.ntmps26
  go_wp2_with fail
  refine H.out.mono ?_
  rintro r w1 ⟨rfl, hrd, ht⟩
  go_wp2_with fail
  refine (K.out _ hrd).mono ?_
  rintro r w2 ⟨rfl, m, rfl⟩
  go_wp2_with fail
  go_ret2
  exact ⟨rfl, (((Touch.refl _ w).alloc _).trans ht (fun k hk e => by omega)).drewN m⟩

set_option maxRecDepth 100000 in
set_option maxHeartbeats 400000 in
theorem text_ok (rb : Nat) (ao : Option Addr) (cap : Nat) (bs : List Int) (p x n most : Nat) (w : World) (h : Rd w rb ao cap bs p) (h8 : In8 bs) (hb : bs.length ≤ 140737488351232) (hs : scan (bs.drop p) = (x, n, 0)) (hm : most ≤ 9223372036854775807) (hx : x ≤ most) (hl : x ≤ bs.length - (p + n)) :
    Calls Try.prog 26 #[.pointer (some ⟨rb, 0, none⟩), .int .i64 most] w fun r w' => r = .returned (.tuple #[.string (strOfNums ((bs.drop (p + n)).take x)), .int .i64 0]) ∧ Rd w' rb ao cap bs (p + n + x) ∧ Touch (fun k => k = rb) w w' := by
  obtain ⟨c0, c1, f0, f1⟩ := cell_two h.cell
  have hlt := h.lt
  have H := hide (count_ok w.heap.size ao cap bs p x n most _ h.copy h8 hb hs hm hx)
  have K := hide (fun W (g : Rd W w.heap.size ao cap bs (p + n)) => take_yes w.heap.size ao cap bs (p + n) x W g hb hl)
  obtain ⟨xs, hxs⟩ : ∃ xs, (bs.drop (p + n)).take x = xs := ⟨_, rfl⟩
  rw [hxs] at K ⊢
  have CP := hide h.copy
  clear hs hb h8 hm hx hl hxs
  go_enter Try.func26, Try.ntmps26
  go_wp2_with fail
  refine H.out.mono ?_
  rintro r w1 ⟨rfl, hrd, ht⟩
  go_wp2_with fail
  refine (K.out _ hrd).mono ?_
  rintro r w2 ⟨A, c, rfl, hseg, hrd2, ht2⟩
  have T2 : Touch (fun _ => False) w w2 := (((Touch.refl _ w).alloc _).trans ht (fun k hk e => by omega)).trans ht2 (fun k hk e => by omega)
  have hr2 := h.touch T2 (fun h => h) (fun _ _ h => h)
  obtain ⟨d0, d1, g0, g1⟩ := cell_two hr2.cell
  obtain ⟨e0, e1, j0, j1⟩ := cell_two hrd2.cell
  have hne := seg_ne hseg hr2.cell
  clear H K CP ht ht2 hrd c0 c1 f0 f1
  have T3 : Touch (fun k => k = rb) w2 ((w2.setCell ⟨rb, 0, none⟩ (.slice ao bs.length cap)).setCell ⟨rb, 1, none⟩ (.int .i64 ((p : Int) + (n : Int) + (x : Int)))) :=
    Touch.setCell (S := fun k => k = rb) (p := ⟨rb, 1, none⟩) (Touch.setCell (S := fun k => k = rb) (p := ⟨rb, 0, none⟩) (Touch.refl _ w2) (fun _ => rfl) _) (fun _ => rfl) _
  have hcv := conv_seg (Seg.touch1 (S := fun k => k = rb) hseg T3 hne) c
  have e3 : (p : Int) + (n : Int) + (x : Int) = ((p + n + x : Nat) : Int) := by omega
  have R3 : Rd ((w2.setCell ⟨rb, 0, none⟩ (.slice ao bs.length cap)).setCell ⟨rb, 1, none⟩ (.int .i64 ((p : Int) + (n : Int) + (x : Int)))) rb ao cap bs (p + n + x) := by
    rw [e3]
    exact Rd.moved (p := p) ⟨two_set0 hr2.cell, hr2.row.stays fun g hg => Below.heap_setCell _ _ _ _ fun e => hr2.apart (by simp at e; rw [hg, e]), hr2.place⟩ _ hrd2.place
  have HR := hide R3
  have HT := hide ((T2.mono fun _ _ h => h.elim).trans T3 (fun _ _ h => h))
  clear R3 T3 T2 hne hseg e3 hrd2 hr2
  go_wp2_with fail
  go_ret2
  exact ⟨rfl, HR.out, HT.out⟩

end Go.Proofs.Ythhajlbnnffgnaa
