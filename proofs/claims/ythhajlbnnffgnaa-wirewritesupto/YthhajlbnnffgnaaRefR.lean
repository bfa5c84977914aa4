/- Walks: the document's Reader: Left, Byte, form, Number, Unfold, Signed, Raw, Fixed. -/
import Derived.Test.YthhajlbnnffgnaaLent
namespace Go.Proofs.Ythhajlbnnffgnaa
open Go.RowKit

/-- The document's reader at block db: its bytes bs, the place p. -/
structure Rr (w : World) (db : Nat) (ao : Option Addr) (cap : Nat) (bs : List Int) (p : Nat) : Prop where
  cell : w.heap[db]? = some (.cells #[.slice ao bs.length cap, .int .i64 p] 48 (0, 0))
  seg : Seg w .u8 ao bs
  cap : bs.length ≤ cap
  place : p ≤ bs.length

theorem Rr.lt {w : World} {db : Nat} {ao : Option Addr} {cap : Nat} {bs : List Int} {p : Nat} (h : Rr w db ao cap bs p) : db < w.heap.size := lt_of_block h.cell

theorem Rr.touch {S : Nat → Prop} {w w' : World} {db : Nat} {ao : Option Addr} {cap : Nat} {bs : List Int} {p : Nat} (h : Rr w db ao cap bs p) (ht : Touch S w w') (h1 : ¬ S db) (h2 : ∀ a, ao = some a → bs ≠ [] → ¬ S a.block) : Rr w' db ao cap bs p :=
  ⟨(ht.block db h.lt h1).trans h.cell, h.seg.touch1 ht h2, h.cap, h.place⟩

theorem Rr.drewN {w : World} {db : Nat} {ao : Option Addr} {cap : Nat} {bs : List Int} {p : Nat} (h : Rr w db ao cap bs p) (n : Nat) : Rr (w.drewN n) db ao cap bs p := ⟨h.cell, h.seg.drewN n, h.cap, h.place⟩

theorem Rr.moved {w : World} {db : Nat} {ao : Option Addr} {cap : Nat} {bs : List Int} {p : Nat} (h : Rr w db ao cap bs p) (q : Nat) (hq : q ≤ bs.length) : Rr (w.setCell ⟨db, 1, none⟩ (.int .i64 q)) db ao cap bs q :=
  ⟨two_set h.cell, h.seg.touch1 (S := fun k => k = db) (Touch.setCell (S := fun k => k = db) (p := ⟨db, 1, none⟩) (Touch.refl _ w) (fun _ => rfl) _) (seg_ne h.seg h.cell), h.cap, hq⟩

theorem touch_set (w : World) (db o : Nat) (v : Value) : Touch (fun k => k = db) w (w.setCell ⟨db, o, none⟩ v) := Touch.setCell (S := fun k => k = db) (p := ⟨db, o, none⟩) (Touch.refl _ w) (fun _ => rfl) _

theorem segs_mid {w : World} {ao : Option Addr} {cap : Nat} {bs : List Int} (h : Seg w .u8 ao bs) (hc : bs.length ≤ cap) (p n : Nat) (_ : p + n ≤ bs.length) : Seg w .u8 (if cap = p then ao else ao.map (·.add (p * 1))) ((bs.drop p).take n) := by
  by_cases hx : (bs.drop p).take n = []
  · rw [hx]
    exact ⟨fun _ => rfl, fun _ _ h => absurd rfl h, fun _ _ j hj => absurd hj (by simp)⟩
  · have hl : 0 < ((bs.drop p).take n).length := List.length_pos_iff.2 hx
    simp at hl
    obtain ⟨b, off, rfl⟩ := h.addr (by omega)
    rw [if_neg (by omega)]
    simp only [Option.map_some, Addr.add_lit, Nat.mul_one]
    refine ⟨fun h => (nomatch h), fun a ha _ => (by injection ha with ha; subst ha; rfl), fun a ha j hj => ?_⟩
    injection ha with ha; subst ha
    have hj' : j < n ∧ j < bs.length - p := by simpa [List.length_take, List.length_drop, Nat.lt_min] using hj
    have := h.cell _ rfl (p + j) (by omega)
    rw [Addr.add_lit] at this ⊢
    rw [Nat.add_assoc, this]
    simp [List.getElem_take, List.getElem_drop]

theorem sl_mid {w : World} {ao : Option Addr} {cap : Nat} {bs : List Int} (h : Seg w .u8 ao bs) (hc : bs.length ≤ cap) (p n : Nat) (hn : p + n ≤ bs.length) (xs : List Int) (hxs : (bs.drop p).take n = xs) :
    ∃ A c, (∀ W, (Instr.slice 25 (.slice ao bs.length cap) (some (.int .i64 p)) (some (.int .i64 ((p : Int) + (n : Int)))) none).run Try.prog W = .ok (.slice A xs.length c) W) ∧ Seg w .u8 A xs := by
  refine ⟨if cap = p then ao else ao.map (·.add (p * 1)), cap - p, fun W => ?_, ?_⟩
  · obtain ⟨i0, hi, hz0, hz1, hz2⟩ := info_parts Try.info5
    have he : Try.prog.elem 25 = 5 := by kernel_rfl
    rw [run_slice_lh W 25 ao bs.length cap (by rw [he]; exact Try.underlying25) .i64 .i64 p _ (by omega) (by omega) (by omega), he]
    have e : ((p : Int) + (n : Int)).toNat = p + n := by omega
    have e2 : xs.length = n := by rw [← hxs]; simp; omega
    simp only [sizeOf, typeInfo, e]
    simp [hi, hz1, sliced, e2]
  · have := segs_mid h hc p n hn
    rw [hxs] at this
    exact this

theorem sl_from {w : World} {ao : Option Addr} {cap : Nat} {bs : List Int} (h : Seg w .u8 ao bs) (hc : bs.length ≤ cap) (p : Nat) (hp : p ≤ bs.length) (xs : List Int) (hxs : bs.drop p = xs) :
    ∃ A c, (∀ W, (Instr.slice 25 (.slice ao bs.length cap) (some (.int .i64 p)) none none).run Try.prog W = .ok (.slice A xs.length c) W) ∧ Seg w .u8 A xs := by
  refine ⟨if cap = p then ao else ao.map (·.add (p * 1)), cap - p, fun W => ?_, ?_⟩
  · obtain ⟨i0, hi, hz0, hz1, hz2⟩ := info_parts Try.info5
    have he : Try.prog.elem 25 = 5 := by kernel_rfl
    rw [run_slice_l W 25 ao bs.length cap (by rw [he]; exact Try.underlying25) .i64 p (by omega) (by omega), he]
    simp only [sizeOf, typeInfo]
    simp [hi, hz1, sliced, ← hxs]
  · have := segs_mid h hc p (bs.length - p) (by omega)
    rw [List.take_of_length_le (by simp), hxs] at this
    exact this

set_option maxRecDepth 100000 in
theorem refLeft_any (db : Nat) (ao : Option Addr) (cap : Nat) (bs : List Int) (p : Nat) (w : World) (h : Rr w db ao cap bs p) (hb : bs.length ≤ 1048576) :
    Calls Try.prog 21 #[.pointer (some ⟨db, 0, none⟩)] w fun e w' => e = .returned (.int .i64 ((bs.length - p : Nat) : Int)) ∧ ∃ n, w' = w.drewN n := by
  obtain ⟨c0, c1, f0, f1⟩ := cell_two h.cell
  have hp := h.place
  go_enter Try.func21, Try.ntmps21
  go_wp2
  go_quiet (fail)
  go_wp2
  go_ret
  exact ⟨ret_int (by omega), _, rfl⟩

set_option maxRecDepth 100000 in
theorem refUnfold_any (u : Nat) (w : World) (hu : u < 18446744073709551616) :
    Calls Try.prog 75 #[.int .u64 u] w fun e w' => e = .returned (.int .i64 (unz u)) ∧ w = w' := by
  have HU := hide hu
  clear hu
  go_enter Try.func75, Try.ntmps75
  by_cases h : u % 2 = 0
  · have t : ((u : Int) % 2 == 0) = true := by simp; omega
    go_wp2
    go_ret
    refine ⟨ret_int ?_, rfl⟩
    have := HU.out
    unfold unz; rw [if_pos h, IntKind.wrap_u64]; unfold wrap64; omega
  · have t : ((u : Int) % 2 == 0) = false := by simp; omega
    go_wp2
    go_ret
    refine ⟨ret_int ?_, rfl⟩
    have := HU.out
    unfold unz; rw [if_neg h, IntKind.wrap_u64]; unfold wrap64; omega

set_option maxRecDepth 100000 in
set_option maxHeartbeats 400000 in
theorem refByte_no (db : Nat) (ao : Option Addr) (cap : Nat) (bs : List Int) (p : Nat) (w : World) (h : Rr w db ao cap bs p) (hb : bs.length ≤ 1048576) (hc : bs.length - p = 0) :
    Calls Try.prog 46 #[.pointer (some ⟨db, 0, none⟩)] w fun e w' => e = .returned (.tuple #[.int .u8 0, .int .i64 110]) ∧ ∃ n, w' = w.drewN n := by
  have H := hide (refLeft_any db ao cap bs p w h hb)
  rw [hc] at H
  clear hc hb
  go_enter Try.func46, Try.ntmps46
  go_wp2_with fail
  refine H.out.mono ?_
  rintro e w1 ⟨rfl, n, rfl⟩
  go_wp2
  go_ret2
  exact ⟨rfl, n, rfl⟩

set_option maxRecDepth 100000 in
set_option maxHeartbeats 400000 in
theorem refByte_yes (db : Nat) (ao : Option Addr) (cap : Nat) (bs : List Int) (p : Nat) (c : Int) (w : World) (h : Rr w db ao cap bs p) (hb : bs.length ≤ 1048576) (hc : (bs.drop p).take 1 = [c]) :
    Calls Try.prog 46 #[.pointer (some ⟨db, 0, none⟩)] w fun e w' => e = .returned (.tuple #[.int .u8 c, .int .i64 0]) ∧ Rr w' db ao cap bs (p + 1) ∧ Touch (fun k => k = db) w w' := by
  have hl : p < bs.length := by have := congrArg List.length hc; simp at this; omega
  have H := hide (refLeft_any db ao cap bs p w h hb)
  obtain ⟨c0, c1, f0, f1⟩ := cell_two h.cell
  obtain ⟨b, off, rfl⟩ := h.seg.addr (by omega)
  have k0 := h.seg.at p hl
  have hcv : bs.getD p 0 = c := by
    rw [List.drop_eq_getElem_cons hl, List.take_succ_cons] at hc
    injection hc with hc _
    rw [List.getD_eq_getElem?_getD, List.getElem?_eq_getElem hl]; exact hc
  rw [hcv] at k0
  have hbne : b ≠ db := seg_ne h.seg h.cell ⟨b, off, none⟩ rfl (fun e => by rw [e] at hl; simp at hl)
  have tz : (((bs.length - p : Nat) : Int) == 0) = false := by simp; omega
  have HL := hide hl
  obtain ⟨l, hle⟩ : ∃ l, bs.length - p = l := ⟨_, rfl⟩
  rw [hle] at H tz
  clear hc hcv hle
  go_enter Try.func46, Try.ntmps46
  go_wp2_with fail
  refine H.out.mono ?_
  rintro e w1 ⟨rfl, n, rfl⟩
  go_wp2
  go_quiet (fail)
  go_wp2
  go_ret2
  have e : (p : Int) + 1 = ((p + 1 : Nat) : Int) := by omega
  rw [e]
  exact ⟨rfl, (Rr.moved (h.drewN n) (p + 1) HL.out).drewN nq, (((Touch.refl _ w).drewN n).trans (touch_set _ _ _ _) (fun _ _ h => h)).drewN nq⟩

theorem digit_add (i acc : Nat) (c : Int) (hi : i ≤ 8 ∨ i = 9 ∧ c = 1) (ha : acc < 128 ^ i) (h0 : 0 ≤ c) :
    IntKind.u64.wrap ((acc : Int) + IntKind.u64.wrap (c % 128 * 2 ^ (7 * i))) = ((acc + c.toNat % 128 * 128 ^ i : Nat) : Int) := by
  have e7 : (2 : Nat) ^ (7 * i) = 128 ^ i := by rw [Nat.pow_mul]
  have hd : c.toNat % 128 < 128 := Nat.mod_lt _ (by decide)
  have em : c % 128 = ((c.toNat % 128 : Nat) : Int) := by omega
  have e2 : ((c.toNat % 128 : Nat) : Int) * 2 ^ (7 * i) = ((c.toNat % 128 * 128 ^ i : Nat) : Int) := by
    rw [Int.natCast_mul, ← e7, Int.natCast_pow]; rfl
  have hb : acc + c.toNat % 128 * 128 ^ i < 18446744073709551616 ∧ c.toNat % 128 * 128 ^ i < 18446744073709551616 := by
    rcases hi with hi | ⟨rfl, rfl⟩
    · have hp : (128 : Nat) ^ i ≤ 128 ^ 8 := Nat.pow_le_pow_right (by decide) hi
      have hp8 : (128 : Nat) ^ 8 = 72057594037927936 := by decide
      rw [hp8] at hp
      have hm : c.toNat % 128 * 128 ^ i ≤ 127 * 72057594037927936 := Nat.mul_le_mul (by omega) hp
      omega
    · have hp9 : (128 : Nat) ^ 9 = 9223372036854775808 := by decide
      rw [hp9] at ha ⊢
      have : (1 : Int).toNat % 128 = 1 := by decide
      rw [this]; omega
  rw [em, e2, IntKind.wrap_u64, IntKind.wrap_u64]
  generalize c.toNat % 128 * 128 ^ i = z at hb ⊢
  omega

set_option maxRecDepth 100000 in
set_option maxHeartbeats 1000000 in
theorem form_any (ao : Option Addr) (xs : List Int) (cap : Nat) (w : World) (hs : Seg w .u8 ao xs) (h8 : In8 xs) (hb : xs.length ≤ 1048576) :
    Calls Try.prog 73 #[.slice ao xs.length cap] w fun e w' => e = .returned (.tuple #[.int .u64 (scan xs).1, .int .i64 (scan xs).2.1, .int .i64 (scan xs).2.2]) ∧ w' = w := by
  go_enter Try.func73, Try.ntmps73
  go_wp2
  go_loop [5, 6] (fun x i => ∃ (k acc : Nat), x = .int .u64 acc ∧ i = .int .i64 k ∧ k ≤ 9 ∧ k ≤ xs.length ∧ acc < 128 ^ k ∧ scanF k acc (xs.drop k) = scan xs) (fun _ i => xs.length - (intOf i).toNat)
  case atStart => exact ⟨0, 0, rfl, rfl, by omega, by omega, by decide, rfl⟩
  case round =>
    obtain ⟨i, acc, rfl, rfl, hi9, hil, hacc, hsc⟩ := hrel
    by_cases hlt : i < xs.length
    · obtain ⟨b, off, rfl⟩ := hs.addr (by omega)
      have c1 := hs.at i hlt
      obtain ⟨c, hc⟩ : ∃ c, xs.getD i 0 = c := ⟨_, rfl⟩
      rw [hc] at c1
      have hc8 : 0 ≤ c ∧ c ≤ 255 := by rw [← hc, List.getD_eq_getElem?_getD, List.getElem?_eq_getElem hlt]; exact h8 _ (List.getElem_mem hlt)
      rw [drop_at xs i c hlt hc] at hsc
      clear hc
      by_cases hi : i = 9
      · have t9 : ((i : Int) == 9) = true := by simp; omega
        by_cases hc1 : c = 1
        · have t1 : (c != 1) = false := by simp; exact hc1
          have tz : (c == 0) = false := by simp; omega
          have n1 : ¬ 128 ≤ c := by omega
          have hor := digit_add i acc c (.inr ⟨hi, hc1⟩) hacc hc8.1
          have HS : Hid (scan xs = (acc + c.toNat % 128 * 128 ^ i, i + 1, 0)) := by
            show _ = _
            rw [← hsc, hi, hc1, scan_tenth]; rfl
          obtain ⟨acc', hacc'⟩ : ∃ z, acc + c.toNat % 128 * 128 ^ i = z := ⟨_, rfl⟩
          rw [hacc'] at hor HS
          have hi0 : 0 < i := by omega
          clear hsc hacc hacc' hc1 hi
          go_wp2
          go_ret3
          exact ⟨ret3 _ acc' (i + 1) 0 HS.out, rfl⟩
        · have t1 : (c != 1) = true := by simp; exact hc1
          have HS : Hid (scan xs = (0, 0, 111)) := by show _ = _; rw [← hsc, hi, scan_tenth_no acc c _ hc1]
          clear hsc hacc hi
          go_wp2
          go_ret3
          exact ⟨ret3 _ 0 0 111 HS.out, rfl⟩
      · have t9 : ((i : Int) == 9) = false := by simp; omega
        have hor := digit_add i acc c (.inl (by omega)) hacc hc8.1
        have hnl := next_lt i acc c hacc
        obtain ⟨acc', hacc'⟩ : ∃ z, acc + c.toNat % 128 * 128 ^ i = z := ⟨_, rfl⟩
        rw [hacc'] at hor hnl
        have HN := hide hnl
        clear hnl hacc
        by_cases h128 : 128 ≤ c
        · have HS : Hid (scanF (i + 1) acc' (xs.drop (i + 1)) = scan xs) := by show _ = _; rw [← hsc, scan_more i acc c _ hi h128 hc8.2, hacc']
          clear hsc hacc'
          go_wp2
          go_round
          case rel => exact ⟨i + 1, acc', rfl, by go_num, by omega, by omega, HN.out, HS.out⟩
          case measure => simp [intOf]; omega
        · by_cases hz : c = 0 ∧ 0 < i
          · have HS : Hid (scan xs = (0, 0, 111)) := by show _ = _; rw [← hsc, scan_zero i acc c _ hi h128 hz]
            have tz : (c == 0) = true := by simp; exact hz.1
            have hi0 : 0 < i := hz.2
            clear hsc hacc' hz
            go_wp2
            go_ret3
            exact ⟨ret3 _ 0 0 111 HS.out, rfl⟩
          · have HS : Hid (scan xs = (acc', i + 1, 0)) := by show _ = _; rw [← hsc, scan_last i acc c _ hi hc8.1 h128 hz, hacc']
            by_cases hi0 : 0 < i
            · have tz : (c == 0) = false := by simp; omega
              clear hsc hacc' hz
              go_wp2
              go_ret3
              exact ⟨ret3 _ acc' (i + 1) 0 HS.out, rfl⟩
            · clear hsc hacc' hz
              go_wp2
              go_ret3
              exact ⟨ret3 _ acc' (i + 1) 0 HS.out, rfl⟩
    · have HS : Hid (scan xs = (0, 0, 110)) := by
        show _ = _; rw [← hsc, List.drop_eq_nil_of_le (by omega)]; rfl
      clear hsc hacc
      go_wp2
      go_ret3
      exact ⟨ret3 _ 0 0 110 HS.out, rfl⟩

set_option maxRecDepth 100000 in
set_option maxHeartbeats 400000 in
theorem refNumber_eq (db : Nat) (ao : Option Addr) (cap : Nat) (bs : List Int) (p x n e : Nat) (w : World) (h : Rr w db ao cap bs p) (h8 : In8 bs) (hb : bs.length ≤ 1048576) (hs : scan (bs.drop p) = (x, n, e)) :
    Calls Try.prog 47 #[.pointer (some ⟨db, 0, none⟩)] w fun r w' => r = .returned (.tuple #[.int .u64 x, .int .i64 e]) ∧ Rr w' db ao cap bs (p + n) ∧ Touch (fun k => k = db) w w' := by
  obtain ⟨c0, c1, f0, f1⟩ := cell_two h.cell
  have hp := h.place
  obtain ⟨xs, hxs⟩ : ∃ xs, bs.drop p = xs := ⟨_, rfl⟩
  rw [hxs] at hs
  obtain ⟨A, c, hsl, hseg⟩ := sl_from h.seg h.cap p hp xs hxs
  have hx8 : In8 xs := fun x hx => h8 x (by rw [← hxs] at hx; exact List.mem_of_mem_drop hx)
  have hxl : xs.length ≤ 1048576 := by rw [← hxs]; simp; omega
  have H := hide (fun n => form_any A xs c (w.drewN n) (hseg.drewN n) hx8 hxl)
  rw [hs] at H
  have HQ : Hid (p + n ≤ bs.length) := by
    show _ ≤ _; have := scan_size xs; rw [hs, ← hxs] at this; simp at this; omega
  have hq : (p : Int) + (n : Int) ≤ 1048576 := by have := HQ.out; omega
  clear hx8 hxl h8 hxs hs
  go_enter Try.func47, Try.ntmps47
  go_wp2
  go_quiet ((go_at_call 73; exact Calls.quiet_of_same (H.out _)))
  go_wp2
  go_ret2
  have e : ((p : Int) + (n : Int)) = ((p + n : Nat) : Int) := by omega
  rw [e]
  exact ⟨rfl, Rr.moved (h.drewN _) _ HQ.out, ((Touch.refl _ w).drewN _).trans (touch_set _ _ _ _) (fun _ _ h => h)⟩

set_option maxRecDepth 100000 in
theorem refSigned_ok (db : Nat) (ao : Option Addr) (cap : Nat) (bs : List Int) (p x n : Nat) (w : World) (h : Rr w db ao cap bs p) (h8 : In8 bs) (hb : bs.length ≤ 1048576) (hs : scan (bs.drop p) = (x, n, 0)) :
    Calls Try.prog 49 #[.pointer (some ⟨db, 0, none⟩)] w fun r w' => r = .returned (.tuple #[.int .i64 (unz x), .int .i64 0]) ∧ Rr w' db ao cap bs (p + n) ∧ Touch (fun k => k = db) w w' := by
  have H := hide (refNumber_eq db ao cap bs p x n 0 w h h8 hb hs)
  have hx : x < 18446744073709551616 := by have := scan_lt (h8.drop p); rw [hs] at this; exact this
  have U := hide (fun W => refUnfold_any x W hx)
  clear hx hs hb h8
  go_enter Try.func49, Try.ntmps49
  go_wp2_with fail
  refine H.out.mono ?_
  rintro e w1 ⟨rfl, hrd, ht⟩
  go_wp2_with fail
  refine (U.out _).mono ?_
  rintro e w' ⟨rfl, rfl⟩
  go_wp2
  go_ret2
  exact ⟨rfl, hrd, ht⟩

set_option maxRecDepth 100000 in
theorem refSigned_err (db : Nat) (ao : Option Addr) (cap : Nat) (bs : List Int) (p e : Nat) (w : World) (h : Rr w db ao cap bs p) (h8 : In8 bs) (hb : bs.length ≤ 1048576) (hs : scan (bs.drop p) = (0, 0, e)) (he : e ≠ 0) :
    Calls Try.prog 49 #[.pointer (some ⟨db, 0, none⟩)] w fun r w' => r = .returned (.tuple #[.int .i64 0, .int .i64 e]) ∧ Rr w' db ao cap bs p ∧ Touch (fun k => k = db) w w' := by
  have H := hide (refNumber_eq db ao cap bs p 0 0 e w h h8 hb hs)
  have t : ((e : Int) != 0) = true := by simp; omega
  clear hs hb h8
  go_enter Try.func49, Try.ntmps49
  go_wp2_with fail
  refine H.out.mono ?_
  rintro r w1 ⟨rfl, hrd, ht⟩
  go_wp2_with fail
  go_ret2
  exact ⟨rfl, hrd, ht⟩

end Go.Proofs.Ythhajlbnnffgnaa
