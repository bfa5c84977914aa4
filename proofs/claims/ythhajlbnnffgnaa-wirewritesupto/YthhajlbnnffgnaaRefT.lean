/- Walks: the document's Reader: length, Text. -/
import Derived.Test.YthhajlbnnffgnaaRefS
namespace Go.Proofs.Ythhajlbnnffgnaa
open Go.RowKit

theorem length_neg (db : Nat) (most : Int) (w : World) (hn : most < 0) :
    Calls Try.prog 76 #[.pointer (some ⟨db, 0, none⟩), .int .i64 most] w fun r w' => r = .returned (.tuple #[.int .u64 0, .int .i64 2]) ∧ w = w' := by
  go_enter Try.func76, Try.ntmps76
  go_wp2
  go_ret2
  exact ⟨rfl, rfl⟩

set_option maxRecDepth 100000 in
theorem length_err (db : Nat) (ao : Option Addr) (cap : Nat) (bs : List Int) (p e : Nat) (most : Int) (w : World) (h : Rr w db ao cap bs p) (h8 : In8 bs) (hb : bs.length ≤ 1048576) (hs : scan (bs.drop p) = (0, 0, e)) (he : e ≠ 0) (hm : 0 ≤ most) :
    Calls Try.prog 76 #[.pointer (some ⟨db, 0, none⟩), .int .i64 most] w fun r w' => r = .returned (.tuple #[.int .u64 0, .int .i64 e]) ∧ Rr w' db ao cap bs p ∧ Touch (fun k => k = db) w w' := by
  have H := hide (refNumber_eq db ao cap bs p 0 0 e w h h8 hb hs)
  have t : ((e : Int) != 0) = true := by simp; omega
  clear hs hb h8
  go_enter Try.func76, Try.ntmps76
  go_wp2_with fail
  refine H.out.mono ?_
  rintro r w1 ⟨rfl, hrd, ht⟩
  go_wp2_with fail
  go_ret2
  exact ⟨rfl, hrd, ht⟩

set_option maxRecDepth 100000 in
theorem length_long (db : Nat) (ao : Option Addr) (cap : Nat) (bs : List Int) (p x n most : Nat) (w : World) (h : Rr w db ao cap bs p) (h8 : In8 bs) (hb : bs.length ≤ 1048576) (hs : scan (bs.drop p) = (x, n, 0)) (hm : most ≤ 9223372036854775807) (hx : most < x) :
    Calls Try.prog 76 #[.pointer (some ⟨db, 0, none⟩), .int .i64 most] w fun r w' => r = .returned (.tuple #[.int .u64 0, .int .i64 3]) ∧ Rr w' db ao cap bs (p + n) ∧ Touch (fun k => k = db) w w' := by
  have H := hide (refNumber_eq db ao cap bs p x n 0 w h h8 hb hs)
  have hwr : IntKind.u64.wrap (most : Int) = most := by rw [IntKind.wrap_u64]; omega
  clear hs hb h8 hm
  go_enter Try.func76, Try.ntmps76
  go_wp2_with fail
  refine H.out.mono ?_
  rintro r w1 ⟨rfl, hrd, ht⟩
  go_wp2_with fail
  go_ret2
  exact ⟨rfl, hrd, ht⟩

set_option maxRecDepth 100000 in
theorem length_ok (db : Nat) (ao : Option Addr) (cap : Nat) (bs : List Int) (p x n most : Nat) (w : World) (h : Rr w db ao cap bs p) (h8 : In8 bs) (hb : bs.length ≤ 1048576) (hs : scan (bs.drop p) = (x, n, 0)) (hm : most ≤ 9223372036854775807) (hx : x ≤ most) :
    Calls Try.prog 76 #[.pointer (some ⟨db, 0, none⟩), .int .i64 most] w fun r w' => r = .returned (.tuple #[.int .u64 x, .int .i64 0]) ∧ Rr w' db ao cap bs (p + n) ∧ Touch (fun k => k = db) w w' := by
  have H := hide (refNumber_eq db ao cap bs p x n 0 w h h8 hb hs)
  have hwr : IntKind.u64.wrap (most : Int) = most := by rw [IntKind.wrap_u64]; omega
  clear hs hb h8 hm
  go_enter Try.func76, Try.ntmps76
  go_wp2_with fail
  refine H.out.mono ?_
  rintro r w1 ⟨rfl, hrd, ht⟩
  go_wp2_with fail
  go_ret2
  exact ⟨rfl, hrd, ht⟩

set_option maxRecDepth 100000 in
set_option maxHeartbeats 400000 in
theorem refText_bad (db : Nat) (ao : Option Addr) (cap : Nat) (bs : List Int) (p e : Nat) (most : Int) (w : World) (h : Rr w db ao cap bs p) (he : e ≠ 0)
    (hl : Calls Try.prog 76 #[.pointer (some ⟨db, 0, none⟩), .int .i64 most] w fun r w' => r = .returned (.tuple #[.int .u64 0, .int .i64 e]) ∧ ∃ q, Rr w' db ao cap bs q ∧ Touch (fun k => k = db) w w') :
    Calls Try.prog 50 #[.pointer (some ⟨db, 0, none⟩), .int .i64 most] w fun r w' => r = .returned (.tuple #[.string ⟨#[]⟩, .int .i64 e]) ∧ Rr w' db ao cap bs p ∧ Touch (fun k => k = db) w w' := by
  obtain ⟨c0, c1, f0, f1⟩ := cell_two h.cell
  have t : ((e : Int) == 0) = false := by simp; omega
  have t2 : ((e : Int) != 0) = true := by simp; omega
  have H := hide hl
  have HP := hide h.place
  clear hl
  go_enter Try.func50, Try.ntmps50
  go_wp2_with fail
  refine H.out.mono ?_
  rintro r w1 ⟨rfl, q, hrd, ht⟩
  obtain ⟨d0, d1, g0, g1⟩ := cell_two hrd.cell
  go_wp2_with fail
  go_ret2
  exact ⟨rfl, hrd.moved p HP.out, ht.trans (touch_set _ _ _ _) (fun _ _ h => h)⟩

set_option maxRecDepth 100000 in
set_option maxHeartbeats 400000 in
theorem refText_end (db : Nat) (ao : Option Addr) (cap : Nat) (bs : List Int) (p x n most : Nat) (w : World) (h : Rr w db ao cap bs p) (h8 : In8 bs) (hb : bs.length ≤ 1048576) (hs : scan (bs.drop p) = (x, n, 0)) (hm : most ≤ 9223372036854775807) (hx : x ≤ most) (hl : bs.length - (p + n) < x) :
    Calls Try.prog 50 #[.pointer (some ⟨db, 0, none⟩), .int .i64 most] w fun r w' => r = .returned (.tuple #[.string ⟨#[]⟩, .int .i64 110]) ∧ Rr w' db ao cap bs p ∧ Touch (fun k => k = db) w w' := by
  obtain ⟨c0, c1, f0, f1⟩ := cell_two h.cell
  have H := hide (length_ok db ao cap bs p x n most w h h8 hb hs hm hx)
  have K := hide (fun W (g : Rr W db ao cap bs (p + n)) => refLeft_any db ao cap bs (p + n) W g hb)
  have HP := hide h.place
  obtain ⟨l, hle⟩ : ∃ l, bs.length - (p + n) = l := ⟨_, rfl⟩
  have hwr : IntKind.u64.wrap (l : Int) = l := by rw [IntKind.wrap_u64]; omega
  rw [hle] at K hl
  clear hs hb h8 hm hx hle
  go_enter Try.func50, Try.ntmps50
  go_wp2_with fail
  refine H.out.mono ?_
  rintro r w1 ⟨rfl, hrd, ht⟩
  obtain ⟨d0, d1, g0, g1⟩ := cell_two hrd.cell
  go_wp2_with fail
  refine (K.out _ hrd).mono ?_
  rintro r w2 ⟨rfl, m, rfl⟩
  go_wp2_with fail
  go_ret2
  exact ⟨rfl, (hrd.drewN m).moved p HP.out, (ht.drewN m).trans (touch_set _ _ _ _) (fun _ _ h => h)⟩

set_option maxRecDepth 100000 in
set_option maxHeartbeats 400000 in
theorem refText_ok (db : Nat) (ao : Option Addr) (cap : Nat) (bs : List Int) (p x n most : Nat) (w : World) (h : Rr w db ao cap bs p) (h8 : In8 bs) (hb : bs.length ≤ 1048576) (hs : scan (bs.drop p) = (x, n, 0)) (hm : most ≤ 9223372036854775807) (hx : x ≤ most) (hl : x ≤ bs.length - (p + n)) :
    Calls Try.prog 50 #[.pointer (some ⟨db, 0, none⟩), .int .i64 most] w fun r w' => r = .returned (.tuple #[.string (strOfNums ((bs.drop (p + n)).take x)), .int .i64 0]) ∧ Rr w' db ao cap bs (p + n + x) ∧ Touch (fun k => k = db) w w' := by
  obtain ⟨c0, c1, f0, f1⟩ := cell_two h.cell
  have hpn : p + n ≤ bs.length := by
    have := scan_size (bs.drop p); rw [hs] at this; simp at this; have := h.place; omega
  have H := hide (length_ok db ao cap bs p x n most w h h8 hb hs hm hx)
  have K := hide (fun W (g : Rr W db ao cap bs (p + n)) => refLeft_any db ao cap bs (p + n) W g hb)
  obtain ⟨q, hq⟩ : ∃ q, p + n = q := ⟨_, rfl⟩
  rw [hq] at H K hl hpn ⊢
  obtain ⟨xs, hxs⟩ : ∃ xs, (bs.drop q).take x = xs := ⟨_, rfl⟩
  rw [hxs]
  have HQ : Hid (q + x ≤ bs.length) := by show _ ≤ _; omega
  have SL := hide (fun W (g : Rr W db ao cap bs q) => sl_mid g.seg g.cap q x HQ.out xs hxs)
  obtain ⟨l, hle⟩ : ∃ l, bs.length - q = l := ⟨_, rfl⟩
  have hwr : IntKind.u64.wrap (l : Int) = l := by rw [IntKind.wrap_u64]; omega
  have hwx : wrap64 (x : Int) = x := by unfold wrap64; omega
  have hqx : (q : Int) + (x : Int) ≤ 1048576 := by have := HQ.out; omega
  have hqi : (q : Int) ≤ 1048576 := by omega
  rw [hle] at K hl
  clear hs hb h8 hm hx hle hq hxs
  go_enter Try.func50, Try.ntmps50
  go_wp2_with fail
  refine H.out.mono ?_
  rintro r w1 ⟨rfl, hrd, ht⟩
  obtain ⟨d0, d1, g0, g1⟩ := cell_two hrd.cell
  obtain ⟨A, c, hsl, hseg⟩ := SL.out _ hrd
  go_wp2_with fail
  refine (K.out _ hrd).mono ?_
  rintro r w2 ⟨rfl, m, rfl⟩
  have e3 : (q : Int) + (x : Int) = ((q + x : Nat) : Int) := by omega
  have T3 : Touch (fun k => k = db) w1 ((w1.drewN m).setCell ⟨db, 1, none⟩ (.int .i64 ((q : Int) + (x : Int)))) := ((Touch.refl _ w1).drewN m).trans (touch_set _ _ _ _) (fun _ _ h => h)
  have S3 := Seg.touch1 (S := fun k => k = db) hseg T3 (seg_ne hseg hrd.cell)
  have hcv : ∀ j, (convert 25 9 (.slice A xs.length c)).run Try.prog (((w1.drewN m).setCell ⟨db, 1, none⟩ (.int .i64 ((q : Int) + (x : Int)))).drewN j) = .ok (.string (strOfNums xs)) (((w1.drewN m).setCell ⟨db, 1, none⟩ (.int .i64 ((q : Int) + (x : Int)))).drewN j) := fun j => conv_seg (S3.drewN j) c
  have R3 : Rr ((w1.drewN m).setCell ⟨db, 1, none⟩ (.int .i64 ((q : Int) + (x : Int)))) db ao cap bs (q + x) := by rw [e3]; exact (hrd.drewN m).moved (q + x) HQ.out
  have HR := hide R3
  have HT := hide (ht.trans T3 (fun _ _ h => h))
  clear R3 T3 S3 e3 hseg hrd ht H K SL
  go_wp2_with fail
  go_quiet (fail)
  go_wp2_with fail
  go_ret2
  exact ⟨rfl, HR.out.drewN _, HT.out.drewN _⟩

end Go.Proofs.Ythhajlbnnffgnaa
