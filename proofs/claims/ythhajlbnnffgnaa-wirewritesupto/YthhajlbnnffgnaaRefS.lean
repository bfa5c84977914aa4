/- Walks: the document's Reader: Raw, Fixed, length, Text; SameList. -/
import Derived.Test.YthhajlbnnffgnaaRefR
namespace Go.Proofs.Ythhajlbnnffgnaa
open Go.RowKit

theorem refRaw_neg (db : Nat) (n : Int) (w : World) (hn : n < 0) :
    Calls Try.prog 56 #[.pointer (some ⟨db, 0, none⟩), .int .i64 n] w fun r w' => r = .returned (.tuple #[.slice none 0 0, .int .i64 2]) ∧ w' = w := by
  go_enter Try.func56, Try.ntmps56
  go_wp2
  go_ret2
  exact ⟨rfl, rfl⟩

set_option maxRecDepth 100000 in
theorem refRaw_no (db : Nat) (ao : Option Addr) (cap : Nat) (bs : List Int) (p : Nat) (n : Int) (w : World) (h : Rr w db ao cap bs p) (hb : bs.length ≤ 1048576) (hn : ((bs.length - p : Nat) : Int) < n) :
    Calls Try.prog 56 #[.pointer (some ⟨db, 0, none⟩), .int .i64 n] w fun r w' => r = .returned (.tuple #[.slice none 0 0, .int .i64 110]) ∧ ∃ n, w' = w.drewN n := by
  have H := hide (refLeft_any db ao cap bs p w h hb)
  have hn0 : ¬ n < 0 := by omega
  obtain ⟨l, hl⟩ : ∃ l, bs.length - p = l := ⟨_, rfl⟩
  rw [hl] at H hn
  clear hb hl
  go_enter Try.func56, Try.ntmps56
  go_wp2_with fail
  refine H.out.mono ?_
  rintro e w1 ⟨rfl, k, rfl⟩
  go_wp2
  go_ret2
  exact ⟨rfl, k, rfl⟩

set_option maxRecDepth 100000 in
set_option maxHeartbeats 400000 in
theorem refRaw_yes (db : Nat) (ao : Option Addr) (cap : Nat) (bs : List Int) (p n : Nat) (w : World) (h : Rr w db ao cap bs p) (hb : bs.length ≤ 1048576) (hn : n ≤ bs.length - p) :
    Calls Try.prog 56 #[.pointer (some ⟨db, 0, none⟩), .int .i64 n] w fun r w' => ∃ A c, r = .returned (.tuple #[.slice A ((bs.drop p).take n).length c, .int .i64 0]) ∧ Seg w' .u8 A ((bs.drop p).take n) ∧ Rr w' db ao cap bs (p + n) ∧ Touch (fun k => k = db) w w' := by
  have H := hide (refLeft_any db ao cap bs p w h hb)
  obtain ⟨c0, c1, f0, f1⟩ := cell_two h.cell
  have hp := h.place
  obtain ⟨xs, hxs⟩ : ∃ xs, (bs.drop p).take n = xs := ⟨_, rfl⟩
  obtain ⟨A, c, hsl, hseg⟩ := sl_mid h.seg h.cap p n (by omega) xs hxs
  rw [hxs]
  have hpn : (p : Int) + (n : Int) ≤ 1048576 := by omega
  have HQ : Hid (p + n ≤ bs.length) := by show _ ≤ _; omega
  obtain ⟨l, hl⟩ : ∃ l, bs.length - p = l := ⟨_, rfl⟩
  rw [hl] at H hn
  have hap := hide (seg_ne hseg h.cell)
  have hpi : (p : Int) ≤ 1048576 := by omega
  clear hb hl hxs
  go_enter Try.func56, Try.ntmps56
  go_wp2_with fail
  refine H.out.mono ?_
  rintro e w1 ⟨rfl, k, rfl⟩
  go_wp2
  go_quiet (fail)
  go_wp2
  go_ret2
  have e : (p : Int) + (n : Int) = ((p + n : Nat) : Int) := by omega
  rw [e]
  have T : Touch (fun k => k = db) w ((w.drewN k).setCell ⟨db, 1, none⟩ (.int .i64 ((p + n : Nat) : Int))) := ((Touch.refl _ w).drewN k).trans (touch_set _ _ _ _) (fun _ _ h => h)
  exact ⟨A, c, rfl, (Seg.touch1 (S := fun k => k = db) hseg T hap.out).drewN _, (Rr.moved (h.drewN k) _ HQ.out).drewN _, T.drewN _⟩

set_option maxRecDepth 100000 in
theorem refFixed_no (db : Nat) (ao : Option Addr) (cap : Nat) (bs : List Int) (p : Nat) (w : World) (h : Rr w db ao cap bs p) (hb : bs.length ≤ 1048576) (hn : bs.length - p < 4) :
    Calls Try.prog 52 #[.pointer (some ⟨db, 0, none⟩)] w fun r w' => r = .returned (.tuple #[.int .u32 0, .int .i64 110]) ∧ ∃ n, w' = w.drewN n := by
  have H := hide (refRaw_no db ao cap bs p 4 w h hb (by omega))
  clear hn hb
  go_enter Try.func52, Try.ntmps52
  go_wp2_with fail
  refine H.out.mono ?_
  rintro e w1 ⟨rfl, n, rfl⟩
  go_wp2
  go_ret2
  exact ⟨rfl, n, rfl⟩

set_option maxRecDepth 100000 in
set_option maxHeartbeats 400000 in
theorem refFixed_yes (db : Nat) (ao : Option Addr) (cap : Nat) (bs : List Int) (p : Nat) (a b c d : Int) (w : World) (h : Rr w db ao cap bs p) (h8 : In8 bs) (hb : bs.length ≤ 1048576) (hc : (bs.drop p).take 4 = [a, b, c, d]) :
    Calls Try.prog 52 #[.pointer (some ⟨db, 0, none⟩)] w fun e w' => e = .returned (.tuple #[.int .u32 (a + b * 256 + c * 65536 + d * 16777216), .int .i64 0]) ∧ Rr w' db ao cap bs (p + 4) ∧ Touch (fun k => k = db) w w' := by
  have hl : 4 ≤ bs.length - p := by have := congrArg List.length hc; simp at this; omega
  have H := hide (refRaw_yes db ao cap bs p 4 w h hb hl)
  have h4 : ∀ x ∈ [a, b, c, d], 0 ≤ x ∧ x ≤ 255 := fun x hx => h8 x (by rw [← hc] at hx; exact List.mem_of_mem_drop (List.mem_of_mem_take hx))
  have ha := h4 a (by simp)
  have hb' := h4 b (by simp)
  have hc' := h4 c (by simp)
  have hd := h4 d (by simp)
  rw [hc] at H
  clear hc hl hb h8 h4
  go_enter Try.func52, Try.ntmps52
  go_wp2_with fail
  refine H.out.mono ?_
  rintro e w1 ⟨A, c1, rfl, hseg, hrd, ht⟩
  obtain ⟨bk, off, rfl⟩ := hseg.addr (by simp)
  have k0 := hseg.at 0 (by simp)
  have k1 := hseg.at 1 (by simp)
  have k2 := hseg.at 2 (by simp)
  have k3 := hseg.at 3 (by simp)
  rw [Nat.add_zero, show [a, b, c, d].getD 0 0 = a from rfl] at k0
  rw [show [a, b, c, d].getD 1 0 = b from rfl] at k1
  rw [show [a, b, c, d].getD 2 0 = c from rfl] at k2
  rw [show [a, b, c, d].getD 3 0 = d from rfl] at k3
  go_wp2
  go_quiet (fail)
  go_wp2
  go_ret2
  exact ⟨ret2_int (by omega), hrd.drewN nq, ht.drewN nq⟩

set_option maxRecDepth 100000 in
set_option maxHeartbeats 400000 in
theorem sameList_any (ao bo : Option Addr) (xs ys : List Int) (ca cb : Nat) (w : World) (hx : Seg w .i64 ao xs) (hy : Seg w .i64 bo ys) (hb : xs.length ≤ 140737488351232) (hb' : ys.length ≤ 140737488351232) :
    Calls Try.prog 54 #[.slice ao xs.length ca, .slice bo ys.length cb] w fun e w' => ∃ b, e = .returned (.bool b) ∧ (b = true ↔ xs = ys) ∧ ∃ n, w' = w.drewN n := by
  by_cases hl : xs.length = ys.length
  · have tl : ((xs.length : Int) != (ys.length : Int)) = false := by simp; omega
    go_enter Try.func54, Try.ntmps54
    obtain ⟨m, hm⟩ : ∃ m, ys.length = m := ⟨_, rfl⟩
    rw [hm] at tl ⊢
    have HL := hide hl
    have HM := hide hm
    clear hl hm
    go_wp2
    go_loopw [5] (fun i wr => ∃ k : Nat, k ≤ xs.length ∧ i = .int .i64 k ∧ (∀ j, j < k → xs.getD j 0 = ys.getD j 0) ∧ ∃ n, wr = w.drewN n) (fun i _ => xs.length - (intOf i).toNat)
    case atStart => exact ⟨0, Nat.zero_le _, rfl, fun j hj => by omega, 0, rfl⟩
    case round =>
      obtain ⟨k, hk, rfl, hall, n, rfl⟩ := hrel
      have HA := hide hall
      clear hall
      by_cases hlt : k < xs.length
      · have hlt' : k < ys.length := by have := HL.out; omega
        have hltm : k < m := by have := HM.out; omega
        obtain ⟨b, off, rfl⟩ := hx.addr (by omega)
        obtain ⟨b2, off2, rfl⟩ := hy.addr (by omega)
        have c1 := hx.at k hlt
        have c2 := hy.at k hlt'
        obtain ⟨x1, hx1⟩ : ∃ x1, xs.getD k 0 = x1 := ⟨_, rfl⟩
        obtain ⟨x2, hx2⟩ : ∃ x2, ys.getD k 0 = x2 := ⟨_, rfl⟩
        rw [hx1] at c1
        rw [hx2] at c2
        have HX1 := hide hx1
        have HX2 := hide hx2
        clear hx1 hx2 hlt'
        by_cases he : x1 = x2
        · have t : (x1 != x2) = false := by simp; exact he
          have HE := hide he
          clear he
          go_wp2
          go_quiet (fail)
          go_wp2
          go_roundw
          case rel =>
            refine ⟨k + 1, by omega, by go_num, fun j hj => ?_, ?_⟩
            · by_cases hjk : j < k
              · exact HA.out j hjk
              · obtain rfl : j = k := by omega
                rw [HX1.out, HX2.out]; exact HE.out
            · first | exact ⟨_, rfl⟩ | exact ⟨_, World.drewN_drewN _ _ _⟩
          case measure => simp [intOf]; omega
        · have t : (x1 != x2) = true := by simp; exact he
          have HE := hide he
          clear he
          go_wp2
          go_quiet (fail)
          go_wp2
          go_ret
          refine ⟨false, rfl, ⟨fun h => (by cases h), fun h => ?_⟩, ?_⟩
          · exfalso
            apply HE.out
            rw [← HX1.out, ← HX2.out, h]
          · first | exact ⟨_, rfl⟩ | exact ⟨_, World.drewN_drewN _ _ _⟩
      · go_wp2
        go_ret
        refine ⟨true, rfl, ⟨fun _ => ?_, fun _ => rfl⟩, n, rfl⟩
        apply List.ext_getElem HL.out
        intro j h1 h2
        have := HA.out j (by omega)
        rw [List.getD_eq_getElem?_getD, List.getElem?_eq_getElem h1, List.getD_eq_getElem?_getD, List.getElem?_eq_getElem h2] at this
        exact this
  · have tl : ((xs.length : Int) != (ys.length : Int)) = true := by simp; omega
    go_enter Try.func54, Try.ntmps54
    go_wp2
    go_ret
    exact ⟨false, rfl, ⟨fun h => (by cases h), fun h => absurd (by rw [h]) hl⟩, 0, rfl⟩

end Go.Proofs.Ythhajlbnnffgnaa
