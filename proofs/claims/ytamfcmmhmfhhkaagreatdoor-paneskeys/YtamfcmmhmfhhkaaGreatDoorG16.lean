/- The program's Line. What of a line has not been read (the program's course): next, take, word, code. What stands for a byte behind its escape (the program's code). Kinds, numbers out of words (the program's kindOf, numberOf, paneOf). -/
import Derived.Test.YtamfcmmhmfhhkaaGreatDoorG15
import Derived.Test.YtamfcmmhmfhhkaaGreatDoorG12
import Derived.Test.YtamfcmmhmfhhkaaGreatDoorG14
namespace Go.Proofs.YtamfcmmhmfhhkaaGreatDoor
open Go.RowKit

theorem Kds.lt {w : World} (h : Kds w) : 0 < w.heap.size := by
  have h1 := h 0 (by omega)
  rcases Nat.lt_or_ge 0 w.heap.size with h' | h'
  · exact h'
  · exfalso; simp [World.cell?, Array.getElem?_eq_none h'] at h1
/-- Bytes of one's own, as a text. -/
theorem conv_any {W : World} {base : Nat} {a : Option Addr} {c : Nat} {xs : List Int} (h : encB.Own 5 W base (.slice a xs.length c) xs) : (convert 64 9 (.slice a xs.length c)).run Tryz.prog W = .ok (.string (strOfNums xs)) W := by
  by_cases hx : xs = []
  · subst hx; exact conv_none h
  · exact conv_own h hx

set_option maxRecDepth 100000 in
set_option maxHeartbeats 4000000 in
theorem line_any (p : Pn) (w : World) (hp : NumOk p) (hy : Yv w) : Calls Tryz.prog 20 #[pnv p] w fun e w' => e = .returned (.tuple #[.string (if mayP p then lineB p else ⟨#[]⟩), .int .i64 (if mayP p then 0 else 2)]) ∧ Calm w w' := by
  have T0 := hide ((Touch.refl (fun _ => False) w).alloc (.cells (pnc p) 40))
  have A0 := hide (al_new w (.cells (pnc p) 40))
  have CM : Hid (∀ W, _) := hide fun W => maybe_any p W
  have CWr : Hid (∀ W, mayP p = true → Calm w W → Calls Tryz.prog 33 #[.slice none 0 0, pnv p] W fun e w' => ∃ a c, e = .returned (.slice a (bsL (lineB p)).length c) ∧ (convert 64 9 (.slice a (bsL (lineB p)).length c)).run Tryz.prog w' = .ok (.string (lineB p)) w' ∧ Calm W w') := hide fun W hm hW => by
    have h := write_any p hm hp [] none 0 W W.heap.size (Rc.Own.nil _ _ _) (Nat.le_refl _) (by simp) ((hy.tab.calm hW).below rfl) (hy.kds.calm hW) (hy.kds.calm hW).lt
    refine h.mono ?_
    rintro e w' ⟨a, c, rfl, ho, ht⟩
    refine ⟨a, c, rfl, ?_, calm_below ht.below⟩
    have h2 := conv_any ho
    rw [List.nil_append, strOf_bs] at h2
    exact h2
  cases hm : mayP p with
  | false =>
    rw [hm] at CM
    go_enter Tryz.func20, Tryz.ntmps20
    obtain ⟨⟨c0, c1, c2, c3, c4⟩, c5, c6, c7, c8⟩ := pn_cells A0.out
    go_wp2_with fail
    refine (CM.out _).mono ?_
    rintro r w1 ⟨rfl, T1⟩
    have HT := hide (T0.out.tr T1)
    clear T1 c0 c1 c2 c3 c4 c5 c6 c7 c8
    go_wp2_with fail
    go_ret2
    exact ⟨rfl, HT.out⟩
  | true =>
    rw [hm] at CM
    have CW := hide (fun W hW => CWr.out W hm hW)
    clear CWr hm hp
    generalize lineB p = R at *
    generalize (bsL R).length = n at *
    go_enter Tryz.func20, Tryz.ntmps20
    obtain ⟨⟨c0, c1, c2, c3, c4⟩, c5, c6, c7, c8⟩ := pn_cells A0.out
    go_wp2_with fail
    refine (CM.out _).mono ?_
    rintro r w1 ⟨rfl, T1⟩
    have A1 := hide (T1.at A0.out)
    have HT := hide (T0.out.tr T1)
    clear T1 c0 c1 c2 c3 c4 c5 c6 c7 c8 CM
    obtain ⟨⟨c0, c1, c2, c3, c4⟩, c5, c6, c7, c8⟩ := pn_cells A1.out
    go_wp2_with fail
    refine (CW.out _ HT.out).mono ?_
    rintro r w2 ⟨a, c, rfl, cv, T2⟩
    have HT2 := hide (HT.out.tr T2)
    clear T2 c0 c1 c2 c3 c4 c5 c6 c7 c8 CW
    go_wp2_with fail
    go_ret2
    exact ⟨rfl, HT2.out⟩

end Go.Proofs.YtamfcmmhmfhhkaaGreatDoor

namespace Go.Proofs.YtamfcmmhmfhhkaaGreatDoor
open Go.RowKit

/-- A text of these bytes. -/
def bl (R : List UInt8) : ByteArray := ⟨R.toArray⟩
theorem bl_list (R : List UInt8) : (bl R).toList = R := by rw [ByteArray.toList_eq]; rfl
theorem bl_data (R : List UInt8) : (bl R).data.toList = R := rfl
theorem bl_size (R : List UInt8) : (bl R).size = R.length := by
  show R.toArray.size = _
  rw [List.size_toArray]
theorem bl_of (s : ByteArray) : bl s.toList = s := ba_ext (bl_list _)
theorem bl_cut (R : List UInt8) (a b : Nat) : (bl R).extract a b = bl ((R.drop a).take (b - a)) := ba_ext (by rw [ex_toList, bl_list, bl_list])
theorem bl_from (R : List UInt8) (a : Nat) : (bl R).extract a (bl R).size = bl (R.drop a) := by
  rw [bl_cut, bl_size, List.take_of_length_le (by rw [List.length_drop]; omega)]
theorem bl_to (R : List UInt8) (b : Nat) : (bl R).extract 0 b = bl (R.take b) := by rw [bl_cut, List.drop_zero, Nat.sub_zero]
theorem bl_ne {R : List UInt8} (h : R ≠ []) : (bl R).toList.isEmpty = false := by
  rw [bl_list]
  exact List.isEmpty_eq_false_iff.2 h
theorem bl_at {R : List UInt8} {i : Nat} (h : i < R.length) : ∃ h' : i < (bl R).size, ((bl R)[i]'h') = R[i] := ⟨by rw [bl_size]; exact h, by
  rfl⟩

/-- The course lies at q, so much is left of it. -/
def Crs (W : World) (q : Nat) (R : List UInt8) : Prop := W.heap[q]? = some (.cells #[.string (bl R)] 94 (0, 0))
theorem Crs.calm {w w' : World} {q : Nat} {R : List UInt8} (h : Crs w q R) (ht : Calm w w') : Crs w' q R := ht.at h
theorem Crs.put {w : World} {q : Nat} {R R' : List UInt8} (h : Crs w q R) : Crs (w.setCell ⟨q, 0, none⟩ (.string (bl R'))) q R' ∧ Touch (fun g => g = q) w (w.setCell ⟨q, 0, none⟩ (.string (bl R'))) := ⟨set_one _ h, (Touch.refl (fun g => g = q) w).setCell (p := ⟨q, 0, none⟩) (fun _ => rfl) _⟩

/-- The next byte. -/
def hdI : List UInt8 → Int
  | [] => 0
  | b :: _ => (b.toNat : Int)

set_option maxRecDepth 100000 in
set_option maxHeartbeats 1000000 in
theorem next_any (R : List UInt8) (q : Nat) (w : World) (h : Crs w q R) : Calls Tryz.prog 50 #[.pointer (some ⟨q, 0, none⟩)] w fun e w' => e = .returned (.tuple #[.int .u8 (hdI R), .bool (!R.isEmpty)]) ∧ Crs w' q R.tail ∧ Touch (fun g => g = q) w w' := by
  obtain ⟨c0, f0⟩ := one_cell h
  cases R with
  | nil =>
    have e : bl [] = ⟨#[]⟩ := rfl
    rw [e] at c0
    have H := hide h
    clear h
    go_enter Tryz.func50, Tryz.ntmps50
    go_wp2_with fail
    go_ret2
    exact ⟨rfl, H.out, Touch.refl _ _⟩
  | cons b R =>
    have hne := bl_ne (R := b :: R) (by simp)
    obtain ⟨hpos, hb⟩ := bl_at (R := b :: R) (i := 0) (by simp)
    have hb' : ((bl (b :: R))[0]'hpos).toNat = b.toNat := by rw [hb]; rfl
    have hex := bl_from (b :: R) 1
    have hz : (0 : Int) < ((bl (b :: R)).size : Int) := by omega
    have hz1 : (1 : Int) ≤ ((bl (b :: R)).size : Int) := by omega
    have e2 : (b :: R).drop 1 = R := rfl
    rw [e2] at hex
    have PU := hide (h.put (R' := R))
    have HB : Hid (hdI (b :: R) = (b.toNat : Int)) := hide rfl
    clear h hb e2
    generalize bl (b :: R) = s at *
    generalize bl R = t at *
    generalize hdI (b :: R) = x at *
    generalize b.toNat = n at *
    go_enter Tryz.func50, Tryz.ntmps50
    go_wp2_with fail
    go_ret2
    exact ⟨by rw [HB.out]; rfl, PU.out.1, PU.out.2⟩

/-- Is that byte the next one? -/
def tkB (R : List UInt8) (n : Nat) : Bool := !R.isEmpty && decide (hdI R = (n : Int))
theorem tkB_yes {R : List UInt8} {n : Nat} (h : tkB R n = true) : ∃ b R', R = b :: R' ∧ b.toNat = n := by
  cases R with
  | nil => simp [tkB] at h
  | cons b R' =>
    refine ⟨b, R', rfl, ?_⟩
    unfold tkB hdI at h
    simp only [List.isEmpty_cons, Bool.not_false, Bool.true_and, decide_eq_true_eq] at h
    omega
theorem tkB_no {R : List UInt8} {n : Nat} (h : tkB R n = false) : ∀ b R', R = b :: R' → b.toNat ≠ n := by
  rintro b R' rfl e
  unfold tkB hdI at h
  simp only [List.isEmpty_cons, Bool.not_false, Bool.true_and, decide_eq_false_iff_not] at h
  omega

set_option maxRecDepth 100000 in
set_option maxHeartbeats 1000000 in
theorem take_any (R : List UInt8) (n : Nat) (q : Nat) (w : World) (h : Crs w q R) : Calls Tryz.prog 49 #[.pointer (some ⟨q, 0, none⟩), .int .u8 (n : Int)] w fun e w' => e = .returned (.bool (tkB R n)) ∧ Crs w' q R.tail ∧ Touch (fun g => g = q) w w' := by
  have CN := hide (next_any R q w h)
  have G : Hid (tkB R n = (!R.isEmpty && decide (hdI R = (n : Int)))) := hide rfl
  clear h
  generalize tkB R n = z at *
  generalize R.tail = R' at *
  generalize hdI R = x at *
  generalize R.isEmpty = y at *
  cases y with
  | true =>
    go_enter Tryz.func49, Tryz.ntmps49
    go_wp2_with fail
    refine CN.out.mono ?_
    rintro r w1 ⟨rfl, h1, t1⟩
    have H1 := hide h1
    have T1 := hide t1
    clear h1 t1 CN
    go_wp2_with fail
    go_ret
    exact ⟨by rw [G.out]; rfl, H1.out, T1.out⟩
  | false =>
    by_cases he : x = (n : Int)
    · have hz : (x == (n : Int)) = true := by rw [beq_iff_eq]; exact he
      have G2 : Hid (z = true) := hide (by rw [G.out, decide_eq_true he]; rfl)
      clear G he
      go_enter Tryz.func49, Tryz.ntmps49
      go_wp2_with fail
      refine CN.out.mono ?_
      rintro r w1 ⟨rfl, h1, t1⟩
      have H1 := hide h1
      have T1 := hide t1
      clear h1 t1 CN
      go_wp2_with fail
      go_ret
      exact ⟨by rw [G2.out]; rfl, H1.out, T1.out⟩
    · have hz : (x == (n : Int)) = false := by rw [beq_eq_false_iff_ne]; exact he
      have G2 : Hid (z = false) := hide (by rw [G.out, decide_eq_false he]; rfl)
      clear G he
      go_enter Tryz.func49, Tryz.ntmps49
      go_wp2_with fail
      refine CN.out.mono ?_
      rintro r w1 ⟨rfl, h1, t1⟩
      have H1 := hide h1
      have T1 := hide t1
      clear h1 t1 CN
      go_wp2_with fail
      go_ret
      exact ⟨by rw [G2.out]; rfl, H1.out, T1.out⟩

/-- The next word, and what stands behind it. -/
def wdL (R : List UInt8) : List UInt8 := R.takeWhile fun b => decide (b ≠ 32)
def wdR (R : List UInt8) : List UInt8 := R.dropWhile fun b => decide (b ≠ 32)
theorem wd_app (R : List UInt8) : wdL R ++ wdR R = R := List.takeWhile_append_dropWhile
theorem ib_cases : ∀ R : List UInt8, (Lib.indexByte R 32 = -1 ∧ wdL R = R ∧ wdR R = []) ∨ ∃ k : Nat, Lib.indexByte R 32 = (k : Int) ∧ k < R.length ∧ wdL R = R.take k ∧ wdR R = R.drop k
  | [] => .inl ⟨rfl, rfl, rfl⟩
  | b :: R => by
    by_cases h : b = 32
    · subst h
      exact .inr ⟨0, rfl, by simp, rfl, rfl⟩
    · have e1 : wdL (b :: R) = b :: wdL R := List.takeWhile_cons_of_pos (by simpa using h)
      have e2 : wdR (b :: R) = wdR R := List.dropWhile_cons_of_pos (by simpa using h)
      have hb : (b == 32) = false := by rw [beq_eq_false_iff_ne]; exact h
      rcases ib_cases R with ⟨h1, h2, h3⟩ | ⟨k, h1, h2, h3, h4⟩
      · refine .inl ⟨?_, by rw [e1, h2], by rw [e2, h3]⟩
        rw [Lib.indexByte, hb, h1]
        rfl
      · refine .inr ⟨k + 1, ?_, by simpa using h2, by rw [e1, h3]; rfl, by rw [e2, h4]; rfl⟩
        rw [Lib.indexByte, hb, h1]
        have : ((k : Int) == -1) = false := by rw [beq_eq_false_iff_ne]; omega
        rw [this]
        simp

set_option maxRecDepth 100000 in
set_option maxHeartbeats 1000000 in
theorem word_any (R : List UInt8) (hl : R.length ≤ 1000000) (q : Nat) (w : World) (h : Crs w q R) : Calls Tryz.prog 53 #[.pointer (some ⟨q, 0, none⟩)] w fun e w' => e = .returned (.string (bl (wdL R))) ∧ Crs w' q (wdR R) ∧ Touch (fun g => g = q) w w' := by
  obtain ⟨c0, f0⟩ := one_cell h
  have CI : Hid (∀ W, Calls Tryz.prog 69 #[.string (bl R), .int .u8 32] W fun e w' => e = .returned (.int .i64 (Lib.indexByte R 32)) ∧ w' = W) := hide fun W => Any.strings_IndexByte Tryz.lays137 (bl R) 32 W
  have PU := hide (h.put (R' := wdR R))
  have hs := bl_size R
  rcases ib_cases R with ⟨h1, h2, h3⟩ | ⟨k, h1, h2, h3, h4⟩
  · rw [h1] at CI
    have e2 : bl (wdR R) = ByteArray.empty := by rw [h3]; rfl
    rw [e2] at PU
    rw [h2]
    have HW := hide e2
    clear h h1 h2 h3 e2
    have hR : Hid (∀ W, Crs W q (wdR R) ↔ W.heap[q]? = some (.cells #[.string ByteArray.empty] 94 (0, 0))) := hide fun W => by unfold Crs; rw [HW.out]
    simp only [hR.out] at PU ⊢
    clear hR HW
    rw [← hs] at hl
    clear hs
    generalize bl R = s at *
    have hl2 : (s.size : Int) ≤ 1000000 := by omega
    have hl3 : ¬ (s.size : Int) < 0 := by omega
    go_enter Tryz.func53, Tryz.ntmps53
    go_wp2_with fail
    refine (CI.out _).mono ?_
    rintro r w1 ⟨rfl, hq⟩
    obtain rfl := hq.symm
    clear hq CI
    go_wp2_with fail
    go_ret
    exact ⟨rfl, PU.out.1, PU.out.2⟩
  · rw [h1] at CI
    have e1 : bl (wdL R) = (bl R).extract 0 k := by rw [h3, bl_to]
    have e2 : bl (wdR R) = (bl R).extract k (bl R).size := by rw [h4, bl_from]
    rw [e2] at PU
    rw [e1]
    have HW := hide e2
    have hkz : (k : Int) ≤ ((bl R).size : Int) := by rw [hs]; omega
    clear h h1 h2 h3 e1 e2 h4
    have hR : Hid (∀ W, Crs W q (wdR R) ↔ W.heap[q]? = some (.cells #[.string ((bl R).extract k (bl R).size)] 94 (0, 0))) := hide fun W => by unfold Crs; rw [HW.out]
    simp only [hR.out] at PU ⊢
    clear hR HW
    rw [← hs] at hl
    clear hs
    generalize bl R = s at *
    have hk3 : ¬ (k : Int) < 0 := by omega
    have hk4 : (0 : Int) ≤ (k : Int) := by omega
    go_enter Tryz.func53, Tryz.ntmps53
    go_wp2_with fail
    refine (CI.out _).mono ?_
    rintro r w1 ⟨rfl, hq⟩
    obtain rfl := hq.symm
    clear hq CI
    go_wp2_with fail
    go_ret
    exact ⟨rfl, PU.out.1, PU.out.2⟩

end Go.Proofs.YtamfcmmhmfhhkaaGreatDoor

namespace Go.Proofs.YtamfcmmhmfhhkaaGreatDoor
open Go.RowKit

theorem ib_fin : ∀ n : Fin 256, Lib.indexByte [48, 49, 50, 51, 52, 53, 54, 55, 56, 57, 97, 98, 99, 100, 101, 102] (UInt8.ofNat n.1) = digX (n.1 : Int) := by decide +kernel
theorem ib_dig (b : UInt8) : Lib.indexByte (⟨#[48, 49, 50, 51, 52, 53, 54, 55, 56, 57, 97, 98, 99, 100, 101, 102]⟩ : ByteArray).data.toList b = digX (b.toNat : Int) := by
  have h := ib_fin ⟨b.toNat, b.toNat_lt⟩
  simp only [UInt8.ofNat_toNat] at h
  exact h
theorem or_fin : ∀ x y : Fin 16, bits .or .i64 ((x.1 : Int) * 16) (y.1 : Int) = 16 * (x.1 : Int) + (y.1 : Int) := by decide +kernel
theorem or_dig {x y : Int} (hx0 : 0 ≤ x) (hx : x ≤ 15) (hy0 : 0 ≤ y) (hy : y ≤ 15) : bits .or .i64 (x * 16) y = 16 * x + y := by
  obtain ⟨a, rfl⟩ : ∃ a : Nat, x = (a : Int) := ⟨x.toNat, by omega⟩
  obtain ⟨b, rfl⟩ : ∃ b : Nat, y = (b : Int) := ⟨y.toNat, by omega⟩
  exact or_fin ⟨a, by omega⟩ ⟨b, by omega⟩

/-- What code answers. -/
def CodR (R : List UInt8) (q : Nat) (e : Ending) (w' : World) : Prop :=
  (∃ h l R', R = 120 :: h :: l :: R' ∧ 0 ≤ digX (h.toNat : Int) ∧ 0 ≤ digX (l.toNat : Int) ∧ itB (16 * digX (h.toNat : Int) + digX (l.toNat : Int)) = false ∧ e = .returned (.tuple #[.int .u8 (16 * digX (h.toNat : Int) + digX (l.toNat : Int)), .bool true]) ∧ Crs w' q R') ∨
  (e = .returned (.tuple #[.int .u8 0, .bool false]) ∧ (∀ h l R', R = 120 :: h :: l :: R' → 0 ≤ digX (h.toNat : Int) → 0 ≤ digX (l.toNat : Int) → itB (16 * digX (h.toNat : Int) + digX (l.toNat : Int)) = true))

set_option maxRecDepth 100000 in
set_option maxHeartbeats 4000000 in
theorem code_any (R : List UInt8) (q : Nat) (w : World) (h : Crs w q R) : Calls Tryz.prog 51 #[.pointer (some ⟨q, 0, none⟩)] w fun e w' => CodR R q e w' ∧ Touch (fun g => g = q) w w' := by
  obtain ⟨c0, f0⟩ := one_cell h
  have hs := bl_size R
  by_cases h3 : R.length < 3
  · have h3z : ((bl R).size : Int) < 3 := by omega
    have HN : Hid (∀ h l R', R ≠ 120 :: h :: l :: R') := hide (by rintro h l R' rfl; simp at h3; omega)
    clear h h3 hs
    generalize bl R = s at *
    go_enter Tryz.func51, Tryz.ntmps51
    go_wp2_with fail
    go_ret2
    exact ⟨.inr ⟨rfl, fun h l R' e => absurd e (HN.out h l R')⟩, Touch.refl _ _⟩
  obtain ⟨a, hh, l, R', rfl⟩ : ∃ a hh l R', R = a :: hh :: l :: R' := by
    match R, h3 with
    | [], h => simp at h
    | [_], h => simp at h
    | [_, _], h => simp at h
    | a :: b :: c :: r, _ => exact ⟨a, b, c, r, rfl⟩
  clear h3
  obtain ⟨p0, g0⟩ := bl_at (R := a :: hh :: l :: R') (i := 0) (by simp)
  obtain ⟨p1, g1⟩ := bl_at (R := a :: hh :: l :: R') (i := 1) (by simp)
  obtain ⟨p2, g2⟩ := bl_at (R := a :: hh :: l :: R') (i := 2) (by simp)
  have g0' : ((bl (a :: hh :: l :: R'))[0]'p0).toNat = a.toNat := by rw [g0]; rfl
  have g1' : ((bl (a :: hh :: l :: R'))[1]'p1).toNat = hh.toNat := by rw [g1]; rfl
  have g2' : ((bl (a :: hh :: l :: R'))[2]'p2).toNat = l.toNat := by rw [g2]; rfl
  have h3z : ¬ ((bl (a :: hh :: l :: R')).size : Int) < 3 := by omega
  have z0 : (0 : Int) < ((bl (a :: hh :: l :: R')).size : Int) := by omega
  have z1 : (1 : Int) < ((bl (a :: hh :: l :: R')).size : Int) := by omega
  have z2 : (2 : Int) < ((bl (a :: hh :: l :: R')).size : Int) := by omega
  have z3 : (3 : Int) ≤ ((bl (a :: hh :: l :: R')).size : Int) := by omega
  have hex : (bl (a :: hh :: l :: R')).extract 3 (bl (a :: hh :: l :: R')).size = bl R' := bl_from (a :: hh :: l :: R') 3
  have PU := hide (h.put (R' := R'))
  have C1 : Hid (∀ W, Calls Tryz.prog 69 #[.string ⟨#[48, 49, 50, 51, 52, 53, 54, 55, 56, 57, 97, 98, 99, 100, 101, 102]⟩, .int .u8 (hh.toNat : Int)] W fun e w' => e = .returned (.int .i64 (digX (hh.toNat : Int))) ∧ w' = W) := hide fun W => by
    have k := Any.strings_IndexByte Tryz.lays137 ⟨#[48, 49, 50, 51, 52, 53, 54, 55, 56, 57, 97, 98, 99, 100, 101, 102]⟩ (hh.toNat : Int) W
    have e : ((hh.toNat : Int)).toNat.toUInt8 = hh := by rw [Int.toNat_natCast]; exact UInt8.ofNat_toNat
    rw [e, ib_dig] at k
    exact k
  have C2 : Hid (∀ W, Calls Tryz.prog 69 #[.string ⟨#[48, 49, 50, 51, 52, 53, 54, 55, 56, 57, 97, 98, 99, 100, 101, 102]⟩, .int .u8 (l.toNat : Int)] W fun e w' => e = .returned (.int .i64 (digX (l.toNat : Int))) ∧ w' = W) := hide fun W => by
    have k := Any.strings_IndexByte Tryz.lays137 ⟨#[48, 49, 50, 51, 52, 53, 54, 55, 56, 57, 97, 98, 99, 100, 101, 102]⟩ (l.toNat : Int) W
    have e : ((l.toNat : Int)).toNat.toUInt8 = l := by rw [Int.toNat_natCast]; exact UInt8.ofNat_toNat
    rw [e, ib_dig] at k
    exact k
  have x1 := digX_lo (hh.toNat : Int)
  have x2 := digX_lo (l.toNat : Int)
  by_cases ha : a = 120
  case neg =>
    have han : ((a.toNat : Int) != 120) = true := by
      rw [bne_iff_ne]
      intro e
      exact ha (UInt8.toNat_inj.1 (by have : a.toNat = 120 := by omega
                                      rw [this]; rfl))
    have HN : Hid (∀ h l' R'', a :: hh :: l :: R' ≠ 120 :: h :: l' :: R'') := hide (by rintro h l' R'' e; injection e with e; exact ha e)
    clear h g0 g1 g2 ha C1 C2 hs x1 x2 PU
    generalize hS : a :: hh :: l :: R' = S at *
    generalize bl S = s at *
    generalize a.toNat = an at *
    clear hS
    go_enter Tryz.func51, Tryz.ntmps51
    go_wp2_with fail
    go_ret2
    exact ⟨.inr ⟨rfl, fun h l R' e => absurd e (HN.out h l R')⟩, Touch.refl _ _⟩
  have g0z : (((bl (a :: hh :: l :: R'))[0]'p0).toNat : Int) = 120 := by rw [g0', ha]; rfl
  have HS : Hid (∀ e w', (∃ v, e = .returned (.tuple #[.int .u8 v, .bool true]) ∧ v = 16 * digX (hh.toNat : Int) + digX (l.toNat : Int) ∧ 0 ≤ digX (hh.toNat : Int) ∧ 0 ≤ digX (l.toNat : Int) ∧ itB v = false ∧ Crs w' q R') → CodR (a :: hh :: l :: R') q e w') := hide (by
    rintro e w' ⟨v, rfl, rfl, h1, h2, h3, h4⟩
    subst ha
    exact .inl ⟨hh, l, R', rfl, h1, h2, h3, rfl, h4⟩)
  have HF : Hid (∀ e w', e = .returned (.tuple #[.int .u8 0, .bool false]) → (0 ≤ digX (hh.toNat : Int) → 0 ≤ digX (l.toNat : Int) → itB (16 * digX (hh.toNat : Int) + digX (l.toNat : Int)) = true) → CodR (a :: hh :: l :: R') q e w') := hide (by
    rintro e w' rfl h1
    refine .inr ⟨rfl, ?_⟩
    rintro h l' R'' e
    injection e with _ e
    injection e with e1 e
    injection e with e2 e
    subst e1 e2
    exact h1)
  suffices hz : Calls Tryz.prog 51 #[.pointer (some ⟨q, 0, none⟩)] w (fun e w' => (e = .returned (.tuple #[.int .u8 (16 * digX (hh.toNat : Int) + digX (l.toNat : Int)), .bool true]) ∧ 0 ≤ digX (hh.toNat : Int) ∧ 0 ≤ digX (l.toNat : Int) ∧ itB (16 * digX (hh.toNat : Int) + digX (l.toNat : Int)) = false ∨ e = .returned (.tuple #[.int .u8 0, .bool false]) ∧ (0 ≤ digX (hh.toNat : Int) → 0 ≤ digX (l.toNat : Int) → itB (16 * digX (hh.toNat : Int) + digX (l.toNat : Int)) = true)) ∧ Crs w' q R' ∧ Touch (fun g => g = q) w w') by
    refine hz.mono ?_
    rintro e w' ⟨⟨h1, h2, h3, h4⟩ | ⟨h1, h2⟩, hc, ht⟩
    · exact ⟨HS.out e w' ⟨_, h1, rfl, h2, h3, h4, hc⟩, ht⟩
    · exact ⟨HF.out e w' h1 h2, ht⟩
  have CT := hide (fun W => itself_any (16 * digX (hh.toNat : Int) + digX (l.toNat : Int)) W)
  have hE : Hid (∀ W, Crs W q R' ↔ W.heap[q]? = some (.cells #[.string (bl R')] 94 (0, 0))) := hide fun W => Iff.rfl
  simp only [hE.out] at PU ⊢
  clear h g0 g1 g2 g0' ha HS HF hE hs
  generalize digX (hh.toNat : Int) = x at *
  generalize digX (l.toNat : Int) = y at *
  generalize hS : a :: hh :: l :: R' = S at *
  clear hS
  generalize bl S = s at *
  generalize bl R' = t at *
  generalize hh.toNat = hn at *
  generalize l.toNat = ln at *
  by_cases hx0 : 0 ≤ x
  case neg =>
    have hx0z : x < 0 := by omega
    clear CT
    go_enter Tryz.func51, Tryz.ntmps51
    go_wp2_with fail
    refine (C1.out _).mono ?_
    rintro r w1 ⟨rfl, hq⟩
    obtain rfl := hq.symm
    clear hq C1
    go_wp2_with fail
    refine (C2.out _).mono ?_
    rintro r w1 ⟨rfl, hq⟩
    obtain rfl := hq.symm
    clear hq C2
    go_wp2_with fail
    go_ret2
    exact ⟨.inr ⟨rfl, fun h => absurd h (by omega)⟩, PU.out.1, PU.out.2⟩
  have hx0z : ¬ x < 0 := by omega
  by_cases hy0 : 0 ≤ y
  case neg =>
    have hy0z : y < 0 := by omega
    clear CT
    go_enter Tryz.func51, Tryz.ntmps51
    go_wp2_with fail
    refine (C1.out _).mono ?_
    rintro r w1 ⟨rfl, hq⟩
    obtain rfl := hq.symm
    clear hq C1
    go_wp2_with fail
    refine (C2.out _).mono ?_
    rintro r w1 ⟨rfl, hq⟩
    obtain rfl := hq.symm
    clear hq C2
    go_wp2_with fail
    go_ret2
    exact ⟨.inr ⟨rfl, fun _ h => absurd h (by omega)⟩, PU.out.1, PU.out.2⟩
  have hy0z : ¬ y < 0 := by omega
  have o1 := or_dig hx0 x1.2 hy0 x2.2
  have q1 : IntKind.i64.wrap (x * 16) = x * 16 := by rw [IntKind.wrap_i64]; omega
  have q2 : IntKind.u8.wrap (16 * x + y) = 16 * x + y := by rw [IntKind.wrap_u8]; omega
  obtain ⟨v, hv⟩ : ∃ v, v = 16 * x + y := ⟨_, rfl⟩
  rw [← hv] at o1 q2 CT ⊢
  have HV := hide hv
  clear hv
  go_enter Tryz.func51, Tryz.ntmps51
  go_wp2_with fail
  refine (C1.out _).mono ?_
  rintro r w1 ⟨rfl, hq⟩
  obtain rfl := hq.symm
  clear hq C1
  go_wp2_with fail
  refine (C2.out _).mono ?_
  rintro r w1 ⟨rfl, hq⟩
  obtain rfl := hq.symm
  clear hq C2
  go_wp2_with fail
  refine (CT.out _).mono ?_
  rintro r _ ⟨rfl, rfl⟩
  have hxx : 0 ≤ x := by omega
  have hyy : 0 ≤ y := by omega
  have HX := hide (And.intro hxx hyy)
  clear CT hxx hyy
  cases hit : itB v with
  | true =>
    go_wp2_with fail
    go_ret2
    exact ⟨.inr ⟨rfl, fun _ _ => hit⟩, PU.out.1, PU.out.2⟩
  | false =>
    go_wp2_with fail
    go_ret2
    exact ⟨.inl ⟨rfl, HX.out.1, HX.out.2, hit⟩, PU.out.1, PU.out.2⟩

end Go.Proofs.YtamfcmmhmfhhkaaGreatDoor

namespace Go.Proofs.YtamfcmmhmfhhkaaGreatDoor
open Go.RowKit

theorem parse_snoc (M : Nat) (d : UInt8) (hd : 48 ≤ d.toNat ∧ d.toNat ≤ 57) : ∀ (l : List UInt8) (acc a : Nat), Lib.parseUintM M acc l = .ok a → a < 1844674407370955162 → a * 10 + (d.toNat - 48) ≤ M → Lib.parseUintM M acc (l ++ [d]) = .ok (a * 10 + (d.toNat - 48))
  | [], acc, a, h, h1, h2 => by
    have e : acc = a := by injection h
    subst e
    show Lib.parseUintM M acc [d] = _
    unfold Lib.parseUintM
    rw [if_pos hd, if_neg (by omega), if_neg (by omega)]
    rfl
  | c :: r, acc, a, h, h1, h2 => by
    rw [List.cons_append]
    unfold Lib.parseUintM at h ⊢
    split at h
    · rename_i hc
      rw [if_pos hc]
      split at h
      · cases h
      · rename_i h3
        rw [if_neg h3]
        split at h
        · cases h
        · rename_i h4
          rw [if_neg h4]
          exact parse_snoc M d hd r _ a h h1 h2
    · cases h
theorem parse_dec (u : Nat) (hu : u ≤ 9223372036854775808) : Lib.parseUintM 18446744073709551615 0 (Lib.decDigits u) = .ok u := by
  induction u using Nat.strongRecOn with
  | ind u ih =>
    rw [Lib.decDigits]
    split
    · rename_i h
      have e : (UInt8.ofNat (48 + u)).toNat = 48 + u := ofNat_dig h
      unfold Lib.parseUintM
      rw [if_pos (by omega), if_neg (by omega), if_neg (by omega), e]
      unfold Lib.parseUintM
      congr 1; omega
    · rename_i h
      have e : (UInt8.ofNat (48 + u % 10)).toNat = 48 + u % 10 := ofNat_dig (by omega)
      rw [parse_snoc _ _ (by omega) _ _ (u / 10) (ih (u / 10) (by omega) (by omega)) (by omega) (by omega), e]
      congr 1; omega
theorem parse_int {x : Int} (h : I64n x) : Lib.parseIntB 64 (intB x).data.toList = .ok x := by
  unfold I64n at h
  have e0 : (intB x).data.toList = (if x < 0 then [45] else []) ++ Lib.decDigits x.natAbs := by rw [← ByteArray.toList_eq]; exact intB_list x
  have hp := parse_dec x.natAbs (by omega)
  have hne := dec_ne x.natAbs
  have hi := dec_byte x.natAbs
  have hU : Lib.parseUintB 64 (Lib.decDigits x.natAbs) = .ok x.natAbs := by
    unfold Lib.parseUintB
    rw [if_neg hne]
    exact hp
  rw [e0]
  by_cases hn : x < 0
  · rw [if_pos hn]
    show Lib.parseIntB 64 (45 :: Lib.decDigits x.natAbs) = _
    rw [Lib.parseIntB_minus, hU]
    show (if 9223372036854775808 < x.natAbs then Lib.NumEnd.range else Lib.NumEnd.ok (-((x.natAbs : Nat) : Int))) = _
    rw [if_neg (by omega)]
    congr 1
    omega
  · rw [if_neg hn, List.nil_append]
    cases hd : Lib.decDigits x.natAbs with
    | nil => exact absurd hd hne
    | cons c r =>
      have hc := hi c (by rw [hd]; simp)
      rw [Lib.parseIntB_plain 64 c r (by omega) (by omega), ← hd, hU]
      show (if 9223372036854775808 ≤ x.natAbs then Lib.NumEnd.range else Lib.NumEnd.ok ((x.natAbs : Nat) : Int)) = _
      rw [if_neg (by omega)]
      congr 1
      omega
/-- What the library reads, held against what it writes, is the number. -/
theorem num_yes {s : ByteArray} {v : Int} (h : Lib.parseIntB 64 s.data.toList = .ok v) (he : (⟨(Lib.itoa v).toArray⟩ : ByteArray) = s) : numP s = some v := by
  have hb := Lib.parseIntB_bounds h
  exact numP_some.2 ⟨by unfold I64n; omega, he⟩
theorem num_no {s : ByteArray} (h : ∀ v, Lib.parseIntB 64 s.data.toList = .ok v → (⟨(Lib.itoa v).toArray⟩ : ByteArray) ≠ s) : numP s = none := numP_none fun x hx e => by
  have hp := parse_int hx
  rw [e] at hp
  exact h x hp e
theorem num_long {s : ByteArray} (h : 20 < s.size) : numP s = none := numP_none fun x hx e => by
  have := intB_size hx.1 hx.2
  have h2 := (num_facts hx e).2.1
  omega

/-- What is told of a number. -/
def numV2 : Option Int → Value
  | some v => .tuple #[.int .i64 v, .bool true]
  | none => .tuple #[.int .i64 0, .bool false]

set_option maxRecDepth 100000 in
set_option maxHeartbeats 2000000 in
theorem format_any (n : Int) (h0 : -9223372036854775808 ≤ n) (h1 : n ≤ 9223372036854775807) (w : World) (ht : Tab w) : Calls Tryz.prog 71 #[.int .i64 n, .int .i64 10] w fun e w' => e = .returned (.string ⟨(Lib.itoa n).toArray⟩) ∧ Calm w w' := by
  have CF : Hid (Calls Tryz.prog 80 #[.int .i64 n, .int .i64 10] w fun e w' => e = .returned (.string ⟨(Lib.itoa n).toArray⟩) ∧ ∃ k os, w' = Go.Sort.grow (w.drewN k) os) := hide (Any.internal_strconv_FormatInt_10 Tryz.laysM246 n h0 h1 w ht)
  go_enter Tryz.func71, Tryz.ntmps71
  go_wp2_with fail
  refine CF.out.mono ?_
  rintro e w1 ⟨rfl, k, os, rfl⟩
  have T1 : Hid (Calm w (Go.Sort.grow (w.drewN k) os)) := hide ⟨rfl, rfl, rfl, Lib.size_grow w k os, fun g hg _ => Lib.heap_grow_old w k os g hg⟩
  go_wp2_with fail
  go_ret
  exact ⟨rfl, T1.out⟩

set_option maxRecDepth 100000 in
set_option maxHeartbeats 2000000 in
theorem numberOf_any (s : ByteArray) (hs : s.size ≤ 281474976710656) (w : World) (hy : Yv w) : Calls Tryz.prog 54 #[.string s] w fun e w' => e = .returned (numV2 (numP s)) ∧ Calm w w' := by
  by_cases hl : 20 < s.size
  · have hlz : (20 : Int) < (s.size : Int) := by omega
    have HP := hide (num_long hl)
    clear hl
    generalize numP s = R at *
    go_enter Tryz.func54, Tryz.ntmps54
    go_wp2_with fail
    go_ret2
    exact ⟨by rw [HP.out]; rfl, Touch.refl _ _⟩
  have hlz : ¬ (20 : Int) < (s.size : Int) := by omega
  obtain ⟨⟨e1, e2, h1⟩, ⟨e3, e4, h2⟩, -⟩ := hy.errs
  have ht := hy.tab
  cases hr : Lib.parseIntB 64 s.data.toList with
  | ok v =>
    have CP := hide (Any.strconv_ParseInt_10_at64_ok Tryz.laysC174 s (by omega) v hr w)
    obtain ⟨b1, b2⟩ := Lib.parseIntB_bounds hr
    have CF : Hid (∀ W, Calm w W → Calls Tryz.prog 71 #[.int .i64 v, .int .i64 10] W fun e w' => e = .returned (.string ⟨(Lib.itoa v).toArray⟩) ∧ Calm W w') := hide fun W hW => format_any v (by omega) (by omega) W (ht.calm hW)
    have HY : (⟨(Lib.itoa v).toArray⟩ : ByteArray) = s → numP s = some v := num_yes hr
    have HN : (⟨(Lib.itoa v).toArray⟩ : ByteArray) ≠ s → numP s = none := fun h => num_no fun v' h' => by
      rw [hr] at h'
      injection h' with h'
      subst h'
      exact h
    by_cases hv : (⟨(Lib.itoa v).toArray⟩ : ByteArray) = s
    · have HP := hide (HY hv)
      rw [hv] at CF
      clear HY HN hv hr h1 h2 b1 b2 hs ht hy hl
      generalize numP s = R at *
      go_enter Tryz.func54, Tryz.ntmps54
      go_wp2_with fail
      refine CP.out.mono ?_
      rintro e w1 ⟨rfl, hw1⟩
      have T1 : Calm w w1 := by
        rcases hw1 with rfl | ⟨t, rfl⟩
        · exact Touch.refl _ _
        · exact calm_below (Lib.bytesWorld_below _ _ _)
      have HT1 := hide T1
      clear hw1 CP T1
      go_wp2_with fail
      refine (CF.out _ HT1.out).mono ?_
      rintro e w2 ⟨rfl, T2⟩
      have HT2 := hide (HT1.out.tr T2)
      clear CF T2 HT1
      go_wp2_with fail
      go_ret2
      exact ⟨by rw [HP.out]; rfl, HT2.out⟩
    · have HP := hide (HN hv)
      have dn : ((⟨(Lib.itoa v).toArray⟩ : ByteArray).toList == s.toList) = false := by
        rw [ba_beq]
        exact decide_eq_false hv
      clear HY HN hv hr h1 h2 b1 b2 hs ht hy hl
      generalize (⟨(Lib.itoa v).toArray⟩ : ByteArray) = z at *
      generalize numP s = R at *
      go_enter Tryz.func54, Tryz.ntmps54
      go_wp2_with fail
      refine CP.out.mono ?_
      rintro e w1 ⟨rfl, hw1⟩
      have T1 : Calm w w1 := by
        rcases hw1 with rfl | ⟨t, rfl⟩
        · exact Touch.refl _ _
        · exact calm_below (Lib.bytesWorld_below _ _ _)
      have HT1 := hide T1
      clear hw1 CP T1
      go_wp2_with fail
      refine (CF.out _ HT1.out).mono ?_
      rintro e w2 ⟨rfl, T2⟩
      have HT2 := hide (HT1.out.tr T2)
      clear CF T2 HT1
      go_wp2_with fail
      go_ret2
      exact ⟨by rw [HP.out]; rfl, HT2.out⟩
  | range =>
    have CP := hide (Any.strconv_ParseInt_10_at64_range Tryz.laysC174 s hs hr (.iface e3 e4) w h2 (.inr ⟨_, _, rfl⟩))
    have HP : Hid (numP s = none) := hide (num_no fun v h => by rw [hr] at h; cases h)
    clear hr h1 h2 hs ht hy hl
    generalize numP s = R at *
    go_enter Tryz.func54, Tryz.ntmps54
    go_wp2_with fail
    refine CP.out.mono ?_
    rintro e w1 ⟨N, rfl, -, -, hb⟩
    have HT1 := hide (calm_below hb)
    clear hb CP
    go_wp2_with fail
    go_ret2
    exact ⟨by rw [HP.out]; rfl, HT1.out⟩
  | _ =>
    have CP := hide (Any.strconv_ParseInt_10_at64_syntax Tryz.laysC174 s hs hr (.iface e1 e2) w h1 (.inr ⟨_, _, rfl⟩))
    have HP : Hid (numP s = none) := hide (num_no fun v h => by rw [hr] at h; cases h)
    clear hr h1 h2 hs ht hy hl
    generalize numP s = R at *
    go_enter Tryz.func54, Tryz.ntmps54
    go_wp2_with fail
    refine CP.out.mono ?_
    rintro e w1 ⟨N, rfl, -, -, hb⟩
    have HT1 := hide (calm_below hb)
    clear hb CP
    go_wp2_with fail
    go_ret2
    exact ⟨by rw [HP.out]; rfl, HT1.out⟩

/-- What is told of a kind's word. -/
def KndR (t : ByteArray) (e : Ending) : Prop := (∃ d : Int, 1 ≤ d ∧ d ≤ 3 ∧ nameB d = t ∧ e = .returned (.tuple #[.int .i64 d, .bool true])) ∨ (e = .returned (.tuple #[.int .i64 0, .bool false]) ∧ ∀ d : Int, 1 ≤ d → d ≤ 3 → nameB d ≠ t)

set_option maxRecDepth 100000 in
set_option maxHeartbeats 2000000 in
theorem kindOf_any (t : ByteArray) (w : World) (hk : Kds w) : Calls Tryz.prog 52 #[.string t] w fun e w' => KndR t e ∧ Calm w w' := by
  have HK : Hid (∀ k : Nat, 1 ≤ k → k < 4 → ∀ W, Calm w W → W.cell? ⟨0, k, none⟩ = some (.string (nameB (k : Int)))) := hide fun k h1 h4 W hW => by
    have h := (hk.calm hW) k h4
    unfold kdB at h
    rwa [if_neg (by omega)] at h
  clear hk
  go_enter Tryz.func52, Tryz.ntmps52
  go_wp2_with fail
  go_loopw [4] (fun s4 wr => ∃ k : Nat, s4 = .int .i64 (k : Int) ∧ 1 ≤ k ∧ k ≤ 4 ∧ Hid (∀ d : Nat, 1 ≤ d → d < k → nameB (d : Int) ≠ t) ∧ Calm w wr) (fun s4 _ => 4 - (intOf s4).toNat)
  case atStart => exact ⟨1, rfl, by omega, by omega, hide fun d h1 h2 => by omega, Touch.refl _ _⟩
  case round =>
    obtain ⟨k, rfl, hk1, hk4, HD, TE⟩ := hrel
    have HT := hide TE
    by_cases hlt : k < 4
    · have hz : (k : Int) ≤ 3 := by omega
      have hz4 : (k : Int) < 4 := by omega
      have hz0 : (0 : Int) ≤ (k : Int) := by omega
      have cz := HK.out k hk1 hlt wr TE
      have hbq := ba_beq (nameB (k : Int)) t
      have HY : Hid (nameB (k : Int) = t → KndR t (.returned (.tuple #[.int .i64 (k : Int), .bool true]))) := hide fun h => .inl ⟨k, by omega, by omega, h, rfl⟩
      have HD2 : Hid (nameB (k : Int) ≠ t → ∀ d : Nat, 1 ≤ d → d < k + 1 → nameB (d : Int) ≠ t) := hide fun h d h1 h2 => by
        by_cases e : d = k
        · subst e; exact h
        · exact HD.out d h1 (by omega)
      by_cases he : nameB (k : Int) = t
      · rw [decide_eq_true he] at hbq
        have HY2 := hide (HY.out he)
        clear HY HD HD2 HK TE he
        generalize nameB (k : Int) = z at *
        go_wp2_with fail
        go_ret2
        exact ⟨HY2.out, HT.out⟩
      · rw [decide_eq_false he] at hbq
        have HD3 := hide (HD2.out he)
        clear HY HD HD2 HK TE he
        generalize nameB (k : Int) = z at *
        go_wp2_with fail
        go_roundw
        case rel => exact ⟨k + 1, by go_num, by omega, by omega, HD3, HT.out⟩
        case measure => simp [intOf]; omega
    · have hz : ¬ (k : Int) ≤ 3 := by omega
      have HN : Hid (KndR t (.returned (.tuple #[.int .i64 0, .bool false]))) := hide (.inr ⟨rfl, fun d h1 h2 h => by
        have := HD.out d.toNat (by omega) (by omega)
        rw [show ((d.toNat : Nat) : Int) = d by omega] at this
        exact this h⟩)
      clear HD HK TE
      go_wp2_with fail
      go_ret2
      exact ⟨HN.out, HT.out⟩

end Go.Proofs.YtamfcmmhmfhhkaaGreatDoor
