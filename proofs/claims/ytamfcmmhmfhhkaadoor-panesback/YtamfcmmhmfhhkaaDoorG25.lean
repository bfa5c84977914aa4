/- cmp.Compare of texts. The library's comparisons; the program's compareWindows. The program's Compare. -/
import Derived.Test.YtamfcmmhmfhhkaaDoorG24
import Derived.Test.YtamfcmmhmfhhkaaDoorG4
import Derived.Test.YtamfcmmhmfhhkaaDoorG5
namespace Go.Proofs.YtamfcmmhmfhhkaaDoor.LM
open Go.RowKit

/-- The model's '<' on texts is the lexical order of their bytes. -/
theorem less_eq : ∀ (x y : List UInt8), Op.bytesLess x y = decide (x < y)
  | [], [] => by simp [Op.bytesLess]
  | _ :: _, [] => by simp [Op.bytesLess]
  | [], _ :: _ => by simp [Op.bytesLess]
  | a :: x, b :: y => by
    rw [Op.bytesLess, less_eq x y]
    simp only [List.cons_lt_cons_iff]
    by_cases h1 : a < b <;> by_cases h2 : a = b <;> by_cases h3 : x < y <;> simp [h1, h2, h3]

/-- How two texts compare. -/
def cmpS (a b : ByteArray) : Int := if Op.bytesLess a.toList b.toList = true then -1 else if (a.toList == b.toList) = true then 0 else 1

theorem cmpS_lt {a b : ByteArray} : cmpS a b < 0 ↔ a.toList < b.toList := by
  unfold cmpS
  rw [less_eq]
  by_cases h : a.toList < b.toList
  · simp [h]
  · simp only [h, decide_false, Bool.false_eq_true, if_false]
    split <;> simp

theorem cmpS_eq {a b : ByteArray} : cmpS a b = 0 ↔ a.toList = b.toList := by
  unfold cmpS
  rw [less_eq]
  by_cases h : a.toList < b.toList
  · simp only [h, decide_true, if_true]
    refine ⟨fun h => by omega, fun e => ?_⟩
    rw [e] at h
    exact absurd h (List.lt_irrefl _)
  · simp only [h, decide_false, Bool.false_eq_true, if_false]
    by_cases e : a.toList = b.toList <;> simp [e]

theorem cmpS_gt {a b : ByteArray} : 0 < cmpS a b ↔ b.toList < a.toList := by
  constructor
  · intro h
    refine Classical.byContradiction fun hn => ?_
    have h1 : ¬ a.toList < b.toList := fun h1 => by have := cmpS_lt.2 h1; omega
    have := cmpS_eq.2 (List.le_antisymm (List.not_lt.1 hn) (List.not_lt.1 h1))
    omega
  · intro h
    rcases (show cmpS a b < 0 ∨ cmpS a b = 0 ∨ 0 < cmpS a b by omega) with h1 | h1 | h1
    · exact absurd (List.lt_trans h (cmpS_lt.1 h1)) (List.lt_irrefl _)
    · rw [cmpS_eq.1 h1] at h; exact absurd h (List.lt_irrefl _)
    · exact h1

theorem cmpS_val (a b : ByteArray) : cmpS a b = -1 ∨ cmpS a b = 0 ∨ cmpS a b = 1 := by
  unfold cmpS
  split
  · simp
  · split <;> simp

theorem cmpS_ord : Ordr cmpS where
  anti := fun a b => by
    rcases cmpS_val a b with h | h | h
    · have h1 := cmpS_gt.2 (cmpS_lt.1 (show cmpS a b < 0 by omega))
      have := cmpS_val b a; omega
    · have h1 := cmpS_eq.2 (cmpS_eq.1 h).symm
      omega
    · have h1 := cmpS_lt.2 (cmpS_gt.1 (show 0 < cmpS a b by omega))
      have := cmpS_val b a; omega
  trans := fun a b d h1 h2 => by
    rcases (show cmpS a b < 0 ∨ cmpS a b = 0 by omega) with g1 | g1
    · rcases (show cmpS b d < 0 ∨ cmpS b d = 0 by omega) with g2 | g2
      · exact Int.le_of_lt (cmpS_lt.2 (List.lt_trans (cmpS_lt.1 g1) (cmpS_lt.1 g2)))
      · refine Int.le_of_lt (cmpS_lt.2 ?_); rw [← cmpS_eq.1 g2]; exact cmpS_lt.1 g1
    · rcases (show cmpS b d < 0 ∨ cmpS b d = 0 by omega) with g2 | g2
      · refine Int.le_of_lt (cmpS_lt.2 ?_); rw [cmpS_eq.1 g1]; exact cmpS_lt.1 g2
      · exact Int.le_of_eq (cmpS_eq.2 ((cmpS_eq.1 g1).trans (cmpS_eq.1 g2)))

set_option maxRecDepth 100000 in
theorem isNaNS_any (a : ByteArray) (w : World) : Calls Tryd.prog 61 #[.string a] w fun e w' => e = .returned (.bool false) ∧ w' = w := by
  go_enter Tryd.func61, Tryd.ntmps61
  go_wp2_with fail
  go_ret
  exact ⟨by simp, rfl⟩

set_option maxRecDepth 100000 in
theorem cmpS_any (a b : ByteArray) (w : World) : Calls Tryd.prog 44 #[.string a, .string b] w fun e w' => e = .returned (.int .i64 (cmpS a b)) ∧ w' = w := by
  have NA := hide (isNaNS_any a w)
  have NB := hide (isNaNS_any b w)
  unfold cmpS
  go_enter Tryd.func44, Tryd.ntmps44
  go_wp2_with fail
  refine NA.out.mono ?_
  rintro e w' ⟨rfl, hq⟩
  obtain rfl := hq.symm
  clear hq
  go_wp2_with fail
  refine NB.out.mono ?_
  rintro e w' ⟨rfl, hq⟩
  obtain rfl := hq.symm
  clear hq
  cases h1 : Op.bytesLess a.toList b.toList <;> cases h2 : (a.toList == b.toList)
  all_goals
    go_wp2_with fail
    all_goals
      go_ret
      exact ⟨by simp, rfl⟩

/-- cmp.Compare of texts as an order. -/
theorem cmpOf : Cmp 44 #[] cmpS (fun _ => True) where
  enter := fun args w => by kernel_rfl
  calls := fun a b w _ => cmpS_any a b w
  calm := fun _ _ _ _ => trivial

end Go.Proofs.YtamfcmmhmfhhkaaDoor.LM

namespace Go.Proofs.YtamfcmmhmfhhkaaDoor
open Go.RowKit

/-- How two numbers compare. -/
def cmpZ (a b : Int) : Int := if a < b then -1 else if b < a then 1 else 0

set_option maxRecDepth 100000 in
theorem isNaNZ_any (a : Int) (w : World) : Calls Tryd.prog 46 #[.int .i64 a] w fun e w' => e = .returned (.bool false) ∧ w' = w := by
  go_enter Tryd.func46, Tryd.ntmps46
  go_wp2_with fail
  go_ret
  exact ⟨by simp, rfl⟩

set_option maxRecDepth 100000 in
theorem cmpZ_any (a b : Int) (w : World) : Calls Tryd.prog 33 #[.int .i64 a, .int .i64 b] w fun e w' => e = .returned (.int .i64 (cmpZ a b)) ∧ w' = w := by
  have NA := hide (isNaNZ_any a w)
  have NB := hide (isNaNZ_any b w)
  unfold cmpZ
  rcases Int.lt_trichotomy a b with h | h | h
  · go_enter Tryd.func33, Tryd.ntmps33
    go_wp2_with fail
    refine NA.out.mono ?_
    rintro e w' ⟨rfl, hq⟩
    obtain rfl := hq.symm
    clear hq
    go_wp2_with fail
    refine NB.out.mono ?_
    rintro e w' ⟨rfl, hq⟩
    obtain rfl := hq.symm
    clear hq
    go_wp2_with fail
    go_ret
    exact ⟨by simp, rfl⟩
  · subst h
    go_enter Tryd.func33, Tryd.ntmps33
    go_wp2_with fail
    refine NA.out.mono ?_
    rintro e w' ⟨rfl, hq⟩
    obtain rfl := hq.symm
    clear hq
    go_wp2_with fail
    refine NB.out.mono ?_
    rintro e w' ⟨rfl, hq⟩
    obtain rfl := hq.symm
    clear hq
    go_wp2_with fail
    go_ret
    exact ⟨by simp, rfl⟩
  · have h' : ¬ a < b := by omega
    go_enter Tryd.func33, Tryd.ntmps33
    go_wp2_with fail
    refine NA.out.mono ?_
    rintro e w' ⟨rfl, hq⟩
    obtain rfl := hq.symm
    clear hq
    go_wp2_with fail
    refine NB.out.mono ?_
    rintro e w' ⟨rfl, hq⟩
    obtain rfl := hq.symm
    clear hq
    go_wp2_with fail
    go_ret
    exact ⟨by simp, rfl⟩

/-- The first that is not 0. -/
def orN : List Int → Int
  | [] => 0
  | x :: r => if x = 0 then orN r else x
theorem orN_skip : ∀ (L : List Int) (i : Nat), (∀ j, j < i → L.getD j 0 = 0) → i ≤ L.length → orN L = orN (L.drop i)
  | _, 0, _, _ => by rw [List.drop_zero]
  | [], i + 1, _, h => by simp at h
  | x :: r, i + 1, h, hl => by
    have e : x = 0 := h 0 (by omega)
    rw [orN, if_pos e, List.drop_succ_cons]
    exact orN_skip r i (fun j hj => h (j + 1) (by omega)) (by simpa using hl)
theorem orN_at {L : List Int} {i : Nat} (h : ∀ j, j < i → L.getD j 0 = 0) (hl : i < L.length) (hn : L.getD i 0 ≠ 0) : orN L = L.getD i 0 := by
  rw [orN_skip L i h (by omega), List.drop_eq_getElem_cons hl, orN]
  rw [List.getD_eq_getElem?_getD, List.getElem?_eq_getElem hl] at hn ⊢
  exact if_neg hn
theorem orN_none {L : List Int} (h : ∀ j, j < L.length → L.getD j 0 = 0) : orN L = 0 := by
  rw [orN_skip L L.length h (Nat.le_refl _), List.drop_length]
  rfl

/-- A number's cell, in every world that stays calm. -/
theorem in_Wo {w : World} {ao : Option Addr} {L : List Int} (h : encJ.Mem w ao L) (j : Nat) (hj : j < L.length) : ∃ g off, ao = some ⟨g, off, none⟩ ∧ ∀ W, Calm w W → W.cell? ⟨g, off + j, none⟩ = some (.int .i64 (L.getD j 0)) := by
  obtain ⟨g, off, e, -⟩ := Rc.Mem.at h j hj
  refine ⟨g, off, e, fun W hW => ?_⟩
  obtain ⟨g2, off2, e2, k⟩ := Rc.Mem.at (Rc.Mem.calm h hW) j hj
  rw [e] at e2
  injection e2 with e2
  injection e2 with e3 e4
  subst e3 e4
  rw [List.getD_eq_getElem?_getD, List.getElem?_eq_getElem hj]
  have := k 0 _ rfl
  have e1 : encJ.n = 1 := rfl
  rwa [e1, Nat.mul_one] at this

set_option maxRecDepth 100000 in
set_option maxHeartbeats 1000000 in
theorem or_any (L : List Int) (ao : Option Addr) (ac : Nat) (w : World) (hm : encJ.Mem w ao L) (hl : L.length ≤ 1000) : Calls Tryd.prog 30 #[.slice ao L.length ac] w fun e w' => e = .returned (.int .i64 (orN L)) ∧ Calm w w' := by
  have SA : Hid (∀ j, j < L.length → ∃ g off, ao = some ⟨g, off, none⟩ ∧ ∀ W, Calm w W → W.cell? ⟨g, off + j, none⟩ = some (.int .i64 (L.getD j 0))) := hide fun j hj => in_Wo hm j hj
  have OA : Hid (∀ i, (∀ j, j < i → L.getD j 0 = 0) → i < L.length → L.getD i 0 ≠ 0 → orN L = L.getD i 0) := hide fun i h1 h2 h3 => orN_at h1 h2 h3
  have ON : Hid ((∀ j, j < L.length → L.getD j 0 = 0) → orN L = 0) := hide orN_none
  obtain ⟨x, hx⟩ : ∃ x : Nat → Int, ∀ i, L.getD i 0 = x i := ⟨fun i => L.getD i 0, fun _ => rfl⟩
  simp only [hx] at SA OA ON
  clear hm hx
  generalize orN L = R at *
  generalize L.length = n at *
  go_enter Tryd.func30, Tryd.ntmps30
  go_wp2_with fail
  go_loopw [8] (fun s8 wr => ∃ i : Nat, s8 = .int .i64 (i : Int) ∧ i ≤ n ∧ (∀ j, j < i → x j = 0) ∧ Calm w wr) (fun s8 _ => n - (intOf s8).toNat)
  case atStart => exact ⟨0, rfl, by omega, fun j hj => by omega, Touch.refl _ _⟩
  case round =>
    obtain ⟨i, rfl, hi, h0, TE⟩ := hrel
    by_cases hlt : i < n
    · have hltz : (i : Int) < (n : Int) := by omega
      obtain ⟨g, off, rfl, ck⟩ := SA.out i hlt
      have c0 := ck wr TE
      have HT := hide TE
      by_cases hz : x i = 0
      · have hb : (x i != 0) = false := by rw [bne_eq_false_iff_eq]; exact hz
        have H0 : Hid (∀ j, j < i + 1 → x j = 0) := hide fun j hj => by
          by_cases e : j = i
          · subst e; exact hz
          · exact h0 j (by omega)
        clear SA OA ON h0 TE ck hz
        generalize x i = y at *
        go_wp2_with fail
        go_roundw
        case rel => exact ⟨i + 1, by go_num, by omega, H0.out, HT.out⟩
        case measure => simp [intOf]; omega
      · have hb : (x i != 0) = true := by rw [bne_iff_ne]; exact hz
        have HR := hide (OA.out i h0 hlt hz)
        clear SA OA ON h0 TE ck hz
        generalize x i = y at *
        go_wp2_with fail
        go_ret
        exact ⟨by rw [HR.out]; rfl, HT.out⟩
    · have hltz : ¬ (i : Int) < (n : Int) := by omega
      obtain rfl : i = n := by omega
      have HR := hide (ON.out h0)
      have HT := hide TE
      clear SA OA ON h0 TE
      go_wp2_with fail
      go_ret
      exact ⟨by rw [HR.out]; rfl, HT.out⟩

/-- How two panes compare by their windows alone. -/
def cmpW (p q : Pn) : Int := orN [LM.cmpS p.k q.k, cmpZ p.a q.a, cmpZ p.b q.b]

set_option maxRecDepth 100000 in
set_option maxHeartbeats 4000000 in
theorem cmpW_any (p q : Pn) (w : World) : Calls Tryd.prog 31 #[pnv p, pnv q] w fun e w' => e = .returned (.int .i64 (cmpW p q)) ∧ Calm w w' := by
  have S1 := al_size w (.cells (pnc p) 29)
  have S2 := al_size (w.alloc (.cells (pnc p) 29)) (.cells (pnc q) 29)
  have A0 := al_old (al_new w (.cells (pnc p) 29)) (.cells (pnc q) 29)
  have B0 := al_new (w.alloc (.cells (pnc p) 29)) (.cells (pnc q) 29)
  rw [S1] at B0
  have HA := hide A0
  have HB := hide B0
  have T0 := hide (((Touch.refl (fun _ => False) w).alloc (.cells (pnc p) 29)).alloc (.cells (pnc q) 29))
  have CK := hide (fun W => LM.cmpS_any p.k q.k W)
  have CA := hide (fun W => cmpZ_any p.a q.a W)
  have CB := hide (fun W => cmpZ_any p.b q.b W)
  have HR : Hid (cmpW p q = orN [LM.cmpS p.k q.k, cmpZ p.a q.a, cmpZ p.b q.b]) := hide rfl
  clear A0 B0 S2
  generalize cmpW p q = R at *
  generalize LM.cmpS p.k q.k = x at *
  generalize cmpZ p.a q.a = y at *
  generalize cmpZ p.b q.b = z at *
  have CO := hide (fun (W : World) (g : Nat) (hm : encJ.Mem W (some ⟨g, 0, none⟩) [x, y, z]) => or_any [x, y, z] (some ⟨g, 0, none⟩) 3 W hm (by simp))
  rw [← HR.out] at CO
  have M0 : Hid (∀ W : World, encJ.Mem (W.alloc (.cells #[.int .i64 x, .int .i64 y, .int .i64 z] 3)) (some ⟨W.heap.size, 0, none⟩) [x, y, z]) := hide fun W => Rc.Mem.new W [x, y, z] 3
  clear HR
  go_enter Tryd.func31, Tryd.ntmps31
  go_wp2_with fail
  generalize (w.alloc (.cells (pnc p) 29)).alloc (.cells (pnc q) 29) = w1 at *
  generalize w.heap.size = D at *
  refine wp_region_held (S := Calm w1) (by kernel_rfl) ?_
  have hT0 : Calm w1 { w1 with drawn := w1.drawn + 1 } := (Touch.refl _ w1).drew
  refine wpAnyH_yield 0 5 (.pointer (some ⟨D, 0, none⟩)) rfl rfl (by kernel_rfl) (by kernel_rfl) (by kernel_rfl) (fun _ _ _ h => h) (by kernel_rfl) (fun W hW => by go_simp) (by assumption) rfl rfl ?_
  simp only [Act.put, List.setIfInBounds_toArray, List.set_cons_zero, List.set_cons_succ]
  refine wpAnyH_yield 1 6 (.string p.k) rfl rfl (by kernel_rfl) (by kernel_rfl) (by kernel_rfl) (fun _ _ _ h => h) (by kernel_rfl) (fun W hW => by obtain ⟨⟨q, -⟩, -⟩ := pn_cells (hW.at HA.out); go_simp) (by assumption) rfl rfl ?_
  simp only [Act.put, List.setIfInBounds_toArray, List.set_cons_zero, List.set_cons_succ]
  refine wpAnyH_yield 2 7 (.pointer (some ⟨D + 1, 0, none⟩)) rfl rfl (by kernel_rfl) (by kernel_rfl) (by kernel_rfl) (fun _ _ _ h => h) (by kernel_rfl) (fun W hW => by go_simp) (by assumption) rfl rfl ?_
  simp only [Act.put, List.setIfInBounds_toArray, List.set_cons_zero, List.set_cons_succ]
  refine wpAnyH_yield 3 8 (.string q.k) rfl rfl (by kernel_rfl) (by kernel_rfl) (by kernel_rfl) (fun _ _ _ h => h) (by kernel_rfl) (fun W hW => by obtain ⟨⟨q, -⟩, -⟩ := pn_cells (hW.at HB.out); go_simp) (by assumption) rfl rfl ?_
  simp only [Act.put, List.setIfInBounds_toArray, List.set_cons_zero, List.set_cons_succ]
  refine wpAnyH_yield 5 10 (.pointer (some ⟨D, 1, none⟩)) rfl rfl (by kernel_rfl) (by kernel_rfl) (by kernel_rfl) (fun _ _ _ h => h) (by kernel_rfl) (fun W hW => by go_simp) (by assumption) rfl rfl ?_
  simp only [Act.put, List.setIfInBounds_toArray, List.set_cons_zero, List.set_cons_succ]
  refine wpAnyH_yield 6 11 (.pointer (some ⟨D, 1, none⟩)) rfl rfl (by kernel_rfl) (by kernel_rfl) (by kernel_rfl) (fun _ _ _ h => h) (by kernel_rfl) (fun W hW => by go_simp) (by assumption) rfl rfl ?_
  simp only [Act.put, List.setIfInBounds_toArray, List.set_cons_zero, List.set_cons_succ]
  refine wpAnyH_yield 7 12 (.int .i64 p.a) rfl rfl (by kernel_rfl) (by kernel_rfl) (by kernel_rfl) (fun _ _ _ h => h) (by kernel_rfl) (fun W hW => by obtain ⟨⟨-, q, -⟩, -⟩ := pn_cells (hW.at HA.out); go_simp) (by assumption) rfl rfl ?_
  simp only [Act.put, List.setIfInBounds_toArray, List.set_cons_zero, List.set_cons_succ]
  refine wpAnyH_yield 8 13 (.pointer (some ⟨D + 1, 1, none⟩)) rfl rfl (by kernel_rfl) (by kernel_rfl) (by kernel_rfl) (fun _ _ _ h => h) (by kernel_rfl) (fun W hW => by go_simp) (by assumption) rfl rfl ?_
  simp only [Act.put, List.setIfInBounds_toArray, List.set_cons_zero, List.set_cons_succ]
  refine wpAnyH_yield 9 14 (.pointer (some ⟨D + 1, 1, none⟩)) rfl rfl (by kernel_rfl) (by kernel_rfl) (by kernel_rfl) (fun _ _ _ h => h) (by kernel_rfl) (fun W hW => by go_simp) (by assumption) rfl rfl ?_
  simp only [Act.put, List.setIfInBounds_toArray, List.set_cons_zero, List.set_cons_succ]
  refine wpAnyH_yield 10 15 (.int .i64 q.a) rfl rfl (by kernel_rfl) (by kernel_rfl) (by kernel_rfl) (fun _ _ _ h => h) (by kernel_rfl) (fun W hW => by obtain ⟨⟨-, q, -⟩, -⟩ := pn_cells (hW.at HB.out); go_simp) (by assumption) rfl rfl ?_
  simp only [Act.put, List.setIfInBounds_toArray, List.set_cons_zero, List.set_cons_succ]
  refine wpAnyH_yield 12 17 (.pointer (some ⟨D, 1, none⟩)) rfl rfl (by kernel_rfl) (by kernel_rfl) (by kernel_rfl) (fun _ _ _ h => h) (by kernel_rfl) (fun W hW => by go_simp) (by assumption) rfl rfl ?_
  simp only [Act.put, List.setIfInBounds_toArray, List.set_cons_zero, List.set_cons_succ]
  refine wpAnyH_yield 13 18 (.pointer (some ⟨D, 2, none⟩)) rfl rfl (by kernel_rfl) (by kernel_rfl) (by kernel_rfl) (fun _ _ _ h => h) (by kernel_rfl) (fun W hW => by go_simp) (by assumption) rfl rfl ?_
  simp only [Act.put, List.setIfInBounds_toArray, List.set_cons_zero, List.set_cons_succ]
  refine wpAnyH_yield 14 19 (.int .i64 p.b) rfl rfl (by kernel_rfl) (by kernel_rfl) (by kernel_rfl) (fun _ _ _ h => h) (by kernel_rfl) (fun W hW => by obtain ⟨⟨-, -, q, -⟩, -⟩ := pn_cells (hW.at HA.out); go_simp) (by assumption) rfl rfl ?_
  simp only [Act.put, List.setIfInBounds_toArray, List.set_cons_zero, List.set_cons_succ]
  refine wpAnyH_yield 15 20 (.pointer (some ⟨D + 1, 1, none⟩)) rfl rfl (by kernel_rfl) (by kernel_rfl) (by kernel_rfl) (fun _ _ _ h => h) (by kernel_rfl) (fun W hW => by go_simp) (by assumption) rfl rfl ?_
  simp only [Act.put, List.setIfInBounds_toArray, List.set_cons_zero, List.set_cons_succ]
  refine wpAnyH_yield 16 21 (.pointer (some ⟨D + 1, 2, none⟩)) rfl rfl (by kernel_rfl) (by kernel_rfl) (by kernel_rfl) (fun _ _ _ h => h) (by kernel_rfl) (fun W hW => by go_simp) (by assumption) rfl rfl ?_
  simp only [Act.put, List.setIfInBounds_toArray, List.set_cons_zero, List.set_cons_succ]
  refine wpAnyH_yield 17 22 (.int .i64 q.b) rfl rfl (by kernel_rfl) (by kernel_rfl) (by kernel_rfl) (fun _ _ _ h => h) (by kernel_rfl) (fun W hW => by obtain ⟨⟨-, -, q, -⟩, -⟩ := pn_cells (hW.at HB.out); go_simp) (by assumption) rfl rfl ?_
  simp only [Act.put, List.setIfInBounds_toArray, List.set_cons_zero, List.set_cons_succ]
  refine wpAnyH_enter 4 9 44 #[.string p.k, .string q.k] rfl rfl (by kernel_rfl) (by kernel_rfl) (by kernel_rfl) ?_
  refine (CK.out _).mono ?_
  rintro r _ ⟨rfl, rfl⟩
  refine ⟨_, rfl, hT0, ?_⟩
  simp only [Act.put, List.setIfInBounds_toArray, List.set_cons_zero, List.set_cons_succ]
  refine wpAnyH_enter 11 16 33 #[.int .i64 p.a, .int .i64 q.a] rfl rfl (by kernel_rfl) (by kernel_rfl) (by kernel_rfl) ?_
  refine (CA.out _).mono ?_
  rintro r _ ⟨rfl, rfl⟩
  refine ⟨_, rfl, hT0, ?_⟩
  simp only [Act.put, List.setIfInBounds_toArray, List.set_cons_zero, List.set_cons_succ]
  refine wpAnyH_enter 18 23 33 #[.int .i64 p.b, .int .i64 q.b] rfl rfl (by kernel_rfl) (by kernel_rfl) (by kernel_rfl) ?_
  refine (CB.out _).mono ?_
  rintro r _ ⟨rfl, rfl⟩
  refine ⟨_, rfl, hT0, ?_⟩
  simp only [Act.put, List.setIfInBounds_toArray, List.set_cons_zero, List.set_cons_succ]
  generalize ({ w1 with drawn := w1.drawn + 1 } : World) = w2 at *
  have M1 := M0.out w2
  have hT2 : Calm w1 (w2.alloc (.cells #[.int .i64 x, .int .i64 y, .int .i64 z] 3)) := hT0.alloc _
  refine wpAnyH_value 19 24 (.slice (some ⟨w2.heap.size, 0, none⟩) 3 3) (w' := w2.alloc (.cells #[.int .i64 x, .int .i64 y, .int .i64 z] 3)) rfl rfl (by kernel_rfl) (by kernel_rfl) (by go_simp) hT2 ?_
  simp only [Act.put, List.setIfInBounds_toArray, List.set_cons_zero, List.set_cons_succ]
  generalize w2.alloc (.cells #[.int .i64 x, .int .i64 y, .int .i64 z] 3) = w3 at *
  refine wpAnyH_enter 20 25 30 #[.slice (some ⟨w2.heap.size, 0, none⟩) 3 3] rfl rfl (by kernel_rfl) (by kernel_rfl) (by kernel_rfl) ?_
  refine (CO.out _ _ M1).mono ?_
  rintro r w4 ⟨rfl, T4⟩
  have hT4 : Calm w1 w4 := hT2.tr T4
  refine ⟨_, rfl, hT4, ?_⟩
  simp only [Act.put, List.setIfInBounds_toArray, List.set_cons_zero, List.set_cons_succ]
  refine wpAnyH_yield 21 4 (.int .i64 R) rfl rfl (by kernel_rfl) (by kernel_rfl) (by kernel_rfl) (fun _ _ _ h => h) (by kernel_rfl) (fun W hW => by kernel_rfl) (by assumption) rfl rfl ?_
  simp only [Act.put, List.setIfInBounds_toArray, List.set_cons_zero, List.set_cons_succ]
  refine wpAnyH_done (by kernel_rfl) ?_ _
  have HF := hide (T0.out.tr hT4)
  clear hT0 hT2 T4 hT4 M1
  go_wp2_with fail
  go_ret
  exact ⟨rfl, HF.out⟩

end Go.Proofs.YtamfcmmhmfhhkaaDoor

namespace Go.Proofs.YtamfcmmhmfhhkaaDoor
open Go.RowKit

set_option maxRecDepth 100000 in
theorem isNaNK_any (a : Int) (w : World) : Calls Tryd.prog 45 #[.int .i64 a] w fun e w' => e = .returned (.bool false) ∧ w' = w := by
  go_enter Tryd.func45, Tryd.ntmps45
  go_wp2_with fail
  go_ret
  exact ⟨by simp, rfl⟩

set_option maxRecDepth 100000 in
theorem cmpK_any (a b : Int) (w : World) : Calls Tryd.prog 32 #[.int .i64 a, .int .i64 b] w fun e w' => e = .returned (.int .i64 (cmpZ a b)) ∧ w' = w := by
  have NA := hide (isNaNK_any a w)
  have NB := hide (isNaNK_any b w)
  unfold cmpZ
  rcases Int.lt_trichotomy a b with h | h | h
  · go_enter Tryd.func32, Tryd.ntmps32
    go_wp2_with fail
    refine NA.out.mono ?_
    rintro e w' ⟨rfl, hq⟩
    obtain rfl := hq.symm
    clear hq
    go_wp2_with fail
    refine NB.out.mono ?_
    rintro e w' ⟨rfl, hq⟩
    obtain rfl := hq.symm
    clear hq
    go_wp2_with fail
    go_ret
    exact ⟨by simp, rfl⟩
  · subst h
    go_enter Tryd.func32, Tryd.ntmps32
    go_wp2_with fail
    refine NA.out.mono ?_
    rintro e w' ⟨rfl, hq⟩
    obtain rfl := hq.symm
    clear hq
    go_wp2_with fail
    refine NB.out.mono ?_
    rintro e w' ⟨rfl, hq⟩
    obtain rfl := hq.symm
    clear hq
    go_wp2_with fail
    go_ret
    exact ⟨by simp, rfl⟩
  · have h' : ¬ a < b := by omega
    go_enter Tryd.func32, Tryd.ntmps32
    go_wp2_with fail
    refine NA.out.mono ?_
    rintro e w' ⟨rfl, hq⟩
    obtain rfl := hq.symm
    clear hq
    go_wp2_with fail
    refine NB.out.mono ?_
    rintro e w' ⟨rfl, hq⟩
    obtain rfl := hq.symm
    clear hq
    go_wp2_with fail
    go_ret
    exact ⟨by simp, rfl⟩

theorem cmpZ_lt {a b : Int} (h : a < b) : cmpZ a b = -1 := if_pos h
theorem cmpZ_gt {a b : Int} (h : b < a) : cmpZ a b = 1 := by unfold cmpZ; rw [if_neg (by omega), if_pos h]
theorem cmpZ_eq (a : Int) : cmpZ a a = 0 := by unfold cmpZ; rw [if_neg (by omega), if_neg (by omega)]
theorem orN_cmp : ∀ (X Y : List Int), X.length = Y.length → orN (List.zipWith cmpZ X Y) = cmpL X Y
  | [], [], _ => rfl
  | [], _ :: _, h => by simp at h
  | _ :: _, [], h => by simp at h
  | x :: X, y :: Y, h => by
    have ih := orN_cmp X Y (by simpa using h)
    rw [List.zipWith_cons_cons, orN, cmpL]
    rcases Int.lt_trichotomy x y with g | g | g
    · rw [cmpZ_lt g, if_neg (by decide), if_pos g]
    · subst g
      rw [cmpZ_eq, if_pos rfl, if_neg (by omega), if_neg (by omega), ih]
    · rw [cmpZ_gt g, if_neg (by decide), if_neg (by omega), if_pos g]
theorem orN_zero (B : List Int) : orN (0 :: B) = orN B := by rw [orN, if_pos rfl]
theorem orN_ne {x : Int} (h : x ≠ 0) (B : List Int) : orN (x :: B) = x := by rw [orN, if_neg h]
theorem orN_or (A B : List Int) : orN (orN A :: B) = orN (A ++ B) := by
  induction A with
  | nil => exact orN_zero B
  | cons x A ih =>
    by_cases h : x = 0
    · subst h
      rw [orN_zero, List.cons_append, orN_zero, ih]
    · rw [orN_ne h, List.cons_append, orN_ne h, orN_ne h]
theorem cmpP_or (p q : Pn) : cmpP p q = orN [cmpW p q, cmpZ p.d q.d, cmpZ p.n q.n, cmpZ p.t.c q.t.c, cmpZ p.t.s q.t.s, cmpZ p.t.m q.t.m, cmpZ p.t.x q.t.x] := by
  unfold cmpW
  rw [orN_or]
  have e := orN_cmp (numsC p) (numsC q) rfl
  have e2 : List.zipWith cmpZ (numsC p) (numsC q) = [cmpZ p.a q.a, cmpZ p.b q.b, cmpZ p.d q.d, cmpZ p.n q.n, cmpZ p.t.c q.t.c, cmpZ p.t.s q.t.s, cmpZ p.t.m q.t.m, cmpZ p.t.x q.t.x] := rfl
  rw [e2] at e
  show _ = orN (LM.cmpS p.k q.k :: [cmpZ p.a q.a, cmpZ p.b q.b, cmpZ p.d q.d, cmpZ p.n q.n, cmpZ p.t.c q.t.c, cmpZ p.t.s q.t.s, cmpZ p.t.m q.t.m, cmpZ p.t.x q.t.x])
  unfold cmpP kLt
  by_cases h : Op.bytesLess p.k.toList q.k.toList = true
  · have hS : LM.cmpS p.k q.k = -1 := by unfold LM.cmpS; rw [if_pos h]
    rw [hS, orN_ne (by decide), if_pos h]
  · have hb := ba_beq p.k q.k
    rw [if_neg h]
    by_cases hk : p.k = q.k
    · have hS : LM.cmpS p.k q.k = 0 := by unfold LM.cmpS; rw [if_neg h, hb, decide_eq_true hk, if_pos rfl]
      rw [hS, orN_zero, e, if_pos hk]
    · have hS : LM.cmpS p.k q.k = 1 := by unfold LM.cmpS; rw [if_neg h, hb, decide_eq_false hk, if_neg (by decide)]
      rw [hS, orN_ne (by decide), if_neg hk]
theorem cmpP_same (p : Pn) : cmpP p p = 0 := by
  unfold cmpP
  have h : kLt p.k p.k = false := by
    unfold kLt
    rw [LM.less_eq]
    exact decide_eq_false (List.lt_irrefl _)
  rw [h, if_neg (by decide), if_pos rfl, cmpL_eq]

theorem pn_eql (p q : Pn) (W : World) : (binOp .eql 29 (pnv p) (pnv q)).run Tryd.prog W = .ok (.bool (decide (p = q))) W := by
  have h := pn_ifs p q (fun b => (Result.ok (Value.bool (!b)) W : Result Value))
  simp only [Bool.not_not, Bool.not_false, Bool.not_true] at h
  rw [← h]
  go_simp

set_option maxRecDepth 100000 in
set_option maxHeartbeats 4000000 in
theorem compare_any (p q : Pn) (w : World) : Calls Tryd.prog 13 #[pnv p, pnv q] w fun e w' => e = .returned (.int .i64 (cmpP p q)) ∧ Calm w w' := by
  have S1 := al_size w (.cells (pnc p) 29)
  have A0 := al_old (al_new w (.cells (pnc p) 29)) (.cells (pnc q) 29)
  have B0 := al_new (w.alloc (.cells (pnc p) 29)) (.cells (pnc q) 29)
  rw [S1] at B0
  have HA := hide A0
  have HB := hide B0
  have T0 := hide (((Touch.refl (fun _ => False) w).alloc (.cells (pnc p) 29)).alloc (.cells (pnc q) 29))
  have EQ : Hid (∀ W : World, (binOp .eql 29 (pnv p) (pnv q)).run Tryd.prog W = .ok (.bool (decide (p = q))) W) := hide fun W => pn_eql p q W
  have CW := hide (fun W => cmpW_any p q W)
  have CD := hide (fun W => cmpK_any p.d q.d W)
  have CN := hide (fun W => cmpZ_any p.n q.n W)
  have CC := hide (fun W => cmpZ_any p.t.c q.t.c W)
  have CS := hide (fun W => cmpZ_any p.t.s q.t.s W)
  have CM := hide (fun W => cmpZ_any p.t.m q.t.m W)
  have CX := hide (fun W => cmpZ_any p.t.x q.t.x W)
  have HR := hide (cmpP_or p q)
  have HE : Hid (p = q → cmpP p q = 0) := hide (fun h => by rw [h]; exact cmpP_same q)
  clear A0 B0
  generalize cmpP p q = R at *
  generalize cmpW p q = x0 at *
  generalize cmpZ p.d q.d = x1 at *
  generalize cmpZ p.n q.n = x2 at *
  generalize cmpZ p.t.c q.t.c = x3 at *
  generalize cmpZ p.t.s q.t.s = x4 at *
  generalize cmpZ p.t.m q.t.m = x5 at *
  generalize cmpZ p.t.x q.t.x = x6 at *
  have CO := hide (fun (W : World) (g : Nat) (hm : encJ.Mem W (some ⟨g, 0, none⟩) [x0, x1, x2, x3, x4, x5, x6]) => or_any [x0, x1, x2, x3, x4, x5, x6] (some ⟨g, 0, none⟩) 7 W hm (by simp))
  rw [← HR.out] at CO
  have M0 : Hid (∀ W : World, encJ.Mem (W.alloc (.cells #[.int .i64 x0, .int .i64 x1, .int .i64 x2, .int .i64 x3, .int .i64 x4, .int .i64 x5, .int .i64 x6] 3)) (some ⟨W.heap.size, 0, none⟩) [x0, x1, x2, x3, x4, x5, x6]) := hide fun W => Rc.Mem.new W [x0, x1, x2, x3, x4, x5, x6] 3
  clear HR
  obtain ⟨⟨a0, a1, a2, a3, a4⟩, a5, a6, a7, a8⟩ := pn_cells HA.out
  obtain ⟨⟨b0, b1, b2, b3, b4⟩, b5, b6, b7, b8⟩ := pn_cells HB.out
  have eq := EQ.out
  clear EQ
  by_cases he : p = q
  · have hr := HE.out he
    rw [decide_eq_true he] at eq
    have HR := hide hr
    clear HE he hr CW CD CN CC CS CM CX CO M0
    go_enter Tryd.func13, Tryd.ntmps13
    go_wp2_with fail
    go_ret
    exact ⟨by rw [HR.out]; rfl, T0.out⟩
  rw [decide_eq_false he] at eq
  clear HE he
  go_enter Tryd.func13, Tryd.ntmps13
  go_wp2_with fail
  clear eq a0 a1 a2 a3 a4 a5 a6 a7 a8 b0 b1 b2 b3 b4 b5 b6 b7 b8
  generalize (w.alloc (.cells (pnc p) 29)).alloc (.cells (pnc q) 29) = w1 at *
  generalize w.heap.size = D at *
  refine wp_region_held (S := Calm w1) (by kernel_rfl) ?_
  have hT0 : Calm w1 { w1 with drawn := w1.drawn + 1 } := (Touch.refl _ w1).drew
  refine wpAnyH_yield 0 8 (pnv p) rfl rfl (by kernel_rfl) (by kernel_rfl) (by kernel_rfl) (fun _ _ _ h => h) (by kernel_rfl) (fun W hW => by obtain ⟨⟨c0, c1, c2, c3, c4⟩, c5, c6, c7, c8⟩ := pn_cells (hW.at HA.out); go_simp) (by assumption) rfl rfl ?_
  simp only [Act.put, List.setIfInBounds_toArray, List.set_cons_zero, List.set_cons_succ]
  refine wpAnyH_yield 1 9 (pnv q) rfl rfl (by kernel_rfl) (by kernel_rfl) (by kernel_rfl) (fun _ _ _ h => h) (by kernel_rfl) (fun W hW => by obtain ⟨⟨c0, c1, c2, c3, c4⟩, c5, c6, c7, c8⟩ := pn_cells (hW.at HB.out); go_simp) (by assumption) rfl rfl ?_
  simp only [Act.put, List.setIfInBounds_toArray, List.set_cons_zero, List.set_cons_succ]
  refine wpAnyH_yield 3 11 (.pointer (some ⟨D, 3, none⟩)) rfl rfl (by kernel_rfl) (by kernel_rfl) (by kernel_rfl) (fun _ _ _ h => h) (by kernel_rfl) (fun W hW => by go_simp) (by assumption) rfl rfl ?_
  simp only [Act.put, List.setIfInBounds_toArray, List.set_cons_zero, List.set_cons_succ]
  refine wpAnyH_yield 4 12 (.int .i64 p.d) rfl rfl (by kernel_rfl) (by kernel_rfl) (by kernel_rfl) (fun _ _ _ h => h) (by kernel_rfl) (fun W hW => by obtain ⟨⟨-, -, -, q, -⟩, -⟩ := pn_cells (hW.at HA.out); go_simp) (by assumption) rfl rfl ?_
  simp only [Act.put, List.setIfInBounds_toArray, List.set_cons_zero, List.set_cons_succ]
  refine wpAnyH_yield 5 13 (.pointer (some ⟨D + 1, 3, none⟩)) rfl rfl (by kernel_rfl) (by kernel_rfl) (by kernel_rfl) (fun _ _ _ h => h) (by kernel_rfl) (fun W hW => by go_simp) (by assumption) rfl rfl ?_
  simp only [Act.put, List.setIfInBounds_toArray, List.set_cons_zero, List.set_cons_succ]
  refine wpAnyH_yield 6 14 (.int .i64 q.d) rfl rfl (by kernel_rfl) (by kernel_rfl) (by kernel_rfl) (fun _ _ _ h => h) (by kernel_rfl) (fun W hW => by obtain ⟨⟨-, -, -, q, -⟩, -⟩ := pn_cells (hW.at HB.out); go_simp) (by assumption) rfl rfl ?_
  simp only [Act.put, List.setIfInBounds_toArray, List.set_cons_zero, List.set_cons_succ]
  refine wpAnyH_yield 8 16 (.pointer (some ⟨D, 4, none⟩)) rfl rfl (by kernel_rfl) (by kernel_rfl) (by kernel_rfl) (fun _ _ _ h => h) (by kernel_rfl) (fun W hW => by go_simp) (by assumption) rfl rfl ?_
  simp only [Act.put, List.setIfInBounds_toArray, List.set_cons_zero, List.set_cons_succ]
  refine wpAnyH_yield 9 17 (.int .i64 p.n) rfl rfl (by kernel_rfl) (by kernel_rfl) (by kernel_rfl) (fun _ _ _ h => h) (by kernel_rfl) (fun W hW => by obtain ⟨⟨-, -, -, -, q⟩, -⟩ := pn_cells (hW.at HA.out); go_simp) (by assumption) rfl rfl ?_
  simp only [Act.put, List.setIfInBounds_toArray, List.set_cons_zero, List.set_cons_succ]
  refine wpAnyH_yield 10 18 (.pointer (some ⟨D + 1, 4, none⟩)) rfl rfl (by kernel_rfl) (by kernel_rfl) (by kernel_rfl) (fun _ _ _ h => h) (by kernel_rfl) (fun W hW => by go_simp) (by assumption) rfl rfl ?_
  simp only [Act.put, List.setIfInBounds_toArray, List.set_cons_zero, List.set_cons_succ]
  refine wpAnyH_yield 11 19 (.int .i64 q.n) rfl rfl (by kernel_rfl) (by kernel_rfl) (by kernel_rfl) (fun _ _ _ h => h) (by kernel_rfl) (fun W hW => by obtain ⟨⟨-, -, -, -, q⟩, -⟩ := pn_cells (hW.at HB.out); go_simp) (by assumption) rfl rfl ?_
  simp only [Act.put, List.setIfInBounds_toArray, List.set_cons_zero, List.set_cons_succ]
  refine wpAnyH_yield 13 21 (.pointer (some ⟨D, 5, none⟩)) rfl rfl (by kernel_rfl) (by kernel_rfl) (by kernel_rfl) (fun _ _ _ h => h) (by kernel_rfl) (fun W hW => by go_simp) (by assumption) rfl rfl ?_
  simp only [Act.put, List.setIfInBounds_toArray, List.set_cons_zero, List.set_cons_succ]
  refine wpAnyH_yield 14 22 (.pointer (some ⟨D, 5, none⟩)) rfl rfl (by kernel_rfl) (by kernel_rfl) (by kernel_rfl) (fun _ _ _ h => h) (by kernel_rfl) (fun W hW => by go_simp) (by assumption) rfl rfl ?_
  simp only [Act.put, List.setIfInBounds_toArray, List.set_cons_zero, List.set_cons_succ]
  refine wpAnyH_yield 15 23 (.int .i64 p.t.c) rfl rfl (by kernel_rfl) (by kernel_rfl) (by kernel_rfl) (fun _ _ _ h => h) (by kernel_rfl) (fun W hW => by obtain ⟨-, q, -⟩ := pn_cells (hW.at HA.out); go_simp) (by assumption) rfl rfl ?_
  simp only [Act.put, List.setIfInBounds_toArray, List.set_cons_zero, List.set_cons_succ]
  refine wpAnyH_yield 16 24 (.pointer (some ⟨D + 1, 5, none⟩)) rfl rfl (by kernel_rfl) (by kernel_rfl) (by kernel_rfl) (fun _ _ _ h => h) (by kernel_rfl) (fun W hW => by go_simp) (by assumption) rfl rfl ?_
  simp only [Act.put, List.setIfInBounds_toArray, List.set_cons_zero, List.set_cons_succ]
  refine wpAnyH_yield 17 25 (.pointer (some ⟨D + 1, 5, none⟩)) rfl rfl (by kernel_rfl) (by kernel_rfl) (by kernel_rfl) (fun _ _ _ h => h) (by kernel_rfl) (fun W hW => by go_simp) (by assumption) rfl rfl ?_
  simp only [Act.put, List.setIfInBounds_toArray, List.set_cons_zero, List.set_cons_succ]
  refine wpAnyH_yield 18 26 (.int .i64 q.t.c) rfl rfl (by kernel_rfl) (by kernel_rfl) (by kernel_rfl) (fun _ _ _ h => h) (by kernel_rfl) (fun W hW => by obtain ⟨-, q, -⟩ := pn_cells (hW.at HB.out); go_simp) (by assumption) rfl rfl ?_
  simp only [Act.put, List.setIfInBounds_toArray, List.set_cons_zero, List.set_cons_succ]
  refine wpAnyH_yield 20 28 (.pointer (some ⟨D, 5, none⟩)) rfl rfl (by kernel_rfl) (by kernel_rfl) (by kernel_rfl) (fun _ _ _ h => h) (by kernel_rfl) (fun W hW => by go_simp) (by assumption) rfl rfl ?_
  simp only [Act.put, List.setIfInBounds_toArray, List.set_cons_zero, List.set_cons_succ]
  refine wpAnyH_yield 21 29 (.pointer (some ⟨D, 6, none⟩)) rfl rfl (by kernel_rfl) (by kernel_rfl) (by kernel_rfl) (fun _ _ _ h => h) (by kernel_rfl) (fun W hW => by go_simp) (by assumption) rfl rfl ?_
  simp only [Act.put, List.setIfInBounds_toArray, List.set_cons_zero, List.set_cons_succ]
  refine wpAnyH_yield 22 30 (.int .i64 p.t.s) rfl rfl (by kernel_rfl) (by kernel_rfl) (by kernel_rfl) (fun _ _ _ h => h) (by kernel_rfl) (fun W hW => by obtain ⟨-, -, q, -⟩ := pn_cells (hW.at HA.out); go_simp) (by assumption) rfl rfl ?_
  simp only [Act.put, List.setIfInBounds_toArray, List.set_cons_zero, List.set_cons_succ]
  refine wpAnyH_yield 23 31 (.pointer (some ⟨D + 1, 5, none⟩)) rfl rfl (by kernel_rfl) (by kernel_rfl) (by kernel_rfl) (fun _ _ _ h => h) (by kernel_rfl) (fun W hW => by go_simp) (by assumption) rfl rfl ?_
  simp only [Act.put, List.setIfInBounds_toArray, List.set_cons_zero, List.set_cons_succ]
  refine wpAnyH_yield 24 32 (.pointer (some ⟨D + 1, 6, none⟩)) rfl rfl (by kernel_rfl) (by kernel_rfl) (by kernel_rfl) (fun _ _ _ h => h) (by kernel_rfl) (fun W hW => by go_simp) (by assumption) rfl rfl ?_
  simp only [Act.put, List.setIfInBounds_toArray, List.set_cons_zero, List.set_cons_succ]
  refine wpAnyH_yield 25 33 (.int .i64 q.t.s) rfl rfl (by kernel_rfl) (by kernel_rfl) (by kernel_rfl) (fun _ _ _ h => h) (by kernel_rfl) (fun W hW => by obtain ⟨-, -, q, -⟩ := pn_cells (hW.at HB.out); go_simp) (by assumption) rfl rfl ?_
  simp only [Act.put, List.setIfInBounds_toArray, List.set_cons_zero, List.set_cons_succ]
  refine wpAnyH_yield 27 35 (.pointer (some ⟨D, 5, none⟩)) rfl rfl (by kernel_rfl) (by kernel_rfl) (by kernel_rfl) (fun _ _ _ h => h) (by kernel_rfl) (fun W hW => by go_simp) (by assumption) rfl rfl ?_
  simp only [Act.put, List.setIfInBounds_toArray, List.set_cons_zero, List.set_cons_succ]
  refine wpAnyH_yield 28 36 (.pointer (some ⟨D, 7, none⟩)) rfl rfl (by kernel_rfl) (by kernel_rfl) (by kernel_rfl) (fun _ _ _ h => h) (by kernel_rfl) (fun W hW => by go_simp) (by assumption) rfl rfl ?_
  simp only [Act.put, List.setIfInBounds_toArray, List.set_cons_zero, List.set_cons_succ]
  refine wpAnyH_yield 29 37 (.int .i64 p.t.m) rfl rfl (by kernel_rfl) (by kernel_rfl) (by kernel_rfl) (fun _ _ _ h => h) (by kernel_rfl) (fun W hW => by obtain ⟨-, -, -, q, -⟩ := pn_cells (hW.at HA.out); go_simp) (by assumption) rfl rfl ?_
  simp only [Act.put, List.setIfInBounds_toArray, List.set_cons_zero, List.set_cons_succ]
  refine wpAnyH_yield 30 38 (.pointer (some ⟨D + 1, 5, none⟩)) rfl rfl (by kernel_rfl) (by kernel_rfl) (by kernel_rfl) (fun _ _ _ h => h) (by kernel_rfl) (fun W hW => by go_simp) (by assumption) rfl rfl ?_
  simp only [Act.put, List.setIfInBounds_toArray, List.set_cons_zero, List.set_cons_succ]
  refine wpAnyH_yield 31 39 (.pointer (some ⟨D + 1, 7, none⟩)) rfl rfl (by kernel_rfl) (by kernel_rfl) (by kernel_rfl) (fun _ _ _ h => h) (by kernel_rfl) (fun W hW => by go_simp) (by assumption) rfl rfl ?_
  simp only [Act.put, List.setIfInBounds_toArray, List.set_cons_zero, List.set_cons_succ]
  refine wpAnyH_yield 32 40 (.int .i64 q.t.m) rfl rfl (by kernel_rfl) (by kernel_rfl) (by kernel_rfl) (fun _ _ _ h => h) (by kernel_rfl) (fun W hW => by obtain ⟨-, -, -, q, -⟩ := pn_cells (hW.at HB.out); go_simp) (by assumption) rfl rfl ?_
  simp only [Act.put, List.setIfInBounds_toArray, List.set_cons_zero, List.set_cons_succ]
  refine wpAnyH_yield 34 42 (.pointer (some ⟨D, 5, none⟩)) rfl rfl (by kernel_rfl) (by kernel_rfl) (by kernel_rfl) (fun _ _ _ h => h) (by kernel_rfl) (fun W hW => by go_simp) (by assumption) rfl rfl ?_
  simp only [Act.put, List.setIfInBounds_toArray, List.set_cons_zero, List.set_cons_succ]
  refine wpAnyH_yield 35 43 (.pointer (some ⟨D, 8, none⟩)) rfl rfl (by kernel_rfl) (by kernel_rfl) (by kernel_rfl) (fun _ _ _ h => h) (by kernel_rfl) (fun W hW => by go_simp) (by assumption) rfl rfl ?_
  simp only [Act.put, List.setIfInBounds_toArray, List.set_cons_zero, List.set_cons_succ]
  refine wpAnyH_yield 36 44 (.int .i64 p.t.x) rfl rfl (by kernel_rfl) (by kernel_rfl) (by kernel_rfl) (fun _ _ _ h => h) (by kernel_rfl) (fun W hW => by obtain ⟨-, -, -, -, q⟩ := pn_cells (hW.at HA.out); go_simp) (by assumption) rfl rfl ?_
  simp only [Act.put, List.setIfInBounds_toArray, List.set_cons_zero, List.set_cons_succ]
  refine wpAnyH_yield 37 45 (.pointer (some ⟨D + 1, 5, none⟩)) rfl rfl (by kernel_rfl) (by kernel_rfl) (by kernel_rfl) (fun _ _ _ h => h) (by kernel_rfl) (fun W hW => by go_simp) (by assumption) rfl rfl ?_
  simp only [Act.put, List.setIfInBounds_toArray, List.set_cons_zero, List.set_cons_succ]
  refine wpAnyH_yield 38 46 (.pointer (some ⟨D + 1, 8, none⟩)) rfl rfl (by kernel_rfl) (by kernel_rfl) (by kernel_rfl) (fun _ _ _ h => h) (by kernel_rfl) (fun W hW => by go_simp) (by assumption) rfl rfl ?_
  simp only [Act.put, List.setIfInBounds_toArray, List.set_cons_zero, List.set_cons_succ]
  refine wpAnyH_yield 39 47 (.int .i64 q.t.x) rfl rfl (by kernel_rfl) (by kernel_rfl) (by kernel_rfl) (fun _ _ _ h => h) (by kernel_rfl) (fun W hW => by obtain ⟨-, -, -, -, q⟩ := pn_cells (hW.at HB.out); go_simp) (by assumption) rfl rfl ?_
  simp only [Act.put, List.setIfInBounds_toArray, List.set_cons_zero, List.set_cons_succ]
  refine wpAnyH_enter 2 10 31 #[pnv p, pnv q] rfl rfl (by kernel_rfl) (by kernel_rfl) (by kernel_rfl) ?_
  refine (CW.out _).mono ?_
  rintro r wx ⟨rfl, Tx⟩
  have hT1 : Calm w1 wx := hT0.tr Tx
  refine ⟨_, rfl, hT1, ?_⟩
  simp only [Act.put, List.setIfInBounds_toArray, List.set_cons_zero, List.set_cons_succ]
  refine wpAnyH_enter 7 15 32 #[.int .i64 p.d, .int .i64 q.d] rfl rfl (by kernel_rfl) (by kernel_rfl) (by kernel_rfl) ?_
  refine (CD.out _).mono ?_
  rintro r wy ⟨rfl, hq⟩
  obtain rfl := hq.symm
  refine ⟨_, rfl, hT1, ?_⟩
  simp only [Act.put, List.setIfInBounds_toArray, List.set_cons_zero, List.set_cons_succ]
  refine wpAnyH_enter 12 20 33 #[.int .i64 p.n, .int .i64 q.n] rfl rfl (by kernel_rfl) (by kernel_rfl) (by kernel_rfl) ?_
  refine (CN.out _).mono ?_
  rintro r wy ⟨rfl, hq⟩
  obtain rfl := hq.symm
  refine ⟨_, rfl, hT1, ?_⟩
  simp only [Act.put, List.setIfInBounds_toArray, List.set_cons_zero, List.set_cons_succ]
  refine wpAnyH_enter 19 27 33 #[.int .i64 p.t.c, .int .i64 q.t.c] rfl rfl (by kernel_rfl) (by kernel_rfl) (by kernel_rfl) ?_
  refine (CC.out _).mono ?_
  rintro r wy ⟨rfl, hq⟩
  obtain rfl := hq.symm
  refine ⟨_, rfl, hT1, ?_⟩
  simp only [Act.put, List.setIfInBounds_toArray, List.set_cons_zero, List.set_cons_succ]
  refine wpAnyH_enter 26 34 33 #[.int .i64 p.t.s, .int .i64 q.t.s] rfl rfl (by kernel_rfl) (by kernel_rfl) (by kernel_rfl) ?_
  refine (CS.out _).mono ?_
  rintro r wy ⟨rfl, hq⟩
  obtain rfl := hq.symm
  refine ⟨_, rfl, hT1, ?_⟩
  simp only [Act.put, List.setIfInBounds_toArray, List.set_cons_zero, List.set_cons_succ]
  refine wpAnyH_enter 33 41 33 #[.int .i64 p.t.m, .int .i64 q.t.m] rfl rfl (by kernel_rfl) (by kernel_rfl) (by kernel_rfl) ?_
  refine (CM.out _).mono ?_
  rintro r wy ⟨rfl, hq⟩
  obtain rfl := hq.symm
  refine ⟨_, rfl, hT1, ?_⟩
  simp only [Act.put, List.setIfInBounds_toArray, List.set_cons_zero, List.set_cons_succ]
  refine wpAnyH_enter 40 48 33 #[.int .i64 p.t.x, .int .i64 q.t.x] rfl rfl (by kernel_rfl) (by kernel_rfl) (by kernel_rfl) ?_
  refine (CX.out _).mono ?_
  rintro r wy ⟨rfl, hq⟩
  obtain rfl := hq.symm
  refine ⟨_, rfl, hT1, ?_⟩
  simp only [Act.put, List.setIfInBounds_toArray, List.set_cons_zero, List.set_cons_succ]
  have M1 := M0.out wx
  have hT2 : Calm w1 (wx.alloc (.cells #[.int .i64 x0, .int .i64 x1, .int .i64 x2, .int .i64 x3, .int .i64 x4, .int .i64 x5, .int .i64 x6] 3)) := hT1.alloc _
  refine wpAnyH_value 41 49 (.slice (some ⟨wx.heap.size, 0, none⟩) 7 7) (w' := wx.alloc (.cells #[.int .i64 x0, .int .i64 x1, .int .i64 x2, .int .i64 x3, .int .i64 x4, .int .i64 x5, .int .i64 x6] 3)) rfl rfl (by kernel_rfl) (by kernel_rfl) (by go_simp) hT2 ?_
  simp only [Act.put, List.setIfInBounds_toArray, List.set_cons_zero, List.set_cons_succ]
  generalize wx.alloc (.cells #[.int .i64 x0, .int .i64 x1, .int .i64 x2, .int .i64 x3, .int .i64 x4, .int .i64 x5, .int .i64 x6] 3) = w3 at *
  refine wpAnyH_enter 42 50 30 #[.slice (some ⟨wx.heap.size, 0, none⟩) 7 7] rfl rfl (by kernel_rfl) (by kernel_rfl) (by kernel_rfl) ?_
  refine (CO.out _ _ M1).mono ?_
  rintro r w4 ⟨rfl, T4⟩
  have hT4 : Calm w1 w4 := hT2.tr T4
  refine ⟨_, rfl, hT4, ?_⟩
  simp only [Act.put, List.setIfInBounds_toArray, List.set_cons_zero, List.set_cons_succ]
  refine wpAnyH_yield 43 4 (.int .i64 R) rfl rfl (by kernel_rfl) (by kernel_rfl) (by kernel_rfl) (fun _ _ _ h => h) (by kernel_rfl) (fun W hW => by kernel_rfl) (by assumption) rfl rfl ?_
  simp only [Act.put, List.setIfInBounds_toArray, List.set_cons_zero, List.set_cons_succ]
  refine wpAnyH_done (by kernel_rfl) ?_ _
  have HF := hide (T0.out.tr hT4)
  clear hT0 hT1 hT2 T4 hT4 M1 Tx
  go_wp2_with fail
  go_ret
  exact ⟨rfl, HF.out⟩

end Go.Proofs.YtamfcmmhmfhhkaaDoor
