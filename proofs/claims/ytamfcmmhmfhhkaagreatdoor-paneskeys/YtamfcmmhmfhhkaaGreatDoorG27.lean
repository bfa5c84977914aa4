/- The program's Of. The library's comparisons; the program's compareWindows. The last panes of their windows: the mathematics. Panes by windows in the store: the mathematics. -/
import Derived.Test.YtamfcmmhmfhhkaaGreatDoorG26
import Derived.Test.YtamfcmmhmfhhkaaGreatDoorG5
import Derived.Deep.CutRange
import Derived.Great.BuildSlice
import Derived.Test.YtamfcmmhmfhhkaaGreatDoorG3
import Derived.Test.YtamfcmmhmfhhkaaGreatDoorG23
import Derived.Test.YtamfcmmhmfhhkaaGreatDoorG24
namespace Go.Proofs.YtamfcmmhmfhhkaaGreatDoor
open Go.RowKit

theorem keyB_of {L : List Pn} (h : KeyB L) (k : ByteArray) : KeyB (ofP L k) := fun p hp => h p (by unfold ofP at hp; exact (List.mem_filter.1 hp).1)

set_option maxRecDepth 100000 in
set_option maxHeartbeats 2000000 in
theorem pof_any (L : List Pn) (key : ByteArray) (ao : Option Addr) (ac : Nat) (w : World) (ha : encP.Sl w ao ac L) (hl : L.length ≤ 1000) (hk : KeyB L) : Calls Tryz.prog 9 #[.slice ao L.length ac, .string key] w fun e w' => RetP w e w' (ofP L key) := by
  obtain ⟨x, hx⟩ : ∃ x : Nat → Pn, ∀ i, x i = L.getD i pn0 := ⟨fun i => L.getD i pn0, fun _ => rfl⟩
  have SA : Hid (∀ j, j < L.length → ∃ g off, ao = some ⟨g, off, none⟩ ∧ ∀ W, Calm w W → pcell W g (off + j * 9) (x j)) := hide fun j hj => by
    rw [hx]; exact pn_W ha.mem j hj
  obtain ⟨o, ho⟩ : ∃ o : Nat → List Pn, ∀ i, o i = ofP (L.take i) key := ⟨fun i => ofP (L.take i) key, fun _ => rfl⟩
  have O0 : Hid (o 0 = []) := hide (by rw [ho]; rfl)
  have OS : Hid (∀ i, i < L.length → o (i + 1) = o i ++ (if (x i).k = key then [x i] else [])) := hide fun i hi => by
    rw [ho, ho, hx]; exact ofP_succ hi
  have OL : Hid (∀ i, i ≤ L.length → (o i).length ≤ i) := hide fun i hi => by
    rw [ho]; exact Nat.le_trans (ofP_le _ _) (by rw [List.length_take]; omega)
  have OE : Hid (o L.length = ofP L key) := hide (by rw [ho, List.take_length])
  have HK := hide (keyB_of hk key)
  unfold RetP
  clear ha hx ho hk
  generalize ofP L key = Z at *
  generalize L.length = n at *
  go_enter Tryz.func9, Tryz.ntmps9
  go_wp2_with fail
  go_loopw [5, 10] (fun s5 s10 wr => ∃ (i : Nat) (a : Option Addr) (k : Nat), s10 = .int .i64 (i : Int) ∧ i ≤ n ∧ s5 = .slice a (o i).length k ∧ encP.Own 40 wr w.heap.size (.slice a (o i).length k) (o i) ∧ Calm w wr) (fun _ s10 _ => n - (intOf s10).toNat)
  case atStart => exact ⟨0, none, 0, rfl, by omega, by rw [O0.out]; rfl, by rw [O0.out]; exact Rc.Own.nil _ _ _, Touch.refl _ _⟩
  case round =>
    obtain ⟨i, a, k, rfl, hi, rfl, OW, TE⟩ := hrel
    by_cases hlt : i < n
    · have hltz : (i : Int) < (n : Int) := by omega
      obtain ⟨ga, oa, rfl, ca⟩ := SA.out i hlt
      have crow := ca wr TE
      have hs := hide (OS.out i hlt)
      have hll := hide (OL.out i hi)
      have hsz := hide TE.size
      have hi9 : (Tryz.prog.info? 40).map (·.size) = some 9 := by kernel_rfl
      generalize x i = p at *
      have Z0 := hide (al_new wr (.cells (pnc pn0) 40))
      have Z1 := hide (setRow_heap _ _ _ (pnc p) _ _ Z0.out)
      have Z2 : Hid (Calm wr ((wr.alloc (.cells (pnc pn0) 40)).setRow wr.heap.size (pnc p))) := hide (((Touch.refl (fun _ => False) wr).alloc _).trans (S' := fun g => g = wr.heap.size) ⟨rfl, rfl, rfl, by simp, fun j _ hj => setRow_other _ _ j _ hj⟩ (fun g hg e => by omega))
      have hq1 : Hid ((pnc p).all (·.oneCell') = true) := hide (by simp [Value.oneCell'])
      have OW3 := hide (Rc.Own.calm OW Z2.out)
      have T3 := hide (TE.tr Z2.out)
      obtain ⟨⟨c0, c1, c2, c3, c4⟩, c5, c6, c7, c8⟩ := crow
      clear SA OS OL OE ca OW TE HK
      go_upto_region 5 with (refine wpList_store_rowTo rfl 40 (.tmp 7) (.tmp 13) rfl rfl wr.heap.size (pnc p) rfl rfl 40 _ Z0.out hi9 rfl hq1.out ?_)
      clear c0 c1 c2 c3 c4 c5 c6 c7 c8
      generalize (wr.alloc (.cells (pnc pn0) 40)).setRow wr.heap.size (pnc p) = w3 at *
      clear Z0 Z2
      generalize wr.heap.size = D at *
      obtain ⟨⟨c0, c1, c2, c3, c4⟩, c5, c6, c7, c8⟩ := pn_cells Z1.out
      by_cases hk : p.k = key
      · have ho1 : Hid (o (i + 1) = o i ++ [p]) := hide (by rw [hs.out, if_pos hk])
        obtain ⟨a4, p4, w4, hr, ow, t2⟩ := pn_app1 p OW3.out (by have := T3.out.size; omega) (by have := hll.out; omega)
        rw [← ho1.out] at ow
        have e1 : (o (i + 1)).length = (o i).length + 1 := by rw [ho1.out]; simp
        have T6 : Calm w w4 := Rc.Own.fresh (w0 := w) OW3.out t2 (fun _ h => h) T3.out (Nat.le_refl _)
        have hr' := hr
        rw [← e1] at hr'
        have HR := hide hr'
        have HO := hide ow
        have HT := hide T6
        obtain ⟨pk, pa, pb, pd, pn, ⟨t0, t1, t2', t3⟩⟩ := p
        subst hk
        dsimp only at c0 c1 c2 c3 c4 c5 c6 c7 c8
        clear hr hr' ow t2 T6 hs e1 OW3 T3 Z1
        go_wp2_with (at_builtin; refine Rc.wpList_appR rfl (.tmp 18) (.tmp 20) 22 22 rfl _ _ _ rfl rfl HR.out ?_)
        go_roundw
        case rel => exact ⟨i + 1, a4, p4, by go_num, by omega, rfl, HO.out, HT.out⟩
        case measure => simp [intOf]; omega
      · have ho1 : Hid (o (i + 1) = o i) := hide (by rw [hs.out, if_neg hk, List.append_nil])
        have hkl : Hid ((p.k.toList == key.toList) = false) := hide (by rw [ba_beq, decide_eq_false hk])
        clear hs c1 c2 c3 c4 c5 c6 c7 c8 Z1
        have hkk := hkl.out
        go_wp2_with fail
        go_roundw
        case rel => exact ⟨i + 1, a, k, by go_num, by omega, by rw [ho1.out], by rw [ho1.out]; exact OW3.out, T3.out⟩
        case measure => simp [intOf]; omega
    · have hltz : ¬ (i : Int) < (n : Int) := by omega
      obtain rfl : i = n := by omega
      have hz := OE.out
      have hnl := OL.out i (Nat.le_refl _)
      rw [hz] at hnl OW ⊢
      have CA := hide (apart_any Z a k w.heap.size wr OW HK.out (by omega))
      have HOW := hide OW
      have HT := hide TE
      clear SA OS OL OW TE hnl HK OE hz O0
      generalize hZl : Z.length = zl at *
      go_wp2_with fail
      refine CA.out.mono ?_
      rintro e w2 ⟨rfl, O2, T2⟩
      have HO := hide O2
      have HC : Hid (Calm w w2) := hide (HT.out.trans T2 fun g hg hs => by have := (Rc.own_block HOW.out hs).1; omega)
      clear CA O2 T2 HOW HT
      go_wp2_with fail
      go_ret
      subst hZl
      exact ⟨a, k, rfl, HO.out, HC.out⟩

end Go.Proofs.YtamfcmmhmfhhkaaGreatDoor

namespace Go.Proofs.YtamfcmmhmfhhkaaGreatDoor
open Go.RowKit

/-- How two numbers compare. -/
def cmpZ (a b : Int) : Int := if a < b then -1 else if b < a then 1 else 0

set_option maxRecDepth 100000 in
theorem isNaNZ_any (a : Int) (w : World) : Calls Tryz.prog 74 #[.int .i64 a] w fun e w' => e = .returned (.bool false) ∧ w' = w := by
  go_enter Tryz.func74, Tryz.ntmps74
  go_wp2_with fail
  go_ret
  exact ⟨by simp, rfl⟩

set_option maxRecDepth 100000 in
theorem cmpZ_any (a b : Int) (w : World) : Calls Tryz.prog 62 #[.int .i64 a, .int .i64 b] w fun e w' => e = .returned (.int .i64 (cmpZ a b)) ∧ w' = w := by
  have NA := hide (isNaNZ_any a w)
  have NB := hide (isNaNZ_any b w)
  unfold cmpZ
  rcases Int.lt_trichotomy a b with h | h | h
  · go_enter Tryz.func62, Tryz.ntmps62
    go_wp2_with fail
    refine NA.out.mono ?_
    rintro e w' ⟨rfl, hq⟩
    obtain rfl := hq.symm
    clear hq
    go_wp2_with fail
    refine NB.out.mono ?_
    rintro e w' ⟨rfl, hq⟩
    obtain rfl := hq.symm
    clear hq
    go_wp2_with fail
    go_ret
    exact ⟨by simp, rfl⟩
  · subst h
    go_enter Tryz.func62, Tryz.ntmps62
    go_wp2_with fail
    refine NA.out.mono ?_
    rintro e w' ⟨rfl, hq⟩
    obtain rfl := hq.symm
    clear hq
    go_wp2_with fail
    refine NB.out.mono ?_
    rintro e w' ⟨rfl, hq⟩
    obtain rfl := hq.symm
    clear hq
    go_wp2_with fail
    go_ret
    exact ⟨by simp, rfl⟩
  · have h' : ¬ a < b := by omega
    go_enter Tryz.func62, Tryz.ntmps62
    go_wp2_with fail
    refine NA.out.mono ?_
    rintro e w' ⟨rfl, hq⟩
    obtain rfl := hq.symm
    clear hq
    go_wp2_with fail
    refine NB.out.mono ?_
    rintro e w' ⟨rfl, hq⟩
    obtain rfl := hq.symm
    clear hq
    go_wp2_with fail
    go_ret
    exact ⟨by simp, rfl⟩

/-- The first that is not 0. -/
def orN : List Int → Int
  | [] => 0
  | x :: r => if x = 0 then orN r else x
theorem orN_skip : ∀ (L : List Int) (i : Nat), (∀ j, j < i → L.getD j 0 = 0) → i ≤ L.length → orN L = orN (L.drop i)
  | _, 0, _, _ => by rw [List.drop_zero]
  | [], i + 1, _, h => by simp at h
  | x :: r, i + 1, h, hl => by
    have e : x = 0 := h 0 (by omega)
    rw [orN, if_pos e, List.drop_succ_cons]
    exact orN_skip r i (fun j hj => h (j + 1) (by omega)) (by simpa using hl)
theorem orN_at {L : List Int} {i : Nat} (h : ∀ j, j < i → L.getD j 0 = 0) (hl : i < L.length) (hn : L.getD i 0 ≠ 0) : orN L = L.getD i 0 := by
  rw [orN_skip L i h (by omega), List.drop_eq_getElem_cons hl, orN]
  rw [List.getD_eq_getElem?_getD, List.getElem?_eq_getElem hl] at hn ⊢
  exact if_neg hn
theorem orN_none {L : List Int} (h : ∀ j, j < L.length → L.getD j 0 = 0) : orN L = 0 := by
  rw [orN_skip L L.length h (Nat.le_refl _), List.drop_length]
  rfl

/-- A number's cell, in every world that stays calm. -/
theorem in_Wo {w : World} {ao : Option Addr} {L : List Int} (h : encJ.Mem w ao L) (j : Nat) (hj : j < L.length) : ∃ g off, ao = some ⟨g, off, none⟩ ∧ ∀ W, Calm w W → W.cell? ⟨g, off + j, none⟩ = some (.int .i64 (L.getD j 0)) := by
  obtain ⟨g, off, e, -⟩ := Rc.Mem.at h j hj
  refine ⟨g, off, e, fun W hW => ?_⟩
  obtain ⟨g2, off2, e2, k⟩ := Rc.Mem.at (Rc.Mem.calm h hW) j hj
  rw [e] at e2
  injection e2 with e2
  injection e2 with e3 e4
  subst e3 e4
  rw [List.getD_eq_getElem?_getD, List.getElem?_eq_getElem hj]
  have := k 0 _ rfl
  have e1 : encJ.n = 1 := rfl
  rwa [e1, Nat.mul_one] at this

set_option maxRecDepth 100000 in
set_option maxHeartbeats 1000000 in
theorem or_any (L : List Int) (ao : Option Addr) (ac : Nat) (w : World) (hm : encJ.Mem w ao L) (hl : L.length ≤ 1000) : Calls Tryz.prog 61 #[.slice ao L.length ac] w fun e w' => e = .returned (.int .i64 (orN L)) ∧ Calm w w' := by
  have SA : Hid (∀ j, j < L.length → ∃ g off, ao = some ⟨g, off, none⟩ ∧ ∀ W, Calm w W → W.cell? ⟨g, off + j, none⟩ = some (.int .i64 (L.getD j 0))) := hide fun j hj => in_Wo hm j hj
  have OA : Hid (∀ i, (∀ j, j < i → L.getD j 0 = 0) → i < L.length → L.getD i 0 ≠ 0 → orN L = L.getD i 0) := hide fun i h1 h2 h3 => orN_at h1 h2 h3
  have ON : Hid ((∀ j, j < L.length → L.getD j 0 = 0) → orN L = 0) := hide orN_none
  obtain ⟨x, hx⟩ : ∃ x : Nat → Int, ∀ i, L.getD i 0 = x i := ⟨fun i => L.getD i 0, fun _ => rfl⟩
  simp only [hx] at SA OA ON
  clear hm hx
  generalize orN L = R at *
  generalize L.length = n at *
  go_enter Tryz.func61, Tryz.ntmps61
  go_wp2_with fail
  go_loopw [8] (fun s8 wr => ∃ i : Nat, s8 = .int .i64 (i : Int) ∧ i ≤ n ∧ (∀ j, j < i → x j = 0) ∧ Calm w wr) (fun s8 _ => n - (intOf s8).toNat)
  case atStart => exact ⟨0, rfl, by omega, fun j hj => by omega, Touch.refl _ _⟩
  case round =>
    obtain ⟨i, rfl, hi, h0, TE⟩ := hrel
    by_cases hlt : i < n
    · have hltz : (i : Int) < (n : Int) := by omega
      obtain ⟨g, off, rfl, ck⟩ := SA.out i hlt
      have c0 := ck wr TE
      have HT := hide TE
      by_cases hz : x i = 0
      · have hb : (x i != 0) = false := by rw [bne_eq_false_iff_eq]; exact hz
        have H0 : Hid (∀ j, j < i + 1 → x j = 0) := hide fun j hj => by
          by_cases e : j = i
          · subst e; exact hz
          · exact h0 j (by omega)
        clear SA OA ON h0 TE ck hz
        generalize x i = y at *
        go_wp2_with fail
        go_roundw
        case rel => exact ⟨i + 1, by go_num, by omega, H0.out, HT.out⟩
        case measure => simp [intOf]; omega
      · have hb : (x i != 0) = true := by rw [bne_iff_ne]; exact hz
        have HR := hide (OA.out i h0 hlt hz)
        clear SA OA ON h0 TE ck hz
        generalize x i = y at *
        go_wp2_with fail
        go_ret
        exact ⟨by rw [HR.out]; rfl, HT.out⟩
    · have hltz : ¬ (i : Int) < (n : Int) := by omega
      obtain rfl : i = n := by omega
      have HR := hide (ON.out h0)
      have HT := hide TE
      clear SA OA ON h0 TE
      go_wp2_with fail
      go_ret
      exact ⟨by rw [HR.out]; rfl, HT.out⟩

/-- How two panes compare by their windows alone. -/
def cmpW (p q : Pn) : Int := orN [LM.cmpS p.k q.k, cmpZ p.a q.a, cmpZ p.b q.b]

set_option maxRecDepth 100000 in
set_option maxHeartbeats 4000000 in
theorem cmpW_any (p q : Pn) (w : World) : Calls Tryz.prog 41 #[pnv p, pnv q] w fun e w' => e = .returned (.int .i64 (cmpW p q)) ∧ Calm w w' := by
  have S1 := al_size w (.cells (pnc p) 40)
  have S2 := al_size (w.alloc (.cells (pnc p) 40)) (.cells (pnc q) 40)
  have A0 := al_old (al_new w (.cells (pnc p) 40)) (.cells (pnc q) 40)
  have B0 := al_new (w.alloc (.cells (pnc p) 40)) (.cells (pnc q) 40)
  rw [S1] at B0
  have HA := hide A0
  have HB := hide B0
  have T0 := hide (((Touch.refl (fun _ => False) w).alloc (.cells (pnc p) 40)).alloc (.cells (pnc q) 40))
  have CK := hide (fun W => LM.cmpS_any p.k q.k W)
  have CA := hide (fun W => cmpZ_any p.a q.a W)
  have CB := hide (fun W => cmpZ_any p.b q.b W)
  have HR : Hid (cmpW p q = orN [LM.cmpS p.k q.k, cmpZ p.a q.a, cmpZ p.b q.b]) := hide rfl
  clear A0 B0 S2
  generalize cmpW p q = R at *
  generalize LM.cmpS p.k q.k = x at *
  generalize cmpZ p.a q.a = y at *
  generalize cmpZ p.b q.b = z at *
  have CO := hide (fun (W : World) (g : Nat) (hm : encJ.Mem W (some ⟨g, 0, none⟩) [x, y, z]) => or_any [x, y, z] (some ⟨g, 0, none⟩) 3 W hm (by simp))
  rw [← HR.out] at CO
  have M0 : Hid (∀ W : World, encJ.Mem (W.alloc (.cells #[.int .i64 x, .int .i64 y, .int .i64 z] 3)) (some ⟨W.heap.size, 0, none⟩) [x, y, z]) := hide fun W => Rc.Mem.new W [x, y, z] 3
  clear HR
  go_enter Tryz.func41, Tryz.ntmps41
  go_wp2_with fail
  generalize (w.alloc (.cells (pnc p) 40)).alloc (.cells (pnc q) 40) = w1 at *
  generalize w.heap.size = D at *
  refine wp_region_held (S := Calm w1) (by kernel_rfl) ?_
  have hT0 : Calm w1 { w1 with drawn := w1.drawn + 1 } := (Touch.refl _ w1).drew
  refine wpAnyH_yield 0 5 (.pointer (some ⟨D, 0, none⟩)) rfl rfl (by kernel_rfl) (by kernel_rfl) (by kernel_rfl) (fun _ _ _ h => h) (by kernel_rfl) (fun W hW => by go_simp) (by assumption) rfl rfl ?_
  simp only [Act.put, List.setIfInBounds_toArray, List.set_cons_zero, List.set_cons_succ]
  refine wpAnyH_yield 1 6 (.string p.k) rfl rfl (by kernel_rfl) (by kernel_rfl) (by kernel_rfl) (fun _ _ _ h => h) (by kernel_rfl) (fun W hW => by obtain ⟨⟨q, -⟩, -⟩ := pn_cells (hW.at HA.out); go_simp) (by assumption) rfl rfl ?_
  simp only [Act.put, List.setIfInBounds_toArray, List.set_cons_zero, List.set_cons_succ]
  refine wpAnyH_yield 2 7 (.pointer (some ⟨D + 1, 0, none⟩)) rfl rfl (by kernel_rfl) (by kernel_rfl) (by kernel_rfl) (fun _ _ _ h => h) (by kernel_rfl) (fun W hW => by go_simp) (by assumption) rfl rfl ?_
  simp only [Act.put, List.setIfInBounds_toArray, List.set_cons_zero, List.set_cons_succ]
  refine wpAnyH_yield 3 8 (.string q.k) rfl rfl (by kernel_rfl) (by kernel_rfl) (by kernel_rfl) (fun _ _ _ h => h) (by kernel_rfl) (fun W hW => by obtain ⟨⟨q, -⟩, -⟩ := pn_cells (hW.at HB.out); go_simp) (by assumption) rfl rfl ?_
  simp only [Act.put, List.setIfInBounds_toArray, List.set_cons_zero, List.set_cons_succ]
  refine wpAnyH_yield 5 10 (.pointer (some ⟨D, 1, none⟩)) rfl rfl (by kernel_rfl) (by kernel_rfl) (by kernel_rfl) (fun _ _ _ h => h) (by kernel_rfl) (fun W hW => by go_simp) (by assumption) rfl rfl ?_
  simp only [Act.put, List.setIfInBounds_toArray, List.set_cons_zero, List.set_cons_succ]
  refine wpAnyH_yield 6 11 (.pointer (some ⟨D, 1, none⟩)) rfl rfl (by kernel_rfl) (by kernel_rfl) (by kernel_rfl) (fun _ _ _ h => h) (by kernel_rfl) (fun W hW => by go_simp) (by assumption) rfl rfl ?_
  simp only [Act.put, List.setIfInBounds_toArray, List.set_cons_zero, List.set_cons_succ]
  refine wpAnyH_yield 7 12 (.int .i64 p.a) rfl rfl (by kernel_rfl) (by kernel_rfl) (by kernel_rfl) (fun _ _ _ h => h) (by kernel_rfl) (fun W hW => by obtain ⟨⟨-, q, -⟩, -⟩ := pn_cells (hW.at HA.out); go_simp) (by assumption) rfl rfl ?_
  simp only [Act.put, List.setIfInBounds_toArray, List.set_cons_zero, List.set_cons_succ]
  refine wpAnyH_yield 8 13 (.pointer (some ⟨D + 1, 1, none⟩)) rfl rfl (by kernel_rfl) (by kernel_rfl) (by kernel_rfl) (fun _ _ _ h => h) (by kernel_rfl) (fun W hW => by go_simp) (by assumption) rfl rfl ?_
  simp only [Act.put, List.setIfInBounds_toArray, List.set_cons_zero, List.set_cons_succ]
  refine wpAnyH_yield 9 14 (.pointer (some ⟨D + 1, 1, none⟩)) rfl rfl (by kernel_rfl) (by kernel_rfl) (by kernel_rfl) (fun _ _ _ h => h) (by kernel_rfl) (fun W hW => by go_simp) (by assumption) rfl rfl ?_
  simp only [Act.put, List.setIfInBounds_toArray, List.set_cons_zero, List.set_cons_succ]
  refine wpAnyH_yield 10 15 (.int .i64 q.a) rfl rfl (by kernel_rfl) (by kernel_rfl) (by kernel_rfl) (fun _ _ _ h => h) (by kernel_rfl) (fun W hW => by obtain ⟨⟨-, q, -⟩, -⟩ := pn_cells (hW.at HB.out); go_simp) (by assumption) rfl rfl ?_
  simp only [Act.put, List.setIfInBounds_toArray, List.set_cons_zero, List.set_cons_succ]
  refine wpAnyH_yield 12 17 (.pointer (some ⟨D, 1, none⟩)) rfl rfl (by kernel_rfl) (by kernel_rfl) (by kernel_rfl) (fun _ _ _ h => h) (by kernel_rfl) (fun W hW => by go_simp) (by assumption) rfl rfl ?_
  simp only [Act.put, List.setIfInBounds_toArray, List.set_cons_zero, List.set_cons_succ]
  refine wpAnyH_yield 13 18 (.pointer (some ⟨D, 2, none⟩)) rfl rfl (by kernel_rfl) (by kernel_rfl) (by kernel_rfl) (fun _ _ _ h => h) (by kernel_rfl) (fun W hW => by go_simp) (by assumption) rfl rfl ?_
  simp only [Act.put, List.setIfInBounds_toArray, List.set_cons_zero, List.set_cons_succ]
  refine wpAnyH_yield 14 19 (.int .i64 p.b) rfl rfl (by kernel_rfl) (by kernel_rfl) (by kernel_rfl) (fun _ _ _ h => h) (by kernel_rfl) (fun W hW => by obtain ⟨⟨-, -, q, -⟩, -⟩ := pn_cells (hW.at HA.out); go_simp) (by assumption) rfl rfl ?_
  simp only [Act.put, List.setIfInBounds_toArray, List.set_cons_zero, List.set_cons_succ]
  refine wpAnyH_yield 15 20 (.pointer (some ⟨D + 1, 1, none⟩)) rfl rfl (by kernel_rfl) (by kernel_rfl) (by kernel_rfl) (fun _ _ _ h => h) (by kernel_rfl) (fun W hW => by go_simp) (by assumption) rfl rfl ?_
  simp only [Act.put, List.setIfInBounds_toArray, List.set_cons_zero, List.set_cons_succ]
  refine wpAnyH_yield 16 21 (.pointer (some ⟨D + 1, 2, none⟩)) rfl rfl (by kernel_rfl) (by kernel_rfl) (by kernel_rfl) (fun _ _ _ h => h) (by kernel_rfl) (fun W hW => by go_simp) (by assumption) rfl rfl ?_
  simp only [Act.put, List.setIfInBounds_toArray, List.set_cons_zero, List.set_cons_succ]
  refine wpAnyH_yield 17 22 (.int .i64 q.b) rfl rfl (by kernel_rfl) (by kernel_rfl) (by kernel_rfl) (fun _ _ _ h => h) (by kernel_rfl) (fun W hW => by obtain ⟨⟨-, -, q, -⟩, -⟩ := pn_cells (hW.at HB.out); go_simp) (by assumption) rfl rfl ?_
  simp only [Act.put, List.setIfInBounds_toArray, List.set_cons_zero, List.set_cons_succ]
  refine wpAnyH_enter 4 9 56 #[.string p.k, .string q.k] rfl rfl (by kernel_rfl) (by kernel_rfl) (by kernel_rfl) ?_
  refine (CK.out _).mono ?_
  rintro r _ ⟨rfl, rfl⟩
  refine ⟨_, rfl, hT0, ?_⟩
  simp only [Act.put, List.setIfInBounds_toArray, List.set_cons_zero, List.set_cons_succ]
  refine wpAnyH_enter 11 16 62 #[.int .i64 p.a, .int .i64 q.a] rfl rfl (by kernel_rfl) (by kernel_rfl) (by kernel_rfl) ?_
  refine (CA.out _).mono ?_
  rintro r _ ⟨rfl, rfl⟩
  refine ⟨_, rfl, hT0, ?_⟩
  simp only [Act.put, List.setIfInBounds_toArray, List.set_cons_zero, List.set_cons_succ]
  refine wpAnyH_enter 18 23 62 #[.int .i64 p.b, .int .i64 q.b] rfl rfl (by kernel_rfl) (by kernel_rfl) (by kernel_rfl) ?_
  refine (CB.out _).mono ?_
  rintro r _ ⟨rfl, rfl⟩
  refine ⟨_, rfl, hT0, ?_⟩
  simp only [Act.put, List.setIfInBounds_toArray, List.set_cons_zero, List.set_cons_succ]
  generalize ({ w1 with drawn := w1.drawn + 1 } : World) = w2 at *
  have M1 := M0.out w2
  have hT2 : Calm w1 (w2.alloc (.cells #[.int .i64 x, .int .i64 y, .int .i64 z] 3)) := hT0.alloc _
  refine wpAnyH_value 19 24 (.slice (some ⟨w2.heap.size, 0, none⟩) 3 3) (w' := w2.alloc (.cells #[.int .i64 x, .int .i64 y, .int .i64 z] 3)) rfl rfl (by kernel_rfl) (by kernel_rfl) (by go_simp) hT2 ?_
  simp only [Act.put, List.setIfInBounds_toArray, List.set_cons_zero, List.set_cons_succ]
  generalize w2.alloc (.cells #[.int .i64 x, .int .i64 y, .int .i64 z] 3) = w3 at *
  refine wpAnyH_enter 20 25 61 #[.slice (some ⟨w2.heap.size, 0, none⟩) 3 3] rfl rfl (by kernel_rfl) (by kernel_rfl) (by kernel_rfl) ?_
  refine (CO.out _ _ M1).mono ?_
  rintro r w4 ⟨rfl, T4⟩
  have hT4 : Calm w1 w4 := hT2.tr T4
  refine ⟨_, rfl, hT4, ?_⟩
  simp only [Act.put, List.setIfInBounds_toArray, List.set_cons_zero, List.set_cons_succ]
  refine wpAnyH_yield 21 4 (.int .i64 R) rfl rfl (by kernel_rfl) (by kernel_rfl) (by kernel_rfl) (fun _ _ _ h => h) (by kernel_rfl) (fun W hW => by kernel_rfl) (by assumption) rfl rfl ?_
  simp only [Act.put, List.setIfInBounds_toArray, List.set_cons_zero, List.set_cons_succ]
  refine wpAnyH_done (by kernel_rfl) ?_ _
  have HF := hide (T0.out.tr hT4)
  clear hT0 hT2 T4 hT4 M1
  go_wp2_with fail
  go_ret
  exact ⟨rfl, HF.out⟩

end Go.Proofs.YtamfcmmhmfhhkaaGreatDoor

namespace Go.Proofs.YtamfcmmhmfhhkaaGreatDoor
open Go.RowKit

theorem wLt_iff (p q : Pn) : wLt p q = true ↔ kLt p.k q.k = true ∨ (p.k = q.k ∧ (p.a < q.a ∨ (p.a = q.a ∧ p.b < q.b))) := by
  unfold wLt
  rw [decide_eq_true_iff]
  show (if kLt p.k q.k then -1 else if p.k = q.k then cmpL [p.a, p.b, 0, 0, 0, 0, 0, 0] [q.a, q.b, 0, 0, 0, 0, 0, 0] else 1) < (0 : Int) ↔ _
  by_cases h1 : kLt p.k q.k = true
  · rw [if_pos h1]; exact ⟨fun _ => .inl h1, fun _ => by decide⟩
  · rw [if_neg h1]
    by_cases h2 : p.k = q.k
    · rw [if_pos h2]
      have e0 : cmpL [0, 0, 0, 0, 0, 0] [0, 0, 0, 0, 0, 0] = 0 := cmpL_eq _
      rw [cmpL, cmpL, e0]
      constructor
      · intro h
        refine .inr ⟨h2, ?_⟩
        by_cases a1 : p.a < q.a
        · exact .inl a1
        · rw [if_neg a1] at h
          by_cases a2 : q.a < p.a
          · rw [if_pos a2] at h; omega
          · rw [if_neg a2] at h
            by_cases b1 : p.b < q.b
            · exact .inr ⟨by omega, b1⟩
            · rw [if_neg b1] at h
              split at h <;> omega
      · rintro (h | ⟨-, h | ⟨h, h3⟩⟩)
        · exact absurd h h1
        · rw [if_pos h]; decide
        · rw [if_neg (by omega), if_neg (by omega), if_pos h3]; decide
    · rw [if_neg h2]
      constructor
      · intro h; omega
      · rintro (h | ⟨h, -⟩)
        · exact absurd h h1
        · exact absurd h h2
theorem sameW_iff (p q : Pn) : sameW p q = true ↔ p.k = q.k ∧ p.a = q.a ∧ p.b = q.b := by
  unfold sameW
  simp
theorem wLt_irr (p : Pn) : wLt p p = false := by
  rw [Bool.eq_false_iff]
  intro h
  rcases (wLt_iff p p).1 h with h | ⟨-, h⟩
  · rw [kLt_self] at h; cases h
  · omega
theorem wLt_trans (a b c : Pn) (h : wLt a b = true) (h2 : wLt b c = true) : wLt a c = true := by
  rw [wLt_iff] at *
  rcases h with h | ⟨h, h3⟩
  · rcases h2 with h2 | ⟨h2, h4⟩
    · exact .inl (kLt_trans h h2)
    · exact .inl (by rw [← h2]; exact h)
  · rcases h2 with h2 | ⟨h2, h4⟩
    · exact .inl (by rw [h]; exact h2)
    · exact .inr ⟨h.trans h2, by omega⟩
theorem wLt_tri (a b : Pn) : wLt a b = true ∨ sameW a b = true ∨ wLt b a = true := by
  rw [wLt_iff, wLt_iff, sameW_iff]
  rcases kLt_tri a.k b.k with h | h | h
  · exact .inl (.inl h)
  · rcases (by omega : a.a < b.a ∨ b.a < a.a ∨ (a.a = b.a ∧ a.b < b.b) ∨ (a.a = b.a ∧ b.b < a.b) ∨ (a.a = b.a ∧ a.b = b.b)) with h2 | h2 | h2 | h2 | h2
    · exact .inl (.inr ⟨h, .inl h2⟩)
    · exact .inr (.inr (.inr ⟨h.symm, .inl h2⟩))
    · exact .inl (.inr ⟨h, .inr h2⟩)
    · exact .inr (.inr (.inr ⟨h.symm, .inr ⟨h2.1.symm, h2.2⟩⟩))
    · exact .inr (.inl ⟨h, h2.1, h2.2⟩)
  · exact .inr (.inr (.inl h))
/-- Windows rise. -/
abbrev WRise (O : List Pn) : Prop := O.Pairwise (fun a b => wLt a b = true)
theorem insW_tw (O : List Pn) (p : Pn) : insW O p = O.takeWhile (fun a => wLt a p) ++ [p] ++ O.dropWhile (fun a => wLt a p) := by
  obtain ⟨h1, h2⟩ := tw_take (fun a => wLt a p) O
  unfold insW leadW
  rw [h1, h2]
theorem insW_rise {O : List Pn} {p : Pn} (h : WRise O) (hn : ∀ o ∈ O, sameW p o = false) : WRise (insW O p) ∧ ∀ x, x ∈ insW O p ↔ x ∈ O ∨ x = p := by
  rw [insW_tw]
  have hs : O = O.takeWhile (fun a => wLt a p) ++ O.dropWhile (fun a => wLt a p) := List.takeWhile_append_dropWhile.symm
  refine ⟨ins_rise (lt := wLt) wLt_trans h fun b B e => ?_, fun x => ?_⟩
  · have h1 := dw_head _ e
    rcases wLt_tri p b with h2 | h2 | h2
    · exact h2
    · have := hn b (by rw [hs, e]; simp)
      rw [h2] at this; cases this
    · rw [h2] at h1; cases h1
  · conv => rhs; rw [hs]
    simp only [List.mem_append, List.mem_singleton]
    constructor
    · rintro ((h | h) | h)
      · exact .inl (.inl h)
      · exact .inr h
      · exact .inl (.inr h)
    · rintro ((h | h) | h)
      · exact .inl (.inl h)
      · exact .inr h
      · exact .inl (.inr h)
/-- A pane is the last one of its window. -/
def IsL (L : List Pn) (x : Pn) : Prop := ∃ A B, L = A ++ x :: B ∧ laterP B x = false
theorem IsL.cons {p : Pn} {R : List Pn} {x : Pn} : IsL (p :: R) x ↔ (x = p ∧ laterP R p = false) ∨ IsL R x := by
  constructor
  · rintro ⟨A, B, e, h⟩
    cases A with
    | nil =>
      injection e with e1 e2
      subst e1 e2
      exact .inl ⟨rfl, h⟩
    | cons a A =>
      injection e with e1 e2
      exact .inr ⟨A, B, e2, h⟩
  · rintro (⟨rfl, h⟩ | ⟨A, B, e, h⟩)
    · exact ⟨[], R, rfl, h⟩
    · exact ⟨p :: A, B, by rw [e]; rfl, h⟩
theorem IsL.nil (x : Pn) : ¬ IsL [] x := by
  rintro ⟨A, B, e, -⟩
  cases A <;> cases e
theorem laterP_cons (p : Pn) (R : List Pn) (x : Pn) : laterP (p :: R) x = (sameW p x || laterP R x) := rfl
theorem lastF_rise : ∀ (R O : List Pn), WRise O → (∀ o ∈ O, laterP R o = false) → WRise (lastF O R) ∧ ∀ x, x ∈ lastF O R ↔ x ∈ O ∨ IsL R x
  | [], O, h, _ => ⟨h, fun x => ⟨.inl, fun h => h.elim id fun h => absurd h (IsL.nil x)⟩⟩
  | p :: R, O, h, hn => by
    have hn1 : ∀ o ∈ O, sameW p o = false ∧ laterP R o = false := fun o ho => by
      have := hn o ho
      rw [laterP_cons, Bool.or_eq_false_iff] at this
      exact this
    show WRise (lastF (if laterP R p then O else insW O p) R) ∧ ∀ x, x ∈ lastF (if laterP R p then O else insW O p) R ↔ _
    cases hl : laterP R p with
    | true =>
      obtain ⟨h1, h2⟩ := lastF_rise R O h fun o ho => (hn1 o ho).2
      refine ⟨h1, fun x => ?_⟩
      rw [if_pos rfl, h2, IsL.cons, hl]
      simp
    | false =>
      obtain ⟨i1, i2⟩ := insW_rise h fun o ho => (hn1 o ho).1
      obtain ⟨h1, h2⟩ := lastF_rise R (insW O p) i1 fun o ho => by
        rcases (i2 o).1 ho with h3 | rfl
        · exact (hn1 o h3).2
        · exact hl
      rw [if_neg (by simp)]
      refine ⟨h1, fun x => ?_⟩
      rw [h2, i2, IsL.cons, hl]
      constructor
      · rintro ((h | h) | h)
        · exact .inl h
        · exact .inr (.inl ⟨h, rfl⟩)
        · exact .inr (.inr h)
      · rintro (h | ⟨h, -⟩ | h)
        · exact .inl (.inl h)
        · exact .inl (.inr h)
        · exact .inr h
theorem last_rise (L : List Pn) : WRise (lastP L) := (lastF_rise L [] List.Pairwise.nil (fun o ho => by cases ho)).1
theorem last_mem (L : List Pn) (x : Pn) : x ∈ lastP L ↔ IsL L x := by
  have := (lastF_rise L [] List.Pairwise.nil (fun o ho => by cases ho)).2 x
  simpa [lastP] using this
/-- Whoever rises and has these panes is it. -/
theorem last_one {L O : List Pn} (h : WRise O) (hm : ∀ x, x ∈ O ↔ IsL L x) : O = lastP L := rising_ext wLt_irr wLt_trans h (last_rise L) fun x => by rw [hm, last_mem]
theorem later_of {R : List Pn} {x : Pn} : laterP (ofP R x.k) x = laterP R x := by
  unfold laterP ofP
  rw [List.any_filter]
  congr 1
  funext q
  unfold sameW
  by_cases h : q.k = x.k <;> simp [h]
theorem isL_of : ∀ {L : List Pn} {x : Pn}, IsL (ofP L x.k) x ↔ IsL L x
  | [], x => Iff.rfl
  | p :: R, x => by
    have ih := isL_of (L := R) (x := x)
    by_cases h : p.k = x.k
    · have e : ofP (p :: R) x.k = p :: ofP R x.k := by unfold ofP; rw [List.filter_cons, if_pos (decide_eq_true h)]
      rw [e, IsL.cons, IsL.cons, ih]
      have e2 : laterP (ofP R x.k) p = laterP R p := by rw [← h]; exact later_of
      rw [e2]
    · have e : ofP (p :: R) x.k = ofP R x.k := by unfold ofP; rw [List.filter_cons, if_neg (by simp [h])]
      rw [e, ih, IsL.cons]
      constructor
      · exact .inr
      · rintro (⟨rfl, -⟩ | h2)
        · exact absurd rfl h
        · exact h2
theorem last_same {L M : List Pn} (h : ∀ k, ofP L k = ofP M k) : lastP L = lastP M := last_one (last_rise L) fun x => by rw [last_mem, ← isL_of, h, isL_of]
/-- Two of them behind one another. -/
theorem last_two {L : List Pn} {i : Nat} (hi : i + 1 < (lastP L).length) : kLt ((lastP L).getD (i + 1) pn0).k ((lastP L).getD i pn0).k = false ∧ sameW ((lastP L).getD i pn0) ((lastP L).getD (i + 1) pn0) = false := by
  have h := List.pairwise_iff_getElem.1 (last_rise L) i (i + 1) (by omega) hi (by omega)
  rw [List.getD_eq_getElem?_getD, List.getD_eq_getElem?_getD, List.getElem?_eq_getElem hi, List.getElem?_eq_getElem (by omega)]
  show kLt (lastP L)[i + 1].k (lastP L)[i].k = false ∧ sameW (lastP L)[i] (lastP L)[i + 1] = false
  rw [wLt_iff] at h
  constructor
  · rcases h with h | ⟨h, -⟩
    · exact kLt_asymm h
    · rw [h]; exact kLt_self _
  · rw [Bool.eq_false_iff]
    intro h2
    rw [sameW_iff] at h2
    rcases h with h | ⟨-, h⟩
    · rw [h2.1, kLt_self] at h; cases h
    · omega

end Go.Proofs.YtamfcmmhmfhhkaaGreatDoor

namespace Go.Proofs.YtamfcmmhmfhhkaaGreatDoor
open Go.RowKit

theorem kLt_lt {a b : ByteArray} : kLt a b = true ↔ LM.cmpS a b < 0 := by
  unfold kLt
  rw [LM.cmpS_lt, LM.less_eq, decide_eq_true_iff]
theorem cmpZ_lt {a b : Int} : cmpZ a b < 0 ↔ a < b := by
  unfold cmpZ
  split
  · simp; assumption
  · split <;> simp <;> omega
theorem cmpZ_eq {a b : Int} : cmpZ a b = 0 ↔ a = b := by
  unfold cmpZ
  split
  · simp; omega
  · split
    · simp; omega
    · simp; omega
theorem cmpZ_anti (a b : Int) : cmpZ b a = - cmpZ a b := by
  unfold cmpZ
  split <;> split <;> omega
theorem cmpW_is (p q : Pn) : cmpW p q = if LM.cmpS p.k q.k = 0 then (if cmpZ p.a q.a = 0 then (if cmpZ p.b q.b = 0 then 0 else cmpZ p.b q.b) else cmpZ p.a q.a) else LM.cmpS p.k q.k := rfl
theorem cmpW_lt {p q : Pn} : cmpW p q < 0 ↔ wLt p q = true := by
  rw [wLt_iff, kLt_lt, cmpW_is]
  by_cases h : LM.cmpS p.k q.k = 0
  · have e := LM.cmpS_key h
    rw [if_pos h, h]
    by_cases ha : cmpZ p.a q.a = 0
    · have ea := cmpZ_eq.1 ha
      rw [if_pos ha]
      by_cases hb : cmpZ p.b q.b = 0
      · have eb := cmpZ_eq.1 hb
        rw [if_pos hb]
        constructor
        · intro h; omega
        · rintro (h | ⟨-, h⟩) <;> omega
      · rw [if_neg hb, cmpZ_lt]
        constructor
        · intro h; exact .inr ⟨e, .inr ⟨ea, h⟩⟩
        · rintro (h | ⟨-, h⟩) <;> omega
    · rw [if_neg ha, cmpZ_lt]
      have ea : ¬ p.a = q.a := fun h => ha (cmpZ_eq.2 h)
      constructor
      · intro h; exact .inr ⟨e, .inl h⟩
      · rintro (h | ⟨-, h⟩) <;> omega
  · rw [if_neg h]
    constructor
    · intro h2; exact .inl h2
    · rintro (h2 | ⟨h2, -⟩)
      · exact h2
      · rw [h2] at h; exact absurd (LM.cmpS_me _) h
theorem cmpW_eq {p q : Pn} : cmpW p q = 0 ↔ sameW p q = true := by
  rw [sameW_iff, cmpW_is]
  by_cases h : LM.cmpS p.k q.k = 0
  · have e := LM.cmpS_key h
    rw [if_pos h]
    by_cases ha : cmpZ p.a q.a = 0
    · have ea := cmpZ_eq.1 ha
      rw [if_pos ha]
      by_cases hb : cmpZ p.b q.b = 0
      · have eb := cmpZ_eq.1 hb
        rw [if_pos hb]
        exact ⟨fun _ => ⟨e, ea, eb⟩, fun _ => rfl⟩
      · rw [if_neg hb]
        exact ⟨fun h => absurd h hb, fun h => absurd (cmpZ_eq.2 h.2.2) hb⟩
    · rw [if_neg ha]
      exact ⟨fun h => absurd h ha, fun h => absurd (cmpZ_eq.2 h.2.1) ha⟩
  · rw [if_neg h]
    refine ⟨fun h2 => absurd h2 h, fun h2 => ?_⟩
    rw [h2.1] at h
    exact absurd (LM.cmpS_me _) h
theorem cmpW_anti (p q : Pn) : cmpW q p = - cmpW p q := by
  rw [cmpW_is, cmpW_is]
  have h1 := LM.cmpS_ord.anti p.k q.k
  have h2 := cmpZ_anti p.a q.a
  have h3 := cmpZ_anti p.b q.b
  rw [h1, h2, h3]
  by_cases h : LM.cmpS p.k q.k = 0
  · rw [if_pos (by omega), if_pos h]
    by_cases ha : cmpZ p.a q.a = 0
    · rw [if_pos (by omega), if_pos ha]
      by_cases hb : cmpZ p.b q.b = 0
      · rw [if_pos (by omega), if_pos hb]; rfl
      · rw [if_neg (by omega), if_neg hb]
    · rw [if_neg (by omega), if_neg ha]
  · rw [if_neg (by omega), if_neg h]
theorem wLt_sameL {a b d : Pn} (h : sameW a b = true) (h2 : wLt d a = true) : wLt d b = true := by
  rw [sameW_iff] at h
  rw [wLt_iff] at *
  rw [← h.1, ← h.2.1, ← h.2.2]
  exact h2
theorem wLt_sameR {a b d : Pn} (h : sameW a b = true) (h2 : wLt a d = true) : wLt b d = true := by
  rw [sameW_iff] at h
  rw [wLt_iff] at *
  rw [← h.1, ← h.2.1, ← h.2.2]
  exact h2
theorem sameW_sym {a b : Pn} (h : sameW a b = true) : sameW b a = true := by
  rw [sameW_iff] at *
  exact ⟨h.1.symm, h.2.1.symm, h.2.2.symm⟩
theorem sameW_tr {a b d : Pn} (h : sameW a b = true) (h2 : sameW b d = true) : sameW a d = true := by
  rw [sameW_iff] at *
  exact ⟨h.1.trans h2.1, h.2.1.trans h2.2.1, h.2.2.trans h2.2.2⟩
theorem cmpW_ord : Ordr cmpW where
  anti := cmpW_anti
  trans := fun a b d h1 h2 => by
    rcases (show cmpW a d ≤ 0 ∨ 0 < cmpW a d by omega) with h | h
    · exact h
    · exfalso
      have hd : wLt d a = true := cmpW_lt.1 (by rw [cmpW_anti a d]; omega)
      have e2 : wLt d b = true := by
        rcases (show cmpW a b < 0 ∨ cmpW a b = 0 by omega) with g | g
        · exact wLt_trans _ _ _ hd (cmpW_lt.1 g)
        · exact wLt_sameL (cmpW_eq.1 g) hd
      have := cmpW_lt.2 e2
      rw [cmpW_anti b d] at this
      omega

theorem later_snoc (L : List Pn) (p x : Pn) : laterP (L ++ [p]) x = (laterP L x || sameW p x) := by
  unfold laterP
  rw [List.any_append]
  simp
theorem isL_snoc (p v : Pn) : ∀ L : List Pn, IsL (L ++ [p]) v ↔ v = p ∨ (IsL L v ∧ sameW p v = false)
  | [] => by
    rw [List.nil_append, IsL.cons]
    constructor
    · rintro (⟨h, -⟩ | h)
      · exact .inl h
      · exact absurd h (IsL.nil v)
    · rintro (h | ⟨h, -⟩)
      · exact .inl ⟨h, rfl⟩
      · exact absurd h (IsL.nil v)
  | a :: L => by
    rw [List.cons_append, IsL.cons, isL_snoc p v L, IsL.cons, later_snoc, Bool.or_eq_false_iff]
    constructor
    · rintro (⟨rfl, h1, h2⟩ | rfl | ⟨h1, h2⟩)
      · exact .inr ⟨.inl ⟨rfl, h1⟩, h2⟩
      · exact .inl rfl
      · exact .inr ⟨.inr h1, h2⟩
    · rintro (rfl | ⟨⟨rfl, h1⟩ | h1, h2⟩)
      · exact .inr (.inl rfl)
      · exact .inl ⟨rfl, h1, h2⟩
      · exact .inr (.inr ⟨h1, h2⟩)

/-- The panes of a list, by their windows. -/
structure Bv (L : List Pn) (X : List (Pn × Pn)) : Prop where
  up : Up cmpW X
  same : ∀ x ∈ X, sameW x.1 x.2 = true
  val : ∀ v, (∃ x ∈ X, x.2 = v) ↔ IsL L v
  num : X.length ≤ L.length
theorem Bv.nil : Bv [] [] := ⟨List.Pairwise.nil, fun x hx => by simp at hx, fun v => ⟨fun ⟨x, hx, _⟩ => by simp at hx, fun h => absurd h (IsL.nil v)⟩, Nat.le_refl _⟩
theorem Bv.put {L : List Pn} {X : List (Pn × Pn)} (h : Bv L X) (p : Pn) : Bv (L ++ [p]) (lput (cmpW p) p p X) := by
  have hk : ∃ k', lput (cmpW p) p p X = Go.Proofs.YtamfcmmhmfhhkaaGreatDoor.up (cmpW p) X ++ (k', p) :: dn (cmpW p) X ∧ cmpW p k' = 0 := by
    unfold lput
    cases hi : it (cmpW p) X with
    | none => exact ⟨p, rfl, cmpW_ord.self p⟩
    | some a => exact ⟨a.1, rfl, (it_some hi).2⟩
  have hup := h.up.put cmpW_ord p p
  have hl := (lput_len (v := p) (k := p) (h.up.dec cmpW_ord p)).1
  obtain ⟨k', e, hk'⟩ := hk
  have mem : ∀ x, x ∈ lput (cmpW p) p p X ↔ (x ∈ X ∧ cmpW p x.1 ≠ 0) ∨ x = (k', p) := fun x => by
    rw [e, List.mem_append, List.mem_cons, up_mem, dn_mem]
    constructor
    · rintro (⟨h, h2⟩ | rfl | ⟨h, h2⟩)
      · exact .inl ⟨h, by omega⟩
      · exact .inr rfl
      · exact .inl ⟨h, by omega⟩
    · rintro (⟨h, h2⟩ | rfl)
      · rcases Int.lt_trichotomy (cmpW p x.1) 0 with g | g | g
        · exact .inr (.inr ⟨h, g⟩)
        · exact absurd g h2
        · exact .inl ⟨h, g⟩
      · exact .inr (.inl rfl)
  refine ⟨hup, fun x hx => ?_, fun v => ?_, ?_⟩
  · rcases (mem x).1 hx with ⟨hx, -⟩ | rfl
    · exact h.same x hx
    · exact sameW_sym (cmpW_eq.1 hk')
  · rw [isL_snoc, ← h.val v]
    constructor
    · rintro ⟨x, hx, rfl⟩
      rcases (mem x).1 hx with ⟨hx, hn⟩ | rfl
      · refine .inr ⟨⟨x, hx, rfl⟩, ?_⟩
        rw [Bool.eq_false_iff]
        intro hs
        exact hn (cmpW_eq.2 (sameW_tr hs (sameW_sym (h.same x hx))))
      · exact .inl rfl
    · rintro (rfl | ⟨⟨x, hx, rfl⟩, hs⟩)
      · exact ⟨(k', v), (mem _).2 (.inr rfl), rfl⟩
      · refine ⟨x, (mem x).2 (.inl ⟨hx, fun hz => ?_⟩), rfl⟩
        have := sameW_tr (cmpW_eq.1 hz) (h.same x hx)
        rw [hs] at this
        cases this
  · rw [List.length_append]
    have := h.num
    simp only [List.length_cons, List.length_nil]
    omega
/-- The values are the last panes. -/
theorem Bv.last {L : List Pn} {X : List (Pn × Pn)} (h : Bv L X) : X.map (·.2) = lastP L := by
  refine last_one ?_ fun x => ?_
  · show List.Pairwise _ (X.map (·.2))
    rw [List.pairwise_map]
    have hs := h.same
    have hu := h.up
    unfold Up at hu
    refine List.Pairwise.imp_of_mem (fun {a b} ha hb hab => ?_) hu
    exact wLt_sameL (hs b hb) (wLt_sameR (hs a ha) (cmpW_lt.1 hab))
  · rw [← h.val x, List.mem_map]

end Go.Proofs.YtamfcmmhmfhhkaaGreatDoor
