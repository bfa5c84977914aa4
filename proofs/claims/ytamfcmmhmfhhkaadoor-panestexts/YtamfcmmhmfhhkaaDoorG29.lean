/- The program's Line. The program's Text. What of a line has not been read (the program's course): next, take, word, code. -/
import Derived.Test.YtamfcmmhmfhhkaaDoorG28
import Derived.Test.YtamfcmmhmfhhkaaDoorG10
import Derived.Deep.CutRange
import Derived.Test.YtamfcmmhmfhhkaaDoorG12
namespace Go.Proofs.YtamfcmmhmfhhkaaDoor
open Go.RowKit

theorem Kds.lt {w : World} (h : Kds w) : 0 < w.heap.size := by
  have h1 := h 0 (by omega)
  rcases Nat.lt_or_ge 0 w.heap.size with h' | h'
  · exact h'
  · exfalso; simp [World.cell?, Array.getElem?_eq_none h'] at h1
/-- Bytes of one's own, as a text. -/
theorem conv_any {W : World} {base : Nat} {a : Option Addr} {c : Nat} {xs : List Int} (h : encB.Own 5 W base (.slice a xs.length c) xs) : (convert 55 9 (.slice a xs.length c)).run Tryd.prog W = .ok (.string (strOfNums xs)) W := by
  by_cases hx : xs = []
  · subst hx; exact conv_none h
  · exact conv_own h hx

set_option maxRecDepth 100000 in
set_option maxHeartbeats 4000000 in
theorem line_any (p : Pn) (w : World) (hp : NumOk p) (hy : Yv w) : Calls Tryd.prog 8 #[pnv p] w fun e w' => e = .returned (.tuple #[.string (if mayP p then lineB p else ⟨#[]⟩), .int .i64 (if mayP p then 0 else 2)]) ∧ Calm w w' := by
  have T0 := hide ((Touch.refl (fun _ => False) w).alloc (.cells (pnc p) 29))
  have A0 := hide (al_new w (.cells (pnc p) 29))
  have CM : Hid (∀ W, _) := hide fun W => maybe_any p W
  have CWr : Hid (∀ W, mayP p = true → Calm w W → Calls Tryd.prog 24 #[.slice none 0 0, pnv p] W fun e w' => ∃ a c, e = .returned (.slice a (bsL (lineB p)).length c) ∧ (convert 55 9 (.slice a (bsL (lineB p)).length c)).run Tryd.prog w' = .ok (.string (lineB p)) w' ∧ Calm W w') := hide fun W hm hW => by
    have h := write_any p hm hp [] none 0 W W.heap.size (Rc.Own.nil _ _ _) (Nat.le_refl _) (by simp) ((hy.tab.calm hW).below rfl) (hy.kds.calm hW) (hy.kds.calm hW).lt
    refine h.mono ?_
    rintro e w' ⟨a, c, rfl, ho, ht⟩
    refine ⟨a, c, rfl, ?_, calm_below ht.below⟩
    have h2 := conv_any ho
    rw [List.nil_append, strOf_bs] at h2
    exact h2
  cases hm : mayP p with
  | false =>
    rw [hm] at CM
    go_enter Tryd.func8, Tryd.ntmps8
    obtain ⟨⟨c0, c1, c2, c3, c4⟩, c5, c6, c7, c8⟩ := pn_cells A0.out
    go_wp2_with fail
    refine (CM.out _).mono ?_
    rintro r w1 ⟨rfl, T1⟩
    have HT := hide (T0.out.tr T1)
    clear T1 c0 c1 c2 c3 c4 c5 c6 c7 c8
    go_wp2_with fail
    go_ret2
    exact ⟨rfl, HT.out⟩
  | true =>
    rw [hm] at CM
    have CW := hide (fun W hW => CWr.out W hm hW)
    clear CWr hm hp
    generalize lineB p = R at *
    generalize (bsL R).length = n at *
    go_enter Tryd.func8, Tryd.ntmps8
    obtain ⟨⟨c0, c1, c2, c3, c4⟩, c5, c6, c7, c8⟩ := pn_cells A0.out
    go_wp2_with fail
    refine (CM.out _).mono ?_
    rintro r w1 ⟨rfl, T1⟩
    have A1 := hide (T1.at A0.out)
    have HT := hide (T0.out.tr T1)
    clear T1 c0 c1 c2 c3 c4 c5 c6 c7 c8 CM
    obtain ⟨⟨c0, c1, c2, c3, c4⟩, c5, c6, c7, c8⟩ := pn_cells A1.out
    go_wp2_with fail
    refine (CW.out _ HT.out).mono ?_
    rintro r w2 ⟨a, c, rfl, cv, T2⟩
    have HT2 := hide (HT.out.tr T2)
    clear T2 c0 c1 c2 c3 c4 c5 c6 c7 c8 CW
    go_wp2_with fail
    go_ret2
    exact ⟨rfl, HT2.out⟩

end Go.Proofs.YtamfcmmhmfhhkaaDoor

namespace Go.Proofs.YtamfcmmhmfhhkaaDoor
open Go.RowKit

set_option maxRecDepth 100000 in
set_option maxHeartbeats 4000000 in
theorem text_any (L : List Pn) (ao : Option Addr) (ac : Nat) (w : World) (hm : encP.Mem w ao L) (hl : L.length ≤ 10000) (hp : ∀ j, j < L.length → NumOk (L.getD j pn0)) (hy : Yv w) : Calls Tryd.prog 10 #[.slice ao L.length ac] w fun e w' => e = .returned (.tuple #[.string (if mayT L then strOfNums (txT L L.length) else ⟨#[]⟩), .int .i64 (if mayT L then 0 else 2)]) ∧ Calm w w' := by
  have SA : Hid (∀ j, j < L.length → ∃ g off, ao = some ⟨g, off, none⟩ ∧ ∀ W, Calm w W → pcell W g (off + j * 9) (L.getD j pn0)) := hide fun j hj => pn_W hm j hj
  have TN : Hid (∀ i, txT L (i + 1) = (txT L i ++ bsL (lineB (L.getD i pn0))) ++ [10]) := hide fun _ => rfl
  have TL : Hid (∀ i, i ≤ L.length → (∀ j, j < i → mayP (L.getD j pn0) = true) → (txT L i).length ≤ 1200 * i) := hide (txT_len hp)
  have T0 : Hid (txT L 0 = []) := hide rfl
  have MN : Hid (∀ j, j < L.length → mayP (L.getD j pn0) = false → mayT L = false) := hide fun j => mayT_no
  have MY : Hid ((∀ j, j < L.length → mayP (L.getD j pn0) = true) → mayT L = true) := hide mayT_yes
  have LZ : Hid (∀ j, j < L.length → mayP (L.getD j pn0) = true → (lineB (L.getD j pn0)).size ≤ 1194) := hide fun j hj h => by
    unfold mayP at h
    exact txL_size (of_decide_eq_true h).1 (hp j hj) 7 (by omega)
  have CM : Hid (∀ p W, _) := hide fun p W => maybe_any p W
  have CW := hide (fun j (hj : j < L.length) h A a c W ho hB hA ht hk hg => write_any (L.getD j pn0) h (hp j hj) A a c W w.heap.size ho hB hA ht hk hg)
  have HT := hide (hy.tab.below rfl)
  have HK := hide hy.kds
  have HKl := hide hy.kds.lt
  generalize mayT L = b at *
  generalize ht : txT L = t at *
  obtain ⟨x, hx⟩ : ∃ x : Nat → Pn, ∀ j, L.getD j pn0 = x j := ⟨fun j => L.getD j pn0, fun _ => rfl⟩
  simp only [hx] at SA TN TL MN MY LZ CW
  clear hm hp ht hx hy
  generalize hn : L.length = n at *
  clear hn
  go_enter Tryd.func10, Tryd.ntmps10
  go_wp2_with fail
  go_loopw [4, 9] (fun s4 s9 wr => ∃ (i : Nat) (a : Option Addr) (c : Nat), s9 = .int .i64 (i : Int) ∧ i ≤ n ∧ s4 = .slice a (t i).length c ∧ (∀ j, j < i → mayP (x j) = true) ∧ encB.Own 5 wr w.heap.size (.slice a (t i).length c) (t i) ∧ Calm w wr) (fun _ s9 _ => n - (intOf s9).toNat)
  case atStart => exact ⟨0, none, 0, rfl, by omega, by rw [T0.out]; rfl, fun j hj => by omega, by rw [T0.out]; exact Rc.Own.nil _ _ _, Touch.refl _ _⟩
  case round =>
    obtain ⟨i, a, c, rfl, hi, rfl, hok, OW, TE⟩ := hrel
    by_cases hlt : i < n
    · have hltz : (i : Int) < (n : Int) := by omega
      obtain ⟨g, off, rfl, ck⟩ := SA.out i hlt
      obtain ⟨⟨c0, c1, c2, c3, c4⟩, c5, c6, c7, c8⟩ := ck wr TE
      have LE := TL.out i hi hok
      have TS := TN.out i
      have MNi := hide (MN.out i hlt)
      have HS : Hid (mayP (x i) = true → ∀ j, j < i + 1 → mayP (x j) = true) := hide fun h j hj => by
        by_cases e : j = i
        · subst e; exact h
        · exact hok j (by omega)
      have HZ := hide (LZ.out i hlt)
      have CWi := hide (CW.out i hlt)
      have CMi := hide (CM.out (x i))
      have hi9 : (Tryd.prog.info? 29).map (·.size) = some 9 := by kernel_rfl
      have Z0 := hide (al_new wr (.cells (pnc pn0) 29))
      have Z1 := hide (setRow_heap _ _ _ (pnc (x i)) _ _ Z0.out)
      have Z2 : Hid (Touch (fun _ => False) wr ((wr.alloc (.cells (pnc pn0) 29)).setRow wr.heap.size (pnc (x i)))) := hide (((Touch.refl (fun _ => False) wr).alloc _).trans (S' := fun g => g = wr.heap.size) ⟨rfl, rfl, rfl, by simp, fun j _ hj => setRow_other _ _ j _ hj⟩ (fun g hg e => by omega))
      have hq1 : Hid ((pnc (x i)).all (·.oneCell') = true) := hide (by simp [Value.oneCell'])
      have HOW := hide OW
      have HTE := hide TE
      clear SA CM CW OW TE TL TN MN hok ck T0 MY LZ
      go_upto_region 5 with (refine wpList_store_rowTo rfl 29 (.tmp 6) (.tmp 12) rfl rfl wr.heap.size (pnc (x i)) rfl rfl 29 _ Z0.out hi9 rfl hq1.out ?_)
      clear c0 c1 c2 c3 c4 c5 c6 c7 c8 Z0 hq1 hi9
      generalize (wr.alloc (.cells (pnc pn0) 29)).setRow wr.heap.size (pnc (x i)) = w3 at *
      have O3 := hide (Rc.Own.calm HOW.out Z2.out)
      have H3 := hide (HTE.out.tr Z2.out)
      clear HOW HTE Z2
      generalize wr.heap.size = D at *
      obtain ⟨⟨c0, c1, c2, c3, c4⟩, c5, c6, c7, c8⟩ := pn_cells Z1.out
      cases hm : mayP (x i) with
      | false =>
        rw [hm] at CMi
        have hb := MNi.out hm
        subst hb
        clear MNi HS HZ hm LE TS CWi O3
        go_wp2_with fail
        refine (CMi.out _).mono ?_
        rintro r w4 ⟨rfl, T4⟩
        have H4 := hide (H3.out.tr T4)
        clear c0 c1 c2 c3 c4 c5 c6 c7 c8 T4
        go_wp2_with fail
        go_ret2
        exact ⟨rfl, H4.out⟩
      | true =>
        rw [hm] at CMi
        have HS2 := hide (HS.out hm)
        have hz := HZ.out hm
        have HTS := hide TS
        have CWi2 := hide (CWi.out hm)
        clear MNi HS HZ hm TS CWi
        generalize lineB (x i) = s at *
        go_wp2_with fail
        refine (CMi.out _).mono ?_
        rintro r w4 ⟨rfl, T4⟩
        have H4 := hide (H3.out.tr T4)
        have O4 := Rc.Own.calm O3.out T4
        have A4 := hide (T4.at Z1.out)
        have B4 : w.heap.size ≤ w4.heap.size := H4.out.size
        have CW4 := hide (CWi2.out (t i) a c w4 O4 B4 (by omega) (HT.out.on (Touch.below H4.out fun _ _ h => h)) (HK.out.calm H4.out) HKl.out)
        clear c0 c1 c2 c3 c4 c5 c6 c7 c8 T4 CMi CWi2 O3 H3 Z1
        obtain ⟨⟨c0, c1, c2, c3, c4⟩, c5, c6, c7, c8⟩ := pn_cells A4.out
        go_wp2_with fail
        refine CW4.out.mono ?_
        rintro r w5 ⟨a5, c5', rfl, o5, T5⟩
        have H5 := hide (calm_below ((Touch.below H4.out fun _ _ h => h).trans T5.below))
        have e2 : (t i ++ bsL s).length ≤ 1200 * i + 1194 := by rw [List.length_append, bsL_len]; omega
        obtain ⟨a6, p6, w6, hr6, ow6, t6⟩ := by_appS ⟨#[10]⟩ o5 H5.out.size (by have e : (⟨#[10]⟩ : ByteArray).size = 1 := rfl; omega)
        have H6 := hide (Rc.Own.fresh (w0 := w) o5 t6 (fun _ h => h) H5.out (Nat.le_refl _))
        have e6 : bsL ⟨#[10]⟩ = [10] := rfl
        rw [e6, ← HTS.out] at ow6 hr6
        have HR6 := hide hr6
        have HO6 := hide ow6
        clear c0 c1 c2 c3 c4 c5 c6 c7 c8 T5 o5 hr6 ow6 t6 e2 e6 LE hz O4 A4 CW4 HTS
        generalize (t i ++ bsL s).length = l2 at *
        go_wp2_with (at_builtin; refine Rc.wpList_appR rfl (.tmp 18) (.const (.string ⟨#[10]⟩)) 55 9 rfl _ _ _ rfl rfl HR6.out ?_)
        go_roundw
        case rel => exact ⟨i + 1, a6, p6, by go_num, by omega, rfl, HS2.out, HO6.out, H6.out⟩
        case measure => simp [intOf]; omega
    · have hltz : ¬ (i : Int) < (n : Int) := by omega
      obtain rfl : i = n := by omega
      have hb := MY.out hok
      subst hb
      have HTE := hide TE
      have cv := conv_any OW
      clear OW TE SA TN TL T0 MN MY LZ hok CM CW HT HK HKl
      go_wp2_with fail
      go_ret2
      exact ⟨rfl, HTE.out⟩

end Go.Proofs.YtamfcmmhmfhhkaaDoor

namespace Go.Proofs.YtamfcmmhmfhhkaaDoor
open Go.RowKit

/-- A text of these bytes. -/
def bl (R : List UInt8) : ByteArray := ⟨R.toArray⟩
theorem bl_list (R : List UInt8) : (bl R).toList = R := by rw [ByteArray.toList_eq]; rfl
theorem bl_data (R : List UInt8) : (bl R).data.toList = R := rfl
theorem bl_size (R : List UInt8) : (bl R).size = R.length := by
  show R.toArray.size = _
  rw [List.size_toArray]
theorem bl_of (s : ByteArray) : bl s.toList = s := ba_ext (bl_list _)
theorem bl_cut (R : List UInt8) (a b : Nat) : (bl R).extract a b = bl ((R.drop a).take (b - a)) := ba_ext (by rw [ex_toList, bl_list, bl_list])
theorem bl_from (R : List UInt8) (a : Nat) : (bl R).extract a (bl R).size = bl (R.drop a) := by
  rw [bl_cut, bl_size, List.take_of_length_le (by rw [List.length_drop]; omega)]
theorem bl_to (R : List UInt8) (b : Nat) : (bl R).extract 0 b = bl (R.take b) := by rw [bl_cut, List.drop_zero, Nat.sub_zero]
theorem bl_ne {R : List UInt8} (h : R ≠ []) : (bl R).toList.isEmpty = false := by
  rw [bl_list]
  exact List.isEmpty_eq_false_iff.2 h
theorem bl_at {R : List UInt8} {i : Nat} (h : i < R.length) : ∃ h' : i < (bl R).size, ((bl R)[i]'h') = R[i] := ⟨by rw [bl_size]; exact h, by
  rfl⟩

/-- The course lies at q, so much is left of it. -/
def Crs (W : World) (q : Nat) (R : List UInt8) : Prop := W.heap[q]? = some (.cells #[.string (bl R)] 86 (0, 0))
theorem Crs.calm {w w' : World} {q : Nat} {R : List UInt8} (h : Crs w q R) (ht : Calm w w') : Crs w' q R := ht.at h
theorem Crs.put {w : World} {q : Nat} {R R' : List UInt8} (h : Crs w q R) : Crs (w.setCell ⟨q, 0, none⟩ (.string (bl R'))) q R' ∧ Touch (fun g => g = q) w (w.setCell ⟨q, 0, none⟩ (.string (bl R'))) := ⟨set_one _ h, (Touch.refl (fun g => g = q) w).setCell (p := ⟨q, 0, none⟩) (fun _ => rfl) _⟩

/-- The next byte. -/
def hdI : List UInt8 → Int
  | [] => 0
  | b :: _ => (b.toNat : Int)

set_option maxRecDepth 100000 in
set_option maxHeartbeats 1000000 in
theorem next_any (R : List UInt8) (q : Nat) (w : World) (h : Crs w q R) : Calls Tryd.prog 48 #[.pointer (some ⟨q, 0, none⟩)] w fun e w' => e = .returned (.tuple #[.int .u8 (hdI R), .bool (!R.isEmpty)]) ∧ Crs w' q R.tail ∧ Touch (fun g => g = q) w w' := by
  obtain ⟨c0, f0⟩ := one_cell h
  cases R with
  | nil =>
    have e : bl [] = ⟨#[]⟩ := rfl
    rw [e] at c0
    have H := hide h
    clear h
    go_enter Tryd.func48, Tryd.ntmps48
    go_wp2_with fail
    go_ret2
    exact ⟨rfl, H.out, Touch.refl _ _⟩
  | cons b R =>
    have hne := bl_ne (R := b :: R) (by simp)
    obtain ⟨hpos, hb⟩ := bl_at (R := b :: R) (i := 0) (by simp)
    have hb' : ((bl (b :: R))[0]'hpos).toNat = b.toNat := by rw [hb]; rfl
    have hex := bl_from (b :: R) 1
    have hz : (0 : Int) < ((bl (b :: R)).size : Int) := by omega
    have hz1 : (1 : Int) ≤ ((bl (b :: R)).size : Int) := by omega
    have e2 : (b :: R).drop 1 = R := rfl
    rw [e2] at hex
    have PU := hide (h.put (R' := R))
    have HB : Hid (hdI (b :: R) = (b.toNat : Int)) := hide rfl
    clear h hb e2
    generalize bl (b :: R) = s at *
    generalize bl R = t at *
    generalize hdI (b :: R) = x at *
    generalize b.toNat = n at *
    go_enter Tryd.func48, Tryd.ntmps48
    go_wp2_with fail
    go_ret2
    exact ⟨by rw [HB.out]; rfl, PU.out.1, PU.out.2⟩

/-- Is that byte the next one? -/
def tkB (R : List UInt8) (n : Nat) : Bool := !R.isEmpty && decide (hdI R = (n : Int))
theorem tkB_yes {R : List UInt8} {n : Nat} (h : tkB R n = true) : ∃ b R', R = b :: R' ∧ b.toNat = n := by
  cases R with
  | nil => simp [tkB] at h
  | cons b R' =>
    refine ⟨b, R', rfl, ?_⟩
    unfold tkB hdI at h
    simp only [List.isEmpty_cons, Bool.not_false, Bool.true_and, decide_eq_true_eq] at h
    omega
theorem tkB_no {R : List UInt8} {n : Nat} (h : tkB R n = false) : ∀ b R', R = b :: R' → b.toNat ≠ n := by
  rintro b R' rfl e
  unfold tkB hdI at h
  simp only [List.isEmpty_cons, Bool.not_false, Bool.true_and, decide_eq_false_iff_not] at h
  omega

set_option maxRecDepth 100000 in
set_option maxHeartbeats 1000000 in
theorem take_any (R : List UInt8) (n : Nat) (q : Nat) (w : World) (h : Crs w q R) : Calls Tryd.prog 47 #[.pointer (some ⟨q, 0, none⟩), .int .u8 (n : Int)] w fun e w' => e = .returned (.bool (tkB R n)) ∧ Crs w' q R.tail ∧ Touch (fun g => g = q) w w' := by
  have CN := hide (next_any R q w h)
  have G : Hid (tkB R n = (!R.isEmpty && decide (hdI R = (n : Int)))) := hide rfl
  clear h
  generalize tkB R n = z at *
  generalize R.tail = R' at *
  generalize hdI R = x at *
  generalize R.isEmpty = y at *
  cases y with
  | true =>
    go_enter Tryd.func47, Tryd.ntmps47
    go_wp2_with fail
    refine CN.out.mono ?_
    rintro r w1 ⟨rfl, h1, t1⟩
    have H1 := hide h1
    have T1 := hide t1
    clear h1 t1 CN
    go_wp2_with fail
    go_ret
    exact ⟨by rw [G.out]; rfl, H1.out, T1.out⟩
  | false =>
    by_cases he : x = (n : Int)
    · have hz : (x == (n : Int)) = true := by rw [beq_iff_eq]; exact he
      have G2 : Hid (z = true) := hide (by rw [G.out, decide_eq_true he]; rfl)
      clear G he
      go_enter Tryd.func47, Tryd.ntmps47
      go_wp2_with fail
      refine CN.out.mono ?_
      rintro r w1 ⟨rfl, h1, t1⟩
      have H1 := hide h1
      have T1 := hide t1
      clear h1 t1 CN
      go_wp2_with fail
      go_ret
      exact ⟨by rw [G2.out]; rfl, H1.out, T1.out⟩
    · have hz : (x == (n : Int)) = false := by rw [beq_eq_false_iff_ne]; exact he
      have G2 : Hid (z = false) := hide (by rw [G.out, decide_eq_false he]; rfl)
      clear G he
      go_enter Tryd.func47, Tryd.ntmps47
      go_wp2_with fail
      refine CN.out.mono ?_
      rintro r w1 ⟨rfl, h1, t1⟩
      have H1 := hide h1
      have T1 := hide t1
      clear h1 t1 CN
      go_wp2_with fail
      go_ret
      exact ⟨by rw [G2.out]; rfl, H1.out, T1.out⟩

/-- The next word, and what stands behind it. -/
def wdL (R : List UInt8) : List UInt8 := R.takeWhile fun b => decide (b ≠ 32)
def wdR (R : List UInt8) : List UInt8 := R.dropWhile fun b => decide (b ≠ 32)
theorem wd_app (R : List UInt8) : wdL R ++ wdR R = R := List.takeWhile_append_dropWhile
theorem ib_cases : ∀ R : List UInt8, (Lib.indexByte R 32 = -1 ∧ wdL R = R ∧ wdR R = []) ∨ ∃ k : Nat, Lib.indexByte R 32 = (k : Int) ∧ k < R.length ∧ wdL R = R.take k ∧ wdR R = R.drop k
  | [] => .inl ⟨rfl, rfl, rfl⟩
  | b :: R => by
    by_cases h : b = 32
    · subst h
      exact .inr ⟨0, rfl, by simp, rfl, rfl⟩
    · have e1 : wdL (b :: R) = b :: wdL R := List.takeWhile_cons_of_pos (by simpa using h)
      have e2 : wdR (b :: R) = wdR R := List.dropWhile_cons_of_pos (by simpa using h)
      have hb : (b == 32) = false := by rw [beq_eq_false_iff_ne]; exact h
      rcases ib_cases R with ⟨h1, h2, h3⟩ | ⟨k, h1, h2, h3, h4⟩
      · refine .inl ⟨?_, by rw [e1, h2], by rw [e2, h3]⟩
        rw [Lib.indexByte, hb, h1]
        rfl
      · refine .inr ⟨k + 1, ?_, by simpa using h2, by rw [e1, h3]; rfl, by rw [e2, h4]; rfl⟩
        rw [Lib.indexByte, hb, h1]
        have : ((k : Int) == -1) = false := by rw [beq_eq_false_iff_ne]; omega
        rw [this]
        simp

set_option maxRecDepth 100000 in
set_option maxHeartbeats 1000000 in
theorem word_any (R : List UInt8) (hl : R.length ≤ 1000000) (q : Nat) (w : World) (h : Crs w q R) : Calls Tryd.prog 51 #[.pointer (some ⟨q, 0, none⟩)] w fun e w' => e = .returned (.string (bl (wdL R))) ∧ Crs w' q (wdR R) ∧ Touch (fun g => g = q) w w' := by
  obtain ⟨c0, f0⟩ := one_cell h
  have CI : Hid (∀ W, Calls Tryd.prog 62 #[.string (bl R), .int .u8 32] W fun e w' => e = .returned (.int .i64 (Lib.indexByte R 32)) ∧ w' = W) := hide fun W => Any.strings_IndexByte Tryd.lays137 (bl R) 32 W
  have PU := hide (h.put (R' := wdR R))
  have hs := bl_size R
  rcases ib_cases R with ⟨h1, h2, h3⟩ | ⟨k, h1, h2, h3, h4⟩
  · rw [h1] at CI
    have e2 : bl (wdR R) = ByteArray.empty := by rw [h3]; rfl
    rw [e2] at PU
    rw [h2]
    have HW := hide e2
    clear h h1 h2 h3 e2
    have hR : Hid (∀ W, Crs W q (wdR R) ↔ W.heap[q]? = some (.cells #[.string ByteArray.empty] 86 (0, 0))) := hide fun W => by unfold Crs; rw [HW.out]
    simp only [hR.out] at PU ⊢
    clear hR HW
    rw [← hs] at hl
    clear hs
    generalize bl R = s at *
    have hl2 : (s.size : Int) ≤ 1000000 := by omega
    have hl3 : ¬ (s.size : Int) < 0 := by omega
    go_enter Tryd.func51, Tryd.ntmps51
    go_wp2_with fail
    refine (CI.out _).mono ?_
    rintro r w1 ⟨rfl, hq⟩
    obtain rfl := hq.symm
    clear hq CI
    go_wp2_with fail
    go_ret
    exact ⟨rfl, PU.out.1, PU.out.2⟩
  · rw [h1] at CI
    have e1 : bl (wdL R) = (bl R).extract 0 k := by rw [h3, bl_to]
    have e2 : bl (wdR R) = (bl R).extract k (bl R).size := by rw [h4, bl_from]
    rw [e2] at PU
    rw [e1]
    have HW := hide e2
    have hkz : (k : Int) ≤ ((bl R).size : Int) := by rw [hs]; omega
    clear h h1 h2 h3 e1 e2 h4
    have hR : Hid (∀ W, Crs W q (wdR R) ↔ W.heap[q]? = some (.cells #[.string ((bl R).extract k (bl R).size)] 86 (0, 0))) := hide fun W => by unfold Crs; rw [HW.out]
    simp only [hR.out] at PU ⊢
    clear hR HW
    rw [← hs] at hl
    clear hs
    generalize bl R = s at *
    have hk3 : ¬ (k : Int) < 0 := by omega
    have hk4 : (0 : Int) ≤ (k : Int) := by omega
    go_enter Tryd.func51, Tryd.ntmps51
    go_wp2_with fail
    refine (CI.out _).mono ?_
    rintro r w1 ⟨rfl, hq⟩
    obtain rfl := hq.symm
    clear hq CI
    go_wp2_with fail
    go_ret
    exact ⟨rfl, PU.out.1, PU.out.2⟩

end Go.Proofs.YtamfcmmhmfhhkaaDoor
