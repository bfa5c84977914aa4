/- Compare (the document's). Line: a pane's line (the document's). Text: panes' lines (the document's). -/
import Derived.Test.YtamfcmmhmfhhkaaDoorG7
import Derived.Test.YtamfcmmhmfhhkaaDoorG2
import Derived.Test.YtamfcmmhmfhhkaaDoorG5
import Derived.Test.YtamfcmmhmfhhkaaDoorG6
import Derived.Lib.AppendStr
namespace Go.Proofs.YtamfcmmhmfhhkaaDoor
open Go.RowKit

/-- A pane's numbers, in the order of the comparison. -/
def numsC (p : Pn) : List Int := [p.a, p.b, p.d, p.n, p.t.c, p.t.s, p.t.m, p.t.x]
def cmpL : List Int → List Int → Int
  | x :: X, y :: Y => if x < y then -1 else if y < x then 1 else cmpL X Y
  | _, _ => 0
def cmpP (a b : Pn) : Int := if kLt a.k b.k then -1 else if a.k = b.k then cmpL (numsC a) (numsC b) else 1

theorem cmpL_at : ∀ (X Y : List Int) (i : Nat), X.length = Y.length → i < X.length → (∀ j, j < i → X.getD j 0 = Y.getD j 0) → (X.getD i 0 < Y.getD i 0 → cmpL X Y = -1) ∧ (Y.getD i 0 < X.getD i 0 → cmpL X Y = 1)
  | [], _, _, _, h, _ => by simp at h
  | _ :: _, [], _, h, _, _ => by simp at h
  | x :: X, y :: Y, 0, _, _, _ => by
    constructor
    · intro h
      have h' : x < y := h
      simp [cmpL, h']
    · intro h
      have h' : y < x := h
      have h2 : ¬ x < y := by omega
      simp [cmpL, h', h2]
  | x :: X, y :: Y, i + 1, hl, hi, hA => by
    have e : x = y := hA 0 (by omega)
    subst e
    have ih := cmpL_at X Y i (by simpa using hl) (by simpa using hi) (fun j hj => hA (j + 1) (by omega))
    simpa [cmpL] using ih
theorem cmpL_eq : ∀ (X : List Int), cmpL X X = 0
  | [] => rfl
  | x :: X => by simp [cmpL, cmpL_eq X]
theorem cmpL_all (X Y : List Int) (hl : X.length = Y.length) (h : ∀ j, j < X.length → X.getD j 0 = Y.getD j 0) : cmpL X Y = 0 := by
  have e : X = Y := List.ext_getElem hl fun j h1 h2 => by
    have := h j h1
    rwa [List.getD_eq_getElem?_getD, List.getD_eq_getElem?_getD, List.getElem?_eq_getElem h1, List.getElem?_eq_getElem h2] at this
  rw [e, cmpL_eq]
/-- A number's cell, in every world that stays calm. -/
theorem in_W {w : World} {ao : Option Addr} {L : List Int} (h : encJ.Mem w ao L) (j : Nat) (hj : j < L.length) : ∃ g off, ao = some ⟨g, off, none⟩ ∧ ∀ W, Calm w W → W.cell? ⟨g, off + j, none⟩ = some (.int .i64 (L.getD j 0)) := by
  obtain ⟨g, off, e, -⟩ := Rc.Mem.at h j hj
  refine ⟨g, off, e, fun W hW => ?_⟩
  obtain ⟨g2, off2, e2, k⟩ := Rc.Mem.at (Rc.Mem.calm h hW) j hj
  rw [e] at e2
  injection e2 with e2
  injection e2 with e3 e4
  subst e3 e4
  rw [List.getD_eq_getElem?_getD, List.getElem?_eq_getElem hj]
  have := k 0 _ rfl
  have e1 : encJ.n = 1 := rfl
  rwa [e1, Nat.mul_one] at this

set_option maxRecDepth 100000 in
set_option maxHeartbeats 4000000 in
theorem rcomp_any (p q : Pn) (w : World) : Calls Tryd.prog 14 #[pnv p, pnv q] w fun e w' => e = .returned (.int .i64 (cmpP p q)) ∧ Calm w w' := by
  have HC0 : Hid (cmpP p q = if kLt p.k q.k then -1 else if p.k = q.k then cmpL (numsC p) (numsC q) else 1) := hide rfl
  generalize cmpP p q = R at *
  have S1 := al_size w (.cells (pnc p) 29)
  have S2 := al_size (w.alloc (.cells (pnc p) 29)) (.cells (pnc q) 29)
  have A0 := al_old (al_new w (.cells (pnc p) 29)) (.cells (pnc q) 29)
  have A1 := al_new (w.alloc (.cells (pnc p) 29)) (.cells (pnc q) 29)
  rw [S1] at A1 S2
  have T2 : Calm w ((w.alloc (.cells (pnc p) 29)).alloc (.cells (pnc q) 29)) := ((Touch.refl _ w).alloc _).alloc _
  have S3 := al_size ((w.alloc (.cells (pnc p) 29)).alloc (.cells (pnc q) 29)) (.cells (encJ.flat (numsC p)).toArray 2)
  have M3 := Rc.Mem.new (E := encJ) ((w.alloc (.cells (pnc p) 29)).alloc (.cells (pnc q) 29)) (numsC p) 2
  have M4 := Rc.Mem.new (E := encJ) (((w.alloc (.cells (pnc p) 29)).alloc (.cells (pnc q) 29)).alloc (.cells (encJ.flat (numsC p)).toArray 2)) (numsC q) 2
  rw [S3, S2] at M4
  rw [S2] at M3
  have M3' := Rc.Mem.calm M3 ((Touch.refl (fun _ => False) _).alloc (.cells (encJ.flat (numsC q)).toArray 2))
  have HX : Hid (∀ j, j < 8 → ∃ g off, some (⟨w.heap.size + 1 + 1, 0, none⟩ : Addr) = some ⟨g, off, none⟩ ∧ _) := hide fun j (hj : j < 8) => in_W M3' j hj
  have HY : Hid (∀ j, j < 8 → ∃ g off, some (⟨w.heap.size + 1 + 1 + 1, 0, none⟩ : Addr) = some ⟨g, off, none⟩ ∧ _) := hide fun j (hj : j < 8) => in_W M4 j hj
  have T4 := hide ((T2.alloc (.cells (encJ.flat (numsC p)).toArray 2)).alloc (.cells (encJ.flat (numsC q)).toArray 2))
  have HT2 := hide T2
  have KA := hide (pn_cells A0)
  have KB := hide (pn_cells A1)
  have KB3 := hide (pn_cells (al_old A1 (.cells (encJ.flat (numsC p)).toArray 2)))
  have CA : Hid (∀ i, i < 8 → _) := hide fun i hi => cmpL_at (numsC p) (numsC q) i rfl (show i < 8 from hi)
  have CB := hide (cmpL_all (numsC p) (numsC q) rfl)
  clear S1 S2 S3 A0 A1 T2 M3 M4 M3'
  by_cases h1 : kLt p.k q.k = true
  · have hb : Op.bytesLess p.k.toList q.k.toList = true := h1
    have hR := HC0.out
    rw [if_pos h1] at hR
    subst hR
    clear HX HY CA CB KB3 T4 HC0
    go_enter Tryd.func14, Tryd.ntmps14
    obtain ⟨⟨c0, c1, c2, c3, c4⟩, c5, c6, c7, c8⟩ := KA.out
    obtain ⟨⟨d0, d1, d2, d3, d4⟩, d5, d6, d7, d8⟩ := KB.out
    go_wp2_with fail
    go_ret
    exact ⟨rfl, HT2.out⟩
  · have hb : Op.bytesLess p.k.toList q.k.toList = false := by simpa [kLt] using h1
    by_cases h2 : p.k = q.k
    case neg =>
      have hb2 : (p.k.toList == q.k.toList) = false := by rw [ba_beq, decide_eq_false h2]
      have hR := HC0.out
      rw [if_neg h1, if_neg h2] at hR
      subst hR
      clear HX HY CA CB KB3 T4
      go_enter Tryd.func14, Tryd.ntmps14
      obtain ⟨⟨c0, c1, c2, c3, c4⟩, c5, c6, c7, c8⟩ := KA.out
      obtain ⟨⟨d0, d1, d2, d3, d4⟩, d5, d6, d7, d8⟩ := KB.out
      go_wp2_with fail
      go_ret
      exact ⟨rfl, HT2.out⟩
    have hb2 : (p.k.toList == q.k.toList) = true := by rw [ba_beq, decide_eq_true h2]
    have hR := HC0.out
    rw [if_neg h1, if_pos h2] at hR
    subst hR
    clear HC0 h2 h1
    generalize cmpL (numsC p) (numsC q) = R at *
    obtain ⟨W4, hW4⟩ : ∃ W, W = (((w.alloc (.cells (pnc p) 29)).alloc (.cells (pnc q) 29)).alloc (.cells (encJ.flat (numsC p)).toArray 2)).alloc (.cells (encJ.flat (numsC q)).toArray 2) := ⟨_, rfl⟩
    simp only [← hW4] at HX HY T4
    have X0 : Hid ((encJ.flat (numsC p)).toArray = #[.int .i64 p.a, .int .i64 p.b, .int .i64 p.d, .int .i64 p.n, .int .i64 p.t.c, .int .i64 p.t.s, .int .i64 p.t.m, .int .i64 p.t.x]) := hide rfl
    go_enter Tryd.func14, Tryd.ntmps14
    obtain ⟨⟨c0, c1, c2, c3, c4⟩, c5, c6, c7, c8⟩ := KA.out
    obtain ⟨⟨d0, d1, d2, d3, d4⟩, d5, d6, d7, d8⟩ := KB.out
    obtain ⟨⟨e0, e1, e2, e3, e4⟩, e5, e6, e7, e8⟩ := KB3.out
    simp only [X0.out] at e0 e1 e2 e3 e4 e5 e6 e7 e8
    go_wp2_with fail
    clear c0 c1 c2 c3 c4 c5 c6 c7 c8 d0 d1 d2 d3 d4 d5 d6 d7 d8 e0 e1 e2 e3 e4 e5 e6 e7 e8
    go_loopw [7] (fun s7 wr => ∃ i : Nat, s7 = .int .i64 (i : Int) ∧ i ≤ 8 ∧ (∀ j, j < i → (numsC p).getD j 0 = (numsC q).getD j 0) ∧ Calm W4 wr) (fun s7 _ => 8 - (intOf s7).toNat)
    case atStart => exact ⟨0, rfl, by omega, fun j hj => by omega, by rw [hW4]; exact Touch.refl _ _⟩
    case round =>
      obtain ⟨i, rfl, hi, hA, hC⟩ := hrel
      clear KA KB KB3 HT2 hb hb2 X0
      by_cases hlt : i < 8
      · have hltz : (i : Int) < 8 := by omega
        obtain ⟨g, off, e1, ck⟩ := HX.out i hlt
        injection e1 with e1
        injection e1 with e3 e4
        subst e3 e4
        obtain ⟨g, off, e1, ck2⟩ := HY.out i hlt
        injection e1 with e1
        injection e1 with e3 e4
        subst e3 e4
        simp only [Nat.zero_add] at ck ck2
        have KX := hide ck
        have KY := hide ck2
        obtain ⟨n1, n2⟩ := CA.out i hlt hA
        have N1 := hide n1
        have N2 := hide n2
        have HA1 : Hid ((numsC p).getD i 0 = (numsC q).getD i 0 → ∀ j, j < i + 1 → (numsC p).getD j 0 = (numsC q).getD j 0) := hide fun h j hj => by
          rcases Nat.lt_or_ge j i with h3 | h3
          · exact hA j h3
          · obtain rfl : j = i := by omega
            exact h
        have HC := hide hC
        generalize (numsC p).getD i 0 = x at *
        generalize (numsC q).getD i 0 = y at *
        clear HX HY CA CB ck ck2 n1 n2 hA hC
        by_cases hxy : x < y
        · have hR := N1.out hxy
          subst hR
          have hd : decide (x < y) = true := decide_eq_true hxy
          go_wp2_with fail
          refine wp_region_held (S := Calm W4) (by kernel_rfl) ?_
          have hT0 : Calm W4 { wr with drawn := wr.drawn + 1 } := HC.out.drew
          refine wpAnyH_yield 0 70 (.slice (some ⟨w.heap.size + 1 + 1, 0, none⟩) 8 8) rfl rfl (by kernel_rfl) (by kernel_rfl) (by kernel_rfl) (fun _ _ _ h => h) (by kernel_rfl) (fun W hW => by kernel_rfl) (by assumption) rfl rfl ?_
          simp only [Act.put, List.setIfInBounds_toArray, List.set_cons_zero, List.set_cons_succ]
          refine wpAnyH_yield 1 71 (.int .i64 (i : Int)) rfl rfl (by kernel_rfl) (by kernel_rfl) (by kernel_rfl) (fun _ _ _ h => h) (by kernel_rfl) (fun W hW => by kernel_rfl) (by assumption) rfl rfl ?_
          simp only [Act.put, List.setIfInBounds_toArray, List.set_cons_zero, List.set_cons_succ]
          refine wpAnyH_yield 2 72 (.pointer (some ⟨w.heap.size + 1 + 1, i, none⟩)) rfl rfl (by kernel_rfl) (by kernel_rfl) (by kernel_rfl) (fun _ _ _ h => h) (by kernel_rfl) (fun W hW => by go_simp) (by assumption) rfl rfl ?_
          simp only [Act.put, List.setIfInBounds_toArray, List.set_cons_zero, List.set_cons_succ]
          refine wpAnyH_yield 3 73 (.int .i64 x) rfl rfl (by kernel_rfl) (by kernel_rfl) (by kernel_rfl) (fun _ _ _ h => h) (by kernel_rfl) (fun W hW => by have q := KX.out W hW; go_simp) (by assumption) rfl rfl ?_
          simp only [Act.put, List.setIfInBounds_toArray, List.set_cons_zero, List.set_cons_succ]
          refine wpAnyH_yield 4 74 (.slice (some ⟨w.heap.size + 1 + 1 + 1, 0, none⟩) 8 8) rfl rfl (by kernel_rfl) (by kernel_rfl) (by kernel_rfl) (fun _ _ _ h => h) (by kernel_rfl) (fun W hW => by kernel_rfl) (by assumption) rfl rfl ?_
          simp only [Act.put, List.setIfInBounds_toArray, List.set_cons_zero, List.set_cons_succ]
          refine wpAnyH_yield 5 75 (.int .i64 (i : Int)) rfl rfl (by kernel_rfl) (by kernel_rfl) (by kernel_rfl) (fun _ _ _ h => h) (by kernel_rfl) (fun W hW => by kernel_rfl) (by assumption) rfl rfl ?_
          simp only [Act.put, List.setIfInBounds_toArray, List.set_cons_zero, List.set_cons_succ]
          refine wpAnyH_yield 6 76 (.pointer (some ⟨w.heap.size + 1 + 1 + 1, i, none⟩)) rfl rfl (by kernel_rfl) (by kernel_rfl) (by kernel_rfl) (fun _ _ _ h => h) (by kernel_rfl) (fun W hW => by go_simp) (by assumption) rfl rfl ?_
          simp only [Act.put, List.setIfInBounds_toArray, List.set_cons_zero, List.set_cons_succ]
          refine wpAnyH_yield 7 77 (.int .i64 y) rfl rfl (by kernel_rfl) (by kernel_rfl) (by kernel_rfl) (fun _ _ _ h => h) (by kernel_rfl) (fun W hW => by have q := KY.out W hW; go_simp) (by assumption) rfl rfl ?_
          simp only [Act.put, List.setIfInBounds_toArray, List.set_cons_zero, List.set_cons_succ]
          refine wpAnyH_yield 8 78 (.bool true) rfl rfl (by kernel_rfl) (by kernel_rfl) (by kernel_rfl) (fun _ _ _ h => h) (by kernel_rfl) (fun W hW => by go_simp) (by assumption) rfl rfl ?_
          simp only [Act.put, List.setIfInBounds_toArray, List.set_cons_zero, List.set_cons_succ]
          refine wpAnyH_done (by kernel_rfl) ?_ _
          have H1 := hide (T4.out.tr hT0)
          clear hT0 HC KX KY
          go_wp2_with fail
          go_ret
          exact ⟨rfl, H1.out⟩
        · have hxy' : y ≤ x := by omega
          go_wp2_with fail
          refine wp_region_held (S := Calm W4) (by kernel_rfl) ?_
          have hT0 : Calm W4 { wr with drawn := wr.drawn + 1 } := HC.out.drew
          refine wpAnyH_yield 0 70 (.slice (some ⟨w.heap.size + 1 + 1, 0, none⟩) 8 8) rfl rfl (by kernel_rfl) (by kernel_rfl) (by kernel_rfl) (fun _ _ _ h => h) (by kernel_rfl) (fun W hW => by kernel_rfl) (by assumption) rfl rfl ?_
          simp only [Act.put, List.setIfInBounds_toArray, List.set_cons_zero, List.set_cons_succ]
          refine wpAnyH_yield 1 71 (.int .i64 (i : Int)) rfl rfl (by kernel_rfl) (by kernel_rfl) (by kernel_rfl) (fun _ _ _ h => h) (by kernel_rfl) (fun W hW => by kernel_rfl) (by assumption) rfl rfl ?_
          simp only [Act.put, List.setIfInBounds_toArray, List.set_cons_zero, List.set_cons_succ]
          refine wpAnyH_yield 2 72 (.pointer (some ⟨w.heap.size + 1 + 1, i, none⟩)) rfl rfl (by kernel_rfl) (by kernel_rfl) (by kernel_rfl) (fun _ _ _ h => h) (by kernel_rfl) (fun W hW => by go_simp) (by assumption) rfl rfl ?_
          simp only [Act.put, List.setIfInBounds_toArray, List.set_cons_zero, List.set_cons_succ]
          refine wpAnyH_yield 3 73 (.int .i64 x) rfl rfl (by kernel_rfl) (by kernel_rfl) (by kernel_rfl) (fun _ _ _ h => h) (by kernel_rfl) (fun W hW => by have q := KX.out W hW; go_simp) (by assumption) rfl rfl ?_
          simp only [Act.put, List.setIfInBounds_toArray, List.set_cons_zero, List.set_cons_succ]
          refine wpAnyH_yield 4 74 (.slice (some ⟨w.heap.size + 1 + 1 + 1, 0, none⟩) 8 8) rfl rfl (by kernel_rfl) (by kernel_rfl) (by kernel_rfl) (fun _ _ _ h => h) (by kernel_rfl) (fun W hW => by kernel_rfl) (by assumption) rfl rfl ?_
          simp only [Act.put, List.setIfInBounds_toArray, List.set_cons_zero, List.set_cons_succ]
          refine wpAnyH_yield 5 75 (.int .i64 (i : Int)) rfl rfl (by kernel_rfl) (by kernel_rfl) (by kernel_rfl) (fun _ _ _ h => h) (by kernel_rfl) (fun W hW => by kernel_rfl) (by assumption) rfl rfl ?_
          simp only [Act.put, List.setIfInBounds_toArray, List.set_cons_zero, List.set_cons_succ]
          refine wpAnyH_yield 6 76 (.pointer (some ⟨w.heap.size + 1 + 1 + 1, i, none⟩)) rfl rfl (by kernel_rfl) (by kernel_rfl) (by kernel_rfl) (fun _ _ _ h => h) (by kernel_rfl) (fun W hW => by go_simp) (by assumption) rfl rfl ?_
          simp only [Act.put, List.setIfInBounds_toArray, List.set_cons_zero, List.set_cons_succ]
          refine wpAnyH_yield 7 77 (.int .i64 y) rfl rfl (by kernel_rfl) (by kernel_rfl) (by kernel_rfl) (fun _ _ _ h => h) (by kernel_rfl) (fun W hW => by have q := KY.out W hW; go_simp) (by assumption) rfl rfl ?_
          simp only [Act.put, List.setIfInBounds_toArray, List.set_cons_zero, List.set_cons_succ]
          refine wpAnyH_yield 8 78 (.bool false) rfl rfl (by kernel_rfl) (by kernel_rfl) (by kernel_rfl) (fun _ _ _ h => h) (by kernel_rfl) (fun W hW => by go_simp) (by assumption) rfl rfl ?_
          simp only [Act.put, List.setIfInBounds_toArray, List.set_cons_zero, List.set_cons_succ]
          refine wpAnyH_done (by kernel_rfl) ?_ _
          have H1 := hide hT0
          clear hT0 HC
          generalize ({ wr with drawn := wr.drawn + 1 } : World) = w5 at *
          by_cases hyx : y < x
          · have hR := N2.out hyx
            subst hR
            go_wp2_with fail
            refine wp_region_held (S := Calm W4) (by kernel_rfl) ?_
            have hT0 : Calm W4 { w5 with drawn := w5.drawn + 1 } := H1.out.drew
            refine wpAnyH_yield 0 79 (.slice (some ⟨w.heap.size + 1 + 1, 0, none⟩) 8 8) rfl rfl (by kernel_rfl) (by kernel_rfl) (by kernel_rfl) (fun _ _ _ h => h) (by kernel_rfl) (fun W hW => by kernel_rfl) (by assumption) rfl rfl ?_
            simp only [Act.put, List.setIfInBounds_toArray, List.set_cons_zero, List.set_cons_succ]
            refine wpAnyH_yield 1 80 (.int .i64 (i : Int)) rfl rfl (by kernel_rfl) (by kernel_rfl) (by kernel_rfl) (fun _ _ _ h => h) (by kernel_rfl) (fun W hW => by kernel_rfl) (by assumption) rfl rfl ?_
            simp only [Act.put, List.setIfInBounds_toArray, List.set_cons_zero, List.set_cons_succ]
            refine wpAnyH_yield 2 81 (.pointer (some ⟨w.heap.size + 1 + 1, i, none⟩)) rfl rfl (by kernel_rfl) (by kernel_rfl) (by kernel_rfl) (fun _ _ _ h => h) (by kernel_rfl) (fun W hW => by go_simp) (by assumption) rfl rfl ?_
            simp only [Act.put, List.setIfInBounds_toArray, List.set_cons_zero, List.set_cons_succ]
            refine wpAnyH_yield 3 82 (.int .i64 x) rfl rfl (by kernel_rfl) (by kernel_rfl) (by kernel_rfl) (fun _ _ _ h => h) (by kernel_rfl) (fun W hW => by have q := KX.out W hW; go_simp) (by assumption) rfl rfl ?_
            simp only [Act.put, List.setIfInBounds_toArray, List.set_cons_zero, List.set_cons_succ]
            refine wpAnyH_yield 4 83 (.slice (some ⟨w.heap.size + 1 + 1 + 1, 0, none⟩) 8 8) rfl rfl (by kernel_rfl) (by kernel_rfl) (by kernel_rfl) (fun _ _ _ h => h) (by kernel_rfl) (fun W hW => by kernel_rfl) (by assumption) rfl rfl ?_
            simp only [Act.put, List.setIfInBounds_toArray, List.set_cons_zero, List.set_cons_succ]
            refine wpAnyH_yield 5 84 (.int .i64 (i : Int)) rfl rfl (by kernel_rfl) (by kernel_rfl) (by kernel_rfl) (fun _ _ _ h => h) (by kernel_rfl) (fun W hW => by kernel_rfl) (by assumption) rfl rfl ?_
            simp only [Act.put, List.setIfInBounds_toArray, List.set_cons_zero, List.set_cons_succ]
            refine wpAnyH_yield 6 85 (.pointer (some ⟨w.heap.size + 1 + 1 + 1, i, none⟩)) rfl rfl (by kernel_rfl) (by kernel_rfl) (by kernel_rfl) (fun _ _ _ h => h) (by kernel_rfl) (fun W hW => by go_simp) (by assumption) rfl rfl ?_
            simp only [Act.put, List.setIfInBounds_toArray, List.set_cons_zero, List.set_cons_succ]
            refine wpAnyH_yield 7 86 (.int .i64 y) rfl rfl (by kernel_rfl) (by kernel_rfl) (by kernel_rfl) (fun _ _ _ h => h) (by kernel_rfl) (fun W hW => by have q := KY.out W hW; go_simp) (by assumption) rfl rfl ?_
            simp only [Act.put, List.setIfInBounds_toArray, List.set_cons_zero, List.set_cons_succ]
            refine wpAnyH_yield 8 87 (.bool true) rfl rfl (by kernel_rfl) (by kernel_rfl) (by kernel_rfl) (fun _ _ _ h => h) (by kernel_rfl) (fun W hW => by go_simp) (by assumption) rfl rfl ?_
            simp only [Act.put, List.setIfInBounds_toArray, List.set_cons_zero, List.set_cons_succ]
            refine wpAnyH_done (by kernel_rfl) ?_ _
            have H2 := hide (T4.out.tr hT0)
            clear hT0 H1 KX KY
            go_wp2_with fail
            go_ret
            exact ⟨rfl, H2.out⟩
          · obtain rfl : x = y := by omega
            have HA2 := hide (HA1.out rfl)
            go_wp2_with fail
            refine wp_region_held (S := Calm W4) (by kernel_rfl) ?_
            have hT0 : Calm W4 { w5 with drawn := w5.drawn + 1 } := H1.out.drew
            refine wpAnyH_yield 0 79 (.slice (some ⟨w.heap.size + 1 + 1, 0, none⟩) 8 8) rfl rfl (by kernel_rfl) (by kernel_rfl) (by kernel_rfl) (fun _ _ _ h => h) (by kernel_rfl) (fun W hW => by kernel_rfl) (by assumption) rfl rfl ?_
            simp only [Act.put, List.setIfInBounds_toArray, List.set_cons_zero, List.set_cons_succ]
            refine wpAnyH_yield 1 80 (.int .i64 (i : Int)) rfl rfl (by kernel_rfl) (by kernel_rfl) (by kernel_rfl) (fun _ _ _ h => h) (by kernel_rfl) (fun W hW => by kernel_rfl) (by assumption) rfl rfl ?_
            simp only [Act.put, List.setIfInBounds_toArray, List.set_cons_zero, List.set_cons_succ]
            refine wpAnyH_yield 2 81 (.pointer (some ⟨w.heap.size + 1 + 1, i, none⟩)) rfl rfl (by kernel_rfl) (by kernel_rfl) (by kernel_rfl) (fun _ _ _ h => h) (by kernel_rfl) (fun W hW => by go_simp) (by assumption) rfl rfl ?_
            simp only [Act.put, List.setIfInBounds_toArray, List.set_cons_zero, List.set_cons_succ]
            refine wpAnyH_yield 3 82 (.int .i64 x) rfl rfl (by kernel_rfl) (by kernel_rfl) (by kernel_rfl) (fun _ _ _ h => h) (by kernel_rfl) (fun W hW => by have q := KX.out W hW; go_simp) (by assumption) rfl rfl ?_
            simp only [Act.put, List.setIfInBounds_toArray, List.set_cons_zero, List.set_cons_succ]
            refine wpAnyH_yield 4 83 (.slice (some ⟨w.heap.size + 1 + 1 + 1, 0, none⟩) 8 8) rfl rfl (by kernel_rfl) (by kernel_rfl) (by kernel_rfl) (fun _ _ _ h => h) (by kernel_rfl) (fun W hW => by kernel_rfl) (by assumption) rfl rfl ?_
            simp only [Act.put, List.setIfInBounds_toArray, List.set_cons_zero, List.set_cons_succ]
            refine wpAnyH_yield 5 84 (.int .i64 (i : Int)) rfl rfl (by kernel_rfl) (by kernel_rfl) (by kernel_rfl) (fun _ _ _ h => h) (by kernel_rfl) (fun W hW => by kernel_rfl) (by assumption) rfl rfl ?_
            simp only [Act.put, List.setIfInBounds_toArray, List.set_cons_zero, List.set_cons_succ]
            refine wpAnyH_yield 6 85 (.pointer (some ⟨w.heap.size + 1 + 1 + 1, i, none⟩)) rfl rfl (by kernel_rfl) (by kernel_rfl) (by kernel_rfl) (fun _ _ _ h => h) (by kernel_rfl) (fun W hW => by go_simp) (by assumption) rfl rfl ?_
            simp only [Act.put, List.setIfInBounds_toArray, List.set_cons_zero, List.set_cons_succ]
            refine wpAnyH_yield 7 86 (.int .i64 x) rfl rfl (by kernel_rfl) (by kernel_rfl) (by kernel_rfl) (fun _ _ _ h => h) (by kernel_rfl) (fun W hW => by have q := KY.out W hW; go_simp) (by assumption) rfl rfl ?_
            simp only [Act.put, List.setIfInBounds_toArray, List.set_cons_zero, List.set_cons_succ]
            refine wpAnyH_yield 8 87 (.bool false) rfl rfl (by kernel_rfl) (by kernel_rfl) (by kernel_rfl) (fun _ _ _ h => h) (by kernel_rfl) (fun W hW => by go_simp) (by assumption) rfl rfl ?_
            simp only [Act.put, List.setIfInBounds_toArray, List.set_cons_zero, List.set_cons_succ]
            refine wpAnyH_done (by kernel_rfl) ?_ _
            have H2 := hide hT0
            clear hT0 H1 KX KY N1 N2 HA1
            go_wp2_with fail
            go_roundw
            case rel => exact ⟨i + 1, by go_num, by omega, HA2.out, H2.out⟩
            case measure => simp [intOf]; omega
      · have hltz : ¬ (i : Int) < 8 := by omega
        obtain rfl : i = 8 := by omega
        have hR := CB.out hA
        have HC := hide (T4.out.tr hC)
        subst hR
        clear HX HY CA CB hC
        go_wp2_with fail
        go_ret
        exact ⟨rfl, HC.out⟩

end Go.Proofs.YtamfcmmhmfhhkaaDoor

namespace Go.Proofs.YtamfcmmhmfhhkaaDoor
open Go.RowKit

/-- A blank. -/
def blB : ByteArray := ⟨#[32]⟩
/-- A pane's line, its first i numbers. -/
def txL (p : Pn) : Nat → ByteArray
  | 0 => (strOfNums (quoA p.k) ++ blB) ++ nameB p.d
  | i + 1 => (txL p i ++ blB) ++ intB ((numsP p).getD i 0)
def lineB (p : Pn) : ByteArray := txL p 7
/-- A pane's numbers are numbers. -/
def NumOk (p : Pn) : Prop := ∀ i, i < 7 → -9223372036854775808 ≤ (numsP p).getD i 0 ∧ (numsP p).getD i 0 ≤ 9223372036854775807
theorem quoA_len {s : ByteArray} (h : s.size ≤ 256) : (quoA s).length ≤ 1026 := by
  unfold quoA
  rw [List.length_append]
  have := quoL_len (s := s) s.size (Nat.le_refl _)
  simp only [List.length_cons, List.length_nil]
  omega
theorem nameB_size (d : Int) : (nameB d).size ≤ 6 := by
  unfold nameB
  split
  · decide
  · split <;> decide
theorem txL_size {p : Pn} (hk : p.k.size ≤ 256) (h : NumOk p) : ∀ i, i ≤ 7 → (txL p i).size ≤ 1040 + 22 * i
  | 0, _ => by
    rw [txL]
    simp only [ByteArray.size_append, strOfNums_size]
    have := quoA_len hk
    have := nameB_size p.d
    have e : blB.size = 1 := rfl
    omega
  | i + 1, hi => by
    rw [txL]
    simp only [ByteArray.size_append]
    have := txL_size hk h i (by omega)
    have := intB_size (h i (by omega)).1 (h i (by omega)).2
    have e : blB.size = 1 := rfl
    omega

end Go.Proofs.YtamfcmmhmfhhkaaDoor

namespace Go.Proofs.YtamfcmmhmfhhkaaDoor
open Go.RowKit

/-- A text's bytes as numbers. -/
def bsL (s : ByteArray) : List Int := s.data.toList.map fun u => (u.toNat : Int)
theorem bsL_len (s : ByteArray) : (bsL s).length = s.size := by unfold bsL; rw [List.length_map, Array.length_toList]; rfl
theorem bsL_flat (s : ByteArray) : encB.flat (bsL s) = Go.Lib.strCells s := by
  rw [encB_flat]
  unfold bsL Go.Lib.strCells
  rw [List.map_map]
  rfl

/-- A text's bytes more. -/
theorem by_appS {w : World} {base : Nat} {ao : Option Addr} {cap : Nat} {A : List Int} (s : ByteArray) (h : encB.Own 5 w base (.slice ao A.length cap) A) (hs : base ≤ w.heap.size) (hn : A.length + s.size ≤ 100000000000000) :
    ∃ a2 p2 w4, (Builtin.append_ #[55, 9] 55 #[.slice ao A.length cap, .string s]).run Tryd.prog w = .ok (.slice a2 (A ++ bsL s).length p2) w4 ∧
      encB.Own 5 w4 base (.slice a2 (A ++ bsL s).length p2) (A ++ bsL s) ∧ Touch (fun d => (Value.slice ao A.length cap).ownBlock = some d) w w4 := by
  obtain ⟨i0, hi, hz, hsz, hby⟩ := Rc.info_parts infoByte
  obtain ⟨v', w', hr, ow, gr, -⟩ := Go.Lib.run_append_own_string (P := Tryd.prog) w base 55 9 55 5 i0 Tryd.underlying55 Tryd.underlying9 hi hz hsz hby _ A.length (encB.flat A) h s (by unfold maxLen; omega) (by omega) hs
  have h2 : encB.Own 5 w' base v' (A ++ bsL s) := by
    unfold Rc.Enc.Own
    rw [encB.flat_append, List.length_append, bsL_len, bsL_flat]
    exact ow
  obtain ⟨a2, p2, hv⟩ := Rc.own_shape h2
  subst hv
  refine ⟨a2, p2, w', ?_, h2, Touch.of_grownBy gr⟩
  rw [hr]

/-- The lines of the first i panes. -/
def txT (L : List Pn) : Nat → List Int
  | 0 => []
  | i + 1 => (txT L i ++ bsL (lineB (L.getD i pn0))) ++ [10]
theorem txT_len {L : List Pn} (hp : ∀ j, j < L.length → NumOk (L.getD j pn0)) : ∀ i, i ≤ L.length → (∀ j, j < i → mayP (L.getD j pn0) = true) → (txT L i).length ≤ 1200 * i
  | 0, _, _ => by simp [txT]
  | i + 1, h, hk => by
    rw [txT, List.length_append, List.length_append, bsL_len]
    have h1 := txT_len hp i (by omega) fun j hj => hk j (by omega)
    have hm := hk i (by omega)
    unfold mayP at hm
    have h2 : (lineB (L.getD i pn0)).size ≤ 1040 + 22 * 7 := txL_size (of_decide_eq_true hm).1 (hp i (by omega)) 7 (by omega)
    simp only [List.length_cons, List.length_nil]
    omega
/-- May all of them be? -/
def mayT (L : List Pn) : Bool := L.all mayP
theorem mayT_no {L : List Pn} {j : Nat} (hj : j < L.length) (h : mayP (L.getD j pn0) = false) : mayT L = false := by
  unfold mayT
  rw [Bool.eq_false_iff]
  intro h2
  rw [List.all_eq_true] at h2
  have := h2 _ (List.getElem_mem hj)
  rw [List.getD_eq_getElem?_getD, List.getElem?_eq_getElem hj] at h
  rw [Option.getD_some] at h
  rw [h] at this
  cases this
theorem mayT_yes {L : List Pn} (h : ∀ j, j < L.length → mayP (L.getD j pn0) = true) : mayT L = true := by
  unfold mayT
  rw [List.all_eq_true]
  intro x hx
  obtain ⟨j, hj, rfl⟩ := List.getElem_of_mem hx
  have := h j hj
  rw [List.getD_eq_getElem?_getD, List.getElem?_eq_getElem hj] at this
  exact this
theorem len_snoc (A : List Int) (x : Int) : (A ++ [x]).length = A.length + 1 := by rw [List.length_append]; rfl
theorem conv_none {W : World} {base : Nat} {a : Option Addr} {c : Nat} (h : encB.Own 5 W base (.slice a ([] : List Int).length c) []) : (convert 55 9 (.slice a ([] : List Int).length c)).run Tryd.prog W = .ok (.string (strOfNums [])) W := by
  obtain ⟨-, hM, -, -, hc, hA⟩ := Rc.Own.mem h
  cases a with
  | none =>
    obtain rfl := hc rfl
    kernel_rfl
  | some a =>
    obtain ⟨b, off, sp⟩ := a
    obtain ⟨h1, -, -, -⟩ := hA _ rfl
    subst h1
    exact run_convert_bytes_arg W _ _ Tryd.underlying55 Tryd.underlying5 b off _ c [] rfl (fun i hi => absurd hi (Nat.not_lt_zero _)) _ Tryd.underlying9

end Go.Proofs.YtamfcmmhmfhhkaaDoor
