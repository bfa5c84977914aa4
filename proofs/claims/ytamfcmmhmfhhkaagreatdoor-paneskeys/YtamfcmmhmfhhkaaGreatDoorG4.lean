/- Compare (the document's). Small facts of panes (mathematics; a row that was lent). keys: of all panes, rising, each once (the document's; the walk). Keys: each key and its panes (the document's). -/
import Derived.Test.YtamfcmmhmfhhkaaGreatDoorG3
namespace Go.Proofs.YtamfcmmhmfhhkaaGreatDoor
open Go.RowKit

/-- A pane's numbers, in the order of the comparison. -/
def numsC (p : Pn) : List Int := [p.a, p.b, p.d, p.n, p.t.c, p.t.s, p.t.m, p.t.x]
def cmpL : List Int → List Int → Int
  | x :: X, y :: Y => if x < y then -1 else if y < x then 1 else cmpL X Y
  | _, _ => 0
def cmpP (a b : Pn) : Int := if kLt a.k b.k then -1 else if a.k = b.k then cmpL (numsC a) (numsC b) else 1

theorem cmpL_at : ∀ (X Y : List Int) (i : Nat), X.length = Y.length → i < X.length → (∀ j, j < i → X.getD j 0 = Y.getD j 0) → (X.getD i 0 < Y.getD i 0 → cmpL X Y = -1) ∧ (Y.getD i 0 < X.getD i 0 → cmpL X Y = 1)
  | [], _, _, _, h, _ => by simp at h
  | _ :: _, [], _, h, _, _ => by simp at h
  | x :: X, y :: Y, 0, _, _, _ => by
    constructor
    · intro h
      have h' : x < y := h
      simp [cmpL, h']
    · intro h
      have h' : y < x := h
      have h2 : ¬ x < y := by omega
      simp [cmpL, h', h2]
  | x :: X, y :: Y, i + 1, hl, hi, hA => by
    have e : x = y := hA 0 (by omega)
    subst e
    have ih := cmpL_at X Y i (by simpa using hl) (by simpa using hi) (fun j hj => hA (j + 1) (by omega))
    simpa [cmpL] using ih
theorem cmpL_eq : ∀ (X : List Int), cmpL X X = 0
  | [] => rfl
  | x :: X => by simp [cmpL, cmpL_eq X]
theorem cmpL_all (X Y : List Int) (hl : X.length = Y.length) (h : ∀ j, j < X.length → X.getD j 0 = Y.getD j 0) : cmpL X Y = 0 := by
  have e : X = Y := List.ext_getElem hl fun j h1 h2 => by
    have := h j h1
    rwa [List.getD_eq_getElem?_getD, List.getD_eq_getElem?_getD, List.getElem?_eq_getElem h1, List.getElem?_eq_getElem h2] at this
  rw [e, cmpL_eq]
/-- A number's cell, in every world that stays calm. -/
theorem in_W {w : World} {ao : Option Addr} {L : List Int} (h : encJ.Mem w ao L) (j : Nat) (hj : j < L.length) : ∃ g off, ao = some ⟨g, off, none⟩ ∧ ∀ W, Calm w W → W.cell? ⟨g, off + j, none⟩ = some (.int .i64 (L.getD j 0)) := by
  obtain ⟨g, off, e, -⟩ := Rc.Mem.at h j hj
  refine ⟨g, off, e, fun W hW => ?_⟩
  obtain ⟨g2, off2, e2, k⟩ := Rc.Mem.at (Rc.Mem.calm h hW) j hj
  rw [e] at e2
  injection e2 with e2
  injection e2 with e3 e4
  subst e3 e4
  rw [List.getD_eq_getElem?_getD, List.getElem?_eq_getElem hj]
  have := k 0 _ rfl
  have e1 : encJ.n = 1 := rfl
  rwa [e1, Nat.mul_one] at this

set_option maxRecDepth 100000 in
set_option maxHeartbeats 4000000 in
theorem rcomp_any (p q : Pn) (w : World) : Calls Tryz.prog 29 #[pnv p, pnv q] w fun e w' => e = .returned (.int .i64 (cmpP p q)) ∧ Calm w w' := by
  have HC0 : Hid (cmpP p q = if kLt p.k q.k then -1 else if p.k = q.k then cmpL (numsC p) (numsC q) else 1) := hide rfl
  generalize cmpP p q = R at *
  have S1 := al_size w (.cells (pnc p) 40)
  have S2 := al_size (w.alloc (.cells (pnc p) 40)) (.cells (pnc q) 40)
  have A0 := al_old (al_new w (.cells (pnc p) 40)) (.cells (pnc q) 40)
  have A1 := al_new (w.alloc (.cells (pnc p) 40)) (.cells (pnc q) 40)
  rw [S1] at A1 S2
  have T2 : Calm w ((w.alloc (.cells (pnc p) 40)).alloc (.cells (pnc q) 40)) := ((Touch.refl _ w).alloc _).alloc _
  have S3 := al_size ((w.alloc (.cells (pnc p) 40)).alloc (.cells (pnc q) 40)) (.cells (encJ.flat (numsC p)).toArray 2)
  have M3 := Rc.Mem.new (E := encJ) ((w.alloc (.cells (pnc p) 40)).alloc (.cells (pnc q) 40)) (numsC p) 2
  have M4 := Rc.Mem.new (E := encJ) (((w.alloc (.cells (pnc p) 40)).alloc (.cells (pnc q) 40)).alloc (.cells (encJ.flat (numsC p)).toArray 2)) (numsC q) 2
  rw [S3, S2] at M4
  rw [S2] at M3
  have M3' := Rc.Mem.calm M3 ((Touch.refl (fun _ => False) _).alloc (.cells (encJ.flat (numsC q)).toArray 2))
  have HX : Hid (∀ j, j < 8 → ∃ g off, some (⟨w.heap.size + 1 + 1, 0, none⟩ : Addr) = some ⟨g, off, none⟩ ∧ _) := hide fun j (hj : j < 8) => in_W M3' j hj
  have HY : Hid (∀ j, j < 8 → ∃ g off, some (⟨w.heap.size + 1 + 1 + 1, 0, none⟩ : Addr) = some ⟨g, off, none⟩ ∧ _) := hide fun j (hj : j < 8) => in_W M4 j hj
  have T4 := hide ((T2.alloc (.cells (encJ.flat (numsC p)).toArray 2)).alloc (.cells (encJ.flat (numsC q)).toArray 2))
  have HT2 := hide T2
  have KA := hide (pn_cells A0)
  have KB := hide (pn_cells A1)
  have KB3 := hide (pn_cells (al_old A1 (.cells (encJ.flat (numsC p)).toArray 2)))
  have CA : Hid (∀ i, i < 8 → _) := hide fun i hi => cmpL_at (numsC p) (numsC q) i rfl (show i < 8 from hi)
  have CB := hide (cmpL_all (numsC p) (numsC q) rfl)
  clear S1 S2 S3 A0 A1 T2 M3 M4 M3'
  by_cases h1 : kLt p.k q.k = true
  · have hb : Op.bytesLess p.k.toList q.k.toList = true := h1
    have hR := HC0.out
    rw [if_pos h1] at hR
    subst hR
    clear HX HY CA CB KB3 T4 HC0
    go_enter Tryz.func29, Tryz.ntmps29
    obtain ⟨⟨c0, c1, c2, c3, c4⟩, c5, c6, c7, c8⟩ := KA.out
    obtain ⟨⟨d0, d1, d2, d3, d4⟩, d5, d6, d7, d8⟩ := KB.out
    go_wp2_with fail
    go_ret
    exact ⟨rfl, HT2.out⟩
  · have hb : Op.bytesLess p.k.toList q.k.toList = false := by simpa [kLt] using h1
    by_cases h2 : p.k = q.k
    case neg =>
      have hb2 : (p.k.toList == q.k.toList) = false := by rw [ba_beq, decide_eq_false h2]
      have hR := HC0.out
      rw [if_neg h1, if_neg h2] at hR
      subst hR
      clear HX HY CA CB KB3 T4
      go_enter Tryz.func29, Tryz.ntmps29
      obtain ⟨⟨c0, c1, c2, c3, c4⟩, c5, c6, c7, c8⟩ := KA.out
      obtain ⟨⟨d0, d1, d2, d3, d4⟩, d5, d6, d7, d8⟩ := KB.out
      go_wp2_with fail
      go_ret
      exact ⟨rfl, HT2.out⟩
    have hb2 : (p.k.toList == q.k.toList) = true := by rw [ba_beq, decide_eq_true h2]
    have hR := HC0.out
    rw [if_neg h1, if_pos h2] at hR
    subst hR
    clear HC0 h2 h1
    generalize cmpL (numsC p) (numsC q) = R at *
    obtain ⟨W4, hW4⟩ : ∃ W, W = (((w.alloc (.cells (pnc p) 40)).alloc (.cells (pnc q) 40)).alloc (.cells (encJ.flat (numsC p)).toArray 2)).alloc (.cells (encJ.flat (numsC q)).toArray 2) := ⟨_, rfl⟩
    simp only [← hW4] at HX HY T4
    have X0 : Hid ((encJ.flat (numsC p)).toArray = #[.int .i64 p.a, .int .i64 p.b, .int .i64 p.d, .int .i64 p.n, .int .i64 p.t.c, .int .i64 p.t.s, .int .i64 p.t.m, .int .i64 p.t.x]) := hide rfl
    go_enter Tryz.func29, Tryz.ntmps29
    obtain ⟨⟨c0, c1, c2, c3, c4⟩, c5, c6, c7, c8⟩ := KA.out
    obtain ⟨⟨d0, d1, d2, d3, d4⟩, d5, d6, d7, d8⟩ := KB.out
    obtain ⟨⟨e0, e1, e2, e3, e4⟩, e5, e6, e7, e8⟩ := KB3.out
    simp only [X0.out] at e0 e1 e2 e3 e4 e5 e6 e7 e8
    go_wp2_with fail
    clear c0 c1 c2 c3 c4 c5 c6 c7 c8 d0 d1 d2 d3 d4 d5 d6 d7 d8 e0 e1 e2 e3 e4 e5 e6 e7 e8
    go_loopw [7] (fun s7 wr => ∃ i : Nat, s7 = .int .i64 (i : Int) ∧ i ≤ 8 ∧ (∀ j, j < i → (numsC p).getD j 0 = (numsC q).getD j 0) ∧ Calm W4 wr) (fun s7 _ => 8 - (intOf s7).toNat)
    case atStart => exact ⟨0, rfl, by omega, fun j hj => by omega, by rw [hW4]; exact Touch.refl _ _⟩
    case round =>
      obtain ⟨i, rfl, hi, hA, hC⟩ := hrel
      clear KA KB KB3 HT2 hb hb2 X0
      by_cases hlt : i < 8
      · have hltz : (i : Int) < 8 := by omega
        obtain ⟨g, off, e1, ck⟩ := HX.out i hlt
        injection e1 with e1
        injection e1 with e3 e4
        subst e3 e4
        obtain ⟨g, off, e1, ck2⟩ := HY.out i hlt
        injection e1 with e1
        injection e1 with e3 e4
        subst e3 e4
        simp only [Nat.zero_add] at ck ck2
        have KX := hide ck
        have KY := hide ck2
        obtain ⟨n1, n2⟩ := CA.out i hlt hA
        have N1 := hide n1
        have N2 := hide n2
        have HA1 : Hid ((numsC p).getD i 0 = (numsC q).getD i 0 → ∀ j, j < i + 1 → (numsC p).getD j 0 = (numsC q).getD j 0) := hide fun h j hj => by
          rcases Nat.lt_or_ge j i with h3 | h3
          · exact hA j h3
          · obtain rfl : j = i := by omega
            exact h
        have HC := hide hC
        generalize (numsC p).getD i 0 = x at *
        generalize (numsC q).getD i 0 = y at *
        clear HX HY CA CB ck ck2 n1 n2 hA hC
        by_cases hxy : x < y
        · have hR := N1.out hxy
          subst hR
          have hd : decide (x < y) = true := decide_eq_true hxy
          go_wp2_with fail
          refine wp_region_held (S := Calm W4) (by kernel_rfl) ?_
          have hT0 : Calm W4 { wr with drawn := wr.drawn + 1 } := HC.out.drew
          refine wpAnyH_yield 0 70 (.slice (some ⟨w.heap.size + 1 + 1, 0, none⟩) 8 8) rfl rfl (by kernel_rfl) (by kernel_rfl) (by kernel_rfl) (fun _ _ _ h => h) (by kernel_rfl) (fun W hW => by kernel_rfl) (by assumption) rfl rfl ?_
          simp only [Act.put, List.setIfInBounds_toArray, List.set_cons_zero, List.set_cons_succ]
          refine wpAnyH_yield 1 71 (.int .i64 (i : Int)) rfl rfl (by kernel_rfl) (by kernel_rfl) (by kernel_rfl) (fun _ _ _ h => h) (by kernel_rfl) (fun W hW => by kernel_rfl) (by assumption) rfl rfl ?_
          simp only [Act.put, List.setIfInBounds_toArray, List.set_cons_zero, List.set_cons_succ]
          refine wpAnyH_yield 2 72 (.pointer (some ⟨w.heap.size + 1 + 1, i, none⟩)) rfl rfl (by kernel_rfl) (by kernel_rfl) (by kernel_rfl) (fun _ _ _ h => h) (by kernel_rfl) (fun W hW => by go_simp) (by assumption) rfl rfl ?_
          simp only [Act.put, List.setIfInBounds_toArray, List.set_cons_zero, List.set_cons_succ]
          refine wpAnyH_yield 3 73 (.int .i64 x) rfl rfl (by kernel_rfl) (by kernel_rfl) (by kernel_rfl) (fun _ _ _ h => h) (by kernel_rfl) (fun W hW => by have q := KX.out W hW; go_simp) (by assumption) rfl rfl ?_
          simp only [Act.put, List.setIfInBounds_toArray, List.set_cons_zero, List.set_cons_succ]
          refine wpAnyH_yield 4 74 (.slice (some ⟨w.heap.size + 1 + 1 + 1, 0, none⟩) 8 8) rfl rfl (by kernel_rfl) (by kernel_rfl) (by kernel_rfl) (fun _ _ _ h => h) (by kernel_rfl) (fun W hW => by kernel_rfl) (by assumption) rfl rfl ?_
          simp only [Act.put, List.setIfInBounds_toArray, List.set_cons_zero, List.set_cons_succ]
          refine wpAnyH_yield 5 75 (.int .i64 (i : Int)) rfl rfl (by kernel_rfl) (by kernel_rfl) (by kernel_rfl) (fun _ _ _ h => h) (by kernel_rfl) (fun W hW => by kernel_rfl) (by assumption) rfl rfl ?_
          simp only [Act.put, List.setIfInBounds_toArray, List.set_cons_zero, List.set_cons_succ]
          refine wpAnyH_yield 6 76 (.pointer (some ⟨w.heap.size + 1 + 1 + 1, i, none⟩)) rfl rfl (by kernel_rfl) (by kernel_rfl) (by kernel_rfl) (fun _ _ _ h => h) (by kernel_rfl) (fun W hW => by go_simp) (by assumption) rfl rfl ?_
          simp only [Act.put, List.setIfInBounds_toArray, List.set_cons_zero, List.set_cons_succ]
          refine wpAnyH_yield 7 77 (.int .i64 y) rfl rfl (by kernel_rfl) (by kernel_rfl) (by kernel_rfl) (fun _ _ _ h => h) (by kernel_rfl) (fun W hW => by have q := KY.out W hW; go_simp) (by assumption) rfl rfl ?_
          simp only [Act.put, List.setIfInBounds_toArray, List.set_cons_zero, List.set_cons_succ]
          refine wpAnyH_yield 8 78 (.bool true) rfl rfl (by kernel_rfl) (by kernel_rfl) (by kernel_rfl) (fun _ _ _ h => h) (by kernel_rfl) (fun W hW => by go_simp) (by assumption) rfl rfl ?_
          simp only [Act.put, List.setIfInBounds_toArray, List.set_cons_zero, List.set_cons_succ]
          refine wpAnyH_done (by kernel_rfl) ?_ _
          have H1 := hide (T4.out.tr hT0)
          clear hT0 HC KX KY
          go_wp2_with fail
          go_ret
          exact ⟨rfl, H1.out⟩
        · have hxy' : y ≤ x := by omega
          go_wp2_with fail
          refine wp_region_held (S := Calm W4) (by kernel_rfl) ?_
          have hT0 : Calm W4 { wr with drawn := wr.drawn + 1 } := HC.out.drew
          refine wpAnyH_yield 0 70 (.slice (some ⟨w.heap.size + 1 + 1, 0, none⟩) 8 8) rfl rfl (by kernel_rfl) (by kernel_rfl) (by kernel_rfl) (fun _ _ _ h => h) (by kernel_rfl) (fun W hW => by kernel_rfl) (by assumption) rfl rfl ?_
          simp only [Act.put, List.setIfInBounds_toArray, List.set_cons_zero, List.set_cons_succ]
          refine wpAnyH_yield 1 71 (.int .i64 (i : Int)) rfl rfl (by kernel_rfl) (by kernel_rfl) (by kernel_rfl) (fun _ _ _ h => h) (by kernel_rfl) (fun W hW => by kernel_rfl) (by assumption) rfl rfl ?_
          simp only [Act.put, List.setIfInBounds_toArray, List.set_cons_zero, List.set_cons_succ]
          refine wpAnyH_yield 2 72 (.pointer (some ⟨w.heap.size + 1 + 1, i, none⟩)) rfl rfl (by kernel_rfl) (by kernel_rfl) (by kernel_rfl) (fun _ _ _ h => h) (by kernel_rfl) (fun W hW => by go_simp) (by assumption) rfl rfl ?_
          simp only [Act.put, List.setIfInBounds_toArray, List.set_cons_zero, List.set_cons_succ]
          refine wpAnyH_yield 3 73 (.int .i64 x) rfl rfl (by kernel_rfl) (by kernel_rfl) (by kernel_rfl) (fun _ _ _ h => h) (by kernel_rfl) (fun W hW => by have q := KX.out W hW; go_simp) (by assumption) rfl rfl ?_
          simp only [Act.put, List.setIfInBounds_toArray, List.set_cons_zero, List.set_cons_succ]
          refine wpAnyH_yield 4 74 (.slice (some ⟨w.heap.size + 1 + 1 + 1, 0, none⟩) 8 8) rfl rfl (by kernel_rfl) (by kernel_rfl) (by kernel_rfl) (fun _ _ _ h => h) (by kernel_rfl) (fun W hW => by kernel_rfl) (by assumption) rfl rfl ?_
          simp only [Act.put, List.setIfInBounds_toArray, List.set_cons_zero, List.set_cons_succ]
          refine wpAnyH_yield 5 75 (.int .i64 (i : Int)) rfl rfl (by kernel_rfl) (by kernel_rfl) (by kernel_rfl) (fun _ _ _ h => h) (by kernel_rfl) (fun W hW => by kernel_rfl) (by assumption) rfl rfl ?_
          simp only [Act.put, List.setIfInBounds_toArray, List.set_cons_zero, List.set_cons_succ]
          refine wpAnyH_yield 6 76 (.pointer (some ⟨w.heap.size + 1 + 1 + 1, i, none⟩)) rfl rfl (by kernel_rfl) (by kernel_rfl) (by kernel_rfl) (fun _ _ _ h => h) (by kernel_rfl) (fun W hW => by go_simp) (by assumption) rfl rfl ?_
          simp only [Act.put, List.setIfInBounds_toArray, List.set_cons_zero, List.set_cons_succ]
          refine wpAnyH_yield 7 77 (.int .i64 y) rfl rfl (by kernel_rfl) (by kernel_rfl) (by kernel_rfl) (fun _ _ _ h => h) (by kernel_rfl) (fun W hW => by have q := KY.out W hW; go_simp) (by assumption) rfl rfl ?_
          simp only [Act.put, List.setIfInBounds_toArray, List.set_cons_zero, List.set_cons_succ]
          refine wpAnyH_yield 8 78 (.bool false) rfl rfl (by kernel_rfl) (by kernel_rfl) (by kernel_rfl) (fun _ _ _ h => h) (by kernel_rfl) (fun W hW => by go_simp) (by assumption) rfl rfl ?_
          simp only [Act.put, List.setIfInBounds_toArray, List.set_cons_zero, List.set_cons_succ]
          refine wpAnyH_done (by kernel_rfl) ?_ _
          have H1 := hide hT0
          clear hT0 HC
          generalize ({ wr with drawn := wr.drawn + 1 } : World) = w5 at *
          by_cases hyx : y < x
          · have hR := N2.out hyx
            subst hR
            go_wp2_with fail
            refine wp_region_held (S := Calm W4) (by kernel_rfl) ?_
            have hT0 : Calm W4 { w5 with drawn := w5.drawn + 1 } := H1.out.drew
            refine wpAnyH_yield 0 79 (.slice (some ⟨w.heap.size + 1 + 1, 0, none⟩) 8 8) rfl rfl (by kernel_rfl) (by kernel_rfl) (by kernel_rfl) (fun _ _ _ h => h) (by kernel_rfl) (fun W hW => by kernel_rfl) (by assumption) rfl rfl ?_
            simp only [Act.put, List.setIfInBounds_toArray, List.set_cons_zero, List.set_cons_succ]
            refine wpAnyH_yield 1 80 (.int .i64 (i : Int)) rfl rfl (by kernel_rfl) (by kernel_rfl) (by kernel_rfl) (fun _ _ _ h => h) (by kernel_rfl) (fun W hW => by kernel_rfl) (by assumption) rfl rfl ?_
            simp only [Act.put, List.setIfInBounds_toArray, List.set_cons_zero, List.set_cons_succ]
            refine wpAnyH_yield 2 81 (.pointer (some ⟨w.heap.size + 1 + 1, i, none⟩)) rfl rfl (by kernel_rfl) (by kernel_rfl) (by kernel_rfl) (fun _ _ _ h => h) (by kernel_rfl) (fun W hW => by go_simp) (by assumption) rfl rfl ?_
            simp only [Act.put, List.setIfInBounds_toArray, List.set_cons_zero, List.set_cons_succ]
            refine wpAnyH_yield 3 82 (.int .i64 x) rfl rfl (by kernel_rfl) (by kernel_rfl) (by kernel_rfl) (fun _ _ _ h => h) (by kernel_rfl) (fun W hW => by have q := KX.out W hW; go_simp) (by assumption) rfl rfl ?_
            simp only [Act.put, List.setIfInBounds_toArray, List.set_cons_zero, List.set_cons_succ]
            refine wpAnyH_yield 4 83 (.slice (some ⟨w.heap.size + 1 + 1 + 1, 0, none⟩) 8 8) rfl rfl (by kernel_rfl) (by kernel_rfl) (by kernel_rfl) (fun _ _ _ h => h) (by kernel_rfl) (fun W hW => by kernel_rfl) (by assumption) rfl rfl ?_
            simp only [Act.put, List.setIfInBounds_toArray, List.set_cons_zero, List.set_cons_succ]
            refine wpAnyH_yield 5 84 (.int .i64 (i : Int)) rfl rfl (by kernel_rfl) (by kernel_rfl) (by kernel_rfl) (fun _ _ _ h => h) (by kernel_rfl) (fun W hW => by kernel_rfl) (by assumption) rfl rfl ?_
            simp only [Act.put, List.setIfInBounds_toArray, List.set_cons_zero, List.set_cons_succ]
            refine wpAnyH_yield 6 85 (.pointer (some ⟨w.heap.size + 1 + 1 + 1, i, none⟩)) rfl rfl (by kernel_rfl) (by kernel_rfl) (by kernel_rfl) (fun _ _ _ h => h) (by kernel_rfl) (fun W hW => by go_simp) (by assumption) rfl rfl ?_
            simp only [Act.put, List.setIfInBounds_toArray, List.set_cons_zero, List.set_cons_succ]
            refine wpAnyH_yield 7 86 (.int .i64 y) rfl rfl (by kernel_rfl) (by kernel_rfl) (by kernel_rfl) (fun _ _ _ h => h) (by kernel_rfl) (fun W hW => by have q := KY.out W hW; go_simp) (by assumption) rfl rfl ?_
            simp only [Act.put, List.setIfInBounds_toArray, List.set_cons_zero, List.set_cons_succ]
            refine wpAnyH_yield 8 87 (.bool true) rfl rfl (by kernel_rfl) (by kernel_rfl) (by kernel_rfl) (fun _ _ _ h => h) (by kernel_rfl) (fun W hW => by go_simp) (by assumption) rfl rfl ?_
            simp only [Act.put, List.setIfInBounds_toArray, List.set_cons_zero, List.set_cons_succ]
            refine wpAnyH_done (by kernel_rfl) ?_ _
            have H2 := hide (T4.out.tr hT0)
            clear hT0 H1 KX KY
            go_wp2_with fail
            go_ret
            exact ⟨rfl, H2.out⟩
          · obtain rfl : x = y := by omega
            have HA2 := hide (HA1.out rfl)
            go_wp2_with fail
            refine wp_region_held (S := Calm W4) (by kernel_rfl) ?_
            have hT0 : Calm W4 { w5 with drawn := w5.drawn + 1 } := H1.out.drew
            refine wpAnyH_yield 0 79 (.slice (some ⟨w.heap.size + 1 + 1, 0, none⟩) 8 8) rfl rfl (by kernel_rfl) (by kernel_rfl) (by kernel_rfl) (fun _ _ _ h => h) (by kernel_rfl) (fun W hW => by kernel_rfl) (by assumption) rfl rfl ?_
            simp only [Act.put, List.setIfInBounds_toArray, List.set_cons_zero, List.set_cons_succ]
            refine wpAnyH_yield 1 80 (.int .i64 (i : Int)) rfl rfl (by kernel_rfl) (by kernel_rfl) (by kernel_rfl) (fun _ _ _ h => h) (by kernel_rfl) (fun W hW => by kernel_rfl) (by assumption) rfl rfl ?_
            simp only [Act.put, List.setIfInBounds_toArray, List.set_cons_zero, List.set_cons_succ]
            refine wpAnyH_yield 2 81 (.pointer (some ⟨w.heap.size + 1 + 1, i, none⟩)) rfl rfl (by kernel_rfl) (by kernel_rfl) (by kernel_rfl) (fun _ _ _ h => h) (by kernel_rfl) (fun W hW => by go_simp) (by assumption) rfl rfl ?_
            simp only [Act.put, List.setIfInBounds_toArray, List.set_cons_zero, List.set_cons_succ]
            refine wpAnyH_yield 3 82 (.int .i64 x) rfl rfl (by kernel_rfl) (by kernel_rfl) (by kernel_rfl) (fun _ _ _ h => h) (by kernel_rfl) (fun W hW => by have q := KX.out W hW; go_simp) (by assumption) rfl rfl ?_
            simp only [Act.put, List.setIfInBounds_toArray, List.set_cons_zero, List.set_cons_succ]
            refine wpAnyH_yield 4 83 (.slice (some ⟨w.heap.size + 1 + 1 + 1, 0, none⟩) 8 8) rfl rfl (by kernel_rfl) (by kernel_rfl) (by kernel_rfl) (fun _ _ _ h => h) (by kernel_rfl) (fun W hW => by kernel_rfl) (by assumption) rfl rfl ?_
            simp only [Act.put, List.setIfInBounds_toArray, List.set_cons_zero, List.set_cons_succ]
            refine wpAnyH_yield 5 84 (.int .i64 (i : Int)) rfl rfl (by kernel_rfl) (by kernel_rfl) (by kernel_rfl) (fun _ _ _ h => h) (by kernel_rfl) (fun W hW => by kernel_rfl) (by assumption) rfl rfl ?_
            simp only [Act.put, List.setIfInBounds_toArray, List.set_cons_zero, List.set_cons_succ]
            refine wpAnyH_yield 6 85 (.pointer (some ⟨w.heap.size + 1 + 1 + 1, i, none⟩)) rfl rfl (by kernel_rfl) (by kernel_rfl) (by kernel_rfl) (fun _ _ _ h => h) (by kernel_rfl) (fun W hW => by go_simp) (by assumption) rfl rfl ?_
            simp only [Act.put, List.setIfInBounds_toArray, List.set_cons_zero, List.set_cons_succ]
            refine wpAnyH_yield 7 86 (.int .i64 x) rfl rfl (by kernel_rfl) (by kernel_rfl) (by kernel_rfl) (fun _ _ _ h => h) (by kernel_rfl) (fun W hW => by have q := KY.out W hW; go_simp) (by assumption) rfl rfl ?_
            simp only [Act.put, List.setIfInBounds_toArray, List.set_cons_zero, List.set_cons_succ]
            refine wpAnyH_yield 8 87 (.bool false) rfl rfl (by kernel_rfl) (by kernel_rfl) (by kernel_rfl) (fun _ _ _ h => h) (by kernel_rfl) (fun W hW => by go_simp) (by assumption) rfl rfl ?_
            simp only [Act.put, List.setIfInBounds_toArray, List.set_cons_zero, List.set_cons_succ]
            refine wpAnyH_done (by kernel_rfl) ?_ _
            have H2 := hide hT0
            clear hT0 H1 KX KY N1 N2 HA1
            go_wp2_with fail
            go_roundw
            case rel => exact ⟨i + 1, by go_num, by omega, HA2.out, H2.out⟩
            case measure => simp [intOf]; omega
      · have hltz : ¬ (i : Int) < 8 := by omega
        obtain rfl : i = 8 := by omega
        have hR := CB.out hA
        have HC := hide (T4.out.tr hC)
        subst hR
        clear HX HY CA CB hC
        go_wp2_with fail
        go_ret
        exact ⟨rfl, HC.out⟩

end Go.Proofs.YtamfcmmhmfhhkaaGreatDoor

namespace Go.Proofs.YtamfcmmhmfhhkaaGreatDoor
open Go.RowKit

theorem less_irr : ∀ x : List UInt8, Op.bytesLess x x = false
  | [] => rfl
  | a :: x => by simp [Op.bytesLess, less_irr x]
theorem kLt_self (k : ByteArray) : kLt k k = false := less_irr _
theorem cmpP_self (p : Pn) : cmpP p p = 0 := by
  unfold cmpP
  rw [kLt_self, if_neg (by decide), if_pos rfl, cmpL_eq]
theorem LentP.sl {w : World} {base g c : Nat} {L : List Pn} (h : LentP w base g c L) : encP.Sl w (some ⟨g, 0, none⟩) c L := ⟨h.mem.1, fun h => (nomatch h), by have := h.mem.2.1; omega⟩


end Go.Proofs.YtamfcmmhmfhhkaaGreatDoor

namespace Go.Proofs.YtamfcmmhmfhhkaaGreatDoor
open Go.RowKit

/-- A text's cell, in every world that stays calm. -/
theorem st_W {w : World} {ao : Option Addr} {L : List ByteArray} (h : encZ.Mem w ao L) (j : Nat) (hj : j < L.length) : ∃ g off, ao = some ⟨g, off, none⟩ ∧ ∀ W, Calm w W → W.cell? ⟨g, off + j, none⟩ = some (.string (L.getD j ⟨#[]⟩)) := by
  obtain ⟨g, off, e, -⟩ := st_at h j hj
  refine ⟨g, off, e, fun W hW => ?_⟩
  obtain ⟨g2, off2, e2, k⟩ := st_at (Rc.Mem.calm h hW) j hj
  rw [e] at e2
  injection e2 with e2
  injection e2 with e3 e4
  subst e3 e4
  exact k

end Go.Proofs.YtamfcmmhmfhhkaaGreatDoor

namespace Go.Proofs.YtamfcmmhmfhhkaaGreatDoor
open Go.RowKit

/-- A key, and where its panes lie. -/
structure Kp where
  k : ByteArray
  o : Option Addr
  n : Nat
  c : Nat
abbrev kpc (p : Kp) : Array Value := #[.string p.k, .slice p.o p.n p.c]
abbrev kp0 : Kp := ⟨⟨#[]⟩, none, 0, 0⟩
def encG : Rc.Enc Kp := ⟨2, fun x => (kpc x).toList, fun _ => rfl, fun _ u hu => by simp at hu; rcases hu with rfl | rfl <;> rfl, by decide⟩
theorem kp_at {w : World} {ao : Option Addr} {L : List Kp} (h : encG.Mem w ao L) (j : Nat) (hj : j < L.length) : ∃ b off, ao = some ⟨b, off, none⟩ ∧ w.cell? ⟨b, off + j * 2, none⟩ = some (.string (L.getD j kp0).k) ∧ w.cell? ⟨b, off + j * 2 + 1, none⟩ = some (.slice (L.getD j kp0).o (L.getD j kp0).n (L.getD j kp0).c) := by
  obtain ⟨b, off, e, g⟩ := Rc.Mem.at h j hj
  rw [List.getD_eq_getElem?_getD, List.getElem?_eq_getElem hj]
  exact ⟨b, off, e, g 0 _ rfl, g 1 _ rfl⟩
/-- The rows of the panes of the keys lie there, each one a row of its own. -/
def KpIn (W : World) (base : Nat) (L : List Pn) (K : List ByteArray) (P : List Kp) : Prop :=
  ∀ j, j < P.length → (P.getD j kp0).k = K.getD j ⟨#[]⟩ ∧ (P.getD j kp0).n = (ofP L (K.getD j ⟨#[]⟩)).length ∧ encP.Own 40 W base (.slice (P.getD j kp0).o (P.getD j kp0).n (P.getD j kp0).c) (ofP L (K.getD j ⟨#[]⟩))
theorem KpIn.calm {W W' : World} {base : Nat} {L : List Pn} {K : List ByteArray} {P : List Kp} (h : KpIn W base L K P) (ht : Calm W W') : KpIn W' base L K P := fun j hj => by
  obtain ⟨h1, h2, h3⟩ := h j hj
  exact ⟨h1, h2, Rc.Own.calm h3 ht⟩
theorem KpIn.push {W : World} {base : Nat} {L : List Pn} {K : List ByteArray} {P : List Kp} {o : Option Addr} {c : Nat} (h : KpIn W base L K P) (hw : encP.Own 40 W base (.slice o (ofP L (K.getD P.length ⟨#[]⟩)).length c) (ofP L (K.getD P.length ⟨#[]⟩))) : KpIn W base L K (P ++ [(⟨K.getD P.length ⟨#[]⟩, o, (ofP L (K.getD P.length ⟨#[]⟩)).length, c⟩ : Kp)]) := fun j hj => by
  rcases Nat.lt_or_ge j P.length with h1 | h1
  · have e : (P ++ [(⟨K.getD P.length ⟨#[]⟩, o, (ofP L (K.getD P.length ⟨#[]⟩)).length, c⟩ : Kp)]).getD j kp0 = P.getD j kp0 := by
      simp [List.getD_eq_getElem?_getD, List.getElem?_append_left h1]
    rw [e]
    exact h j h1
  · obtain rfl : j = P.length := by simp at hj; omega
    have e : (P ++ [(⟨K.getD P.length ⟨#[]⟩, o, (ofP L (K.getD P.length ⟨#[]⟩)).length, c⟩ : Kp)]).getD P.length kp0 = ⟨K.getD P.length ⟨#[]⟩, o, (ofP L (K.getD P.length ⟨#[]⟩)).length, c⟩ := by
      simp [List.getD_eq_getElem?_getD]
    rw [e]
    exact ⟨rfl, rfl, hw⟩

end Go.Proofs.YtamfcmmhmfhhkaaGreatDoor
