/- One window takes in another: the program's grown; window.Join of two spans. -/
import Derived.Test.YtbhofihikimgeaaRRPA
import Derived.Test.YtbhofihikimgeaaRRMTj
import Derived.Test.YtbhofihikimgeaaRRMV
import Derived.Test.YtbhofihikimgeaaRRMJ
import Derived.RegionTactic
import Derived.BigRegion
namespace Go.Proofs.YtbhofihikimgeaaRR
open Go.RowKit

theorem sps_two (w : World) (x y : Sp) (e : TypeId) : encS.Mem (w.alloc (.cells #[.int .i64 x.a, .int .i64 x.b, .int .i64 y.a, .int .i64 y.b] e)) (some ⟨w.heap.size, 0, none⟩) [x, y] := Rc.Mem.new w [x, y] e

set_option maxRecDepth 100000 in
set_option maxHeartbeats 2000000 in
theorem wjoin_any (b off : Nat) (x y : Sp) (hx : x.a < x.b) (hy : y.a < y.b) (w : World) (hm : encS.Mem w (some ⟨b, off, none⟩) [x, y]) :
    Calls Try.prog 26 #[.slice (some ⟨b, off, none⟩) 2 2] w fun e w' => e = .returned (.tuple #[spv ⟨min x.a y.a, max x.b y.b⟩, .bool true]) ∧ Calm w w' := by
  have CW : ∀ (s : Sp), s.a < s.b → ∀ w, Hid (Calls Try.prog 32 #[spv s] w fun e w' => e = .returned (.bool true) ∧ Calm w w') := fun s hs w => hide (by have := isWindow_any s w; rw [decide_eq_true hs] at this; exact this)
  have CX := fun w => CW x hx w
  have CY := fun w => CW y hy w
  have AT : Hid (∀ W, Calm w W → W.cell? ⟨b, off, none⟩ = some (.int .i64 x.a) ∧ W.cell? ⟨b, off + 1, none⟩ = some (.int .i64 x.b) ∧ W.cell? ⟨b, off + 2, none⟩ = some (.int .i64 y.a) ∧ W.cell? ⟨b, off + 2 + 1, none⟩ = some (.int .i64 y.b)) := hide fun W hW => by
    obtain ⟨b1, o1, e1, k0, k1⟩ := sp_at (Rc.Mem.calm hm hW) 0 (by simp)
    obtain ⟨b2, o2, e2, k2, k3⟩ := sp_at (Rc.Mem.calm hm hW) 1 (by simp)
    injection e1 with e1
    injection e1 with e3 e4
    injection e2 with e2
    injection e2 with e5 e6
    subst e3 e4 e5 e6
    exact ⟨by simpa using k0, by simpa using k1, by simpa using k2, by simpa using k3⟩
  have hsx : min x.a x.a = x.a := by omega
  have hsx2 : max x.b x.b = x.b := by omega
  clear hm CW hx hy
  have A0 := (al1 w (.cells (spc sp0) 24) (.cells (spc sp0) 24)).1
  have A1 := (al1 w (.cells (spc sp0) 24) (.cells (spc sp0) 24)).2
  have T0 : Calm w ((w.alloc (.cells (spc sp0) 24)).alloc (.cells (spc sp0) 24)) := ((Touch.refl (fun _ => False) w).alloc _).alloc _
  have HA0 := hide A0
  have HA1 := hide A1
  have HT0 := hide T0
  clear A0 A1 T0
  go_enter Try.func26, Try.ntmps26
  go_wp2_with fail
  go_loopw [5, 10] (fun f i wr => ∃ k : Nat, i = .int .i64 k ∧ k ≤ 2 ∧ f = .bool (decide (0 < k)) ∧ wr.heap[w.heap.size]? = some (.cells (spc sp0) 24 (0, 0)) ∧ wr.heap[w.heap.size + 1]? = some (.cells (spc (if k = 0 then sp0 else if k = 1 then x else ⟨min x.a y.a, max x.b y.b⟩)) 24 (0, 0)) ∧ Calm w wr) (fun _ i _ => 2 - (intOf i).toNat)
  case atStart => exact ⟨0, rfl, by omega, rfl, HA0.out, HA1.out, HT0.out⟩
  case round =>
    obtain ⟨k, rfl, hk, rfl, A0, A1, T0⟩ := hrel
    generalize hB : w.heap.size = B at *
    have HB := hide hB
    clear hB HA0 HA1 HT0
    rcases (show k = 0 ∨ k = 1 ∨ k = 2 by omega) with rfl | rfl | rfl
    · have A1 : wr.heap[B + 1]? = some (.cells (spc sp0) 24 (0, 0)) := A1
      obtain ⟨k0, k1, k2, k3⟩ := AT.out wr T0
      have H0 := hide A0
      have H1 := hide A1
      have HT := hide T0
      clear A0 A1 T0
      go_wp2_with fail
      refine (CX _).out.mono ?_
      rintro e w1 ⟨rfl, T1⟩
      have N1 := T1.at (al_new wr (.cells (spc x) 24))
      have B0 := T1.at (al_old H0.out (.cells (spc x) 24))
      have B1 := T1.at (al_old H1.out (.cells (spc x) 24))
      have T2 : Calm w w1 := (HT.out.alloc (.cells (spc x) 24)).tr T1
      have hlt := lt_of_heap H1.out
      generalize wr.heap.size = D at *
      clear k0 k1 k2 k3 T1 H0 H1 HT
      obtain ⟨d0, d1⟩ := sp_cells N1
      obtain ⟨c0, c1⟩ := sp_cells B1
      obtain ⟨z0, z1⟩ := sp_frozen B1
      go_wp2_with fail
      obtain ⟨A3, T3⟩ := sp_set x B1
      have N1 := T3.heap N1 (by omega)
      have B0 := T3.heap B0 (by omega)
      have T2 := Touch.trans T2 T3 (fun k hk e => by have := HB.out; omega)
      have B1 := A3
      clear A3 T3
      generalize (w1.setCell ⟨B + 1, 0, none⟩ (.int .i64 x.a)).setCell ⟨B + 1, 1, none⟩ (.int .i64 x.b) = w2 at *
      clear c0 c1 z0 z1 d0 d1
      obtain ⟨d0, d1⟩ := sp_cells N1
      obtain ⟨c0, c1⟩ := sp_cells B1
      obtain ⟨z0, z1⟩ := sp_frozen B1
      obtain ⟨A5, T5⟩ := sp_set x B1
      have G0 := hide B0
      have G1 := hide B1
      have GN := hide N1
      have GT := hide T2
      clear B0 B1 N1 T2
      go_region
      all_goals
        go_wp2_with fail
        go_roundw
        case rel => exact ⟨0 + 1, by go_num, by omega, rfl, T5.heap G0.out (by omega), A5, (Touch.trans GT.out T5 (fun k hk e => by have := HB.out; omega)).drew⟩
        case measure => simp [intOf]
    · have A1 : wr.heap[B + 1]? = some (.cells (spc x) 24 (0, 0)) := A1
      obtain ⟨k0, k1, k2, k3⟩ := AT.out wr T0
      have H0 := hide A0
      have H1 := hide A1
      have HT := hide T0
      clear A0 A1 T0
      go_wp2_with fail
      refine (CY _).out.mono ?_
      rintro e w1 ⟨rfl, T1⟩
      have N1 := T1.at (al_new wr (.cells (spc y) 24))
      have B0 := T1.at (al_old H0.out (.cells (spc y) 24))
      have B1 := T1.at (al_old H1.out (.cells (spc y) 24))
      have T2 : Calm w w1 := (HT.out.alloc (.cells (spc y) 24)).tr T1
      have hlt := lt_of_heap H1.out
      generalize wr.heap.size = D at *
      clear k0 k1 k2 k3 T1 H0 H1 HT
      obtain ⟨d0, d1⟩ := sp_cells N1
      obtain ⟨c0, c1⟩ := sp_cells B1
      obtain ⟨z0, z1⟩ := sp_frozen B1
      go_wp2_with fail
      clear c0 c1 z0 z1 d0 d1
      obtain ⟨d0, d1⟩ := sp_cells N1
      obtain ⟨c0, c1⟩ := sp_cells B1
      obtain ⟨z0, z1⟩ := sp_frozen B1
      obtain ⟨A5, T5⟩ := sp_set ⟨min x.a y.a, max x.b y.b⟩ B1
      have G0 := hide B0
      have G1 := hide B1
      have GN := hide N1
      have GT := hide T2
      clear B0 B1 N1 T2
      go_region
      all_goals
        go_wp2_with fail
        go_roundw
        case rel => exact ⟨1 + 1, by go_num, by omega, rfl, T5.heap G0.out (by omega), A5, (Touch.trans GT.out T5 (fun k hk e => by have := HB.out; omega)).drew⟩
        case measure => simp [intOf]
    · have A1 : wr.heap[B + 1]? = some (.cells (spc ⟨min x.a y.a, max x.b y.b⟩) 24 (0, 0)) := A1
      generalize hr : (⟨min x.a y.a, max x.b y.b⟩ : Sp) = r at *
      have HR := hide hr
      clear AT hr CX CY
      obtain ⟨c0, c1⟩ := sp_cells A1
      obtain ⟨z0, z1⟩ := sp_frozen A0
      obtain ⟨d0, d1⟩ := sp_cells A0
      obtain ⟨A3, T3⟩ := sp_set r A0
      have A4 := hide A3
      have T4 := hide (Touch.trans T0 T3 (fun k hk e => by have := HB.out; omega))
      clear A0 A1 A3 T3 T0
      go_wp2_with fail
      generalize (wr.setCell ⟨B, 0, none⟩ (.int .i64 r.a)).setCell ⟨B, 1, none⟩ (.int .i64 r.b) = w9 at *
      obtain ⟨y0, y1⟩ := sp_cells A4.out
      refine bodyPost_ret (v := .tuple #[spv r, .bool true]) (by simp [results, Try.results26, go_sem, y0, y1]) rfl ?_
      exact ⟨by rw [HR.out], T4.out⟩

/-- A window in its block turned whole. -/
theorem wn_all {w : World} {b : Nat} {x : Wn} {ty : TypeId} (r : Wn) (h : w.heap[b]? = some (.cells (wnc x) ty (0, 0))) :
    (((((((((w.setCell ⟨b, 0, none⟩ (.int .i64 r.a)).setCell ⟨b, 1, none⟩ (.int .i64 r.b)).setCell ⟨b, 2, none⟩ (.int .i64 r.h)).setCell ⟨b, 3, none⟩ (.int .i64 r.t.c)).setCell ⟨b, 4, none⟩ (.int .i64 r.t.s)).setCell ⟨b, 5, none⟩ (.int .i64 r.t.m)).setCell ⟨b, 6, none⟩ (.int .i64 r.t.x)).setCell ⟨b, 7, none⟩ (.int .i64 r.n)).setCell ⟨b, 8, none⟩ (.int .i64 r.p)).heap[b]? = some (.cells (wnc r) ty (0, 0)) ∧
    Touch (fun k => k = b) w (((((((((w.setCell ⟨b, 0, none⟩ (.int .i64 r.a)).setCell ⟨b, 1, none⟩ (.int .i64 r.b)).setCell ⟨b, 2, none⟩ (.int .i64 r.h)).setCell ⟨b, 3, none⟩ (.int .i64 r.t.c)).setCell ⟨b, 4, none⟩ (.int .i64 r.t.s)).setCell ⟨b, 5, none⟩ (.int .i64 r.t.m)).setCell ⟨b, 6, none⟩ (.int .i64 r.t.x)).setCell ⟨b, 7, none⟩ (.int .i64 r.n)).setCell ⟨b, 8, none⟩ (.int .i64 r.p)) := by
  obtain ⟨a0, -⟩ := wn_set { x with a := r.a } 0 r.a h rfl
  obtain ⟨a1, -⟩ := wn_set { x with a := r.a, b := r.b } 1 r.b a0 rfl
  obtain ⟨a2, -⟩ := wn_set { x with a := r.a, b := r.b, h := r.h } 2 r.h a1 rfl
  obtain ⟨a3, -⟩ := wn_tally r.t a2
  obtain ⟨a4, -⟩ := wn_set { r with p := x.p } 7 r.n a3 rfl
  obtain ⟨a5, -⟩ := wn_set r 8 r.p a4 rfl
  exact ⟨a5, (((((((((Touch.refl (fun k => k = b) w).setCell (p := ⟨b, 0, none⟩) (fun _ => rfl) _).setCell (p := ⟨b, 1, none⟩) (fun _ => rfl) _).setCell (p := ⟨b, 2, none⟩) (fun _ => rfl) _).setCell (p := ⟨b, 3, none⟩) (fun _ => rfl) _).setCell (p := ⟨b, 4, none⟩) (fun _ => rfl) _).setCell (p := ⟨b, 5, none⟩) (fun _ => rfl) _).setCell (p := ⟨b, 6, none⟩) (fun _ => rfl) _).setCell (p := ⟨b, 7, none⟩) (fun _ => rfl) _).setCell (p := ⟨b, 8, none⟩) (fun _ => rfl) _⟩

/-- A window that has taken in another. -/
def grW (m : Int) (x y : Wn) : Wn := ⟨min x.a y.a, max x.b y.b, if m < y.b then min x.h y.h else x.h, joinT [x.t, y.t], cnt x.n y.n, cnt x.p y.p⟩

set_option maxRecDepth 100000 in
set_option maxHeartbeats 4000000 in
theorem grown_any (m : Int) (x y : Wn) (hx : x.a < x.b) (hy : y.a < y.b) (xn : inC x.n = true) (xp : inC x.p = true) (yn : inC y.n = true) (yp : inC y.p = true) (w : World) :
    Calls Try.prog 20 #[wnv x, wnv y, .int .i64 m] w fun e w' => e = .returned (wnv (grW m x y)) ∧ Calm w w' := by
  have C1 := fun w => hide (wjoin_any w.heap.size 0 x.sp y.sp hx hy _ (sps_two w x.sp y.sp 24))
  have C2 := fun w => hide (join_any (some ⟨w.heap.size, 0, none⟩) 2 [x.t, y.t] _ (tls_two w x.t y.t 41) (by simp))
  have C3 := fun w => hide (mcounts_any x.n y.n xn yn w)
  have C4 := fun w => hide (mcounts_any x.p y.p xp yp w)
  have C5 := fun w => hide (due_any y.sp m w)
  have A := al3 w (.cells (wnc x) 43) (.cells (wnc y) 43) (.cells (wnc wn0) 43)
  have T0 : Calm w (((w.alloc (.cells (wnc x) 43)).alloc (.cells (wnc y) 43)).alloc (.cells (wnc wn0) 43)) := (((Touch.refl (fun _ => False) w).alloc _).alloc _).alloc _
  obtain ⟨A0, A1, A2⟩ := A
  unfold grW
  have hda : (min x.a y.a, max x.b y.b) = (min x.a y.a, max x.b y.b) := rfl
  clear hda hx hy xn xp yn yp
  generalize hja : min x.a y.a = ja at *
  generalize hjb : max x.b y.b = jb at *
  clear hja hjb
  generalize hjh : (if m < y.b then min x.h y.h else x.h) = jh at *
  have HJ := hide hjh
  clear hjh
  generalize joinT [x.t, y.t] = jt at *
  generalize cnt x.n y.n = jn at *
  generalize cnt x.p y.p = jp at *
  have HA0 := hide A0
  have HA1 := hide A1
  have HA2 := hide A2
  have HT0 := hide T0
  clear A0 A1 A2 T0
  go_enter Try.func20, Try.ntmps20
  go_wp2_with fail
  have CC1 := hide (C1 (((w.alloc (.cells (wnc x) 43)).alloc (.cells (wnc y) 43)).alloc (.cells (wnc wn0) 43))).out
  simp only [al_size] at CC1
  refine CC1.out.mono ?_
  rintro e w1 ⟨rfl, T1⟩
  clear C1 CC1
  have T1' := ((Touch.refl (fun _ => False) (((w.alloc (.cells (wnc x) 43)).alloc (.cells (wnc y) 43)).alloc (.cells (wnc wn0) 43))).alloc (.cells #[.int .i64 x.a, .int .i64 x.b, .int .i64 y.a, .int .i64 y.b] 24)).tr T1
  have B0 := T1'.at HA0.out
  have B1 := T1'.at HA1.out
  have B2 := T1'.at HA2.out
  have TW := HT0.out.tr T1'
  clear T1 T1' HA0 HA1 HA2 HT0
  generalize hB : w.heap.size = B at *
  have HB := hide hB
  clear hB
  obtain ⟨⟨c0, c1, c2⟩, ⟨c3, c4, c5, c6⟩, c7, c8⟩ := wn_cells B0
  obtain ⟨⟨d0, d1, d2⟩, ⟨d3, d4, d5, d6⟩, d7, d8⟩ := wn_cells B1
  have z0 := wn_frozen B0 0
  have z1 := wn_frozen B0 1
  obtain ⟨F0, -⟩ := wn_set { x with a := ja } 0 (ja) B0 rfl
  obtain ⟨F1, -⟩ := wn_set { x with a := ja, b := jb } 1 (jb) F0 rfl
  have TF := ((Touch.refl (fun k => k = B) w1).setCell (p := ⟨B, 0, none⟩) (fun _ => rfl) (.int .i64 (ja))).setCell (p := ⟨B, 1, none⟩) (fun _ => rfl) (.int .i64 (jb))
  have sz1 : ((w1.setCell ⟨B, 0, none⟩ (.int .i64 (ja))).setCell ⟨B, 1, none⟩ (.int .i64 (jb))).heap.size = w1.heap.size := by simp
  have G1 := TF.heap B1 (by omega)
  have G2 := TF.heap B2 (by omega)
  have TG := Touch.trans TW TF (fun k hk e => by have := HB.out; omega)
  have HF1 := hide F1
  have HG1 := hide G1
  have HG2 := hide G2
  have HTG := hide TG
  have CC2 := C2 ((w1.setCell ⟨B, 0, none⟩ (.int .i64 (ja))).setCell ⟨B, 1, none⟩ (.int .i64 (jb)))
  rw [sz1] at CC2
  clear F0 F1 G1 G2 TG TF TW B0 B1 B2 sz1 C2
  go_wp2_with fail
  refine CC2.out.mono ?_
  rintro e w3 ⟨rfl, T3⟩
  have T3' := ((Touch.refl (fun _ => False) ((w1.setCell ⟨B, 0, none⟩ (.int .i64 (ja))).setCell ⟨B, 1, none⟩ (.int .i64 (jb)))).alloc (.cells #[.int .i64 x.t.c, .int .i64 x.t.s, .int .i64 x.t.m, .int .i64 x.t.x, .int .i64 y.t.c, .int .i64 y.t.s, .int .i64 y.t.m, .int .i64 y.t.x] 41)).tr T3
  have B0 := T3'.at HF1.out
  have B1 := T3'.at HG1.out
  have B2 := T3'.at HG2.out
  have TW := HTG.out.tr T3'
  clear T3 T3' HF1 HG1 HG2 HTG CC2 c0 c1 c2 c3 c4 c5 c6 c7 c8 d0 d1 d2 d3 d4 d5 d6 d7 d8 z0 z1
  obtain ⟨⟨c0, c1, c2⟩, ⟨c3, c4, c5, c6⟩, c7, c8⟩ := wn_cells B0
  obtain ⟨⟨d0, d1, d2⟩, ⟨d3, d4, d5, d6⟩, d7, d8⟩ := wn_cells B1
  have z3 := wn_frozen B0 3
  have z4 := wn_frozen B0 4
  have z5 := wn_frozen B0 5
  have z6 := wn_frozen B0 6
  obtain ⟨F1, TF⟩ := wn_tally jt B0
  have G1 := TF.heap B1 (by omega)
  have G2 := TF.heap B2 (by omega)
  have TG := Touch.trans TW TF (fun k hk e => by have := HB.out; omega)
  have HF1 := hide F1
  have HG1 := hide G1
  have HG2 := hide G2
  have HTG := hide TG
  clear F1 G1 G2 TG TF TW B0 B1 B2
  go_wp2_with fail
  refine (C3 _).out.mono ?_
  rintro e w4 ⟨rfl, hq⟩
  generalize (((w3.setCell ⟨B, 3, none⟩ (.int .i64 jt.c)).setCell ⟨B, 4, none⟩ (.int .i64 jt.s)).setCell ⟨B, 5, none⟩ (.int .i64 jt.m)).setCell ⟨B, 6, none⟩ (.int .i64 jt.x) = w5 at *
  subst hq
  clear C3 c0 c1 c2 c3 c4 c5 c6 c7 c8 d0 d1 d2 d3 d4 d5 d6 d7 d8 z3 z4 z5 z6
  obtain ⟨⟨c0, c1, c2⟩, ⟨c3, c4, c5, c6⟩, c7, c8⟩ := wn_cells HF1.out
  obtain ⟨⟨d0, d1, d2⟩, ⟨d3, d4, d5, d6⟩, d7, d8⟩ := wn_cells HG1.out
  have z7 := wn_frozen HF1.out 7
  have z8 := wn_frozen HF1.out 8
  obtain ⟨F1, t1⟩ := wn_set ⟨ja, jb, x.h, jt, jn, x.p⟩ 7 jn HF1.out rfl
  obtain ⟨F2, t2⟩ := wn_set ⟨ja, jb, x.h, jt, jn, jp⟩ 8 jp F1 rfl
  have G1 := hide (t2.heap (t1.heap HG1.out (by omega)) (by omega))
  have G2 := hide (t2.heap (t1.heap HG2.out (by omega)) (by omega))
  have TG := hide (Touch.trans (Touch.trans HTG.out t1 (fun k hk e => by have := HB.out; omega)) t2 (fun k hk e => by have := HB.out; omega))
  have F3 := hide F2
  clear F1 F2 t1 t2 HF1 HG1 HG2 HTG
  go_wp2_with fail
  refine (C4 _).out.mono ?_
  rintro e w6 ⟨rfl, hq⟩
  subst hq
  clear C4
  go_wp2_with fail
  generalize (w4.setCell ⟨B, 7, none⟩ (.int .i64 jn)).setCell ⟨B, 8, none⟩ (.int .i64 jp) = w5 at *
  refine (C5 _).out.mono ?_
  rintro e w6 ⟨rfl, T6⟩
  clear C5 c0 c1 c2 c3 c4 c5 c6 c7 c8 d0 d1 d2 d3 d4 d5 d6 d7 d8 z7 z8
  have B0 := T6.at F3.out
  have B1 := T6.at G1.out
  have B2 := T6.at G2.out
  have TW := TG.out.tr T6
  clear T6 F3 G1 G2 TG
  obtain ⟨⟨c0, c1, c2⟩, ⟨c3, c4, c5, c6⟩, c7, c8⟩ := wn_cells B0
  obtain ⟨⟨d0, d1, d2⟩, ⟨d3, d4, d5, d6⟩, d7, d8⟩ := wn_cells B1
  have z2 := wn_frozen B0 2
  by_cases hm : m < y.b
  · have hd : decide (y.b ≤ m) = false := decide_eq_false (by omega)
    have ej : min x.h y.h = jh := by rw [← HJ.out, if_pos hm]
    clear HJ
    obtain ⟨F1, t1⟩ := wn_set ⟨ja, jb, jh, jt, jn, jp⟩ 2 jh B0 rfl
    have E2 := t1.heap B2 (by omega)
    have TX := Touch.trans TW t1 (fun k hk e => by have := HB.out; omega)
    generalize hw7 : w6.setCell ⟨B, 2, none⟩ (.int .i64 jh) = w7 at *
    clear TW t1 B0 B1 B2 hm c0 c1 c3 c4 c5 c6 c7 c8 d0 d1 d3 d4 d5 d6 d7 d8
    have y0 := wn_frozen E2 0
    have y1 := wn_frozen E2 1
    have y2 := wn_frozen E2 2
    have y3 := wn_frozen E2 3
    have y4 := wn_frozen E2 4
    have y5 := wn_frozen E2 5
    have y6 := wn_frozen E2 6
    have y7 := wn_frozen E2 7
    have y8 := wn_frozen E2 8
    obtain ⟨⟨k0, k1, k2⟩, ⟨k3, k4, k5, k6⟩, k7, k8⟩ := wn_cells F1
    obtain ⟨⟨q0, q1, q2⟩, ⟨q3, q4, q5, q6⟩, q7, q8⟩ := wn_cells E2
    obtain ⟨e0, e1⟩ := wn_all ⟨ja, jb, jh, jt, jn, jp⟩ E2
    have H9 := hide e0
    have HT := hide (Touch.trans TX e1 (fun k hk e => by have := HB.out; omega))
    clear TX F1 E2 e0 e1
    go_wp2_with fail
    refine bodyPost_ret (results_cell_row rfl _ _ _ _ _ _ _ rfl H9.out Try.underlying43 rfl (by kernel_rfl)) rfl ?_
    exact ⟨rfl, HT.out⟩
  · have hm' : y.b ≤ m := by omega
    obtain rfl : jh = x.h := by rw [← HJ.out, if_neg hm]
    clear HJ
    have y0 := wn_frozen B2 0
    have y1 := wn_frozen B2 1
    have y2 := wn_frozen B2 2
    have y3 := wn_frozen B2 3
    have y4 := wn_frozen B2 4
    have y5 := wn_frozen B2 5
    have y6 := wn_frozen B2 6
    have y7 := wn_frozen B2 7
    have y8 := wn_frozen B2 8
    obtain ⟨⟨d0, d1, d2⟩, ⟨d3, d4, d5, d6⟩, d7, d8⟩ := wn_cells B2
    obtain ⟨e0, e1⟩ := wn_all ⟨ja, jb, x.h, jt, jn, jp⟩ B2
    have H9 := hide e0
    have HT := hide (Touch.trans TW e1 (fun k hk e => by have := HB.out; omega))
    clear TW e0 e1 B0 B1 B2 hm
    go_wp2_with fail
    refine bodyPost_ret (results_cell_row rfl _ _ _ _ _ _ _ rfl H9.out Try.underlying43 rfl (by kernel_rfl)) rfl ?_
    exact ⟨rfl, HT.out⟩

end Go.Proofs.YtbhofihikimgeaaRR
