/- The document's Tell. -/
import Derived.Test.YtfmlbcddomggaaaVB
import Derived.RegionTactic
import Derived.BigRegion
namespace Go.Proofs.Ytfmlbcddomggaaa
open Go.RowKit

set_option maxRecDepth 100000 in
set_option maxHeartbeats 4000000 in
theorem rtell_any (k : ByteArray) (x : Wn) (d : Int) (di : Bool) (hp : I64 x.p) (w : World) : Calls Try.prog 15 #[.string k, wnv x, .int .i64 d, .bool di] w fun e w' => e = .returned (.tuple #[pnv (tellP k x d), wnv (tellW x di)]) ∧ Calm w w' := by
  have CM := fun w => hide (rmore_any x.p hp w)
  obtain ⟨A0, A1, A2⟩ := al3 w (.cells (wnc x) 30) (.cells (pnc pn0) 37) (.cells (wnc wn0) 30)
  have T0 : Calm w (((w.alloc (.cells (wnc x) 30)).alloc (.cells (pnc pn0) 37)).alloc (.cells (wnc wn0) 30)) := (((Touch.refl _ _).alloc _).alloc _).alloc _
  unfold tellW
  generalize moreN x.p = mp at *
  have HA0 := hide A0
  have HA1 := hide A1
  have HA2 := hide A2
  have HT0 := hide T0
  clear A0 A1 A2 T0 hp
  go_enter Try.func15, Try.ntmps15
  go_wp2_with fail
  refine (CM _).out.mono ?_
  rintro e w1 ⟨rfl, hq⟩
  have B3 := al_new (((w.alloc (.cells (wnc x) 30)).alloc (.cells (pnc pn0) 37)).alloc (.cells (wnc wn0) 30)) (.cells (pnc (tellP k x d)) 37)
  have B0 := al_old HA0.out (.cells (pnc (tellP k x d)) 37)
  have B1 := al_old HA1.out (.cells (pnc (tellP k x d)) 37)
  have B2 := al_old HA2.out (.cells (pnc (tellP k x d)) 37)
  have T1 := HT0.out.alloc (.cells (pnc (tellP k x d)) 37)
  rw [al_size, al_size, al_size] at B3
  have hq' : w1 = (((w.alloc (.cells (wnc x) 30)).alloc (.cells (pnc pn0) 37)).alloc (.cells (wnc wn0) 30)).alloc (.cells (pnc (tellP k x d)) 37) := hq
  rw [← hq'] at B0 B1 B2 B3 T1
  clear hq hq' HA0 HA1 HA2 HT0 CM
  generalize hB : w.heap.size = B at *
  have HB := hide hB
  clear hB
  cases di with
  | false =>
    obtain ⟨F1, t1⟩ := wn_set { x with p := mp } 8 mp B0 rfl
    obtain ⟨F2, t2⟩ := wn_set { x with p := mp, n := 0 } 7 0 F1 rfl
    have F3 := F2
    have tt := Touch.trans t1 t2 (fun _ _ h => h)
    have G1 := tt.heap B1 (by omega)
    have G2 := tt.heap B2 (by omega)
    have G3 := tt.heap B3 (by omega)
    have TW := Touch.trans T1 tt (fun k hk e => by have := HB.out; omega)
    obtain ⟨⟨c0, c1, c2⟩, ⟨c3, c4, c5, c6⟩, c7, c8⟩ := wn_cells B0
    have z3 := wn_frozen B0 3
    have z4 := wn_frozen B0 4
    have z5 := wn_frozen B0 5
    have z6 := wn_frozen B0 6
    have z7 := wn_frozen B0 7
    have z8 := wn_frozen B0 8
    have HF3 := hide F3
    have HG1 := hide G1
    have HG2 := hide G2
    have HG3 := hide G3
    have HTW := hide TW
    clear F1 F2 F3 t1 t2 tt G1 G2 G3 TW B0 B1 B2 B3 T1
    go_wp2_with fail
    have e0 : (w1.setCell ⟨B, 8, none⟩ (.int .i64 mp)).setCell ⟨B, 7, none⟩ (.int .i64 0) = (w1.setCell ⟨B, 8, none⟩ (.int .i64 mp)).setCell ⟨B, 7, none⟩ (.int .i64 0) := rfl
    generalize (w1.setCell ⟨B, 8, none⟩ (.int .i64 mp)).setCell ⟨B, 7, none⟩ (.int .i64 0) = w2 at *
    clear e0 c0 c1 c2 c3 c4 c5 c6 c7 c8 z3 z4 z5 z6 z7 z8
    obtain ⟨⟨c0, c1, c2⟩, ⟨c3, c4, c5, c6⟩, c7, c8⟩ := wn_cells HF3.out
    obtain ⟨⟨d0, d1, d2, d3, d4⟩, d5, d6, d7, d8⟩ := pn_cells HG3.out
    obtain ⟨⟨g0, g1, g2, g3, g4⟩, g5, g6, g7, g8⟩ := pn_cells HG1.out
    obtain ⟨⟨i0, i1, i2⟩, ⟨i3, i4, i5, i6⟩, i7, i8⟩ := wn_cells HG2.out
    have y0 := wn_frozen HG1.out 0
    have y1 := wn_frozen HG1.out 1
    have y2 := wn_frozen HG1.out 2
    have y3 := wn_frozen HG1.out 3
    have y4 := wn_frozen HG1.out 4
    have y5 := wn_frozen HG1.out 5
    have y6 := wn_frozen HG1.out 6
    have y7 := wn_frozen HG1.out 7
    have y8 := wn_frozen HG1.out 8
    have v0 := wn_frozen HG2.out 0
    have v1 := wn_frozen HG2.out 1
    have v2 := wn_frozen HG2.out 2
    have v3 := wn_frozen HG2.out 3
    have v4 := wn_frozen HG2.out 4
    have v5 := wn_frozen HG2.out 5
    have v6 := wn_frozen HG2.out 6
    have v7 := wn_frozen HG2.out 7
    have v8 := wn_frozen HG2.out 8
    obtain ⟨P1, tp⟩ := pn_all ⟨k, x.a, x.b, d, x.p, x.t⟩ HG1.out
    obtain ⟨P2, tw⟩ := wn_all ⟨x.a, x.b, x.h, x.t, 0, mp⟩ (tp.heap HG2.out (by omega))
    have P3 := tw.heap P1 (by omega)
    have TT := Touch.trans (Touch.trans HTW.out tp (fun k hk e => by have := HB.out; omega)) tw (fun k hk e => by have := HB.out; omega)
    have K9 : Hid (∃ w9, ((((((((((((((((((w2).setCell ⟨B + 1, 0, none⟩ (.string k)).setCell ⟨B + 1, 1, none⟩ (.int .i64 x.a)).setCell ⟨B + 1, 2, none⟩ (.int .i64 x.b)).setCell ⟨B + 1, 3, none⟩ (.int .i64 d)).setCell ⟨B + 1, 4, none⟩ (.int .i64 x.p)).setCell ⟨B + 1, 5, none⟩ (.int .i64 x.t.c)).setCell ⟨B + 1, 6, none⟩ (.int .i64 x.t.s)).setCell ⟨B + 1, 7, none⟩ (.int .i64 x.t.m)).setCell ⟨B + 1, 8, none⟩ (.int .i64 x.t.x)).setCell ⟨B + 1 + 1, 0, none⟩ (.int .i64 x.a)).setCell ⟨B + 1 + 1, 1, none⟩ (.int .i64 x.b)).setCell ⟨B + 1 + 1, 2, none⟩ (.int .i64 x.h)).setCell ⟨B + 1 + 1, 3, none⟩ (.int .i64 x.t.c)).setCell ⟨B + 1 + 1, 4, none⟩ (.int .i64 x.t.s)).setCell ⟨B + 1 + 1, 5, none⟩ (.int .i64 x.t.m)).setCell ⟨B + 1 + 1, 6, none⟩ (.int .i64 x.t.x)).setCell ⟨B + 1 + 1, 7, none⟩ (.int .i64 0)).setCell ⟨B + 1 + 1, 8, none⟩ (.int .i64 mp) = w9 ∧ w9.heap[B + 1]? = some (.cells (pnc ⟨k, x.a, x.b, d, x.p, x.t⟩) 37 (0, 0)) ∧ w9.heap[B + 1 + 1]? = some (.cells (wnc ⟨x.a, x.b, x.h, x.t, 0, mp⟩) 30 (0, 0)) ∧ Calm w w9) := hide ⟨_, rfl, P3, P2, TT⟩
    clear P1 P2 P3 TT tp tw HG1 HG2 HG3 HF3 HTW
    unfold tellP at d0 d1 d2 d3 d4 d5 d6 d7 d8
    go_region
    all_goals
      go_wp2_with fail
      obtain ⟨w9, e9, P3, P4, TT⟩ := K9.out
      rw [e9]
      refine bodyPost_ret (w := w9.drew) (results_cell2 rfl _ w9.drew _ _ _ _ _ rfl (show w9.drew.heap[B + 1]? = _ from P3) Try.underlying37 rfl (by kernel_rfl) _ _ _ _ _ rfl (show w9.drew.heap[B + 1 + 1]? = _ from P4) Try.underlying30 rfl (by kernel_rfl)) rfl ?_
      exact ⟨rfl, TT.drew⟩
  | true =>
    obtain ⟨F1, t1⟩ := wn_set { x with p := mp } 8 mp B0 rfl
    obtain ⟨F2, t2⟩ := wn_set { x with p := mp, n := 0 } 7 0 F1 rfl
    obtain ⟨F3, t3⟩ := wn_tally tl0 F2
    have tt := Touch.trans (Touch.trans t1 t2 (fun _ _ h => h)) t3 (fun _ _ h => h)
    have G1 := tt.heap B1 (by omega)
    have G2 := tt.heap B2 (by omega)
    have G3 := tt.heap B3 (by omega)
    have TW := Touch.trans T1 tt (fun k hk e => by have := HB.out; omega)
    obtain ⟨⟨c0, c1, c2⟩, ⟨c3, c4, c5, c6⟩, c7, c8⟩ := wn_cells B0
    have z3 := wn_frozen B0 3
    have z4 := wn_frozen B0 4
    have z5 := wn_frozen B0 5
    have z6 := wn_frozen B0 6
    have z7 := wn_frozen B0 7
    have z8 := wn_frozen B0 8
    have HF3 := hide F3
    have HG1 := hide G1
    have HG2 := hide G2
    have HG3 := hide G3
    have HTW := hide TW
    clear F1 F2 F3 t1 t2 t3 tt G1 G2 G3 TW B0 B1 B2 B3 T1
    go_wp2_with fail
    have e0 : (((((w1.setCell ⟨B, 8, none⟩ (.int .i64 mp)).setCell ⟨B, 7, none⟩ (.int .i64 0)).setCell ⟨B, 3, none⟩ (.int .i64 0)).setCell ⟨B, 4, none⟩ (.int .i64 0)).setCell ⟨B, 5, none⟩ (.int .i64 0)).setCell ⟨B, 6, none⟩ (.int .i64 0) = (((((w1.setCell ⟨B, 8, none⟩ (.int .i64 mp)).setCell ⟨B, 7, none⟩ (.int .i64 0)).setCell ⟨B, 3, none⟩ (.int .i64 0)).setCell ⟨B, 4, none⟩ (.int .i64 0)).setCell ⟨B, 5, none⟩ (.int .i64 0)).setCell ⟨B, 6, none⟩ (.int .i64 0) := rfl
    generalize (((((w1.setCell ⟨B, 8, none⟩ (.int .i64 mp)).setCell ⟨B, 7, none⟩ (.int .i64 0)).setCell ⟨B, 3, none⟩ (.int .i64 0)).setCell ⟨B, 4, none⟩ (.int .i64 0)).setCell ⟨B, 5, none⟩ (.int .i64 0)).setCell ⟨B, 6, none⟩ (.int .i64 0) = w2 at *
    clear e0 c0 c1 c2 c3 c4 c5 c6 c7 c8 z3 z4 z5 z6 z7 z8
    obtain ⟨⟨c0, c1, c2⟩, ⟨c3, c4, c5, c6⟩, c7, c8⟩ := wn_cells HF3.out
    obtain ⟨⟨d0, d1, d2, d3, d4⟩, d5, d6, d7, d8⟩ := pn_cells HG3.out
    obtain ⟨⟨g0, g1, g2, g3, g4⟩, g5, g6, g7, g8⟩ := pn_cells HG1.out
    obtain ⟨⟨i0, i1, i2⟩, ⟨i3, i4, i5, i6⟩, i7, i8⟩ := wn_cells HG2.out
    have y0 := wn_frozen HG1.out 0
    have y1 := wn_frozen HG1.out 1
    have y2 := wn_frozen HG1.out 2
    have y3 := wn_frozen HG1.out 3
    have y4 := wn_frozen HG1.out 4
    have y5 := wn_frozen HG1.out 5
    have y6 := wn_frozen HG1.out 6
    have y7 := wn_frozen HG1.out 7
    have y8 := wn_frozen HG1.out 8
    have v0 := wn_frozen HG2.out 0
    have v1 := wn_frozen HG2.out 1
    have v2 := wn_frozen HG2.out 2
    have v3 := wn_frozen HG2.out 3
    have v4 := wn_frozen HG2.out 4
    have v5 := wn_frozen HG2.out 5
    have v6 := wn_frozen HG2.out 6
    have v7 := wn_frozen HG2.out 7
    have v8 := wn_frozen HG2.out 8
    obtain ⟨P1, tp⟩ := pn_all ⟨k, x.a, x.b, d, x.p, x.t⟩ HG1.out
    obtain ⟨P2, tw⟩ := wn_all ⟨x.a, x.b, x.h, tl0, 0, mp⟩ (tp.heap HG2.out (by omega))
    have P3 := tw.heap P1 (by omega)
    have TT := Touch.trans (Touch.trans HTW.out tp (fun k hk e => by have := HB.out; omega)) tw (fun k hk e => by have := HB.out; omega)
    have K9 : Hid (∃ w9, ((((((((((((((((((w2).setCell ⟨B + 1, 0, none⟩ (.string k)).setCell ⟨B + 1, 1, none⟩ (.int .i64 x.a)).setCell ⟨B + 1, 2, none⟩ (.int .i64 x.b)).setCell ⟨B + 1, 3, none⟩ (.int .i64 d)).setCell ⟨B + 1, 4, none⟩ (.int .i64 x.p)).setCell ⟨B + 1, 5, none⟩ (.int .i64 x.t.c)).setCell ⟨B + 1, 6, none⟩ (.int .i64 x.t.s)).setCell ⟨B + 1, 7, none⟩ (.int .i64 x.t.m)).setCell ⟨B + 1, 8, none⟩ (.int .i64 x.t.x)).setCell ⟨B + 1 + 1, 0, none⟩ (.int .i64 x.a)).setCell ⟨B + 1 + 1, 1, none⟩ (.int .i64 x.b)).setCell ⟨B + 1 + 1, 2, none⟩ (.int .i64 x.h)).setCell ⟨B + 1 + 1, 3, none⟩ (.int .i64 0)).setCell ⟨B + 1 + 1, 4, none⟩ (.int .i64 0)).setCell ⟨B + 1 + 1, 5, none⟩ (.int .i64 0)).setCell ⟨B + 1 + 1, 6, none⟩ (.int .i64 0)).setCell ⟨B + 1 + 1, 7, none⟩ (.int .i64 0)).setCell ⟨B + 1 + 1, 8, none⟩ (.int .i64 mp) = w9 ∧ w9.heap[B + 1]? = some (.cells (pnc ⟨k, x.a, x.b, d, x.p, x.t⟩) 37 (0, 0)) ∧ w9.heap[B + 1 + 1]? = some (.cells (wnc ⟨x.a, x.b, x.h, tl0, 0, mp⟩) 30 (0, 0)) ∧ Calm w w9) := hide ⟨_, rfl, P3, P2, TT⟩
    clear P1 P2 P3 TT tp tw HG1 HG2 HG3 HF3 HTW
    unfold tellP at d0 d1 d2 d3 d4 d5 d6 d7 d8
    go_region
    all_goals
      go_wp2_with fail
      obtain ⟨w9, e9, P3, P4, TT⟩ := K9.out
      rw [e9]
      refine bodyPost_ret (w := w9.drew) (results_cell2 rfl _ w9.drew _ _ _ _ _ rfl (show w9.drew.heap[B + 1]? = _ from P3) Try.underlying37 rfl (by kernel_rfl) _ _ _ _ _ rfl (show w9.drew.heap[B + 1 + 1]? = _ from P4) Try.underlying30 rfl (by kernel_rfl)) rfl ?_
      exact ⟨rfl, TT.drew⟩

end Go.Proofs.Ytfmlbcddomggaaa
