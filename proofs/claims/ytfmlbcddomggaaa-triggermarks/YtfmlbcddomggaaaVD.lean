/- The document's Event. -/
import Derived.Test.YtfmlbcddomggaaaVC
import Derived.Test.YtfmlbcddomggaaaYS
namespace Go.Proofs.Ytfmlbcddomggaaa
open Go.RowKit

theorem Own.pane {w : World} {base g : Nat} {p : Pn} (hg : base ≤ g) (h : w.heap[g]? = some (.cells (pnc p) 37 (0, 0))) : encP.Own 37 w base (.slice (some ⟨g, 0, none⟩) 1 1) [p] :=
  ⟨rfl, .inr ⟨g, 1, pnc p, rfl, hg, h, Nat.le_refl _, by decide, rfl, rfl⟩⟩

/-- What Event answers. -/
def RetE (w : World) (e : Ending) (w' : World) (x : Wn) (P : List Pn) : Prop :=
  ∃ po pc, e = .returned (.tuple #[wnv x, .slice po P.length pc]) ∧ encP.Own 37 w' w.heap.size (.slice po P.length pc) P ∧ Calm w w'

set_option maxRecDepth 100000 in
set_option maxHeartbeats 4000000 in
theorem revent_any (c : Cf) (k : ByteArray) (x : Wn) (v t m : Int) (hc : I64 x.t.c) (hv : I64 v) (hn : I64 x.n) (hp : I64 x.p) (w : World) :
    Calls Try.prog 17 #[cfv c, .string k, wnv x, .int .i64 v, .int .i64 t, .int .i64 m] w fun e w' => RetE w e w' (evW c x v t m) (evP c k x v t m) := by
  have CA := fun w => hide (radd_any x.t v hc hv w)
  have CM := fun w => hide (rmore_any x.n hn w)
  have CB := fun w => hide (rbehind_any c (grewW x v t m) m w)
  have CT := fun w => hide (rtell_any k (grewW x v t m) (behK c.ea m (grewW x v t m)) c.di hp w)
  have HE : Hid (∀ e w', RetE w e w' (evW c x v t m) (evP c k x v t m) ↔ RetE w e w' (if behB c.ea m (grewW x v t m) then tellW (grewW x v t m) c.di else grewW x v t m) (if behB c.ea m (grewW x v t m) then [tellP k (grewW x v t m) (behK c.ea m (grewW x v t m))] else [])) := hide fun e w' => Iff.rfl
  generalize evW c x v t m = EW at *
  generalize evP c k x v t m = EP at *
  generalize behK c.ea m (grewW x v t m) = bk at *
  generalize behB c.ea m (grewW x v t m) = bb at *
  unfold grewW at *
  generalize ejh : min x.h (max t m) = jh at *
  generalize addT x.t v = jt at *
  generalize moreN x.n = jn at *
  obtain ⟨A0, A1, A2⟩ := al3 w (.cells (cfc c) 24) (.cells (wnc x) 30) (.cells (wnc wn0) 30)
  have T0 : Calm w (((w.alloc (.cells (cfc c) 24)).alloc (.cells (wnc x) 30)).alloc (.cells (wnc wn0) 30)) := (((Touch.refl _ _).alloc _).alloc _).alloc _
  have HA0 := hide A0
  have HA1 := hide A1
  have HA2 := hide A2
  have HT0 := hide T0
  clear A0 A1 A2 T0 hc hv hn hp
  go_enter Try.func17, Try.ntmps17
  go_wp2_with fail
  refine (CA _).out.mono ?_
  rintro e w1 ⟨rfl, T1⟩
  have B0 := T1.at HA0.out
  have B1 := T1.at HA1.out
  have B2 := T1.at HA2.out
  have TW := HT0.out.tr T1
  clear T1 HA0 HA1 HA2 HT0 CA
  generalize hB : w.heap.size = B at *
  have HB := hide hB
  clear hB
  obtain ⟨⟨c0, c1, c2⟩, ⟨c3, c4, c5, c6⟩, c7, c8⟩ := wn_cells B1
  have z3 := wn_frozen B1 3
  have z4 := wn_frozen B1 4
  have z5 := wn_frozen B1 5
  have z6 := wn_frozen B1 6
  obtain ⟨F1, TF⟩ := wn_tally jt B1
  have HF1 := hide F1
  have HG0 := hide (TF.heap B0 (by omega))
  have HG2 := hide (TF.heap B2 (by omega))
  have HTG := hide (Touch.trans TW TF (fun k hk e => by have := HB.out; omega))
  clear F1 TF TW B0 B1 B2
  go_wp2_with fail
  refine (CM _).out.mono ?_
  rintro e w4 ⟨rfl, hq⟩
  generalize (((w1.setCell ⟨B + 1, 3, none⟩ (.int .i64 jt.c)).setCell ⟨B + 1, 4, none⟩ (.int .i64 jt.s)).setCell ⟨B + 1, 5, none⟩ (.int .i64 jt.m)).setCell ⟨B + 1, 6, none⟩ (.int .i64 jt.x) = w5 at *
  subst hq
  clear CM c0 c1 c2 c3 c4 c5 c6 c7 c8 z3 z4 z5 z6
  obtain ⟨⟨c0, c1, c2⟩, ⟨c3, c4, c5, c6⟩, c7, c8⟩ := wn_cells HF1.out
  have z7 := wn_frozen HF1.out 7
  have z2 := wn_frozen HF1.out 2
  obtain ⟨F1, t1⟩ := wn_set ⟨x.a, x.b, x.h, jt, jn, x.p⟩ 7 jn HF1.out rfl
  obtain ⟨F2, t2⟩ := wn_set ⟨x.a, x.b, jh, jt, jn, x.p⟩ 2 jh F1 rfl
  have K7 : Hid (∃ w7, (w4.setCell ⟨B + 1, 7, none⟩ (.int .i64 jn)).setCell ⟨B + 1, 2, none⟩ (.int .i64 jh) = w7 ∧ w7.heap[B]? = some (.cells (cfc c) 24 (0, 0)) ∧ w7.heap[B + 1]? = some (.cells (wnc ⟨x.a, x.b, jh, jt, jn, x.p⟩) 30 (0, 0)) ∧ w7.heap[B + 1 + 1]? = some (.cells (wnc wn0) 30 (0, 0)) ∧ Calm w w7) :=
    hide ⟨_, rfl, t2.heap (t1.heap HG0.out (by omega)) (by omega), F2, t2.heap (t1.heap HG2.out (by omega)) (by omega), Touch.trans (Touch.trans HTG.out t1 (fun k hk e => by have := HB.out; omega)) t2 (fun k hk e => by have := HB.out; omega)⟩
  obtain ⟨w7, e7, D0, D1, D2, TW⟩ := K7.out
  obtain ⟨⟨g0, g1, g2, g3, g4, g5, g6⟩, g7, g8, g9⟩ := cf_cells D0
  obtain ⟨⟨i0, i1, i2⟩, ⟨i3, i4, i5, i6⟩, i7, i8⟩ := wn_cells D1
  have HD0 := hide D0
  have HD1 := hide D1
  have HD2 := hide D2
  have HTW := hide TW
  clear F1 F2 t1 t2 HF1 HG0 HG2 HTG K7 D0 D1 D2 TW
  go_wp2_with fail
  refine (CB _).out.mono ?_
  rintro e w8 ⟨rfl, T8⟩
  have E0 := hide (T8.at HD0.out)
  have E1 := hide (T8.at HD1.out)
  have E2 := hide (T8.at HD2.out)
  have TW8 := hide (HTW.out.tr T8)
  clear T8 HD0 HD1 HD2 HTW CB e7 c0 c1 c2 c3 c4 c5 c6 c7 c8 z7 z2 g0 g1 g2 g3 g4 g5 g6 g7 g8 g9 i0 i1 i2 i3 i4 i5 i6 i7 i8 ejh
  generalize hG : (⟨x.a, x.b, jh, jt, jn, x.p⟩ : Wn) = G at *
  have hGv : Hid (wnc G = wnc ⟨x.a, x.b, jh, jt, jn, x.p⟩) := hide (by rw [← hG])
  clear hG
  cases bb with
  | false =>
    obtain ⟨⟨c0, c1, c2⟩, ⟨c3, c4, c5, c6⟩, c7, c8⟩ := wn_cells E1.out
    obtain ⟨⟨i0, i1, i2⟩, ⟨i3, i4, i5, i6⟩, i7, i8⟩ := wn_cells E2.out
    have y0 := wn_frozen E2.out 0
    have y1 := wn_frozen E2.out 1
    have y2 := wn_frozen E2.out 2
    have y3 := wn_frozen E2.out 3
    have y4 := wn_frozen E2.out 4
    have y5 := wn_frozen E2.out 5
    have y6 := wn_frozen E2.out 6
    have y7 := wn_frozen E2.out 7
    have y8 := wn_frozen E2.out 8
    obtain ⟨P1, tp⟩ := wn_all G E2.out
    have K9 : Hid (∃ w9, (((((((((w8).setCell ⟨B + 1 + 1, 0, none⟩ (.int .i64 G.a)).setCell ⟨B + 1 + 1, 1, none⟩ (.int .i64 G.b)).setCell ⟨B + 1 + 1, 2, none⟩ (.int .i64 G.h)).setCell ⟨B + 1 + 1, 3, none⟩ (.int .i64 G.t.c)).setCell ⟨B + 1 + 1, 4, none⟩ (.int .i64 G.t.s)).setCell ⟨B + 1 + 1, 5, none⟩ (.int .i64 G.t.m)).setCell ⟨B + 1 + 1, 6, none⟩ (.int .i64 G.t.x)).setCell ⟨B + 1 + 1, 7, none⟩ (.int .i64 G.n)).setCell ⟨B + 1 + 1, 8, none⟩ (.int .i64 G.p) = w9 ∧ w9.heap[B + 1 + 1]? = some (.cells (wnc G) 30 (0, 0)) ∧ Calm w w9) := hide ⟨_, rfl, P1, Touch.trans TW8.out tp (fun k hk e => by have := HB.out; omega)⟩
    obtain ⟨w9, e9, P9, T9⟩ := K9.out
    have HP9 := hide P9
    have HT9 := hide T9
    clear P1 tp K9 P9 T9 E0 E1 E2 CT
    go_wp2_with fail
    refine bodyPost_ret (w := w9) (results_cell_slot rfl _ w9 _ _ _ _ _ rfl HP9.out Try.underlying30 rfl (by kernel_rfl) _ rfl) rfl ?_
    exact (HE.out _ _).2 ⟨none, 0, rfl, Rc.Own.nil _ _ _, HT9.out⟩
  | true =>
    obtain ⟨⟨c0, c1, c2⟩, ⟨c3, c4, c5, c6⟩, c7, c8⟩ := wn_cells E1.out
    obtain ⟨-, -, -, g9⟩ := cf_cells E0.out
    generalize hr : tellW G c.di = r at *
    generalize hq : tellP k G bk = q at *
    clear hr hq
    go_wp2_with fail
    refine (CT _).out.mono ?_
    rintro e wa ⟨rfl, Ta⟩
    obtain ⟨wb, eb⟩ : ∃ wb, wa.alloc (.cells #[.string q.k, .int .i64 q.a, .int .i64 q.b, .int .i64 q.d, .int .i64 q.n, .int .i64 q.t.c, .int .i64 q.t.s, .int .i64 q.t.m, .int .i64 q.t.x] 37) = wb := ⟨_, rfl⟩
    have B1 : wb.heap[B + 1]? = some (.cells (wnc G) 30 (0, 0)) := by rw [← eb]; exact al_old (Ta.at E1.out) _
    have B2 : wb.heap[B + 1 + 1]? = some (.cells (wnc wn0) 30 (0, 0)) := by rw [← eb]; exact al_old (Ta.at E2.out) _
    have B3 : wb.heap[wa.heap.size]? = some (.cells (pnc q) 37 (0, 0)) := by rw [← eb]; exact al_new wa _
    have TWb : Calm w wb := by rw [← eb]; exact (TW8.out.tr Ta).alloc _
    have hsa : B + 1 + 1 < wa.heap.size := lt_of_heap (Ta.at E2.out)
    clear c0 c1 c2 c3 c4 c5 c6 c7 c8 g9 Ta E0 E1 E2 TW8 CT hGv
    obtain ⟨⟨c0, c1, c2⟩, ⟨c3, c4, c5, c6⟩, c7, c8⟩ := wn_cells B1
    have y0 := wn_frozen B1 0
    have y1 := wn_frozen B1 1
    have y2 := wn_frozen B1 2
    have y3 := wn_frozen B1 3
    have y4 := wn_frozen B1 4
    have y5 := wn_frozen B1 5
    have y6 := wn_frozen B1 6
    have y7 := wn_frozen B1 7
    have y8 := wn_frozen B1 8
    obtain ⟨P1, tp⟩ := wn_all r B1
    have K9 : Hid (∃ w9, (((((((((wb).setCell ⟨B + 1, 0, none⟩ (.int .i64 r.a)).setCell ⟨B + 1, 1, none⟩ (.int .i64 r.b)).setCell ⟨B + 1, 2, none⟩ (.int .i64 r.h)).setCell ⟨B + 1, 3, none⟩ (.int .i64 r.t.c)).setCell ⟨B + 1, 4, none⟩ (.int .i64 r.t.s)).setCell ⟨B + 1, 5, none⟩ (.int .i64 r.t.m)).setCell ⟨B + 1, 6, none⟩ (.int .i64 r.t.x)).setCell ⟨B + 1, 7, none⟩ (.int .i64 r.n)).setCell ⟨B + 1, 8, none⟩ (.int .i64 r.p) = w9 ∧ w9.heap[B + 1]? = some (.cells (wnc r) 30 (0, 0)) ∧ w9.heap[B + 1 + 1]? = some (.cells (wnc wn0) 30 (0, 0)) ∧ w9.heap[wa.heap.size]? = some (.cells (pnc q) 37 (0, 0)) ∧ Calm w w9) := hide ⟨_, rfl, P1, tp.heap B2 (by omega), tp.heap B3 (by omega), Touch.trans TWb tp (fun k hk e => by have := HB.out; omega)⟩
    obtain ⟨w9, e9, P9, P92, P93, T9⟩ := K9.out
    have HN1 := hide P9
    have HN2 := hide P92
    have HN3 := hide P93
    have HTN := hide T9
    clear P1 tp K9 P9 P92 P93 T9 B1 B2 B3 TWb
    go_wp2_with fail
    clear e9 eb c0 c1 c2 c3 c4 c5 c6 c7 c8 y0 y1 y2 y3 y4 y5 y6 y7 y8
    refine wp_region_held (S := Touch (fun k => k = B + 1 + 1) w9) (by kernel_rfl) ?_
    have hT0 : Touch (fun k => k = B + 1 + 1) w9 { w9 with drawn := w9.drawn + 1 } := (Touch.refl _ w9).drew
    have hw9 := HTN.out.size
    have hbw := HB.out
    refine wpAnyH_yield 0 52 (wnv r) rfl rfl (by kernel_rfl) (by kernel_rfl) (by kernel_rfl) (fun _ _ _ h => h) (by kernel_rfl) (fun W hW => by obtain ⟨⟨c0, c1, c2⟩, ⟨c3, c4, c5, c6⟩, c7, c8⟩ := wn_cells (hW.heap HN1.out (by omega)); go_simp) (by assumption) rfl rfl ?_
    simp only [Act.put, List.setIfInBounds_toArray, List.set_cons_zero, List.set_cons_succ]
    refine wpAnyH_yield 1 53 (pnv q) rfl rfl (by kernel_rfl) (by kernel_rfl) (by kernel_rfl) (fun _ _ _ h => h) (by kernel_rfl) (fun W hW => by obtain ⟨⟨d0, d1, d2, d3, d4⟩, d5, d6, d7, d8⟩ := pn_cells (hW.heap HN3.out (by omega)); go_simp) (by assumption) rfl rfl ?_
    simp only [Act.put, List.setIfInBounds_toArray, List.set_cons_zero, List.set_cons_succ]
    have D2 : ({ w9 with drawn := w9.drawn + 1 } : World).heap[B + 1 + 1]? = some (.cells (wnc wn0) 30 (0, 0)) := HN2.out
    have TD : Calm w { w9 with drawn := w9.drawn + 1 } := HTN.out.drew
    have hsz : ({ w9 with drawn := w9.drawn + 1 } : World).heap.size = w9.heap.size := rfl
    have hlt := lt_of_heap D2
    have hbz : w.heap.size ≤ w9.heap.size := HTN.out.size
    generalize ({ w9 with drawn := w9.drawn + 1 } : World) = wD at *
    clear HN1 HN2 HN3 HTN
    refine wpAnyH_all (show Region.ready _ _ _ = [2, 3] by kernel_rfl) (by simp) ?_
    intro i hi
    have hi' : i = 2 ∨ i = 3 := by simpa using hi
    rcases hi' with rfl | rfl
    · have hT1 := hT0.alloc (.cells (pnc q) 37)
      have N1 := al_new wD (.cells (pnc q) 37)
      have N2 := al_old D2 (.cells (pnc q) 37)
      have TE := TD.alloc (.cells (pnc q) 37)
      rw [hsz] at N1
      refine wpOp_value 2 54 (.slice (some ⟨w9.heap.size, 0, none⟩) 1 1) (w' := wD.alloc (.cells (pnc q) 37)) rfl rfl (by kernel_rfl) (by go_simp) ⟨hT1, ?_⟩
      simp only [Act.put, List.setIfInBounds_toArray, List.set_cons_zero, List.set_cons_succ]
      generalize wD.alloc (.cells (pnc q) 37) = wE at *
      obtain ⟨P1, tp⟩ := wn_all r N2
      have hT2 := Touch.trans hT1 tp (fun _ _ h => h)
      refine wpAnyH_do 3 ((((((((((wE).setCell ⟨B + 1 + 1, 0, none⟩ (.int .i64 r.a)).setCell ⟨B + 1 + 1, 1, none⟩ (.int .i64 r.b)).setCell ⟨B + 1 + 1, 2, none⟩ (.int .i64 r.h)).setCell ⟨B + 1 + 1, 3, none⟩ (.int .i64 r.t.c)).setCell ⟨B + 1 + 1, 4, none⟩ (.int .i64 r.t.s)).setCell ⟨B + 1 + 1, 5, none⟩ (.int .i64 r.t.m)).setCell ⟨B + 1 + 1, 6, none⟩ (.int .i64 r.t.x)).setCell ⟨B + 1 + 1, 7, none⟩ (.int .i64 r.n)).setCell ⟨B + 1 + 1, 8, none⟩ (.int .i64 r.p)) rfl (by kernel_rfl) (by kernel_rfl) (fun K hK => ?_) hT2 ?_
      · obtain ⟨⟨i0, i1, i2⟩, ⟨i3, i4, i5, i6⟩, i7, i8⟩ := wn_cells N2
        have y0 := wn_frozen N2 0
        have y1 := wn_frozen N2 1
        have y2 := wn_frozen N2 2
        have y3 := wn_frozen N2 3
        have y4 := wn_frozen N2 4
        have y5 := wn_frozen N2 5
        have y6 := wn_frozen N2 6
        have y7 := wn_frozen N2 7
        have y8 := wn_frozen N2 8
        unfold Oper.wp
        go_simp
        exact hK
      have HP1 := hide P1
      have HP2 := hide (tp.heap N1 (by omega))
      have HTD := hide (Touch.trans TE tp (fun k hk e => by omega))
      generalize (((((((((wE).setCell ⟨B + 1 + 1, 0, none⟩ (.int .i64 r.a)).setCell ⟨B + 1 + 1, 1, none⟩ (.int .i64 r.b)).setCell ⟨B + 1 + 1, 2, none⟩ (.int .i64 r.h)).setCell ⟨B + 1 + 1, 3, none⟩ (.int .i64 r.t.c)).setCell ⟨B + 1 + 1, 4, none⟩ (.int .i64 r.t.s)).setCell ⟨B + 1 + 1, 5, none⟩ (.int .i64 r.t.m)).setCell ⟨B + 1 + 1, 6, none⟩ (.int .i64 r.t.x)).setCell ⟨B + 1 + 1, 7, none⟩ (.int .i64 r.n)).setCell ⟨B + 1 + 1, 8, none⟩ (.int .i64 r.p) = wF at *
      refine wpAnyH_yield 4 13 (.slice (some ⟨w9.heap.size, 0, none⟩) 1 1) rfl rfl (by kernel_rfl) (by kernel_rfl) (by kernel_rfl) (fun _ _ _ h => h) (by kernel_rfl) (fun W hW => by kernel_rfl) (by assumption) rfl rfl ?_
      simp only [Act.put, List.setIfInBounds_toArray, List.set_cons_zero, List.set_cons_succ]
      refine wpAnyH_done (by kernel_rfl) ?_ _
      clear hT2 tp hT1 N1 N2 P1 TE TD hT0
      go_wp2_with fail
      refine bodyPost_ret (w := wF) (results_cell_slot rfl _ wF _ _ _ _ _ rfl HP1.out Try.underlying30 rfl (by kernel_rfl) _ rfl) rfl ?_
      exact (HE.out _ _).2 ⟨some ⟨w9.heap.size, 0, none⟩, 1, rfl, Own.pane hbz HP2.out, HTD.out⟩
    · obtain ⟨P1, tp⟩ := wn_all r D2
      have hT1 := Touch.trans hT0 tp (fun _ _ h => h)
      have hsz2 : ((((((((((wD).setCell ⟨B + 1 + 1, 0, none⟩ (.int .i64 r.a)).setCell ⟨B + 1 + 1, 1, none⟩ (.int .i64 r.b)).setCell ⟨B + 1 + 1, 2, none⟩ (.int .i64 r.h)).setCell ⟨B + 1 + 1, 3, none⟩ (.int .i64 r.t.c)).setCell ⟨B + 1 + 1, 4, none⟩ (.int .i64 r.t.s)).setCell ⟨B + 1 + 1, 5, none⟩ (.int .i64 r.t.m)).setCell ⟨B + 1 + 1, 6, none⟩ (.int .i64 r.t.x)).setCell ⟨B + 1 + 1, 7, none⟩ (.int .i64 r.n)).setCell ⟨B + 1 + 1, 8, none⟩ (.int .i64 r.p)).heap.size = w9.heap.size := by simp [hsz]
      refine wpOp_do 3 ((((((((((wD).setCell ⟨B + 1 + 1, 0, none⟩ (.int .i64 r.a)).setCell ⟨B + 1 + 1, 1, none⟩ (.int .i64 r.b)).setCell ⟨B + 1 + 1, 2, none⟩ (.int .i64 r.h)).setCell ⟨B + 1 + 1, 3, none⟩ (.int .i64 r.t.c)).setCell ⟨B + 1 + 1, 4, none⟩ (.int .i64 r.t.s)).setCell ⟨B + 1 + 1, 5, none⟩ (.int .i64 r.t.m)).setCell ⟨B + 1 + 1, 6, none⟩ (.int .i64 r.t.x)).setCell ⟨B + 1 + 1, 7, none⟩ (.int .i64 r.n)).setCell ⟨B + 1 + 1, 8, none⟩ (.int .i64 r.p)) rfl (by kernel_rfl) (fun K hK => ?_) ⟨hT1, ?_⟩
      · obtain ⟨⟨i0, i1, i2⟩, ⟨i3, i4, i5, i6⟩, i7, i8⟩ := wn_cells D2
        have y0 := wn_frozen D2 0
        have y1 := wn_frozen D2 1
        have y2 := wn_frozen D2 2
        have y3 := wn_frozen D2 3
        have y4 := wn_frozen D2 4
        have y5 := wn_frozen D2 5
        have y6 := wn_frozen D2 6
        have y7 := wn_frozen D2 7
        have y8 := wn_frozen D2 8
        unfold Oper.wp
        go_simp
        exact hK
      have TE := Touch.trans TD tp (fun k hk e => by omega)
      generalize (((((((((wD).setCell ⟨B + 1 + 1, 0, none⟩ (.int .i64 r.a)).setCell ⟨B + 1 + 1, 1, none⟩ (.int .i64 r.b)).setCell ⟨B + 1 + 1, 2, none⟩ (.int .i64 r.h)).setCell ⟨B + 1 + 1, 3, none⟩ (.int .i64 r.t.c)).setCell ⟨B + 1 + 1, 4, none⟩ (.int .i64 r.t.s)).setCell ⟨B + 1 + 1, 5, none⟩ (.int .i64 r.t.m)).setCell ⟨B + 1 + 1, 6, none⟩ (.int .i64 r.t.x)).setCell ⟨B + 1 + 1, 7, none⟩ (.int .i64 r.n)).setCell ⟨B + 1 + 1, 8, none⟩ (.int .i64 r.p) = wE at *
      have hT2 := hT1.alloc (.cells (pnc q) 37)
      have N1 := al_new wE (.cells (pnc q) 37)
      have HP1 := hide (al_old P1 (.cells (pnc q) 37))
      have HTD := hide (TE.alloc (.cells (pnc q) 37))
      rw [hsz2] at N1
      have HP2 := hide N1
      refine wpAnyH_value 2 54 (.slice (some ⟨w9.heap.size, 0, none⟩) 1 1) (w' := wE.alloc (.cells (pnc q) 37)) rfl rfl (by kernel_rfl) (by kernel_rfl) (by go_simp) hT2 ?_
      simp only [Act.put, List.setIfInBounds_toArray, List.set_cons_zero, List.set_cons_succ]
      generalize wE.alloc (.cells (pnc q) 37) = wF at *
      refine wpAnyH_yield 4 13 (.slice (some ⟨w9.heap.size, 0, none⟩) 1 1) rfl rfl (by kernel_rfl) (by kernel_rfl) (by kernel_rfl) (fun _ _ _ h => h) (by kernel_rfl) (fun W hW => by kernel_rfl) (by assumption) rfl rfl ?_
      simp only [Act.put, List.setIfInBounds_toArray, List.set_cons_zero, List.set_cons_succ]
      refine wpAnyH_done (by kernel_rfl) ?_ _
      clear hT2 tp hT1 N1 P1 TE TD hT0
      go_wp2_with fail
      refine bodyPost_ret (w := wF) (results_cell_slot rfl _ wF _ _ _ _ _ rfl HP1.out Try.underlying30 rfl (by kernel_rfl) _ rfl) rfl ?_
      exact (HE.out _ _).2 ⟨some ⟨w9.heap.size, 0, none⟩, 1, rfl, Own.pane hbz HP2.out, HTD.out⟩

end Go.Proofs.Ytfmlbcddomggaaa
