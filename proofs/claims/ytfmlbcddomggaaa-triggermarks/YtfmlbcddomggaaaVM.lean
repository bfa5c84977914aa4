/- The walk of TriggerEvents, by contracts of the program's trigger. -/
import Derived.Test.YtfmlbcddomggaaaVK
namespace Go.Proofs.Ytfmlbcddomggaaa
open Go.RowKit

/-- Three numbers. -/
abbrev a3c (a b d : Int) : Array Value := #[.int .i64 a, .int .i64 b, .int .i64 d]
theorem a3_cells {w : World} {g : Nat} {a b d : Int} {ty : TypeId} (h : w.heap[g]? = some (.cells (a3c a b d) ty (0, 0))) :
    w.cell? ⟨g, 0, none⟩ = some (.int .i64 a) ∧ w.cell? ⟨g, 1, none⟩ = some (.int .i64 b) ∧ w.cell? ⟨g, 2, none⟩ = some (.int .i64 d) := by simp [World.cell?, h]

set_option maxRecDepth 100000 in
set_option maxHeartbeats 2000000 in
theorem events_walk (hB : BehC) (hO : OnC) (hT : TellC) (hE : EvC) (c : Cf) (k : ByteArray) (x : Wn) (b0 b1 b2 : Int) (hx : x.Ok) (h0 : I64 b0) (h1 : I64 b1) (h2 : I64 b2) (w : World) :
    Calls Try.prog 4 #[cfv c, .string k, wnv x, .agg (a3c b0 b1 b2)] w fun e w' => e = .returned (.bool true) ∧ Calm w w' := by
  have CK := fun w => hide (known10_any hB hO hT hE w)
  have C1 := fun w => hide (hE c k x b0 b1 b2 hx h0 h1 h2 w)
  have C2 := fun w => hide (revent_any c k x b0 b1 b2 hx.t.c h0 hx.n hx.p w)
  have CS : Hid (∀ (P : List Pn) (po qo : Option Addr) (pc qc : Nat) (W : World), P.length ≤ 1000000 → encP.Mem W po P → encP.Mem W qo P → _) := hide fun P po qo pc qc W hl ha hb => kitPanes_any po qo pc qc P W ha hb (by omega)
  have hpl : (evP c k x b0 b1 b2).length ≤ 1 := by unfold evP; split <;> simp
  generalize evW c x b0 b1 b2 = E at *
  generalize evP c k x b0 b1 b2 = P at *
  obtain ⟨A0, A1, A2⟩ := al3 w (.cells (cfc c) 24) (.cells (wnc x) 30) (.cells (a3c b0 b1 b2) 31)
  have T0 : Calm w (((w.alloc (.cells (cfc c) 24)).alloc (.cells (wnc x) 30)).alloc (.cells (a3c b0 b1 b2) 31)) := (((Touch.refl _ _).alloc _).alloc _).alloc _
  have HA0 := hide A0
  have HA1 := hide A1
  have HA2 := hide A2
  have HT0 := hide T0
  clear A0 A1 A2 T0 hB hO hT hE hx h0 h1 h2
  go_enter Try.func4, Try.ntmps4
  go_wp2_with fail
  refine (C1 _).out.mono ?_
  rintro e w1 ⟨po, pc, rfl, ow1, T1⟩
  have D0 := al_old (T1.at HA0.out) (.cells (wnc E) 30)
  have D1 := al_old (T1.at HA1.out) (.cells (wnc E) 30)
  have D2 := al_old (T1.at HA2.out) (.cells (wnc E) 30)
  have D3 := al_new w1 (.cells (wnc E) 30)
  have TD := (HT0.out.tr T1).alloc (.cells (wnc E) 30)
  have OD := Rc.Own.calm ow1 ((Touch.refl (fun _ => False) w1).alloc (.cells (wnc E) 30))
  obtain ⟨wD, eD⟩ : ∃ wD, w1.alloc (.cells #[.int .i64 E.a, .int .i64 E.b, .int .i64 E.h, .int .i64 E.t.c, .int .i64 E.t.s, .int .i64 E.t.m, .int .i64 E.t.x, .int .i64 E.n, .int .i64 E.p] 30) = wD := ⟨_, rfl⟩
  have eD' : w1.alloc (.cells (wnc E) 30) = wD := eD
  rw [eD'] at D0 D1 D2 D3 TD OD
  clear eD' ow1 T1 HA0 HA1 HA2 HT0 C1
  generalize w.heap.size = B at *
  obtain ⟨⟨g0, g1, g2, g3, g4, g5, g6⟩, g7, g8, g9⟩ := cf_cells D0
  obtain ⟨⟨c0, c1, c2⟩, ⟨c3, c4, c5, c6⟩, c7, c8⟩ := wn_cells D1
  obtain ⟨a0, a1, a2⟩ := a3_cells D2
  have HD3 := hide D3
  have HTD := hide TD
  have HOD := hide OD
  clear D0 D1 D2 D3 TD OD
  go_wp2_with fail
  refine (C2 _).out.mono ?_
  rintro e w3 ⟨qo, qc, rfl, ow3, T3⟩
  have F3 := al_old (T3.at HD3.out) (.cells (wnc E) 30)
  have F4 := al_new w3 (.cells (wnc E) 30)
  have TF := (HTD.out.tr T3).alloc (.cells (wnc E) 30)
  have OF := Rc.Own.calm (Rc.Own.calm HOD.out T3) ((Touch.refl (fun _ => False) w3).alloc (.cells (wnc E) 30))
  have OG := Rc.Own.calm ow3 ((Touch.refl (fun _ => False) w3).alloc (.cells (wnc E) 30))
  obtain ⟨wF, eF⟩ : ∃ wF, w3.alloc (.cells #[.int .i64 E.a, .int .i64 E.b, .int .i64 E.h, .int .i64 E.t.c, .int .i64 E.t.s, .int .i64 E.t.m, .int .i64 E.t.x, .int .i64 E.n, .int .i64 E.p] 30) = wF := ⟨_, rfl⟩
  have eF' : w3.alloc (.cells (wnc E) 30) = wF := eF
  rw [eF'] at F3 F4 TF OF OG
  have S1 := hide (CS.out P po qo pc qc wF (by omega) (Rc.Own.mem OF).2.1 (Rc.Own.mem OG).2.1)
  clear eF' eD g0 g1 g2 g3 g4 g5 g6 g7 g8 g9 c0 c1 c2 c3 c4 c5 c6 c7 c8 a0 a1 a2
  obtain ⟨⟨c0, c1, c2⟩, ⟨c3, c4, c5, c6⟩, c7, c8⟩ := wn_cells F3
  obtain ⟨⟨d0, d1, d2⟩, ⟨d3, d4, d5, d6⟩, d7, d8⟩ := wn_cells F4
  have HTF := hide TF
  clear F3 F4 TF OF OG ow3 T3 HD3 HTD HOD C2 CS
  generalize P.length = u at *
  go_wp2_with fail
  refine S1.out.mono ?_
  rintro e w4 ⟨rfl, T4⟩
  have H4 := hide (HTF.out.tr T4)
  clear T4
  go_wp2_with fail
  refine (CK _).out.mono ?_
  rintro e w5 ⟨rfl, T5⟩
  have H5 := hide (H4.out.tr T5)
  clear T5
  go_wp2_with fail
  go_ret
  exact ⟨rfl, H5.out⟩

end Go.Proofs.Ytfmlbcddomggaaa
