/- The walk of TriggerMarks. -/
import Derived.Test.YtfmlbcddomggaaaVR
import Derived.Test.YtfmlbcddomggaaaVL
namespace Go.Proofs.Ytfmlbcddomggaaa
open Go.RowKit

/-- The blocks that may be written behind the answers: those of the first ones, and new ones. -/
def Fr (S1 S2 S4 k : Nat) : Prop := S1 ≤ k ∧ (k < S2 ∨ S4 ≤ k)

/-- What stays while the first answers are written over. -/
structure Sty (w : World) (B gm cm : Nat) (c : Cf) (f t : Int) (L : List Wn) (ao bo wo : Option Addr) (O : List Wn) (qo no : Option Addr) (P : List Pn) (W : World) : Prop where
  cf : W.heap[B]? = some (.cells (cfc c) 24 (0, 0))
  by_ : W.heap[B + 1]? = some (.cells (a2c f t) 51 (0, 0))
  lent : ∃ base, LentM W base gm cm L
  l : encW.Mem W ao L
  b : encW.Mem W bo O
  want : encW.Mem W wo O
  q : encP.Mem W qo P
  pan : encP.Mem W no P
  calm : Calm w W

theorem Sty.step {w : World} {B gm cm : Nat} {c : Cf} {f t : Int} {L : List Wn} {ao bo wo : Option Addr} {O : List Wn} {qo no : Option Addr} {P : List Pn} {W W' : World} (h : Sty w B gm cm c f t L ao bo wo O qo no P W) (ht : Calm W W') : Sty w B gm cm c f t L ao bo wo O qo no P W' :=
  ⟨ht.at h.cf, ht.at h.by_, by obtain ⟨b, h⟩ := h.lent; exact ⟨b, Rc.Own.calm h ht⟩, Rc.Mem.calm h.l ht, Rc.Mem.calm h.b ht, Rc.Mem.calm h.want ht, Rc.Mem.calm h.q ht, Rc.Mem.calm h.pan ht, h.calm.tr ht⟩

theorem Sty.past {w : World} {B gm cm S1 S2 S4 : Nat} {c : Cf} {f t : Int} {L : List Wn} {ao bo wo : Option Addr} {O : List Wn} {qo no : Option Addr} {P : List Pn} {W W' : World} (h : Sty w B gm cm c f t L ao bo wo O qo no P W) (ht : Touch (Fr S1 S2 S4) W W')
    (hw : w.heap.size = B) (hB : B + 1 < S1) (hg : gm < S1) (hl : ∀ W, Calm w W → encW.Mem W ao L) (d1 : ∀ a, bo = some a → S2 ≤ a.block ∧ a.block < S4) (d2 : ∀ a, wo = some a → S2 ≤ a.block ∧ a.block < S4) (d3 : ∀ a, qo = some a → S2 ≤ a.block ∧ a.block < S4) (d4 : ∀ a, no = some a → S2 ≤ a.block ∧ a.block < S4) :
    Sty w B gm cm c f t L ao bo wo O qo no P W' := by
  have low : ∀ k, k < S1 → ¬ Fr S1 S2 S4 k := fun k hk h => by unfold Fr at h; omega
  have mid : ∀ k, S2 ≤ k ∧ k < S4 → ¬ Fr S1 S2 S4 k := fun k hk h => by unfold Fr at h; omega
  have cl : Calm w W' := Touch.trans h.calm ht (fun k hk q => low k (by omega) q)
  refine ⟨ht.heap h.cf (low _ (by omega)), ht.heap h.by_ (low _ (by omega)), ?_, hl W' cl, Rc.Mem.touch h.b ht (fun a e _ => mid _ (d1 a e)), Rc.Mem.touch h.want ht (fun a e _ => mid _ (d2 a e)), Rc.Mem.touch h.q ht (fun a e _ => mid _ (d3 a e)), Rc.Mem.touch h.pan ht (fun a e _ => mid _ (d4 a e)), cl⟩
  obtain ⟨b, hb⟩ := h.lent
  refine ⟨b, Rc.Own.touch hb ht (fun g hg' => ?_)⟩
  have : gm = g := by simpa [Value.ownBlock] using hg'
  exact low g (by omega)

/-- One more behind a row of one's own; the row stays where it was, or lies in new memory. -/
theorem wn_app2 {w : World} {b3 : Nat} {oo : Option Addr} {oc : Nat} {O : List Wn} (x : Wn) (h : encW.Own 30 w b3 (.slice oo O.length oc) O) (hs : b3 ≤ w.heap.size) (hn : O.length ≤ 2000000000000) :
    ∃ a2 p2 w4, (Builtin.append_ #[50, 50] 50 #[.slice oo O.length oc, .slice (some ⟨w.heap.size, 0, none⟩) 1 1]).run Try.prog (w.alloc (.cells #[.int .i64 x.a, .int .i64 x.b, .int .i64 x.h, .int .i64 x.t.c, .int .i64 x.t.s, .int .i64 x.t.m, .int .i64 x.t.x, .int .i64 x.n, .int .i64 x.p] 30)) = .ok (.slice a2 (O.length + 1) p2) w4 ∧
      encW.Own 30 w4 b3 (.slice a2 (O ++ [x]).length p2) (O ++ [x]) ∧ Touch (fun d => (Value.slice oo O.length oc).ownBlock = some d) w w4 ∧ ∀ g, (Value.slice a2 (O ++ [x]).length p2).ownBlock = some g → (Value.slice oo O.length oc).ownBlock = some g ∨ w.heap.size ≤ g := by
  obtain ⟨i0, hi, hz, hsz, hby⟩ := Rc.info_parts infoWin
  have own := Rc.Own.calm h ((Touch.refl (fun _ => False) w).alloc (.cells (wnc x) 30))
  have hs1 := al_size w (.cells (wnc x) 30)
  obtain ⟨a2, p2, w4, hr, ow, t2, hg2⟩ := Rc.Own.appw (E := encW) (ty := 50) Try.underlying50 hi hz hsz hby rfl own (some ⟨w.heap.size, 0, none⟩) 1 [x] (Rc.Mem.new w [x] 30) (fun h => (nomatch h)) (by simp; unfold maxLen; omega) (by simp; omega) (by omega) (by omega)
  have e3 : (O ++ [x]).length = O.length + 1 := by simp
  refine ⟨a2, p2, w4, by rw [← e3]; exact hr, ow, ?_, fun g hg => (hg2 g hg).imp id fun h => by omega⟩
  exact Touch.trans (((Touch.refl (fun _ => False) w).alloc _).mono fun _ _ h => h.elim) t2 fun _ _ h => h

/-- What is written over. -/
abbrev w9 : Wn := ⟨0, 0, -9, tl0, 0, 0⟩
abbrev pSp : Pn := ⟨⟨#[115, 112, 111, 105, 108, 116]⟩, 0, 0, 0, 0, tl0⟩

set_option maxRecDepth 100000 in
set_option maxHeartbeats 20000000 in
theorem marks_walk (c : Cf) (k : ByteArray) (ao : Option Addr) (cap : Nat) (L : List Wn) (f t : Int) (w : World) (hsl : encW.Sl w ao cap L) (hn : L.length ≤ 1954687338300) (hok : ∀ x ∈ L, x.Ok) (hlt : I64 c.lt) (ht : I64 t) :
    Calls Try.prog 5 #[cfv c, .string k, .slice ao L.length cap, .agg (a2c f t)] w fun e w' => e = .returned (.bool true) ∧ Calm w w' := by
  have CK := fun w => hide (known10_any behC onC tellC' evC w)
  have CL : Hid (∀ W, Calm w W → _) := hide fun W (h : Calm w W) => lent10_any ao cap L W (Rc.Sl.calm hsl h) (by omega)
  have CM : Hid (∀ (g cm : Nat) (W : World), encW.Sl W (some ⟨g, 0, none⟩) cm L → _) := hide fun g cm W h => mark_any c k (some ⟨g, 0, none⟩) cm L f t W h (by omega) hok hlt ht
  have CR : Hid (∀ W, Calm w W → _) := hide fun W (h : Calm w W) => rmark_any c k ao cap L f t W (Rc.Sl.calm hsl h) (by omega) hok hlt ht
  have hol : (outM f t c.lt c.di L).length ≤ L.length := by have := out_le f t c.lt c.di L L.length; rwa [List.take_length] at this
  have hpl : (panesM k f t L).length ≤ L.length := by have := panesM_le k f t L L.length; rwa [List.take_length] at this
  have CW : Hid (∀ (A : List Wn) (xo yo : Option Addr) (xc yc : Nat) (W : World), A.length ≤ 1954687338300 → encW.Mem W xo A → encW.Mem W yo A → _) := hide fun A xo yo xc yc W hl ha hb => kitWins_any xo yo xc yc A W ha hb (by omega)
  have CP : Hid (∀ (A : List Pn) (xo yo : Option Addr) (xc yc : Nat) (W : World), A.length ≤ 1954687338300 → encP.Mem W xo A → encP.Mem W yo A → _) := hide fun A xo yo xc yc W hl ha hb => kitPanes_any xo yo xc yc A W ha hb (by omega)
  have HLm := hide (fun W (h : Calm w W) => Rc.Mem.calm hsl.mem h)
  generalize outM f t c.lt c.di L = O at *
  generalize panesM k f t L = P at *
  obtain ⟨n, hN⟩ : ∃ n, n = L.length := ⟨_, rfl⟩
  have HN := hide hN
  have A0 := (al1 w (.cells (cfc c) 24) (.cells (a2c f t) 51)).1
  have A1 := (al1 w (.cells (cfc c) 24) (.cells (a2c f t) 51)).2
  have T0 : Calm w ((w.alloc (.cells (cfc c) 24)).alloc (.cells (a2c f t) 51)) := ((Touch.refl _ _).alloc _).alloc _
  have C1 := hide (CL.out _ T0)
  rw [← hN] at C1 CM CR hn hol hpl ⊢
  have HA0 := hide A0
  have HA1 := hide A1
  have HT0 := hide T0
  have Hol := hide hol
  have Hpl := hide hpl
  clear A0 A1 T0 hsl hok hlt ht hN CL hol hpl
  go_enter Try.func5, Try.ntmps5
  go_wp2_with fail
  refine C1.out.mono ?_
  rintro e w1 ⟨gm, cm, rfl, LM, T1⟩
  have H0 := hide (T1.at HA0.out)
  have H1 := hide (T1.at HA1.out)
  have HT := hide (HT0.out.tr T1)
  have HLM := hide LM
  have C2 := hide (CM.out gm cm w1 LM.mem.1)
  generalize hB : w.heap.size = B at *
  have HB := hide hB
  clear hB T1 HA0 HA1 HT0 LM C1
  obtain ⟨⟨g0, g1, g2, g3, g4, g5, g6⟩, g7, g8, g9⟩ := cf_cells H0.out
  obtain ⟨a0, a1⟩ := a2_cells H1.out
  go_wp2_with fail
  refine C2.out.mono ?_
  rintro e w2 ⟨o1, oc1, p1, pc1, rfl, OW1, PW1, T2⟩
  have G0 := hide (T2.at H0.out)
  have G1 := hide (T2.at H1.out)
  have GT := hide (HT.out.tr T2)
  have GLM := hide (Rc.Own.calm HLM.out T2)
  have C3 := hide (CM.out gm cm w2 (LentM.mem GLM.out).1)
  have HS1 : Hid (B + 1 < w1.heap.size ∧ gm < w1.heap.size) := hide ⟨lt_of_heap H1.out, (LentM.mem HLM.out).2.2.2.1⟩
  have HW1 := hide OW1
  have HP1 := hide PW1
  have SZ1 := hide T2.size
  clear T2 H0 H1 HT HLM OW1 PW1 C2 g0 g1 g2 g3 g4 g5 g6 g7 g8 g9 a0 a1
  obtain ⟨⟨g0, g1, g2, g3, g4, g5, g6⟩, g7, g8, g9⟩ := cf_cells G0.out
  obtain ⟨a0, a1⟩ := a2_cells G1.out
  go_wp2_with fail
  refine C3.out.mono ?_
  rintro e w3 ⟨o2, oc2, p2, pc2, rfl, OW2, PW2, T3⟩
  have H0 := hide (T3.at G0.out)
  have H1 := hide (T3.at G1.out)
  have HT := hide (GT.out.tr T3)
  have HLM := hide (Rc.Own.calm GLM.out T3)
  have C4 := hide (CR.out w3 HT.out)
  have HW2 := hide OW2
  have HP2 := hide PW2
  have HT3 := hide T3
  clear T3 G0 G1 GT GLM OW2 PW2 C3 CM CR g0 g1 g2 g3 g4 g5 g6 g7 g8 g9 a0 a1
  obtain ⟨⟨g0, g1, g2, g3, g4, g5, g6⟩, g7, g8, g9⟩ := cf_cells H0.out
  obtain ⟨a0, a1⟩ := a2_cells H1.out
  go_wp2_with fail
  refine C4.out.mono ?_
  rintro e w4 ⟨o3, oc3, p3, pc3, rfl, OW3, PW3, T4⟩
  have HST : Hid (Sty w B gm cm c f t L ao o2 o3 O p2 p3 P w4) := hide ⟨T4.at H0.out, T4.at H1.out, ⟨_, Rc.Own.calm HLM.out T4⟩, HLm.out w4 (HT.out.tr T4), (Rc.Own.mem (Rc.Own.calm HW2.out T4)).2.1, (Rc.Own.mem OW3).2.1, (Rc.Own.mem (Rc.Own.calm HP2.out T4)).2.1, (Rc.Own.mem PW3).2.1, HT.out.tr T4⟩
  have RA : Hid (encW.Own 30 w4 w1.heap.size (.slice o1 O.length oc1) O) := hide (Rc.Own.calm (Rc.Own.calm HW1.out HT3.out) T4)
  have RP : Hid (encP.Own 37 w4 w1.heap.size (.slice p1 P.length pc1) P) := hide (Rc.Own.calm (Rc.Own.calm HP1.out HT3.out) T4)
  have KA : Hid (∀ g, (Value.slice o1 O.length oc1).ownBlock = some g → g < w2.heap.size) := hide fun g hg => by
    obtain ⟨-, cur, hc⟩ := Rc.own_block HW1.out hg
    exact lt_of_heap hc
  have KP : Hid (∀ g, (Value.slice p1 P.length pc1).ownBlock = some g → g < w2.heap.size) := hide fun g hg => by
    obtain ⟨-, cur, hc⟩ := Rc.own_block HP1.out hg
    exact lt_of_heap hc
  have SZ : Hid (w1.heap.size ≤ w2.heap.size ∧ w2.heap.size ≤ w3.heap.size ∧ w3.heap.size ≤ w4.heap.size) := hide ⟨SZ1.out, HT3.out.size, T4.size⟩
  have PAST : Hid (∀ W W', Sty w B gm cm c f t L ao o2 o3 O p2 p3 P W → Touch (Fr w1.heap.size w2.heap.size w4.heap.size) W W' → Sty w B gm cm c f t L ao o2 o3 O p2 p3 P W') := hide (by
    have z := SZ.out
    have b2 : ∀ a, o2 = some a → w2.heap.size ≤ a.block ∧ a.block < w4.heap.size := fun a e => by have := (Rc.Own.mem HW2.out).2.2.2.2.2 a e; omega
    have b3 : ∀ a, o3 = some a → w2.heap.size ≤ a.block ∧ a.block < w4.heap.size := fun a e => by have := (Rc.Own.mem OW3).2.2.2.2.2 a e; omega
    have q2 : ∀ a, p2 = some a → w2.heap.size ≤ a.block ∧ a.block < w4.heap.size := fun a e => by have := (Rc.Own.mem HP2.out).2.2.2.2.2 a e; omega
    have q3 : ∀ a, p3 = some a → w2.heap.size ≤ a.block ∧ a.block < w4.heap.size := fun a e => by have := (Rc.Own.mem PW3).2.2.2.2.2 a e; omega
    exact fun W W' h ht => h.past ht HB.out HS1.out.1 HS1.out.2 HLm.out b2 b3 q2 q3)
  clear T4 H0 H1 HT HLM HT3 HW1 HP1 HW2 HP2 OW3 PW3 C4 g0 g1 g2 g3 g4 g5 g6 g7 g8 g9 a0 a1 SZ1
  generalize w1.heap.size = S1 at *
  generalize w2.heap.size = S2 at *
  have HS4 : Hid (w4.heap.size ≤ w4.heap.size) := hide (Nat.le_refl _)
  obtain ⟨S4, eS4⟩ : ∃ S4, S4 = w4.heap.size := ⟨_, rfl⟩
  rw [← eS4] at SZ PAST
  have HE4 := hide eS4
  clear HS4 eS4
  have C5 := hide (CW.out O o1 o3 oc1 oc3 w4 (by have := Hol.out; omega) (Rc.Own.mem RA.out).2.1 HST.out.want)
  generalize hol : O.length = ol at *
  generalize hpl : P.length = pl at *
  have HOl := hide hol
  have HPl := hide hpl
  clear hol hpl
  go_wp2_with fail
  refine C5.out.mono ?_
  rintro e w5 ⟨rfl, T5⟩
  have HT5 := hide T5
  have C6 := hide (CP.out P p1 p3 pc1 pc3 w5 (by have := Hpl.out; have := HPl.out; omega) (Rc.Mem.calm (Rc.Own.mem RP.out).2.1 T5) (HST.out.step T5).pan)
  rw [HPl.out] at C6
  clear T5 C5
  go_wp2_with fail
  refine C6.out.mono ?_
  rintro e w6 ⟨rfl, T6⟩
  have HT6 := hide (HT5.out.tr T6)
  have C7 := hide (by
    obtain ⟨b, hb⟩ := (HST.out.step HT6.out).lent
    exact CW.out L (some ⟨gm, 0, none⟩) ao cm cap w6 (by have := HN.out; omega) (LentM.mem hb).1.mem (HST.out.step HT6.out).l)
  rw [← HN.out] at C7
  clear T6 C6 HT5
  go_wp2_with fail
  refine C7.out.mono ?_
  rintro e w7 ⟨rfl, T7'⟩
  have T7 := HT6.out.tr T7'
  have ST7 := hide (HST.out.step T7)
  have RA7 := hide (Rc.Own.calm RA.out T7)
  have RP7 := hide (Rc.Own.calm RP.out T7)
  have hS7 : Hid (S4 ≤ w7.heap.size) := hide (by have := T7.size; have := HE4.out; omega)
  have hol1 : ol ≤ n := Hol.out
  have hpl1 : pl ≤ n := Hpl.out
  clear T7 T7' C7 HST RA RP HT6
  go_wp2_with fail
  go_loopw [16] (fun s wr => ∃ (i : Nat) (A : List Wn), s = .int .i64 i ∧ i ≤ ol ∧ A.length = ol ∧ encW.Own 30 wr S1 (.slice o1 ol oc1) A ∧ encP.Own 37 wr S1 (.slice p1 pl pc1) P ∧ Touch (Fr S1 S2 S4) w7 wr) (fun s _ => ol - (intOf s).toNat)
  case atStart => exact ⟨0, O, rfl, Nat.zero_le _, HOl.out, RA7.out, RP7.out, Touch.refl _ _⟩
  case round =>
    obtain ⟨i, A, rfl, hi, hAl, OA, PA, TF⟩ := hrel
    by_cases hlt : i < ol
    · have hltz : (i : Int) < (ol : Int) := by omega
      obtain ⟨ga, rfl⟩ : ∃ ga, o1 = some ⟨ga, 0, none⟩ := by
        obtain ⟨_, hm, _, _, _, ha⟩ := Rc.Own.mem OA
        obtain ⟨b, off, e, -⟩ := wn_at hm i (by omega)
        obtain ⟨_, h2, _⟩ := ha _ e
        have h2' : off = 0 := h2
        subst h2'
        exact ⟨b, e⟩
      obtain ⟨gb, gf, e0, cc⟩ := wn_at (Rc.Own.mem OA).2.1 i (by omega)
      injection e0 with e0
      injection e0 with e1 e2
      subst e1 e2
      obtain ⟨-, cur, hcur⟩ := Rc.own_block OA (g := ga) rfl
      rw [Nat.zero_add] at cc
      obtain ⟨⟨c0, c1, c2⟩, ⟨c3, c4, c5, c6⟩, c7, c8⟩ := cc
      have y0 := wn_frozen hcur (i * 9)
      have y1 := wn_frozen hcur (i * 9 + 1)
      have y2 := wn_frozen hcur (i * 9 + 2)
      have y3 := wn_frozen hcur (i * 9 + 3)
      have y4 := wn_frozen hcur (i * 9 + 4)
      have y5 := wn_frozen hcur (i * 9 + 5)
      have y6 := wn_frozen hcur (i * 9 + 6)
      have y7 := wn_frozen hcur (i * 9 + 7)
      have y8 := wn_frozen hcur (i * 9 + 8)
      obtain ⟨OA', t8⟩ := Rc.Own.set9 (E := encW) rfl OA i (by omega) w9 rfl
      have NX : Hid (encW.Own 30 (((((((((wr.setCell ⟨ga, i * 9, none⟩ (.int .i64 0)).setCell ⟨ga, i * 9 + 1, none⟩ (.int .i64 0)).setCell ⟨ga, i * 9 + 2, none⟩ (.int .i64 (-9))).setCell ⟨ga, i * 9 + 3, none⟩ (.int .i64 0)).setCell ⟨ga, i * 9 + 4, none⟩ (.int .i64 0)).setCell ⟨ga, i * 9 + 5, none⟩ (.int .i64 0)).setCell ⟨ga, i * 9 + 6, none⟩ (.int .i64 0)).setCell ⟨ga, i * 9 + 7, none⟩ (.int .i64 0)).setCell ⟨ga, i * 9 + 8, none⟩ (.int .i64 0)) S1 (.slice (some ⟨ga, 0, none⟩) ol oc1) (A.set i w9) ∧ encP.Own 37 (((((((((wr.setCell ⟨ga, i * 9, none⟩ (.int .i64 0)).setCell ⟨ga, i * 9 + 1, none⟩ (.int .i64 0)).setCell ⟨ga, i * 9 + 2, none⟩ (.int .i64 (-9))).setCell ⟨ga, i * 9 + 3, none⟩ (.int .i64 0)).setCell ⟨ga, i * 9 + 4, none⟩ (.int .i64 0)).setCell ⟨ga, i * 9 + 5, none⟩ (.int .i64 0)).setCell ⟨ga, i * 9 + 6, none⟩ (.int .i64 0)).setCell ⟨ga, i * 9 + 7, none⟩ (.int .i64 0)).setCell ⟨ga, i * 9 + 8, none⟩ (.int .i64 0)) S1 (.slice p1 pl pc1) P ∧ Touch (Fr S1 S2 S4) w7 (((((((((wr.setCell ⟨ga, i * 9, none⟩ (.int .i64 0)).setCell ⟨ga, i * 9 + 1, none⟩ (.int .i64 0)).setCell ⟨ga, i * 9 + 2, none⟩ (.int .i64 (-9))).setCell ⟨ga, i * 9 + 3, none⟩ (.int .i64 0)).setCell ⟨ga, i * 9 + 4, none⟩ (.int .i64 0)).setCell ⟨ga, i * 9 + 5, none⟩ (.int .i64 0)).setCell ⟨ga, i * 9 + 6, none⟩ (.int .i64 0)).setCell ⟨ga, i * 9 + 7, none⟩ (.int .i64 0)).setCell ⟨ga, i * 9 + 8, none⟩ (.int .i64 0))) := hide ⟨OA', Rc.Own.touch PA t8 (fun g hg e => own_apart OA PA (g := g) (by rw [e]; rfl) hg), Touch.trans TF t8 (fun d _ e => by
        have h1 := KA.out ga rfl
        have h2 := (Rc.own_block OA (g := ga) rfl).1
        exact ⟨by omega, .inl (by omega)⟩)⟩
      have HAl : Hid ((A.set i w9).length = ol) := hide (by rw [List.length_set]; exact hAl)
      clear OA' t8 OA PA TF hcur hAl
      go_wp2_with fail
      go_roundw
      case rel => exact ⟨i + 1, A.set i w9, by go_num, by omega, HAl.out, NX.out.1, NX.out.2.1, NX.out.2.2⟩
      case measure => simp [intOf]; omega
    · have hltz : ¬ (i : Int) < (ol : Int) := by omega
      have hld : decide ((i : Int) < (ol : Int)) = false := decide_eq_false hltz
      have HOA := hide OA
      have HPA := hide PA
      have HTF := hide TF
      have HAl := hide hAl
      clear OA PA TF hAl
      go_wp2_with fail
      go_loopw [17] (fun s wr => ∃ (i : Nat) (Q : List Pn), s = .int .i64 i ∧ i ≤ pl ∧ Q.length = pl ∧ encW.Own 30 wr S1 (.slice o1 ol oc1) A ∧ encP.Own 37 wr S1 (.slice p1 pl pc1) Q ∧ Touch (Fr S1 S2 S4) w7 wr) (fun s _ => pl - (intOf s).toNat)
      case atStart => exact ⟨0, P, rfl, Nat.zero_le _, HPl.out, HOA.out, HPA.out, HTF.out⟩
      case round =>
        clear HOA HPA HTF
        obtain ⟨i, Q, rfl, hi2, hQl, OA, PA, TF⟩ := hrel
        by_cases hlt2 : i < pl
        · have hlt2z : (i : Int) < (pl : Int) := by omega
          obtain ⟨gp, rfl⟩ : ∃ gp, p1 = some ⟨gp, 0, none⟩ := by
            obtain ⟨_, hm, _, _, _, ha⟩ := Rc.Own.mem PA
            obtain ⟨b, off, e, -⟩ := pn_at hm i (by omega)
            obtain ⟨_, h2, _⟩ := ha _ e
            have h2' : off = 0 := h2
            subst h2'
            exact ⟨b, e⟩
          obtain ⟨gb, gf, e0, cc⟩ := pn_at (Rc.Own.mem PA).2.1 i (by omega)
          injection e0 with e0
          injection e0 with e1 e2
          subst e1 e2
          obtain ⟨-, cur, hcur⟩ := Rc.own_block PA (g := gp) rfl
          rw [Nat.zero_add] at cc
          obtain ⟨⟨c0, c1, c2, c3, c4⟩, c5, c6, c7, c8⟩ := cc
          have y0 := wn_frozen hcur (i * 9)
          have y1 := wn_frozen hcur (i * 9 + 1)
          have y2 := wn_frozen hcur (i * 9 + 2)
          have y3 := wn_frozen hcur (i * 9 + 3)
          have y4 := wn_frozen hcur (i * 9 + 4)
          have y5 := wn_frozen hcur (i * 9 + 5)
          have y6 := wn_frozen hcur (i * 9 + 6)
          have y7 := wn_frozen hcur (i * 9 + 7)
          have y8 := wn_frozen hcur (i * 9 + 8)
          obtain ⟨PA', t8⟩ := Rc.Own.set9 (E := encP) rfl PA i (by omega) pSp rfl
          have NX : Hid (encW.Own 30 (((((((((wr.setCell ⟨gp, i * 9, none⟩ (.string ⟨#[115, 112, 111, 105, 108, 116]⟩)).setCell ⟨gp, i * 9 + 1, none⟩ (.int .i64 0)).setCell ⟨gp, i * 9 + 2, none⟩ (.int .i64 0)).setCell ⟨gp, i * 9 + 3, none⟩ (.int .i64 0)).setCell ⟨gp, i * 9 + 4, none⟩ (.int .i64 0)).setCell ⟨gp, i * 9 + 5, none⟩ (.int .i64 0)).setCell ⟨gp, i * 9 + 6, none⟩ (.int .i64 0)).setCell ⟨gp, i * 9 + 7, none⟩ (.int .i64 0)).setCell ⟨gp, i * 9 + 8, none⟩ (.int .i64 0)) S1 (.slice o1 ol oc1) A ∧ encP.Own 37 (((((((((wr.setCell ⟨gp, i * 9, none⟩ (.string ⟨#[115, 112, 111, 105, 108, 116]⟩)).setCell ⟨gp, i * 9 + 1, none⟩ (.int .i64 0)).setCell ⟨gp, i * 9 + 2, none⟩ (.int .i64 0)).setCell ⟨gp, i * 9 + 3, none⟩ (.int .i64 0)).setCell ⟨gp, i * 9 + 4, none⟩ (.int .i64 0)).setCell ⟨gp, i * 9 + 5, none⟩ (.int .i64 0)).setCell ⟨gp, i * 9 + 6, none⟩ (.int .i64 0)).setCell ⟨gp, i * 9 + 7, none⟩ (.int .i64 0)).setCell ⟨gp, i * 9 + 8, none⟩ (.int .i64 0)) S1 (.slice (some ⟨gp, 0, none⟩) pl pc1) (Q.set i pSp) ∧ Touch (Fr S1 S2 S4) w7 (((((((((wr.setCell ⟨gp, i * 9, none⟩ (.string ⟨#[115, 112, 111, 105, 108, 116]⟩)).setCell ⟨gp, i * 9 + 1, none⟩ (.int .i64 0)).setCell ⟨gp, i * 9 + 2, none⟩ (.int .i64 0)).setCell ⟨gp, i * 9 + 3, none⟩ (.int .i64 0)).setCell ⟨gp, i * 9 + 4, none⟩ (.int .i64 0)).setCell ⟨gp, i * 9 + 5, none⟩ (.int .i64 0)).setCell ⟨gp, i * 9 + 6, none⟩ (.int .i64 0)).setCell ⟨gp, i * 9 + 7, none⟩ (.int .i64 0)).setCell ⟨gp, i * 9 + 8, none⟩ (.int .i64 0))) := hide ⟨Rc.Own.touch OA t8 (fun g hg e => own_apart OA PA (g := g) hg (by rw [e]; rfl)), PA', Touch.trans TF t8 (fun d _ e => by
            have h1 := KP.out gp rfl
            have h2 := (Rc.own_block PA (g := gp) rfl).1
            exact ⟨by omega, .inl (by omega)⟩)⟩
          have HQl : Hid ((Q.set i pSp).length = pl) := hide (by rw [List.length_set]; exact hQl)
          clear PA' t8 OA PA TF hcur hQl
          go_wp2_with fail
          go_roundw
          case rel => exact ⟨i + 1, Q.set i pSp, by go_num, by omega, HQl.out, NX.out.1, NX.out.2.1, NX.out.2.2⟩
          case measure => simp [intOf]; omega
        · have hlt2z : ¬ (i : Int) < (pl : Int) := by omega
          have hld2 : decide ((i : Int) < (pl : Int)) = false := decide_eq_false hlt2z
          have HST0 : Hid (∃ (ol' pl' : Nat) (A' : List Wn) (Q' : List Pn), ol' = ol ∧ pl' = pl ∧ A' = A ∧ Q' = Q) := hide ⟨_, _, _, _, rfl, rfl, rfl, rfl⟩
          have FA : Hid (∀ g, (Value.slice o1 ol oc1).ownBlock = some g → Fr S1 S2 S4 g) := hide fun g hg => ⟨(Rc.own_block OA hg).1, .inl (KA.out g hg)⟩
          have FP : Hid (∀ g, (Value.slice p1 pl pc1).ownBlock = some g → Fr S1 S2 S4 g) := hide fun g hg => ⟨(Rc.own_block PA hg).1, .inl (KP.out g hg)⟩
          have HOA := hide OA
          have HPA := hide PA
          have HTF := hide TF
          have HQl := hide hQl
          clear OA PA TF hQl
          go_wp2_with fail
          go_loopw [10, 11, 18] (fun s10 s11 s wr => ∃ (i : Nat) (ao' : Option Addr) (oc' ol' : Nat) (po' : Option Addr) (pc' pl' : Nat) (A' : List Wn) (Q' : List Pn), s = .int .i64 i ∧ i ≤ 20 ∧ s10 = .slice ao' ol' oc' ∧ s11 = .slice po' pl' pc' ∧ A'.length = ol' ∧ Q'.length = pl' ∧ i ≤ ol' ∧ i ≤ pl' ∧ ol' ≤ n + i ∧ pl' ≤ n + i ∧
            encW.Own 30 wr S1 (.slice ao' ol' oc') A' ∧ encP.Own 37 wr S1 (.slice po' pl' pc') Q' ∧ (∀ g, (Value.slice ao' ol' oc').ownBlock = some g → Fr S1 S2 S4 g) ∧ (∀ g, (Value.slice po' pl' pc').ownBlock = some g → Fr S1 S2 S4 g) ∧ Touch (Fr S1 S2 S4) w7 wr) (fun _ _ s _ => 20 - (intOf s).toNat)
          case atStart => exact ⟨0, o1, oc1, ol, p1, pc1, pl, A, Q, rfl, by omega, rfl, rfl, HAl.out, HQl.out, Nat.zero_le _, Nat.zero_le _, by omega, by omega, HOA.out, HPA.out, FA.out, FP.out, HTF.out⟩
          case round =>
            clear HOA HPA HTF FA FP HAl HQl
            obtain ⟨i, ao', oc', ol', po', pc', pl', A', Q', rfl, hi3, rfl, rfl, hA, hQ, hio, hip, hon, hpn, OA, PA, FA, FP, TF⟩ := hrel
            by_cases hlt3 : i < 20
            · have hlt3z : (i : Int) < 20 := by omega
              have hS : S1 ≤ wr.heap.size := by have := TF.size; have := hS7.out; have := SZ.out; omega
              rw [← hA] at OA FA
              rw [← hQ] at PA FP
              obtain ⟨a2, c2, w8, hr1, ow1, t1, n1⟩ := wn_app2 w9 OA hS (by omega)
              have PA8 := Rc.Own.touch PA t1 (fun g hg e => own_apart OA PA e hg)
              have hS8 : S1 ≤ w8.heap.size := by have := t1.size; omega
              obtain ⟨a3, c3, w10, hr2, ow2, t2, n2⟩ := pn_app pSp PA8 hS8 (by omega)
              have ow1' := Rc.Own.touch ow1 t2 (fun g hg e => own_apart ow1 PA8 hg e)
              have TT : Touch (Fr S1 S2 S4) w7 w10 := Touch.trans (Touch.trans TF t1 (fun d _ e => FA d e)) t2 (fun d _ e => FP d e)
              have big : S4 ≤ wr.heap.size := by have := TF.size; have := hS7.out; omega
              have F1 : ∀ g, (Value.slice a2 (A' ++ [w9]).length c2).ownBlock = some g → Fr S1 S2 S4 g := fun g hg => by
                rcases n1 g hg with h | h
                · exact FA g h
                · exact ⟨by omega, .inr (by omega)⟩
              have F2 : ∀ g, (Value.slice a3 (Q' ++ [pSp]).length c3).ownBlock = some g → Fr S1 S2 S4 g := fun g hg => by
                rcases n2 g hg with h | h
                · exact FP g h
                · have := t1.size
                  exact ⟨by omega, .inr (by omega)⟩
              rw [hA] at hr1
              rw [hQ] at hr2
              have eA : (A' ++ [w9]).length = ol' + 1 := by rw [List.length_append, hA]; rfl
              have eQ : (Q' ++ [pSp]).length = pl' + 1 := by rw [List.length_append, hQ]; rfl
              rw [eA] at ow1' F1
              rw [eQ] at ow2 F2
              have NX : Hid (encW.Own 30 w10 S1 (.slice a2 (ol' + 1) c2) (A' ++ [w9]) ∧ encP.Own 37 w10 S1 (.slice a3 (pl' + 1) c3) (Q' ++ [pSp]) ∧ (∀ g, (Value.slice a2 (ol' + 1) c2).ownBlock = some g → Fr S1 S2 S4 g) ∧ (∀ g, (Value.slice a3 (pl' + 1) c3).ownBlock = some g → Fr S1 S2 S4 g) ∧ Touch (Fr S1 S2 S4) w7 w10) := hide ⟨ow1', ow2, F1, F2, TT⟩
              have HeA := hide eA
              have HeQ := hide eQ
              have HR1 := hide hr1
              have HR2 := hide hr2
              clear ow1 ow1' ow2 F1 F2 TT t1 t2 n1 n2 PA8 OA PA FA FP TF eA eQ hr1 hr2 hA hQ hS hS8 big
              go_wp2_with (at_builtin; first | refine Rc.wpList_appR rfl (.tmp 94) (.tmp 96) 50 50 rfl _ _ _ rfl rfl HR1.out ?_ | refine Rc.wpList_appR rfl (.tmp 98) (.tmp 100) 46 46 rfl _ _ _ rfl rfl HR2.out ?_)
              go_roundw
              case rel => exact ⟨i + 1, a2, c2, ol' + 1, a3, c3, pl' + 1, A' ++ [w9], Q' ++ [pSp], by go_num, by omega, rfl, rfl, HeA.out, HeQ.out, by omega, by omega, by omega, by omega, NX.out.1, NX.out.2.1, NX.out.2.2.1, NX.out.2.2.2.1, NX.out.2.2.2.2⟩
              case measure => simp [intOf]; omega
            · have hlt3z : ¬ (i : Int) < 20 := by omega
              have hld3 : decide ((i : Int) < 20) = false := decide_eq_false hlt3z
              have go1 : decide ((20 : Int) ≤ (ol' : Int)) = true := decide_eq_true (by omega)
              have gp1 : decide ((20 : Int) ≤ (pl' : Int)) = true := decide_eq_true (by omega)
              have ST := hide (PAST.out w7 wr ST7.out TF)
              have C8 := hide (CW.out O o2 o3 oc2 oc3 wr (by have := HOl.out; omega) ST.out.b ST.out.want)
              rw [HOl.out] at C8
              clear OA PA FA FP TF hA hQ hio hip hon hpn PAST
              go_wp2_with fail
              refine C8.out.mono ?_
              rintro e w8 ⟨rfl, T8⟩
              have ST8 := hide (ST.out.step T8)
              have C9 := hide (CP.out P p2 p3 pc2 pc3 w8 (by have := HPl.out; omega) ST8.out.q ST8.out.pan)
              rw [HPl.out] at C9
              clear T8 C8 ST
              go_wp2_with fail
              refine C9.out.mono ?_
              rintro e w10 ⟨rfl, T9⟩
              have ST9 := hide (ST8.out.step T9)
              have C10 := hide (by
                obtain ⟨b, hb⟩ := ST9.out.lent
                exact CW.out L (some ⟨gm, 0, none⟩) ao cm cap w10 (by have := HN.out; omega) (LentM.mem hb).1.mem ST9.out.l)
              rw [← HN.out] at C10
              clear T9 C9 ST8
              go_wp2_with fail
              refine C10.out.mono ?_
              rintro e w11 ⟨rfl, T10⟩
              have ST11 := hide (ST9.out.step T10)
              have MK : w11.cell? ⟨gm, n * 9 + 2, none⟩ = some (.int .i64 (-771)) := by
                obtain ⟨b, hb⟩ := ST11.out.lent
                have := (LentM.mem hb).2.2.2.2
                rwa [← HN.out] at this
              have hcm : n + 1 ≤ cm := by
                obtain ⟨b, hb⟩ := ST11.out.lent
                have := (LentM.mem hb).2.1
                rwa [← HN.out] at this
              obtain ⟨i0, hinf, -, -, -⟩ := Rc.info_parts infoWin
              have hcut : ∀ W, (Instr.slice 50 (.slice (some ⟨gm, 0, none⟩) n cm) none (some (.int .i64 ((n : Int) + 1))) none).run Try.prog W = .ok (.slice (some ⟨gm, 0, none⟩) (n + 1) cm) W := fun W => cut_to (k := n + 1) Try.underlying50 elemWin hinf hcm W
              have hn1 : (n : Int) < ((n + 1 : Nat) : Int) := by omega
              clear T10 C10 ST9 hinf hcm
              go_wp2_with fail
              refine (CK _).out.mono ?_
              rintro e w12 ⟨rfl, T12⟩
              have HF := hide (ST11.out.calm.tr T12)
              clear T12
              go_wp2_with fail
              go_ret
              exact ⟨rfl, HF.out⟩

end Go.Proofs.Ytfmlbcddomggaaa
