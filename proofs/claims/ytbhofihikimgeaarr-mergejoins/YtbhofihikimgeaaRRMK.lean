/- The document's Join. -/
import Derived.Test.YtbhofihikimgeaaRRMJ
namespace Go.Proofs.YtbhofihikimgeaaRR
open Go.RowKit

set_option maxRecDepth 100000 in
set_option maxHeartbeats 4000000 in
theorem rjoin9_any (ao : Option Addr) (cap : Nat) (L : List Wn) (s : Sp) (m h : Int) (w : World) (hs : encW.Sl w ao cap L) (hn : L.length ≤ 1000000) (hok : ∀ x ∈ L, x.t.Ok) :
    Calls Try.prog 10 #[.slice ao L.length cap, spv s, .int .i64 m, .int .i64 h] w fun e w' => RetJ w e w' L s m h := by
  have T0 : Calm w (w.alloc (.cells (spc s) 24)) := (Touch.refl _ _).alloc _
  have A0 := al_new w (.cells (spc s) 24)
  cases hb : badT L s with
  | true =>
    have CT : ∀ w', Calm w w' → Hid (Calls Try.prog 8 #[.slice ao L.length cap, spv s] w' fun e w'' => e = .returned (.tuple #[.int .i64 0, .int .i64 0, .int .i64 190]) ∧ Calm w' w'') := fun w' hc => hide (by
      have := rtouch_any ao cap L s w' (Rc.Mem.calm hs.mem hc) (by omega)
      unfold tch1 tch2 tch3 at this
      rw [hb] at this
      exact this)
    have HR : Hid (∀ W, Calm w W → RetJ w (.returned (.tuple #[.slice none 0 0, .int .i64 0, .int .i64 190])) W L s m h) := hide fun W hW => ⟨fun _ => ⟨rfl, hW⟩, fun h => (by rw [hb] at h; cases h)⟩
    have HT := hide T0
    generalize hN : L.length = n at *
    clear hb hs hn hok A0 T0 hN
    go_enter Try.func10, Try.ntmps10
    go_wp2_with fail
    refine (CT _ HT.out).out.mono ?_
    rintro e w1 ⟨rfl, T1⟩
    have HU := hide (HT.out.tr T1)
    clear T1
    go_wp2_with fail
    go_ret3
    exact HR.out _ HU.out
  | false =>
    have CT : ∀ w', Calm w w' → Hid (Calls Try.prog 8 #[.slice ao L.length cap, spv s] w' fun e w'' => e = .returned (.tuple #[.int .i64 (fromR L s : Nat), .int .i64 ((fromR L s + ovR L s : Nat) : Int), .int .i64 0]) ∧ Calm w' w'') := fun w' hc => hide (by
      have := rtouch_any ao cap L s w' (Rc.Mem.calm hs.mem hc) (by omega)
      unfold tch1 tch2 tch3 at this
      rw [hb] at this
      exact this)
    have hap : apartR L = true := by
      unfold badT at hb
      cases ha : apartR L with
      | true => rfl
      | false => rw [ha] at hb; cases hb
    have IN := apart_in hap
    have hfc := fromR_ovR L s
    have HR : Hid (∀ ao' cap' W, encW.Own 43 W w.heap.size (.slice ao' (joinL L s m h).length cap') (joinL L s m h) → Calm w W → RetJ w (.returned (.tuple #[.slice ao' (joinL L s m h).length cap', .int .i64 (fromR L s : Nat), .int .i64 0])) W L s m h) := hide fun ao' cap' W hO hW => ⟨fun h => (by rw [hb] at h; cases h), fun _ => ⟨ao', cap', rfl, hO, hW⟩⟩
    have HL : Hid (joinL L s m h = L.take (fromR L s) ++ [madeW m s h ((L.drop (fromR L s)).take (ovR L s))] ++ L.drop (fromR L s + ovR L s)) := hide rfl
    obtain ⟨i0, hi, hz, hsz, hby⟩ := Rc.info_parts infoWin
    have SL1 : Hid (∀ k, k ≤ L.length → _) := hide fun k hk => Rc.Sl.to Try.underlying22 elemWin hi (k := k) hs hk
    have SL2 : Hid (∀ k, k ≤ L.length → _) := hide fun k hk => Rc.Sl.from Try.underlying22 elemWin hi hsz (k := k) hs hk
    generalize joinL L s m h = J at *
    generalize fromR L s = f at *
    generalize ovR L s = c at *
    have NA := hide (accL_next m s h L f)
    have NT := hide (map_next L f)
    have IA : Hid (∀ k, inC (accL m s h ((L.drop f).take k)).n = true ∧ inC (accL m s h ((L.drop f).take k)).p = true) := hide fun k => accL_in m s h _ (fun x hx => IN x (List.mem_of_mem_drop (List.mem_of_mem_take hx))) _ ⟨(by decide : inC 0 = true), (by decide : inC 0 = true)⟩
    have IL : Hid (∀ j, j < L.length → inC (L.getD j wn0).n = true ∧ inC (L.getD j wn0).p = true) := hide fun j hj => by
      rw [List.getD_eq_getElem?_getD, List.getElem?_eq_getElem hj]
      exact IN _ (List.getElem_mem hj)
    have IO : Hid (∀ k, ∀ t ∈ ((L.drop f).take k).map Wn.t, t.Ok) := hide fun k t ht => by
      obtain ⟨x, hx, rfl⟩ := List.mem_map.1 ht
      exact hok x (List.mem_of_mem_drop (List.mem_of_mem_take hx))
    have IZ : Hid (∀ k, (((L.drop f).take k).map Wn.t).length ≤ L.length) := hide fun k => by
      rw [List.length_map, List.length_take, List.length_drop]; omega
    have ZA : Hid (accL m s h ((L.drop f).take 0) = ⟨s.a, s.b, h, tl0, 0, 0⟩) := hide rfl
    have ZT : Hid (((L.drop f).take 0).map Wn.t = []) := hide rfl
    have HA : Hid (∀ k, k < L.length → ∀ W, Calm w W → _) := hide fun k hk W hW => wn_at (Rc.Mem.calm hs.mem hW) k hk
    have CS := fun a b ha hb w => hide (rsum_any a b ha hb w)
    have CJ := fun ra rc (R : List Tl) w (hm : encT.Mem w ra R) ho (hl : R.length ≤ 1000000) => hide (rjoin_any ra rc R w (tls_of hm) ho (by omega))
    generalize hN : L.length = n at *
    have HN := hide hN
    have HI := hide (And.intro hi (And.intro hz (And.intro hsz hby)))
    clear hb hs hok hap IN hN hi hz hsz hby
    generalize hE : f + c = e at *
    have HT := hide T0
    have HD0 := hide A0
    clear T0 A0
    go_enter Try.func10, Try.ntmps10
    go_wp2_with fail
    refine (CT _ HT.out).out.mono ?_
    rintro e' w1 ⟨rfl, T1⟩
    obtain ⟨c0, c1⟩ := sp_cells (T1.at HD0.out)
    have HU := hide (HT.out.tr T1)
    have hsz1 : Hid (w.heap.size ≤ w1.heap.size) := hide HU.out.size
    clear T1 CT
    go_wp2_with fail
    clear c0 c1
    have A1 := al_new w1 (.cells (wnc ⟨s.a, s.b, h, tl0, 0, 0⟩) 43)
    have T1 : Calm w (w1.alloc (.cells (wnc ⟨s.a, s.b, h, tl0, 0, 0⟩) 43)) := HU.out.alloc _
    generalize w1.alloc (.cells (wnc ⟨s.a, s.b, h, tl0, 0, 0⟩) 43) = w2 at *
    generalize w1.heap.size = D at *
    generalize hB : w.heap.size = B at *
    have HB := hide hB
    have HA1 := hide A1
    have HT1 := hide T1
    have HE := hide hE
    clear A1 T1 HU hB HT HD0 hE
    go_loopw [15, 16] (fun r i wr => ∃ (k : Nat) (ra : Option Addr) (rc : Nat), i = .int .i64 ((f + k : Nat) : Int) ∧ k ≤ c ∧ r = .slice ra (((L.drop f).take k).map Wn.t).length rc ∧ encT.Own 41 wr (D + 1) (.slice ra (((L.drop f).take k).map Wn.t).length rc) (((L.drop f).take k).map Wn.t) ∧ wr.heap[D]? = some (.cells (wnc (accL m s h ((L.drop f).take k))) 43 (0, 0)) ∧ Calm w wr) (fun _ i _ => e - (intOf i).toNat)
    case atStart => exact ⟨0, none, 0, rfl, Nat.zero_le _, by rw [ZT.out]; rfl, by rw [ZT.out]; exact Rc.Own.nil _ _ _, by rw [ZA.out]; exact HA1.out, HT1.out⟩
    case round =>
      obtain ⟨k, ra, rc, rfl, hk, rfl, ow, A, T⟩ := hrel
      have hfe := HE.out
      by_cases hlt : k < c
      · have hjn : f + k < n := by omega
        obtain ⟨b, off, rfl, ⟨k0, k1, k2⟩, ⟨k3, k4, k5, k6⟩, k7, k8⟩ := HA.out (f + k) hjn wr T
        have MA := hide (NA.out k hjn)
        have MT := hide (NT.out k hjn)
        obtain ⟨ix1, ix2⟩ := IA.out k
        obtain ⟨iy1, iy2⟩ := IL.out (f + k) hjn
        have il := IZ.out k
        generalize L.getD (f + k) wn0 = y at *
        generalize ((L.drop f).take k).map Wn.t = R at *
        generalize accL m s h ((L.drop f).take k) = x at *
        have hje : f + k < e := by omega
        have JX : Hid (f + (k + 1) = f + k + 1) := hide (by omega)
        generalize f + k = j at *
        have hji : (j : Int) < (e : Int) := by omega
        have hjm : (j : Int) < (n : Int) := by omega
        obtain ⟨⟨c0, c1, c2⟩, ⟨c3, c4, c5, c6⟩, c7, c8⟩ := wn_cells A
        have z0 := wn_frozen A 0
        have z1 := wn_frozen A 1
        have hD := lt_of_heap A
        have hne : wr.heap.size ≠ D := by omega
        obtain ⟨B2, t2⟩ := wn_set ⟨min x.a y.a, x.b, x.h, x.t, x.n, x.p⟩ 0 (min x.a y.a) A rfl
        obtain ⟨B3, t3⟩ := wn_set ⟨min x.a y.a, max x.b y.b, x.h, x.t, x.n, x.p⟩ 1 (max x.b y.b) B2 rfl
        have hs3 : ((wr.setCell ⟨D, 0, none⟩ (.int .i64 (min x.a y.a))).setCell ⟨D, 1, none⟩ (.int .i64 (max x.b y.b))).heap.size = wr.heap.size := by simp
        have Y1 := al_new ((wr.setCell ⟨D, 0, none⟩ (.int .i64 (min x.a y.a))).setCell ⟨D, 1, none⟩ (.int .i64 (max x.b y.b))) (.cells (wnc y) 43)
        rw [hs3] at Y1
        have T1 : Calm ((wr.setCell ⟨D, 0, none⟩ (.int .i64 (min x.a y.a))).setCell ⟨D, 1, none⟩ (.int .i64 (max x.b y.b))) (((wr.setCell ⟨D, 0, none⟩ (.int .i64 (min x.a y.a))).setCell ⟨D, 1, none⟩ (.int .i64 (max x.b y.b))).alloc (.cells (wnc y) 43)) := (Touch.refl _ _).alloc _
        have hBD := hsz1.out
        have hwB := HB.out
        have G0 := hide (al_old B3 (.cells (wnc y) 43))
        have G1 := hide Y1
        have G2 := hide (Rc.Own.calm (Rc.Own.past (Rc.Own.past ow t2 (Nat.le_refl _)) t3 (Nat.le_refl _)) T1)
        have G3 := hide (((T.trans t2 (fun g hg e => by omega)).trans t3 (fun g hg e => by omega)).tr T1)
        have HX := hide (And.intro (And.intro ix1 ix2) (And.intro iy1 iy2))
        clear B2 B3 Y1 T1 t2 t3 hs3 ow T A hwB HA NA NT IA IL IO IZ ZA ZT SL1 SL2 HR HL CJ ix1 ix2 iy1 iy2 hfe hjn hje HA1 HT1
        go_wp2_with fail
        refine (CS _ _ HX.out.1.1 HX.out.2.1 _).out.mono ?_
        rintro e1 w' ⟨rfl, hw'⟩
        subst hw'
        clear c0 c1 c2 c3 c4 c5 c6 c7 c8 z0 z1 k0 k1 k2 k3 k4 k5 k6 k7 k8
        have A := G0.out
        have Y := G1.out
        have ow := G2.out
        have T := G3.out
        clear G0 G1 G2 G3
        generalize (((wr.setCell ⟨D, 0, none⟩ (.int .i64 (min x.a y.a))).setCell ⟨D, 1, none⟩ (.int .i64 (max x.b y.b))).alloc (.cells (wnc y) 43)) = w3 at *
        generalize wr.heap.size = g at *
        obtain ⟨⟨c0, c1, c2⟩, ⟨c3, c4, c5, c6⟩, c7, c8⟩ := wn_cells A
        obtain ⟨⟨k0, k1, k2⟩, ⟨k3, k4, k5, k6⟩, k7, k8⟩ := wn_cells Y
        have z7 := wn_frozen A 7
        obtain ⟨B2, t2⟩ := wn_set ⟨min x.a y.a, max x.b y.b, x.h, x.t, cnt x.n y.n, x.p⟩ 7 (cnt x.n y.n) A rfl
        have G0 := hide B2
        have G1 := hide (t2.heap Y hne)
        have G2 := hide (Rc.Own.past ow t2 (Nat.le_refl _))
        have hwB := HB.out
        have G3 := hide (T.trans t2 (fun g hg e => by omega))
        clear A Y ow T B2 t2 hwB
        go_wp2_with fail
        refine (CS _ _ HX.out.1.2 HX.out.2.2 _).out.mono ?_
        rintro e1 w' ⟨rfl, hw'⟩
        subst hw'
        clear c0 c1 c2 c3 c4 c5 c6 c7 c8 z7 k0 k1 k2 k3 k4 k5 k6 k7 k8
        have A := G0.out
        have Y := G1.out
        have ow := G2.out
        have T := G3.out
        clear G0 G1 G2 G3
        generalize (w3.setCell ⟨D, 7, none⟩ (.int .i64 (cnt x.n y.n))) = w4 at *
        obtain ⟨⟨c0, c1, c2⟩, ⟨c3, c4, c5, c6⟩, c7, c8⟩ := wn_cells A
        obtain ⟨⟨k0, k1, k2⟩, ⟨k3, k4, k5, k6⟩, k7, k8⟩ := wn_cells Y
        have z8 := wn_frozen A 8
        have z2 := wn_frozen A 2
        obtain ⟨B2, t2⟩ := wn_set ⟨min x.a y.a, max x.b y.b, x.h, x.t, cnt x.n y.n, cnt x.p y.p⟩ 8 (cnt x.p y.p) A rfl
        have Y2 := t2.heap Y hne
        have O2 := Rc.Own.past ow t2 (Nat.le_refl _)
        have hwB := HB.out
        have T2 := T.trans t2 (fun g hg e => by omega)
        have hl : Hid ((R ++ [y.t]).length = R.length + 1) := hide (by simp)
        by_cases hmy : m < y.b
        · obtain ⟨B3, t3⟩ := wn_set ⟨min x.a y.a, max x.b y.b, min x.h y.h, x.t, cnt x.n y.n, cnt x.p y.p⟩ 2 (min x.h y.h) B2 rfl
          have T3 := T2.trans t3 (fun g hg e => by omega)
          have O3 := Rc.Own.past O2 t3 (Nat.le_refl _)
          have MA2 : Hid (accL m s h ((L.drop f).take (k + 1)) = ⟨min x.a y.a, max x.b y.b, min x.h y.h, x.t, cnt x.n y.n, cnt x.p y.p⟩) := hide (by rw [MA.out]; unfold accW; rw [if_pos hmy])
          have hsz : ((w4.setCell ⟨D, 8, none⟩ (.int .i64 (cnt x.p y.p))).setCell ⟨D, 2, none⟩ (.int .i64 (min x.h y.h))).heap.size = w4.heap.size := by simp
          obtain ⟨a2, p2, w5, hr, OW5, A5, T5⟩ := tl_app y.t O3 (lt_of_heap B3) (by omega) T3 (by omega)
          rw [hsz] at hr
          have G0 := hide (A5 D _ (Nat.le_refl _) B3)
          have G1 := hide OW5
          have G2 := hide T5
          clear A Y ow T B2 t2 hwB Y2 O2 T2 B3 t3 T3 O3 hsz OW5 A5 T5 MA
          go_wp2_with (at_builtin; refine Rc.wpList_appR rfl (.tmp 83) (.tmp 86) 52 52 rfl _ _ _ rfl rfl hr ?_)
          go_roundw
          case rel => exact ⟨k + 1, a2, p2, by rw [JX.out]; go_num, by omega, by rw [MT.out, hl.out], by rw [MT.out]; exact G1.out, by rw [MA2.out]; exact G0.out, G2.out⟩
          case measure => simp [intOf]; omega
        · have MA2 : Hid (accL m s h ((L.drop f).take (k + 1)) = ⟨min x.a y.a, max x.b y.b, x.h, x.t, cnt x.n y.n, cnt x.p y.p⟩) := hide (by rw [MA.out]; unfold accW; rw [if_neg hmy])
          have hsz : (w4.setCell ⟨D, 8, none⟩ (.int .i64 (cnt x.p y.p))).heap.size = w4.heap.size := by simp
          obtain ⟨a2, p2, w5, hr, OW5, A5, T5⟩ := tl_app y.t O2 (lt_of_heap B2) (by omega) T2 (by omega)
          rw [hsz] at hr
          have G0 := hide (A5 D _ (Nat.le_refl _) B2)
          have G1 := hide OW5
          have G2 := hide T5
          clear A Y ow T B2 t2 hwB Y2 O2 T2 hsz OW5 A5 T5 MA
          go_wp2_with (at_builtin; refine Rc.wpList_appR rfl (.tmp 83) (.tmp 86) 52 52 rfl _ _ _ rfl rfl hr ?_)
          go_roundw
          case rel => exact ⟨k + 1, a2, p2, by rw [JX.out]; go_num, by omega, by rw [MT.out, hl.out], by rw [MT.out]; exact G1.out, by rw [MA2.out]; exact G0.out, G2.out⟩
          case measure => simp [intOf]; omega
      · have ec : k = c := by omega
        rw [ec] at ow A
        rw [ec]
        have il := IZ.out c
        have CC := CJ ra rc _ wr (Rc.Own.mem ow).2.1 (IO.out c) (by omega)
        have HL2 : Hid (J = L.take f ++ [{ accL m s h ((L.drop f).take c) with t := joinT (((L.drop f).take c).map Wn.t) }] ++ L.drop e) := hide HL.out
        generalize ((L.drop f).take c).map Wn.t = R at *
        generalize joinT R = tt at *
        generalize accL m s h ((L.drop f).take c) = x at *
        have HAx := hide A
        have HTx := hide T
        have hD := lt_of_heap A
        rw [hfe]
        have hji : ¬ (e : Int) < (e : Int) := by omega
        clear ow A T HA NA NT IA IL IO IZ ZA ZT HL CJ CS HA1 HT1
        go_wp2_with fail
        refine CC.out.mono ?_
        rintro e1 w3 ⟨rfl, T3⟩
        have A3 := T3.at HAx.out
        have TW := HTx.out.tr T3
        obtain ⟨⟨c0, c1, c2⟩, ⟨c3, c4, c5, c6⟩, c7, c8⟩ := wn_cells A3
        have z3 := wn_frozen A3 3
        have z4 := wn_frozen A3 4
        have z5 := wn_frozen A3 5
        have z6 := wn_frozen A3 6
        obtain ⟨A4, t4⟩ := wn_tally tt A3
        have hBD := hsz1.out
        have hwB := HB.out
        have T4 := TW.trans t4 (fun g hg e => by omega)
        obtain ⟨w4, hw4⟩ : ∃ W, W = (((w3.setCell ⟨D, 3, none⟩ (.int .i64 tt.c)).setCell ⟨D, 4, none⟩ (.int .i64 tt.s)).setCell ⟨D, 5, none⟩ (.int .i64 tt.m)).setCell ⟨D, 6, none⟩ (.int .i64 tt.x) := ⟨_, rfl⟩
        rw [← hw4] at A4 T4
        obtain ⟨X, hX⟩ : ∃ X : Wn, X = { x with t := tt } := ⟨_, rfl⟩
        rw [← hX] at A4 HL2
        obtain ⟨hi, hz, hs, hby⟩ := HI.out
        have e1 : (L.take f).length = f := by rw [List.length_take]; have := HN.out; omega
        have e2 : (L.drop e).length = n - e := by rw [List.length_drop, HN.out]
        obtain ⟨so1, sc1, hsl1, m1, n1⟩ := SL1.out f (by omega)
        obtain ⟨so2, sc2, hsl2, m2, n2⟩ := SL2.out e (by omega)
        have hsz4 := T4.size
        obtain ⟨a1, p1, w5, hr1, ow1, t5, -⟩ := Rc.Own.app (E := encW) (ty := 22) Try.underlying22 hi hz hs hby rfl (Rc.Own.nil 43 w4 B) so1 sc1 (L.take f) (Rc.Mem.calm m1 T4) n1 (by rw [e1]; simp; unfold maxLen; omega) (by rw [e1]; simp; omega) (by omega)
        have C5 : Calm w w5 := Rc.Own.fresh (Rc.Own.nil (E := encW) 43 w4 B) t5 (fun _ h => h) T4 (by omega)
        have A5 := t5.heap A4 (fun h => by cases h)
        rw [List.nil_append, e1] at hr1
        rw [List.nil_append, e1] at ow1
        have ow1' := Rc.Own.calm ow1 ((Touch.refl (fun _ => False) w5).alloc (.cells (wnc X) 43))
        have hsz5 := C5.size
        have hsz5' := ((Touch.refl (fun _ => False) w5).alloc (.cells (wnc X) 43)).size
        obtain ⟨a2, p2, w6, hr2, ow2, t6, -⟩ := Rc.Own.app (E := encW) (ty := 22) Try.underlying22 hi hz hs hby rfl ow1' (some ⟨w5.heap.size, 0, none⟩) 1 [X] (Rc.Mem.new w5 [X] 43) (fun h => (nomatch h)) (by rw [e1]; simp; unfold maxLen; omega) (by rw [e1]; simp; omega) (by omega)
        have C6 : Calm w w6 := Rc.Own.fresh ow1' t6 (fun _ h => h) (C5.alloc _) (by omega)
        have e3 : (L.take f ++ [X]).length = f + 1 := by rw [List.length_append, e1]; rfl
        rw [e3] at hr2
        rw [e3] at ow2
        have hr2 : (Builtin.append_ #[22, 22] 22 #[.slice a1 f p1, .slice (some ⟨w5.heap.size, 0, none⟩) 1 1]).run Try.prog (w5.alloc (.cells (wnc X) 43)) = .ok (.slice a2 (f + 1) p2) w6 := hr2
        have hsz6 := C6.size
        obtain ⟨a3, p3, w7, hr3, ow3, t7, -⟩ := Rc.Own.app (E := encW) (ty := 22) Try.underlying22 hi hz hs hby rfl ow2 so2 sc2 (L.drop e) (Rc.Mem.calm m2 C6) n2 (by rw [e2, e3]; unfold maxLen; omega) (by rw [e2, e3]; omega) (by omega)
        have C7 : Calm w w7 := Rc.Own.fresh ow2 t7 (fun _ h => h) C6 (by omega)
        rw [e2] at hr3
        rw [← HL2.out] at hr3 ow3
        have HZ := hide (HR.out a3 p3 w7 ow3 C7)
        obtain ⟨⟨d0, d1, d2⟩, ⟨d3, d4, d5, d6⟩, d7, d8⟩ := wn_cells A5
        rw [hw4] at hr1
        generalize J.length = u at *
        clear ow1 ow1' ow2 ow3 t4 t5 t6 t7 m1 m2 n1 n2 TW T3 T4 A3 A4 A5 C5 C6 C7 e1 e2 e3 hi hz hs hby hsz4 hsz5 hsz5' hsz6 SL1 SL2 HR HI HL2 hw4 hX hwB CC
        go_wp2_with (at_builtin; first | refine Rc.wpList_appR rfl (.tmp 91) (.tmp 94) 22 22 rfl _ _ _ rfl rfl hr1 ?_ | refine Rc.wpList_appR rfl (.tmp 96) (.tmp 98) 22 22 rfl _ _ _ rfl rfl hr2 ?_ | refine Rc.wpList_appR rfl (.tmp 100) (.tmp 103) 22 22 rfl _ _ _ rfl rfl hr3 ?_)
        go_ret3
        exact HZ.out

end Go.Proofs.YtbhofihikimgeaaRR
