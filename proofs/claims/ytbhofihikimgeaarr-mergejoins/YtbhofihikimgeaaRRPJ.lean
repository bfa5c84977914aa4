/- The walk of MergeJoins. -/
import Derived.Test.YtbhofihikimgeaaRRPG
import Derived.Test.YtbhofihikimgeaaRRPH
import Derived.Test.YtbhofihikimgeaaRRMK
import Derived.Test.YtbhofihikimgeaaRRML
namespace Go.Proofs.YtbhofihikimgeaaRR
open Go.RowKit

/-- Room for windows: a block whose cells may hold anything. -/
def Room (w : World) (b cap : Nat) : Prop := ∃ cur : Array Value, w.heap[b]? = some (.cells cur 43 (0, 0)) ∧ cur.size = cap * 9

theorem Room.at {w : World} {b cap : Nat} (h : Room w b cap) (o : Nat) (ho : o < cap * 9) : (∃ u, w.cell? ⟨b, o, none⟩ = some u) ∧ w.frozen? ⟨b, o, none⟩ = false := by
  obtain ⟨cur, h1, h2⟩ := h
  refine ⟨⟨cur[o]'(by omega), ?_⟩, by simp [World.frozen?, h1]⟩
  simp [World.cell?, h1, Array.getElem?_eq_getElem (show o < cur.size by omega)]

theorem Room.set {w : World} {b cap : Nat} (h : Room w b cap) (o : Nat) (v : Value) : Room (w.setCell ⟨b, o, none⟩ v) b cap := by
  obtain ⟨cur, h1, h2⟩ := h
  exact ⟨_, heap_setCell_row (i := o) h1 v, by simpa using h2⟩

theorem Own.room {w : World} {base b n cap : Nat} {L : List Wn} (h : encW.Own 43 w base (.slice (some ⟨b, 0, none⟩) n cap) L) : Room w b cap := by
  obtain ⟨h1, ⟨hv, h2⟩ | ⟨g, cap', cur, hv, h3, h4, h5, h6, h7, h8⟩⟩ := h
  · cases hv
  · injection hv with e1 e2 e3
    injection e1 with e1
    injection e1 with e1
    subst e1 e3
    exact ⟨cur, h4, h7⟩

set_option maxRecDepth 100000 in
set_option maxHeartbeats 4000000 in
theorem joins_walk (ao : Option Addr) (cap : Nat) (L : List Wn) (x : As) (w : World) (hs : encW.Sl w ao cap L) (hok : ∀ x ∈ L, x.t.Ok) (hb : L.length ≤ 4398046510976) :
    Calls Try.prog 3 #[.slice ao L.length cap, asv x] w fun e w' => e = .returned (.bool true) ∧ Calm w w' := by
  have CK := fun w => hide (known9_any w)
  have T0 : Calm w (w.alloc (.cells (asc x) 26)) := (Touch.refl _ _).alloc _
  have A0 := al_new w (.cells (asc x) 26)
  by_cases hg : 200 < L.length
  · have HT := hide T0
    generalize L.length = n at *
    clear hs hok T0 A0
    go_enter Try.func3, Try.ntmps3
    go_wp2_with fail
    refine (CK _).out.mono ?_
    rintro e w1 ⟨rfl, T1⟩
    have HU := hide (HT.out.tr T1)
    clear T1
    go_wp2_with fail
    go_ret
    exact ⟨rfl, HU.out⟩
  · have CL := hide (lent_any ao cap L _ (Rc.Sl.calm hs T0) (by omega))
    have CT1 : Hid (∀ base g c W, LentW W base g c L → _) := hide fun base g c W (h : LentW W base g c L) => touch_any (some ⟨g, 0, none⟩) c L x.s W h.mem.1 (by omega)
    have CT2 : Hid (∀ W, Calm w W → _) := hide fun W (h : Calm w W) => rtouch_any ao cap L x.s W (Rc.Mem.calm hs.mem h) (by omega)
    have CJ1 : Hid (∀ base g c W, LentW W base g c L → Calls Try.prog 9 #[.slice (some ⟨g, 0, none⟩) L.length c, spv x.s, .int .i64 x.m, .int .i64 x.h] W fun e w' => ∃ lo lc, e = .returned (.tuple #[.slice lo (ansJ L x.s x.m x.h).length lc, .int .i64 (tch1 L x.s), .int .i64 (tch3 L x.s)]) ∧ encW.Own 43 w' W.heap.size (.slice lo (ansJ L x.s x.m x.h).length lc) (ansJ L x.s x.m x.h) ∧ Calm W w') := hide fun base g c W h => (join9_any (some ⟨g, 0, none⟩) c L x.s x.m x.h W ⟨h.mem.1, fun h => (nomatch h), by have := h.mem.2.1; omega⟩ (by omega)).mono fun e w' r => r.all
    have CJ2 : Hid (∀ W, Calm w W → Calls Try.prog 10 #[.slice ao L.length cap, spv x.s, .int .i64 x.m, .int .i64 x.h] W fun e w' => ∃ lo lc, e = .returned (.tuple #[.slice lo (ansJ L x.s x.m x.h).length lc, .int .i64 (tch1 L x.s), .int .i64 (tch3 L x.s)]) ∧ encW.Own 43 w' W.heap.size (.slice lo (ansJ L x.s x.m x.h).length lc) (ansJ L x.s x.m x.h) ∧ Calm W w') := hide fun W h => (rjoin9_any ao cap L x.s x.m x.h W (Rc.Sl.calm hs h) (by omega) hok).mono fun e w' r => r.all
    have CA1 : Hid (∀ base g c W, LentW W base g c L → _) := hide fun base g c W (h : LentW W base g c L) => apart_any (some ⟨g, 0, none⟩) c L W h.mem.1 (by omega)
    have CA2 : Hid (∀ W, Calm w W → _) := hide fun W (h : Calm w W) => rapart_any ao cap L W (Rc.Mem.calm hs.mem h) (by omega)
    have CP : Hid (∀ base g c W, LentW W base g c L → encW.Mem W ao L → _) := hide fun base g c W (h : LentW W base g c L) (hm : encW.Mem W ao L) => kept_any base g c ao cap L W h hm (by omega)
    have CS : Hid (∀ (J : List Wn) (a b : Option Addr) (ca cb : Nat) W, encW.Mem W a J → encW.Mem W b J → J.length ≤ 1000000 → _) := hide fun J a b ca cb W h1 h2 h3 => sameWins_any a b ca cb J W h1 h2 (by omega)
    have hJ : (ansJ L x.s x.m x.h).length ≤ 201 := by
      unfold ansJ joinL
      have := fromR_ovR L x.s
      split
      · simp
      · simp only [List.length_append, List.length_take, List.length_drop, List.length_cons, List.length_nil]; omega
    have HS := hide hs
    generalize ansJ L x.s x.m x.h = J at *
    generalize tch1 L x.s = t1 at *
    generalize tch2 L x.s = t2 at *
    generalize tch3 L x.s = t3 at *
    generalize apartR L = ap at *
    generalize hu : J.length = u at *
    generalize hN : L.length = n at *
    have HT0 := hide T0
    have HA0 := hide A0
    clear hs hok hb T0 A0 hN
    have hap : decide (ap = ap) = true := decide_eq_true rfl
    go_enter Try.func3, Try.ntmps3
    go_wp2_with fail
    refine CL.out.mono ?_
    rintro e w1 ⟨g, c, rfl, LW, T1⟩
    have HA1 := hide (T1.at HA0.out)
    have HW1 := hide (HT0.out.tr T1)
    have LW1 := hide LW
    clear CL HT0 HA0 T1 LW
    generalize (w.alloc (.cells (asc x) 26)).heap.size = B at *
    obtain ⟨q0, q1, q2, q3⟩ := as_cells HA1.out
    have D2 := hide (CT1.out B g c w1 LW1.out)
    go_wp2_with fail
    refine D2.out.mono ?_
    rintro e w2 ⟨rfl, T2⟩
    have HA2 := hide (T2.at HA1.out)
    have HW2 := hide (HW1.out.tr T2)
    have LW2 := hide (LW1.out.calm T2)
    have HT2 := hide T2
    clear q0 q1 q2 q3 T2 D2 HA1 HW1 LW1
    obtain ⟨q0, q1, q2, q3⟩ := as_cells HA2.out
    have D3 := hide (CT2.out w2 HW2.out)
    go_wp2_with fail
    refine D3.out.mono ?_
    rintro e w3 ⟨rfl, T3⟩
    have HA3 := hide (T3.at HA2.out)
    have HW3 := hide (HW2.out.tr T3)
    have LW3 := hide (LW2.out.calm T3)
    have HT3 := hide T3
    clear q0 q1 q2 q3 T3 D3 HA2 HW2 LW2
    obtain ⟨q0, q1, q2, q3⟩ := as_cells HA3.out
    have gl3 : g < w3.heap.size := ((Rc.Own.mem LW3.out).2.2.2.2.2 _ rfl).2.2.2
    have HW3z : Hid (w.heap.size ≤ w3.heap.size) := hide HW3.out.size
    have D4 := hide (CJ1.out B g c w3 LW3.out)
    go_wp2_with fail
    refine D4.out.mono ?_
    rintro e w4 ⟨lo, lc, rfl, OL, T4⟩
    have HA4 := hide (T4.at HA3.out)
    have HW4 := hide (HW3.out.tr T4)
    have LW4 := hide (LW3.out.calm T4)
    have HT4 := hide T4
    clear q0 q1 q2 q3 T4 D4 HA3 HW3 LW3
    obtain ⟨q0, q1, q2, q3⟩ := as_cells HA4.out
    have OL4 := hide OL
    have GL : Hid (g < w3.heap.size) := hide gl3
    clear OL gl3
    have D5 := hide (CJ1.out B g c w4 LW4.out)
    go_wp2_with fail
    refine D5.out.mono ?_
    rintro e w5 ⟨to, tc, rfl, OT, T5⟩
    have HA5 := hide (T5.at HA4.out)
    have HW5 := hide (HW4.out.tr T5)
    have LW5 := hide (LW4.out.calm T5)
    have HT5 := hide T5
    clear q0 q1 q2 q3 T5 D5 HA4 HW4 LW4
    obtain ⟨q0, q1, q2, q3⟩ := as_cells HA5.out
    have D6 := hide (CJ2.out w5 HW5.out)
    go_wp2_with fail
    refine D6.out.mono ?_
    rintro e w6 ⟨wo, wc, rfl, OW, T6⟩
    have HA6 := hide (T6.at HA5.out)
    have HW6 := hide (HW5.out.tr T6)
    have LW6 := hide (LW5.out.calm T6)
    have HT6 := hide T6
    clear q0 q1 q2 q3 T6 D6 HA5 HW5 LW5
    obtain ⟨q0, q1, q2, q3⟩ := as_cells HA6.out
    have D7 := hide (CA1.out B g c w6 LW6.out)
    go_wp2_with fail
    refine D7.out.mono ?_
    rintro e w7 ⟨rfl, T7⟩
    have HA7 := hide (T7.at HA6.out)
    have HW7 := hide (HW6.out.tr T7)
    have LW7 := hide (LW6.out.calm T7)
    have HT7 := hide T7
    clear q0 q1 q2 q3 T7 D7 HA6 HW6 LW6
    obtain ⟨q0, q1, q2, q3⟩ := as_cells HA7.out
    have D8 := hide (CA2.out w7 HW7.out)
    go_wp2_with fail
    refine D8.out.mono ?_
    rintro e w8 ⟨rfl, T8⟩
    have HA8 := hide (T8.at HA7.out)
    have HW8 := hide (HW7.out.tr T8)
    have LW8 := hide (LW7.out.calm T8)
    have HT8 := hide T8
    clear q0 q1 q2 q3 T8 D8 HA7 HW7 LW7
    obtain ⟨q0, q1, q2, q3⟩ := as_cells HA8.out
    have T46 : Calm w4 w8 := ((HT5.out.tr HT6.out).tr HT7.out).tr HT8.out
    have T56 : Calm w5 w8 := (HT6.out.tr HT7.out).tr HT8.out
    have T66 : Calm w6 w8 := HT7.out.tr HT8.out
    have s34 := HT4.out.size
    have s45 := HT5.out.size
    have OL8 := Rc.Own.calm OL4.out T46
    have OT8 := Rc.Own.calm OT T56
    have OW8 := Rc.Own.calm OW T66
    have bl4 : ∀ a, lo = some a → w3.heap.size ≤ a.block ∧ a.block < w4.heap.size ∧ a.off = 0 ∧ a.spot = none := fun a ha => by
      obtain ⟨k1, k2, k3, k4⟩ := (Rc.Own.mem OL4.out).2.2.2.2.2 a ha
      exact ⟨k3, k4, k2, k1⟩
    have s3w : w.heap.size ≤ w3.heap.size := HW3z.out
    have sg := GL.out
    have HLO : Hid (0 < u → ∃ b, lo = some ⟨b, 0, none⟩) := hide fun h0 => by
      obtain ⟨b, off, e, -⟩ := Rc.Mem.at (Rc.Own.mem OL8).2.1 0 (by omega)
      obtain ⟨-, -, k3, -⟩ := bl4 _ e
      simp only at k3
      subst k3
      exact ⟨b, e⟩
    have HBL := hide bl4
    have HZ : Hid (w.heap.size ≤ w3.heap.size ∧ g < w3.heap.size ∧ w3.heap.size ≤ w4.heap.size ∧ w4.heap.size ≤ w5.heap.size) := hide ⟨s3w, sg, s34, s45⟩
    have D9 := hide (CS.out J lo wo lc wc w8 (Rc.Own.mem OL8).2.1 (Rc.Own.mem OW8).2.1 (by omega))
    rw [hu] at D9
    have HOL := hide OL8
    have HOT := hide OT8
    have HOW := hide OW8
    clear OL8 OT8 OW8 T46 T56 T66 s34 s45 s3w sg bl4 OT OW OL4 HT2 HT3 HT4 HT5 HT6 HT7 HT8 GL HW3z
    go_wp2_with fail
    refine D9.out.mono ?_
    rintro e w9 ⟨rfl, T9⟩
    have HW9 := hide (HW8.out.tr T9)
    have LW9 := hide (LW8.out.calm T9)
    have OL9 := hide (Rc.Own.calm HOL.out T9)
    have OT9 := hide (Rc.Own.calm HOT.out T9)
    have OW9 := hide (Rc.Own.calm HOW.out T9)
    have D10 := hide (CP.out B g c w9 LW9.out (Rc.Mem.calm HS.out.mem HW9.out))
    clear T9 HW8 LW8 HOL HOT HOW D9 HA8 q0 q1 q2 q3
    go_wp2_with fail
    refine D10.out.mono ?_
    rintro e wa ⟨rfl, T10⟩
    have HWa := hide (HW9.out.tr T10)
    have LWa := hide (LW9.out.calm T10)
    have OLa := hide (Rc.Own.calm OL9.out T10)
    have OTa := hide (Rc.Own.calm OT9.out T10)
    have OWa := hide (Rc.Own.calm OW9.out T10)
    clear T10 HW9 LW9 OL9 OT9 OW9 D10
    go_wp2_with fail
    go_loopw [21] (fun i wr => ∃ k : Nat, i = .int .i64 k ∧ k ≤ u ∧ (∀ b, lo = some ⟨b, 0, none⟩ → Room wr b lc) ∧ Touch (fun d => ∃ a, lo = some a ∧ d = a.block) wa wr) (fun i _ => u - (intOf i).toNat)
    case atStart => exact ⟨0, rfl, Nat.zero_le _, fun b hb => by
      have := OLa.out
      rw [hb] at this
      exact Own.room this, Touch.refl _ _⟩
    case round =>
      obtain ⟨k, rfl, hk, RM, TL⟩ := hrel
      by_cases hlt : k < u
      · obtain ⟨b, rfl⟩ := HLO.out (by omega)
        have hlc : u ≤ lc := by have := (Rc.Own.mem OLa.out).2.2.1; omega
        have R0 := RM b rfl
        obtain ⟨⟨u0, c0⟩, z0⟩ := R0.at (k * 9) (by omega)
        obtain ⟨⟨u1, c1⟩, z1⟩ := R0.at (k * 9 + 1) (by omega)
        obtain ⟨⟨u2, c2⟩, z2⟩ := R0.at (k * 9 + 2) (by omega)
        obtain ⟨⟨u3, c3⟩, z3⟩ := R0.at (k * 9 + 3) (by omega)
        obtain ⟨⟨u4, c4⟩, z4⟩ := R0.at (k * 9 + 4) (by omega)
        obtain ⟨⟨u5, c5⟩, z5⟩ := R0.at (k * 9 + 5) (by omega)
        obtain ⟨⟨u6, c6⟩, z6⟩ := R0.at (k * 9 + 6) (by omega)
        obtain ⟨⟨u7, c7⟩, z7⟩ := R0.at (k * 9 + 7) (by omega)
        obtain ⟨⟨u8, c8⟩, z8⟩ := R0.at (k * 9 + 8) (by omega)
        have RS := ((((((((R0.set (k * 9) (.int .i64 0)).set (k * 9 + 1) (.int .i64 0)).set (k * 9 + 2) (.int .i64 99)).set (k * 9 + 3) (.int .i64 0)).set (k * 9 + 4) (.int .i64 0)).set (k * 9 + 5) (.int .i64 0)).set (k * 9 + 6) (.int .i64 0)).set (k * 9 + 7) (.int .i64 0)).set (k * 9 + 8) (.int .i64 0)
        have one : ∀ {v v' : World} (o : Nat) (y : Value), Touch (fun d => ∃ a, some (⟨b, 0, none⟩ : Addr) = some a ∧ d = a.block) v v' → Touch (fun d => ∃ a, some (⟨b, 0, none⟩ : Addr) = some a ∧ d = a.block) v (v'.setCell ⟨b, o, none⟩ y) := fun o y h => h.setCell (p := ⟨b, o, none⟩) (fun _ => ⟨_, rfl, rfl⟩) _
        have TS := one (k * 9 + 8) (.int .i64 0) (one (k * 9 + 7) (.int .i64 0) (one (k * 9 + 6) (.int .i64 0) (one (k * 9 + 5) (.int .i64 0) (one (k * 9 + 4) (.int .i64 0) (one (k * 9 + 3) (.int .i64 0) (one (k * 9 + 2) (.int .i64 99) (one (k * 9 + 1) (.int .i64 0) (one (k * 9) (.int .i64 0) TL))))))))
        have HRS := hide RS
        have HTS := hide TS
        have hki : (k : Int) < (u : Int) := by omega
        clear RM TL R0 RS TS one
        have inj : ∀ b', some (⟨b, 0, none⟩ : Addr) = some ⟨b', 0, none⟩ → b' = b := fun b' h => by injection h with h; injection h with h; exact h.symm
        go_wp2_with fail
        generalize (((((((((wr.setCell ⟨b, k * 9, none⟩ (.int .i64 0)).setCell ⟨b, k * 9 + 1, none⟩ (.int .i64 0)).setCell ⟨b, k * 9 + 2, none⟩ (.int .i64 99)).setCell ⟨b, k * 9 + 3, none⟩ (.int .i64 0)).setCell ⟨b, k * 9 + 4, none⟩ (.int .i64 0)).setCell ⟨b, k * 9 + 5, none⟩ (.int .i64 0)).setCell ⟨b, k * 9 + 6, none⟩ (.int .i64 0)).setCell ⟨b, k * 9 + 7, none⟩ (.int .i64 0)).setCell ⟨b, k * 9 + 8, none⟩ (.int .i64 0)) = wS at *
        go_roundw
        case rel => exact ⟨k + 1, by go_num, by omega, fun b' hb' => by rw [inj b' hb']; exact HRS.out, HTS.out⟩
        case measure => simp [intOf]; omega
      · have e : k = u := by omega
        subst e
        have hz := HZ.out
        have nb : ∀ d, (∃ a, lo = some a ∧ d = a.block) → w3.heap.size ≤ d ∧ d < w4.heap.size := fun d ⟨a, ha, hd⟩ => by
          have := HBL.out a ha
          omega
        have LWz : LentW wr B g c L := Rc.Own.touch LWa.out TL (fun g' hg' hS => by
          have := nb _ hS
          simp only [Value.ownBlock, Option.some.injEq] at hg'
          omega)
        have OTz := Rc.Own.touch OTa.out TL (fun g' hg' hS => by
          have := nb _ hS
          have := (Rc.own_block OTa.out hg').1
          omega)
        have OWz := Rc.Own.touch OWa.out TL (fun g' hg' hS => by
          have := nb _ hS
          have := (Rc.own_block OWa.out hg').1
          omega)
        have Mz : encW.Mem wr ao L := Rc.Mem.touch (Rc.Mem.calm HS.out.mem HWa.out) TL (fun a ha hne hS => by
          have h1 := nb a.block hS
          obtain ⟨b, off, e, hc⟩ := Rc.Mem.at HS.out.mem 0 (List.length_pos_iff.2 hne)
          rw [ha] at e
          injection e with e
          subst e
          have h2 := lt_of_cell (hc 0 _ rfl)
          simp only at h1 h2
          omega)
        have TWz : Calm w wr := Touch.trans HWa.out TL (fun d hd hS => by have := nb _ hS; omega)
        have D11 := hide (CS.out J to wo tc wc wr (Rc.Own.mem OTz).2.1 (Rc.Own.mem OWz).2.1 (by omega))
        rw [hu] at D11
        have HLz := hide LWz
        have HMz := hide Mz
        have HTz := hide TWz
        clear LWz Mz TWz OTz OWz nb hz TL RM LWa OTa OWa OLa HWa HBL HZ HLO
        go_wp2_with fail
        refine D11.out.mono ?_
        rintro e wb ⟨rfl, Tb⟩
        have D12 := hide (CP.out B g c wb (HLz.out.calm Tb) (Rc.Mem.calm HMz.out Tb))
        have HTb := hide (HTz.out.tr Tb)
        clear Tb D11
        go_wp2_with fail
        refine D12.out.mono ?_
        rintro e wd ⟨rfl, Td⟩
        have HTd := hide (HTb.out.tr Td)
        clear Td D12
        go_wp2_with fail
        refine (CK _).out.mono ?_
        rintro e we ⟨rfl, Te⟩
        have HTe := hide (HTd.out.tr Te)
        clear Te
        go_wp2_with fail
        go_ret
        exact ⟨rfl, HTe.out⟩

end Go.Proofs.YtbhofihikimgeaaRR
