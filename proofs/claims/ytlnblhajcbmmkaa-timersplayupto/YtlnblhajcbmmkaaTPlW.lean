/- TimersPlay, walked. -/
import Derived.Test.YtlnblhajcbmmkaaTPl
import Derived.Test.YtlnblhajcbmmkaaTUpS
import Derived.Test.YtlnblhajcbmmkaaTWlk
import Derived.Deep.CutRange
namespace Go.Proofs.Ytlnblhajcbmmkaa
open Go.RowKit

abbrev mkT : Tm := ⟨0, { data := #[109, 97, 114, 107] }, 0, 0⟩

/-- An element of a row of values. -/
theorem row_at {W : World} {base m uc i : Nat} {E : TypeId} {uo : Option Addr} {vs : List Value} (h : W.ownsRow base E 1 (.slice uo m uc) vs.length vs) (hi : i < vs.length) : ∃ g, uo = some ⟨g, 0, none⟩ ∧ W.cell? ⟨g, i, none⟩ = some vs[i] := by
  have h' := h
  obtain ⟨h1, ⟨hv, h2⟩ | ⟨g, cap', cur, hv, h3, h4, h5, h6, h7, h8⟩⟩ := h'
  · omega
  · injection hv with e1 e2 e3
    subst e1
    have := World.ownsRow.cells h (g := g) rfl i vs[i] (List.getElem?_eq_getElem hi)
    rw [Addr.add_lit, Nat.zero_add] at this
    exact ⟨g, rfl, this⟩

theorem ys_start (w : World) : Ys w w.heap.size 0 none (fun g => if g = w.heap.size then 4 else 99) (w.alloc (.cells #[.pointer none, .pointer none, .slice none 0 0, .slice none 0 0, .slice none 0 0, .slice none 0 0] 31)) :=
  ⟨(Touch.refl _ _).alloc _, World.alloc_heap_new _ _, fun o ho => (nomatch ho), if_pos rfl, fun g hg => if_neg (by omega), by decide⟩

set_option maxRecDepth 100000 in
set_option maxHeartbeats 4000000 in
theorem play_walk (ao : Option Addr) (cap : Nat) (l : List Tm) (so : Option Addr) (sc9 : Nat) (ss : List Sp) (w : World) (ht : Tms w ao l) (hni : ao = none → cap = 0) (hg : ∀ t ∈ l, Good t) (hb : l.length ≤ 1048576) (hs : Stps w so ss) (hgs : ∀ s ∈ ss, Good s.t ∧ Good s.u) (hsb : ss.length ≤ 1048576) :
    Calls Try.prog 3 #[.slice ao l.length cap, .slice so ss.length sc9] w fun e w' => e = .returned (.bool true) ∧ Calm w w' := by
  obtain ⟨n, hn⟩ : ∃ n, l.length = n := ⟨_, rfl⟩
  obtain ⟨sn, hsn⟩ : ∃ sn, ss.length = sn := ⟨_, rfl⟩
  have HNE := hide hn
  have HSN := hide hsn
  have HT := hide ht
  have HNI := hide hni
  have HG := hide hg
  have HS := hide hs
  have HGS := hide hgs
  have HB : Hid (n ≤ 1048576) := hide (by omega)
  have HSB : Hid (sn ≤ 1048576) := hide (by omega)
  have YS0 := hide (ys_start w)
  rw [hn, hsn]
  clear hn hsn ht hni hg hb hs hgs hsb
  go_enter Try.func3, Try.ntmps3
  go_wp2_with fail
  obtain ⟨b, eb⟩ : ∃ b, w.heap.size = b := ⟨_, rfl⟩
  obtain ⟨w0, ew0⟩ : ∃ w0, w.alloc (.cells #[.pointer none, .pointer none, .slice none 0 0, .slice none 0 0, .slice none 0 0, .slice none 0 0] 31) = w0 := ⟨_, rfl⟩
  rw [eb, ew0] at YS0
  rw [ew0, eb]
  clear eb ew0
  go_loopw [6] (fun v6 wr => (v6 = .int .i64 0 ∧ ∃ col, Ys w b 0 none col wr) ∨ (v6 = .int .i64 1 ∧ ∃ (A : Od) (col : Nat → Nat), A.L.length ≤ n ∧ Ys w b 1 (some A) col wr) ∨ (v6 = .int .i64 2 ∧ ∃ (A B : Od) (col : Nat → Nat), A.L.length ≤ n ∧ B.L.length ≤ n ∧ Pw w b 0 A B [] nilS nilS col wr)) (fun v _ => 2 - (intOf v).toNat)
  case atStart => exact .inl ⟨rfl, _, YS0.out⟩
  case round =>
    clear YS0
    rcases hrel with ⟨rfl, col, ys⟩ | ⟨rfl, C, col, hC, ys⟩ | ⟨rfl, A, C, col, hA, hC, pw⟩
    · obtain ⟨B9, eB9⟩ : ∃ B9 : Option Od, B9 = none := ⟨_, rfl⟩
      rw [← eB9] at ys
      have EB9 := hide eB9
      clear eB9
      have YS := hide ys
      have ON : Hid (OwnT wr wr.heap.size (.slice none 0 0) []) := hide (World.ownsRow_nil _ _ _ _)
      have TL := hide (HT.out.calm ys.calm)
      have HB9 : Hid (n ≤ 3518437208800) := hide (by have := HB.out; omega)
      clear ys
      go_wp2_with (at_builtin; refine wpList_tapp2 rfl (.const (.slice none 0 0)) (.tmp 20) rfl wr.heap.size (.slice none 0 0) [] rfl ON.out ao n cap l HNE.out rfl TL.out HNI.out l n rfl HNE.out HB9.out (Nat.le_refl _) ?ny)
      case ny =>
        intro io1 ic1 w1 own1 t1
        have T1 : Hid (Calm wr w1) := hide (t1.mono (fun g _ hg => by simp [Value.ownBlock] at hg))
        have tA : Calm w1 (w1.alloc (.cells #[.int .i64 0, .string { data := #[109, 97, 114, 107] }, .int .i64 0, .int .i64 0] 35)) := (Touch.refl _ _).alloc _
        have OW1 := hide (OwnT.calm own1 tA)
        have PM : Hid (Tms (w1.alloc (.cells #[.int .i64 0, .string { data := #[109, 97, 114, 107] }, .int .i64 0, .int .i64 0] 35)) (some ⟨w1.heap.size, 0, none⟩) [mkT]) := hide (tms_one w1 mkT)
        have SZ1 : Hid (wr.heap.size ≤ (w1.alloc (.cells #[.int .i64 0, .string { data := #[109, 97, 114, 107] }, .int .i64 0, .int .i64 0] 35)).heap.size) := hide (Nat.le_trans T1.out.size tA.size)
        have TA := hide (T1.out.tr tA)
        obtain ⟨O2, eO2⟩ : ∃ O2, l ++ [mkT] = O2 := ⟨_, rfl⟩
        obtain ⟨n1, en1⟩ : ∃ n1, n + 1 = n1 := ⟨_, rfl⟩
        have EO2 := hide eO2
        have EN1 := hide en1
        have HO2 : Hid (O2.length = n1) := hide (by rw [← eO2, ← en1, List.length_append, HNE.out]; rfl)
        have HB10 : Hid (n1 ≤ 3518437208800) := hide (by have := HB.out; omega)
        clear own1 t1 tA eO2 en1
        go_wp2_with (at_builtin; refine wpList_tapp2 rfl (.tmp 21) (.tmp 23) rfl wr.heap.size (.slice io1 n ic1) l rfl OW1.out (some ⟨w1.heap.size, 0, none⟩) 1 1 [mkT] rfl rfl PM.out (fun h => (nomatch h)) O2 n1 EO2.out HO2.out HB10.out SZ1.out ?nz)
        case nz =>
          intro io ic w2 own2 t2
          have T2 : Hid (Calm wr w2) := hide (TA.out.trans t2 (fun g hg hs => by have := (World.ownsRow.lt OW1.out g hs).1; omega))
          obtain ⟨-, tm2, rw2, hc2, -⟩ := OwnT.prs own2
          obtain ⟨g, off, rfl, -⟩ := tm2 0 (by have := HO2.out; have := EN1.out; omega)
          obtain ⟨_, hoff, hgb, cs2, hg2⟩ := rw2 _ rfl
          simp only at hoff hgb hg2
          subst hoff
          have hcap : n1 ≤ ic := by have := HO2.out; omega
          have hcn : n ≤ ic := by have := EN1.out; omega
          have hcapI : (n1 : Int) ≤ (ic : Int) := by omega
          have hcnI : (n : Int) ≤ (ic : Int) := by omega
          have hO : O2.take n = l := by rw [← EO2.out, ← HNE.out]; exact List.take_left' rfl
          have TML : Hid (Tms w2 (some ⟨g, 0, none⟩) l) := hide (by have h9 := tm2.take n; rw [hO] at h9; exact h9)
          have OWL : Hid (OwnT w2 w.heap.size (.slice (some ⟨g, 0, none⟩) n ic) l) := hide (by have h9 := (OwnT.cut own2 (m := n) (by have := HO2.out; have := EN1.out; omega) (by simp)); rw [hO] at h9; exact own_base h9 YS.out.calm.size)
          have OW2 := hide own2
          have HGB : Hid (wr.heap.size ≤ g ∧ g < w2.heap.size) := hide ⟨hgb, lt_of_heap hg2⟩
          have NW := hide (new_any (some ⟨g, 0, none⟩) ic l { w2 with drawn := w2.drawn + 1 } (TML.out.calm ((Touch.refl _ w2).drew)) HG.out (by have := HB.out; have := HNE.out; omega))
          rw [HNE.out] at NW
          clear own2 t2 tm2 rw2 hc2 hgb hg2 cs2 hO OW1 PM SZ1 TA T1 ON TL HB9 HB10
          go_wp2_with fail
          refine wp_only ?_
          refine wp_region_z 7 (Calm w2) (by kernel_rfl) ?_
          have ty0 : Calm w2 { w2 with drawn := w2.drawn + 1 } := (Touch.refl (fun _ => False) w2).drew
          refine wpAnyZ_yield 0 28 (.pointer (some ⟨b, 0, none⟩)) [4,5,6,7] rfl rfl (by kernel_rfl) (by kernel_rfl) (by kernel_rfl) (by kernel_rfl) (by kernel_rfl) (fun _ _ _ h => h) (by kernel_rfl) (fun W hW => by kernel_rfl) (by assumption) rfl rfl ?_
          simp only [Act.put, List.setIfInBounds_toArray, List.set_cons_zero, List.set_cons_succ]
          refine wpAnyZ_yield 1 29 (.int .i64 0) [6,7] rfl rfl (by kernel_rfl) (by kernel_rfl) (by kernel_rfl) (by kernel_rfl) (by kernel_rfl) (fun _ _ _ h => h) (by kernel_rfl) (fun W hW => by kernel_rfl) (by assumption) rfl rfl ?_
          simp only [Act.put, List.setIfInBounds_toArray, List.set_cons_zero, List.set_cons_succ]
          refine wpAnyZ_yield 2 30 (.slice (some ⟨g, 0, none⟩) n ic) [3,7] rfl rfl (by kernel_rfl) (by kernel_rfl) (by kernel_rfl) (by kernel_rfl) (by kernel_rfl) (fun _ _ _ h => h) (by kernel_rfl) (fun W hW => by kernel_rfl) (by assumption) rfl rfl ?_
          simp only [Act.put, List.setIfInBounds_toArray, List.set_cons_zero, List.set_cons_succ]
          refine wpAnyZ_yield 4 32 (.pointer (some ⟨b, 0, none⟩)) [5,6,7] rfl rfl (by kernel_rfl) (by kernel_rfl) (by kernel_rfl) (by kernel_rfl) (by kernel_rfl) (fun _ _ _ h => h) (by kernel_rfl) (fun W hW => by go_simp) (by assumption) rfl rfl ?_
          simp only [Act.put, List.setIfInBounds_toArray, List.set_cons_zero, List.set_cons_succ]
          refine wpAnyZ_yield 5 33 (.pointer (some ⟨b, 0, none⟩)) [6,7] rfl rfl (by kernel_rfl) (by kernel_rfl) (by kernel_rfl) (by kernel_rfl) (by kernel_rfl) (fun _ _ _ h => h) (by kernel_rfl) (fun W hW => by go_simp) (by assumption) rfl rfl ?_
          simp only [Act.put, List.setIfInBounds_toArray, List.set_cons_zero, List.set_cons_succ]
          refine wpAnyZ_enter 3 31 8 #[.slice (some ⟨g, 0, none⟩) n ic] rfl rfl (by decide) (by kernel_rfl) (by kernel_rfl) (by kernel_rfl) ?_
          refine NW.out.mono ?_
          rintro e w3 ⟨q, F, V, rfl, tq3, m3, f3, t3⟩
          have ty3 : Calm w2 w3 := ty0.tr t3
          refine ⟨_, rfl, ty3, ?_⟩
          simp only [Act.put, List.setIfInBounds_toArray, List.set_cons_zero, List.set_cons_succ]
          refine wpAnyZ_yield 6 34 (.pointer (some ⟨b, 0, none⟩)) [7] rfl rfl (by kernel_rfl) (by kernel_rfl) (by kernel_rfl) (by kernel_rfl) (by kernel_rfl) (fun _ _ _ h => h) (by kernel_rfl) (fun W hW => by go_simp) (by assumption) rfl rfl ?_
          simp only [Act.put, List.setIfInBounds_toArray, List.set_cons_zero, List.set_cons_succ]
          refine wpAnyZ_end rfl (by kernel_rfl) (by kernel_rfl) (by kernel_rfl) ?_
          have OB3 : w3.heap[b]? = some (.cells #[.pointer none, xp B9, nilS, yp B9, nilS, nilS] 31 (0, 0)) := ty3.at (T2.out.at YS.out.own)
          obtain ⟨e0, e1, e2, e3, e4, e5⟩ := cells6 OB3
          have fz : w3.frozen? ⟨b, 0, none⟩ = false := by simp [World.frozen?, OB3]
          unfold Oper.wp
          go_simp
          rw [onlyN_normal]
          have o4 := heap_setCell_row (i := 0) OB3 (.pointer (some ⟨q, 0, none⟩))
          simp at o4
          have ts4 : Touch (fun x => x = b) w3 (w3.setCell ⟨b, 0, none⟩ (.pointer (some ⟨q, 0, none⟩))) := (Touch.refl (fun x => x = b) w3).setCell (p := ⟨b, 0, none⟩) (fun _ => rfl) _
          obtain ⟨col4, zs⟩ := YS.out.made (l := l) (W1 := w3) w2.heap.size (T2.out.tr ty3) T2.out.size (OWL.out.calm ty3) (fun a ha => by injection ha with ha; subst ha; exact HGB.out) tq3 (fun x hx => by have h9 := f3 x hx; exact h9) m3 o4
          have ZS := hide zs
          have HBG : Hid (g ≠ b) := hide (fun e => by have h1 := lt_of_heap YS.out.own; have h2 := HGB.out; omega)
          have OW4 := hide ((OW2.out.calm ty3).touch ts4 (fun x hx e => by simp [Value.ownBlock] at hx; exact HBG.out (hx.trans e)))
          have O4 : Hid ((w3.setCell ⟨b, 0, none⟩ (.pointer (some ⟨q, 0, none⟩))).heap[b]? = some (.cells #[.pointer (some ⟨q, 0, none⟩), xp B9, nilS, yp B9, nilS, nilS] 31 (0, 0))) := hide o4
          obtain ⟨w4, ew4⟩ : ∃ w4, w4 = w3.setCell ⟨b, 0, none⟩ (.pointer (some ⟨q, 0, none⟩)) := ⟨_, rfl⟩
          rw [← ew4] at ZS OW4 O4 ⊢
          clear ty0 ty3 e0 e1 e2 e3 e4 e5 fz o4 ts4 zs OB3 tq3 m3 f3 t3 ew4 NW OWL TML OW2 YS
          have P4 := hide (OwnT.prs OW4.out)
          have TM4 : Hid (∀ W, Calm w4 W → Tms W (some ⟨g, 0, none⟩) l ∧ Tms W ao l ∧ W.cell? ⟨g, n * 4 + 1, none⟩ = some (.string { data := #[109, 97, 114, 107] })) := hide (fun W hW => by
            have hO : O2.take n = l := by rw [← EO2.out, ← HNE.out]; exact List.take_left' rfl
            have h1 := P4.out.2.1
            refine ⟨by have h9 := (h1.calm hW).take n; rw [hO] at h9; exact h9, HT.out.calm (ZS.out.calm.tr hW), ?_⟩
            obtain ⟨g', off', e', -, c1, -, -⟩ := (h1.calm hW) n (by have := HO2.out; have := EN1.out; omega)
            injection e' with e'
            injection e' with e1' e2' _
            subst e1' e2'
            have hx : O2[n]'(by have := HO2.out; have := EN1.out; omega) = mkT := by
              have h2 : O2[n]? = some mkT := by rw [← EO2.out, ← HNE.out]; simp
              rw [List.getElem?_eq_getElem (by have := HO2.out; have := EN1.out; omega)] at h2
              injection h2
            rw [hx, Nat.zero_add] at c1
            exact c1)
          have SM := hide (same_any (some ⟨g, 0, none⟩) ao ic cap l w4 (TM4.out w4 (Touch.refl _ _)).1 (TM4.out w4 (Touch.refl _ _)).2.1 (by have := HB.out; have := HNE.out; omega))
          rw [HNE.out] at SM
          obtain ⟨e0, e1, e2, e3, e4, e5⟩ := cells6 O4.out
          go_wp2_with fail
          refine SM.out.mono ?_
          rintro e w5 ⟨rfl, t5⟩
          have ZS5 := hide (ZS.out.still t5)
          have ck := (TM4.out w5 t5).2.2
          have hw1 : wrap64 ((n : Int) + 1) = (n1 : Int) := by have := HB.out; have := EN1.out; unfold wrap64; omega
          have hn1 : (n : Int) < (n1 : Int) := by have := EN1.out; omega
          have hn2 : n < n1 := by omega
          clear t5 e0 e1 e2 e3 e4 e5 ZS SM TM4 P4 O4 OW4
          go_wp2_with fail
          rw [hw1]
          clear ck hcap hcapI hn1 hn2 hw1
          go_loopw [8] (fun v8 wx => ∃ (i : Nat) (L : List Tm) (lo : Option Addr) (lc : Nat) (col : Nat → Nat), v8 = .int .i64 (i : Int) ∧ i ≤ n ∧ Zs w b 0 ⟨q, F, V, L, lo, lc⟩ B9 l i (.slice (some ⟨g, 0, none⟩) n ic) col wx) (fun v _ => n - (intOf v).toNat)
          case atStart => exact ⟨0, [], none, 0, col4, rfl, Nat.zero_le _, ZS5.out⟩
          case round =>
            clear ZS5
            obtain ⟨i, L, lo, lc, col5, rfl, hi, zs⟩ := hrel
            by_cases hlt : i < n
            · have hlt' : (i : Int) < (n : Int) := by omega
              obtain ⟨D, hD, od⟩ := zs.inr
              have hiD : i < D.length := by have := HNE.out; omega
              obtain ⟨g', off', e', c0, c1, c2, c3⟩ := (OwnT.prs od).2.1 i hiD
              obtain ⟨_, _, _, cs, hcs⟩ := (OwnT.prs od).2.2.1 _ rfl
              injection e' with e'
              injection e' with e1' e2' _
              subst e1' e2'
              rw [Nat.zero_add] at c0 c1 c2 c3
              generalize D[i]'hiD = dx at c0 c1 c2 c3
              simp only at hcs
              have f0 : ∀ o, wr.frozen? ⟨g, o, none⟩ = false := fun o => by simp [World.frozen?, hcs]
              have z0 := f0 (i * 4)
              have z1 := f0 (i * 4 + 1)
              have z2 := f0 (i * 4 + 2)
              have z3 := f0 (i * 4 + 3)
              obtain ⟨ow, ts⟩ := OwnT.set od hiD ⟨-99, { data := #[] }, 0, 0⟩ rfl
              simp only at ow ts
              have ZO := hide (zs.over (g := g) (by simp [Value.ownBlock]) ts (by rw [List.length_set]; exact hD) ow)
              have SW : Hid (wrap64 ((i : Int) + 1) = ((i + 1 : Nat) : Int)) := hide (by have := HB.out; unfold wrap64; omega)
              have HLL : Hid (L.length ≤ i ∧ i < n) := hide ⟨zs.bd, hlt⟩
              have HKL : Hid (i < l.length) := hide (by have := HNE.out; omega)
              clear zs ow ts od f0 hcs cs hD hiD
              go_wp2_with fail
              clear c0 c1 c2 c3 z0 z1 z2 z3
              generalize (((wr.setCell ⟨g, i * 4, none⟩ (.int .i64 (-99))).setCell ⟨g, i * 4 + 1, none⟩ (.string { data := #[] })).setCell ⟨g, i * 4 + 2, none⟩ (.int .i64 0)).setCell ⟨g, i * 4 + 3, none⟩ (.int .i64 0) = w6 at *
              obtain ⟨tb, off, e, c0, c1, c2, c3⟩ := HT.out i HKL.out
              subst e
              rw [← nth_eq HKL.out] at c0 c1 c2 c3
              obtain ⟨x, ex⟩ : ∃ x, nth l i = x := ⟨_, rfl⟩
              rw [ex] at c0 c1 c2 c3
              have EX := hide ex
              have CX : Hid (∀ W, Calm w6 W → W.cell? ⟨tb, off + i * 4, none⟩ = some (.int .i64 x.at_) ∧ W.cell? ⟨tb, off + i * 4 + 1, none⟩ = some (.string x.key) ∧ W.cell? ⟨tb, off + i * 4 + 2, none⟩ = some (.int .i64 x.start) ∧ W.cell? ⟨tb, off + i * 4 + 3, none⟩ = some (.int .i64 x.stop)) := hide (fun W hW => by
                have g9 : ∀ {o : Nat} {v : Value}, w.cell? ⟨tb, o, none⟩ = some v → W.cell? ⟨tb, o, none⟩ = some v := fun {o v} h => ((ZO.out.calm.tr hW).cell (p := ⟨tb, o, none⟩) (lt_of_cell h) (fun h => h)).trans h
                exact ⟨g9 c0, g9 c1, g9 c2, g9 c3⟩)
              obtain ⟨ln, eln⟩ : ∃ ln, L.length = ln := ⟨_, rfl⟩
              have HLN := hide eln
              have OB6 : Hid (w6.heap[b]? = some (.cells #[.pointer (some ⟨q, 0, none⟩), xp B9, .slice lo ln lc, yp B9, nilS, nilS] 31 (0, 0))) := hide (by have h9 := ZO.out.own; rw [← eln]; exact h9)
              clear c0 c1 c2 c3 ex eln
              refine wp_only ?_
              refine wp_region_z 16 (Calm w6) (by kernel_rfl) ?_
              have ty0 : Calm w6 { w6 with drawn := w6.drawn + 1 } := (Touch.refl (fun _ => False) w6).drew
              refine wpAnyZ_yield 0 71 (.pointer (some ⟨b, 0, none⟩)) [13,14,15,16] rfl rfl (by kernel_rfl) (by kernel_rfl) (by kernel_rfl) (by kernel_rfl) (by kernel_rfl) (fun _ _ _ h => h) (by kernel_rfl) (fun W hW => by kernel_rfl) (by assumption) rfl rfl ?_
              simp only [Act.put, List.setIfInBounds_toArray, List.set_cons_zero, List.set_cons_succ]
              refine wpAnyZ_yield 1 72 (.int .i64 0) [15,16] rfl rfl (by kernel_rfl) (by kernel_rfl) (by kernel_rfl) (by kernel_rfl) (by kernel_rfl) (fun _ _ _ h => h) (by kernel_rfl) (fun W hW => by kernel_rfl) (by assumption) rfl rfl ?_
              simp only [Act.put, List.setIfInBounds_toArray, List.set_cons_zero, List.set_cons_succ]
              refine wpAnyZ_yield 2 73 (.pointer (some ⟨b, 0, none⟩)) [4,5,6,7,12,16] rfl rfl (by kernel_rfl) (by kernel_rfl) (by kernel_rfl) (by kernel_rfl) (by kernel_rfl) (fun _ _ _ h => h) (by kernel_rfl) (fun W hW => by kernel_rfl) (by assumption) rfl rfl ?_
              simp only [Act.put, List.setIfInBounds_toArray, List.set_cons_zero, List.set_cons_succ]
              refine wpAnyZ_yield 3 74 (.int .i64 0) [6,7,12,16] rfl rfl (by kernel_rfl) (by kernel_rfl) (by kernel_rfl) (by kernel_rfl) (by kernel_rfl) (fun _ _ _ h => h) (by kernel_rfl) (fun W hW => by kernel_rfl) (by assumption) rfl rfl ?_
              simp only [Act.put, List.setIfInBounds_toArray, List.set_cons_zero, List.set_cons_succ]
              refine wpAnyZ_yield 4 75 (.pointer (some ⟨b, 0, none⟩)) [5,6,7,12,16] rfl rfl (by kernel_rfl) (by kernel_rfl) (by kernel_rfl) (by kernel_rfl) (by kernel_rfl) (fun _ _ _ h => h) (by kernel_rfl) (fun W hW => by go_simp) (by assumption) rfl rfl ?_
              simp only [Act.put, List.setIfInBounds_toArray, List.set_cons_zero, List.set_cons_succ]
              refine wpAnyZ_yield 5 76 (.pointer (some ⟨b, 2, none⟩)) [6,7,12,16] rfl rfl (by kernel_rfl) (by kernel_rfl) (by kernel_rfl) (by kernel_rfl) (by kernel_rfl) (fun _ _ _ h => h) (by kernel_rfl) (fun W hW => by go_simp) (by assumption) rfl rfl ?_
              simp only [Act.put, List.setIfInBounds_toArray, List.set_cons_zero, List.set_cons_succ]
              refine wpAnyZ_yield 6 77 (.pointer (some ⟨b, 2, none⟩)) [7,12,16] rfl rfl (by kernel_rfl) (by kernel_rfl) (by kernel_rfl) (by kernel_rfl) (by kernel_rfl) (fun _ _ _ h => h) (by kernel_rfl) (fun W hW => by go_simp) (by assumption) rfl rfl ?_
              simp only [Act.put, List.setIfInBounds_toArray, List.set_cons_zero, List.set_cons_succ]
              refine wpAnyZ_yield 7 78 (.slice lo ln lc) [12,16] rfl rfl (by kernel_rfl) (by kernel_rfl) (by kernel_rfl) (by kernel_rfl) (by kernel_rfl) (fun _ _ _ h => h) (by kernel_rfl) (fun W hW => by obtain ⟨e0, e1, e2, e3, e4, e5⟩ := cells6 (hW.at OB6.out); go_simp) (by assumption) rfl rfl ?_
              simp only [Act.put, List.setIfInBounds_toArray, List.set_cons_zero, List.set_cons_succ]
              refine wpAnyZ_yield 8 79 (.slice (some ⟨tb, off, none⟩) n cap) [10,11,12,16] rfl rfl (by kernel_rfl) (by kernel_rfl) (by kernel_rfl) (by kernel_rfl) (by kernel_rfl) (fun _ _ _ h => h) (by kernel_rfl) (fun W hW => by kernel_rfl) (by assumption) rfl rfl ?_
              simp only [Act.put, List.setIfInBounds_toArray, List.set_cons_zero, List.set_cons_succ]
              refine wpAnyZ_yield 9 80 (.int .i64 (i : Int)) [10,11,12,16] rfl rfl (by kernel_rfl) (by kernel_rfl) (by kernel_rfl) (by kernel_rfl) (by kernel_rfl) (fun _ _ _ h => h) (by kernel_rfl) (fun W hW => by kernel_rfl) (by assumption) rfl rfl ?_
              simp only [Act.put, List.setIfInBounds_toArray, List.set_cons_zero, List.set_cons_succ]
              refine wpAnyZ_yield 10 81 (.pointer (some ⟨tb, off + i * 4, none⟩)) [11,12,16] rfl rfl (by kernel_rfl) (by kernel_rfl) (by kernel_rfl) (by kernel_rfl) (by kernel_rfl) (fun _ _ _ h => h) (by kernel_rfl) (fun W hW => by go_simp) (by assumption) rfl rfl ?_
              simp only [Act.put, List.setIfInBounds_toArray, List.set_cons_zero, List.set_cons_succ]
              refine wpAnyZ_yield 11 82 (tv x) [12,16] rfl rfl (by kernel_rfl) (by kernel_rfl) (by kernel_rfl) (by kernel_rfl) (by kernel_rfl) (fun _ _ _ h => h) (by kernel_rfl) (fun W hW => by obtain ⟨c0, c1, c2, c3⟩ := CX.out W hW; go_simp) (by assumption) rfl rfl ?_
              simp only [Act.put, List.setIfInBounds_toArray, List.set_cons_zero, List.set_cons_succ]
              refine wpAnyZ_yield 13 84 (.pointer (some ⟨b, 0, none⟩)) [14,15,16] rfl rfl (by kernel_rfl) (by kernel_rfl) (by kernel_rfl) (by kernel_rfl) (by kernel_rfl) (fun _ _ _ h => h) (by kernel_rfl) (fun W hW => by go_simp) (by assumption) rfl rfl ?_
              simp only [Act.put, List.setIfInBounds_toArray, List.set_cons_zero, List.set_cons_succ]
              refine wpAnyZ_yield 14 85 (.pointer (some ⟨b, 2, none⟩)) [15,16] rfl rfl (by kernel_rfl) (by kernel_rfl) (by kernel_rfl) (by kernel_rfl) (by kernel_rfl) (fun _ _ _ h => h) (by kernel_rfl) (fun W hW => by go_simp) (by assumption) rfl rfl ?_
              simp only [Act.put, List.setIfInBounds_toArray, List.set_cons_zero, List.set_cons_succ]
              have RS := rset_any lo lc L x { w6 with drawn := w6.drawn + 1 } (ZO.out.rl.calm ty0) ZO.out.srt (by have := HLL.out; have := HB.out; omega)
              rw [HLN.out] at RS
              refine wpAnyZ_enter 12 83 10 #[.slice lo ln lc, tv x] rfl rfl (by decide) (by kernel_rfl) (by kernel_rfl) (by kernel_rfl) ?_
              refine RS.mono ?_
              rintro e w7 ⟨ao7, cap7, rfl, rl7, loc7, t7⟩
              have ty7 : Calm w6 w7 := ty0.tr t7
              refine ⟨_, rfl, ty7, ?_⟩
              simp only [Act.put, List.setIfInBounds_toArray, List.set_cons_zero, List.set_cons_succ]
              refine wpAnyZ_yield 15 86 (.pointer (some ⟨b, 2, none⟩)) [16] rfl rfl (by kernel_rfl) (by kernel_rfl) (by kernel_rfl) (by kernel_rfl) (by kernel_rfl) (fun _ _ _ h => h) (by kernel_rfl) (fun W hW => by go_simp) (by assumption) rfl rfl ?_
              simp only [Act.put, List.setIfInBounds_toArray, List.set_cons_zero, List.set_cons_succ]
              have OB7 := ty7.at OB6.out
              have o8 := heap_setCell_row (i := 2) OB7 (.slice ao7 (setT x L).length cap7)
              simp at o8
              obtain ⟨col8, z8⟩ := ZO.out.set ty7 HKL.out EX.out rl7 (fun a ha => (loc7 a ha).imp id (fun h => Nat.le_trans ty0.size h)) o8
              have NX := hide z8
              obtain ⟨m, em⟩ : ∃ m, (setT x L).length = m := ⟨_, rfl⟩
              simp only [em] at NX
              rw [em]
              clear em RS rl7 loc7 t7 o8 z8
              refine wpAnyZ_end rfl (by kernel_rfl) (by kernel_rfl) (by kernel_rfl) ?_
              obtain ⟨e0, e1, e2, e3, e4, e5⟩ := cells6 OB7
              have fz : w7.frozen? ⟨b, 2, none⟩ = false := by simp [World.frozen?, OB7]
              unfold Oper.wp
              go_simp
              rw [onlyN_normal]
              clear ty0 ty7 e0 e1 e2 e3 e4 e5 fz OB7 CX OB6 ZO
              go_wp2_with fail
              go_roundw
              case rel => exact ⟨i + 1, setT x L, ao7, cap7, col8, by rw [SW.out], hlt, NX.out⟩
              case measure => rw [SW.out]; simp [intOf]; omega
            · have e : i = n := by omega
              subst e
              have e9 := EB9.out
              subst e9
              have SD := hide (zs.side (by have := HNE.out; omega) (by have := HB.out; have := HNE.out; omega) (by have := zs.bd; have := HNE.out; omega))
              have RES := hide (zs.one SD.out)
              have HLL : Hid (L.length ≤ i) := hide zs.bd
              clear zs hlt hi
              go_wp2_with fail
              go_roundw
              case rel => exact .inr (.inl ⟨rfl, ⟨q, F, V, L, lo, lc⟩, col5, HLL.out, RES.out⟩)
              case measure => simp [intOf]
    · obtain ⟨B9, eB9⟩ : ∃ B9 : Option Od, B9 = some C := ⟨_, rfl⟩
      rw [← eB9] at ys
      have EB9 := hide eB9
      have HC := hide hC
      clear eB9 hC
      have YS := hide ys
      have ON : Hid (OwnT wr wr.heap.size (.slice none 0 0) []) := hide (World.ownsRow_nil _ _ _ _)
      have TL := hide (HT.out.calm ys.calm)
      have HB9 : Hid (n ≤ 3518437208800) := hide (by have := HB.out; omega)
      clear ys
      go_wp2_with (at_builtin; refine wpList_tapp2 rfl (.const (.slice none 0 0)) (.tmp 20) rfl wr.heap.size (.slice none 0 0) [] rfl ON.out ao n cap l HNE.out rfl TL.out HNI.out l n rfl HNE.out HB9.out (Nat.le_refl _) ?ny)
      case ny =>
        intro io1 ic1 w1 own1 t1
        have T1 : Hid (Calm wr w1) := hide (t1.mono (fun g _ hg => by simp [Value.ownBlock] at hg))
        have tA : Calm w1 (w1.alloc (.cells #[.int .i64 0, .string { data := #[109, 97, 114, 107] }, .int .i64 0, .int .i64 0] 35)) := (Touch.refl _ _).alloc _
        have OW1 := hide (OwnT.calm own1 tA)
        have PM : Hid (Tms (w1.alloc (.cells #[.int .i64 0, .string { data := #[109, 97, 114, 107] }, .int .i64 0, .int .i64 0] 35)) (some ⟨w1.heap.size, 0, none⟩) [mkT]) := hide (tms_one w1 mkT)
        have SZ1 : Hid (wr.heap.size ≤ (w1.alloc (.cells #[.int .i64 0, .string { data := #[109, 97, 114, 107] }, .int .i64 0, .int .i64 0] 35)).heap.size) := hide (Nat.le_trans T1.out.size tA.size)
        have TA := hide (T1.out.tr tA)
        obtain ⟨O2, eO2⟩ : ∃ O2, l ++ [mkT] = O2 := ⟨_, rfl⟩
        obtain ⟨n1, en1⟩ : ∃ n1, n + 1 = n1 := ⟨_, rfl⟩
        have EO2 := hide eO2
        have EN1 := hide en1
        have HO2 : Hid (O2.length = n1) := hide (by rw [← eO2, ← en1, List.length_append, HNE.out]; rfl)
        have HB10 : Hid (n1 ≤ 3518437208800) := hide (by have := HB.out; omega)
        clear own1 t1 tA eO2 en1
        go_wp2_with (at_builtin; refine wpList_tapp2 rfl (.tmp 21) (.tmp 23) rfl wr.heap.size (.slice io1 n ic1) l rfl OW1.out (some ⟨w1.heap.size, 0, none⟩) 1 1 [mkT] rfl rfl PM.out (fun h => (nomatch h)) O2 n1 EO2.out HO2.out HB10.out SZ1.out ?nz)
        case nz =>
          intro io ic w2 own2 t2
          have T2 : Hid (Calm wr w2) := hide (TA.out.trans t2 (fun g hg hs => by have := (World.ownsRow.lt OW1.out g hs).1; omega))
          obtain ⟨-, tm2, rw2, hc2, -⟩ := OwnT.prs own2
          obtain ⟨g, off, rfl, -⟩ := tm2 0 (by have := HO2.out; have := EN1.out; omega)
          obtain ⟨_, hoff, hgb, cs2, hg2⟩ := rw2 _ rfl
          simp only at hoff hgb hg2
          subst hoff
          have hcap : n1 ≤ ic := by have := HO2.out; omega
          have hcn : n ≤ ic := by have := EN1.out; omega
          have hcapI : (n1 : Int) ≤ (ic : Int) := by omega
          have hcnI : (n : Int) ≤ (ic : Int) := by omega
          have hO : O2.take n = l := by rw [← EO2.out, ← HNE.out]; exact List.take_left' rfl
          have TML : Hid (Tms w2 (some ⟨g, 0, none⟩) l) := hide (by have h9 := tm2.take n; rw [hO] at h9; exact h9)
          have OWL : Hid (OwnT w2 w.heap.size (.slice (some ⟨g, 0, none⟩) n ic) l) := hide (by have h9 := (OwnT.cut own2 (m := n) (by have := HO2.out; have := EN1.out; omega) (by simp)); rw [hO] at h9; exact own_base h9 YS.out.calm.size)
          have OW2 := hide own2
          have HGB : Hid (wr.heap.size ≤ g ∧ g < w2.heap.size) := hide ⟨hgb, lt_of_heap hg2⟩
          have NW := hide (new_any (some ⟨g, 0, none⟩) ic l { w2 with drawn := w2.drawn + 1 } (TML.out.calm ((Touch.refl _ w2).drew)) HG.out (by have := HB.out; have := HNE.out; omega))
          rw [HNE.out] at NW
          clear own2 t2 tm2 rw2 hc2 hgb hg2 cs2 hO OW1 PM SZ1 TA T1 ON TL HB9 HB10
          go_wp2_with fail
          refine wp_only ?_
          refine wp_region_z 7 (Calm w2) (by kernel_rfl) ?_
          have ty0 : Calm w2 { w2 with drawn := w2.drawn + 1 } := (Touch.refl (fun _ => False) w2).drew
          refine wpAnyZ_yield 0 28 (.pointer (some ⟨b, 0, none⟩)) [4,5,6,7] rfl rfl (by kernel_rfl) (by kernel_rfl) (by kernel_rfl) (by kernel_rfl) (by kernel_rfl) (fun _ _ _ h => h) (by kernel_rfl) (fun W hW => by kernel_rfl) (by assumption) rfl rfl ?_
          simp only [Act.put, List.setIfInBounds_toArray, List.set_cons_zero, List.set_cons_succ]
          refine wpAnyZ_yield 1 29 (.int .i64 1) [6,7] rfl rfl (by kernel_rfl) (by kernel_rfl) (by kernel_rfl) (by kernel_rfl) (by kernel_rfl) (fun _ _ _ h => h) (by kernel_rfl) (fun W hW => by kernel_rfl) (by assumption) rfl rfl ?_
          simp only [Act.put, List.setIfInBounds_toArray, List.set_cons_zero, List.set_cons_succ]
          refine wpAnyZ_yield 2 30 (.slice (some ⟨g, 0, none⟩) n ic) [3,7] rfl rfl (by kernel_rfl) (by kernel_rfl) (by kernel_rfl) (by kernel_rfl) (by kernel_rfl) (fun _ _ _ h => h) (by kernel_rfl) (fun W hW => by kernel_rfl) (by assumption) rfl rfl ?_
          simp only [Act.put, List.setIfInBounds_toArray, List.set_cons_zero, List.set_cons_succ]
          refine wpAnyZ_yield 4 32 (.pointer (some ⟨b, 0, none⟩)) [5,6,7] rfl rfl (by kernel_rfl) (by kernel_rfl) (by kernel_rfl) (by kernel_rfl) (by kernel_rfl) (fun _ _ _ h => h) (by kernel_rfl) (fun W hW => by go_simp) (by assumption) rfl rfl ?_
          simp only [Act.put, List.setIfInBounds_toArray, List.set_cons_zero, List.set_cons_succ]
          refine wpAnyZ_yield 5 33 (.pointer (some ⟨b, 0, none⟩)) [6,7] rfl rfl (by kernel_rfl) (by kernel_rfl) (by kernel_rfl) (by kernel_rfl) (by kernel_rfl) (fun _ _ _ h => h) (by kernel_rfl) (fun W hW => by go_simp) (by assumption) rfl rfl ?_
          simp only [Act.put, List.setIfInBounds_toArray, List.set_cons_zero, List.set_cons_succ]
          refine wpAnyZ_enter 3 31 8 #[.slice (some ⟨g, 0, none⟩) n ic] rfl rfl (by decide) (by kernel_rfl) (by kernel_rfl) (by kernel_rfl) ?_
          refine NW.out.mono ?_
          rintro e w3 ⟨q, F, V, rfl, tq3, m3, f3, t3⟩
          have ty3 : Calm w2 w3 := ty0.tr t3
          refine ⟨_, rfl, ty3, ?_⟩
          simp only [Act.put, List.setIfInBounds_toArray, List.set_cons_zero, List.set_cons_succ]
          refine wpAnyZ_yield 6 34 (.pointer (some ⟨b, 1, none⟩)) [7] rfl rfl (by kernel_rfl) (by kernel_rfl) (by kernel_rfl) (by kernel_rfl) (by kernel_rfl) (fun _ _ _ h => h) (by kernel_rfl) (fun W hW => by go_simp) (by assumption) rfl rfl ?_
          simp only [Act.put, List.setIfInBounds_toArray, List.set_cons_zero, List.set_cons_succ]
          refine wpAnyZ_end rfl (by kernel_rfl) (by kernel_rfl) (by kernel_rfl) ?_
          have OB3 : w3.heap[b]? = some (.cells #[xp B9, .pointer none, yp B9, nilS, nilS, nilS] 31 (0, 0)) := ty3.at (T2.out.at YS.out.own)
          obtain ⟨e0, e1, e2, e3, e4, e5⟩ := cells6 OB3
          have fz : w3.frozen? ⟨b, 1, none⟩ = false := by simp [World.frozen?, OB3]
          unfold Oper.wp
          go_simp
          rw [onlyN_normal]
          have o4 := heap_setCell_row (i := 1) OB3 (.pointer (some ⟨q, 0, none⟩))
          simp at o4
          have ts4 : Touch (fun x => x = b) w3 (w3.setCell ⟨b, 1, none⟩ (.pointer (some ⟨q, 0, none⟩))) := (Touch.refl (fun x => x = b) w3).setCell (p := ⟨b, 1, none⟩) (fun _ => rfl) _
          obtain ⟨col4, zs⟩ := YS.out.made (l := l) (W1 := w3) w2.heap.size (T2.out.tr ty3) T2.out.size (OWL.out.calm ty3) (fun a ha => by injection ha with ha; subst ha; exact HGB.out) tq3 (fun x hx => by have h9 := f3 x hx; exact h9) m3 o4
          have ZS := hide zs
          have HBG : Hid (g ≠ b) := hide (fun e => by have h1 := lt_of_heap YS.out.own; have h2 := HGB.out; omega)
          have OW4 := hide ((OW2.out.calm ty3).touch ts4 (fun x hx e => by simp [Value.ownBlock] at hx; exact HBG.out (hx.trans e)))
          have O4 : Hid ((w3.setCell ⟨b, 1, none⟩ (.pointer (some ⟨q, 0, none⟩))).heap[b]? = some (.cells #[xp B9, .pointer (some ⟨q, 0, none⟩), yp B9, nilS, nilS, nilS] 31 (0, 0))) := hide o4
          obtain ⟨w4, ew4⟩ : ∃ w4, w4 = w3.setCell ⟨b, 1, none⟩ (.pointer (some ⟨q, 0, none⟩)) := ⟨_, rfl⟩
          rw [← ew4] at ZS OW4 O4 ⊢
          clear ty0 ty3 e0 e1 e2 e3 e4 e5 fz o4 ts4 zs OB3 tq3 m3 f3 t3 ew4 NW OWL TML OW2 YS
          have P4 := hide (OwnT.prs OW4.out)
          have TM4 : Hid (∀ W, Calm w4 W → Tms W (some ⟨g, 0, none⟩) l ∧ Tms W ao l ∧ W.cell? ⟨g, n * 4 + 1, none⟩ = some (.string { data := #[109, 97, 114, 107] })) := hide (fun W hW => by
            have hO : O2.take n = l := by rw [← EO2.out, ← HNE.out]; exact List.take_left' rfl
            have h1 := P4.out.2.1
            refine ⟨by have h9 := (h1.calm hW).take n; rw [hO] at h9; exact h9, HT.out.calm (ZS.out.calm.tr hW), ?_⟩
            obtain ⟨g', off', e', -, c1, -, -⟩ := (h1.calm hW) n (by have := HO2.out; have := EN1.out; omega)
            injection e' with e'
            injection e' with e1' e2' _
            subst e1' e2'
            have hx : O2[n]'(by have := HO2.out; have := EN1.out; omega) = mkT := by
              have h2 : O2[n]? = some mkT := by rw [← EO2.out, ← HNE.out]; simp
              rw [List.getElem?_eq_getElem (by have := HO2.out; have := EN1.out; omega)] at h2
              injection h2
            rw [hx, Nat.zero_add] at c1
            exact c1)
          have SM := hide (same_any (some ⟨g, 0, none⟩) ao ic cap l w4 (TM4.out w4 (Touch.refl _ _)).1 (TM4.out w4 (Touch.refl _ _)).2.1 (by have := HB.out; have := HNE.out; omega))
          rw [HNE.out] at SM
          obtain ⟨e0, e1, e2, e3, e4, e5⟩ := cells6 O4.out
          go_wp2_with fail
          refine SM.out.mono ?_
          rintro e w5 ⟨rfl, t5⟩
          have ZS5 := hide (ZS.out.still t5)
          have ck := (TM4.out w5 t5).2.2
          have hw1 : wrap64 ((n : Int) + 1) = (n1 : Int) := by have := HB.out; have := EN1.out; unfold wrap64; omega
          have hn1 : (n : Int) < (n1 : Int) := by have := EN1.out; omega
          have hn2 : n < n1 := by omega
          clear t5 e0 e1 e2 e3 e4 e5 ZS SM TM4 P4 O4 OW4
          go_wp2_with fail
          rw [hw1]
          clear ck hcap hcapI hn1 hn2 hw1
          go_loopw [8] (fun v8 wx => ∃ (i : Nat) (L : List Tm) (lo : Option Addr) (lc : Nat) (col : Nat → Nat), v8 = .int .i64 (i : Int) ∧ i ≤ n ∧ Zs w b 1 ⟨q, F, V, L, lo, lc⟩ B9 l i (.slice (some ⟨g, 0, none⟩) n ic) col wx) (fun v _ => n - (intOf v).toNat)
          case atStart => exact ⟨0, [], none, 0, col4, rfl, Nat.zero_le _, ZS5.out⟩
          case round =>
            clear ZS5
            obtain ⟨i, L, lo, lc, col5, rfl, hi, zs⟩ := hrel
            by_cases hlt : i < n
            · have hlt' : (i : Int) < (n : Int) := by omega
              obtain ⟨D, hD, od⟩ := zs.inr
              have hiD : i < D.length := by have := HNE.out; omega
              obtain ⟨g', off', e', c0, c1, c2, c3⟩ := (OwnT.prs od).2.1 i hiD
              obtain ⟨_, _, _, cs, hcs⟩ := (OwnT.prs od).2.2.1 _ rfl
              injection e' with e'
              injection e' with e1' e2' _
              subst e1' e2'
              rw [Nat.zero_add] at c0 c1 c2 c3
              generalize D[i]'hiD = dx at c0 c1 c2 c3
              simp only at hcs
              have f0 : ∀ o, wr.frozen? ⟨g, o, none⟩ = false := fun o => by simp [World.frozen?, hcs]
              have z0 := f0 (i * 4)
              have z1 := f0 (i * 4 + 1)
              have z2 := f0 (i * 4 + 2)
              have z3 := f0 (i * 4 + 3)
              obtain ⟨ow, ts⟩ := OwnT.set od hiD ⟨-99, { data := #[] }, 0, 0⟩ rfl
              simp only at ow ts
              have ZO := hide (zs.over (g := g) (by simp [Value.ownBlock]) ts (by rw [List.length_set]; exact hD) ow)
              have SW : Hid (wrap64 ((i : Int) + 1) = ((i + 1 : Nat) : Int)) := hide (by have := HB.out; unfold wrap64; omega)
              have HLL : Hid (L.length ≤ i ∧ i < n) := hide ⟨zs.bd, hlt⟩
              have HKL : Hid (i < l.length) := hide (by have := HNE.out; omega)
              clear zs ow ts od f0 hcs cs hD hiD
              go_wp2_with fail
              clear c0 c1 c2 c3 z0 z1 z2 z3
              generalize (((wr.setCell ⟨g, i * 4, none⟩ (.int .i64 (-99))).setCell ⟨g, i * 4 + 1, none⟩ (.string { data := #[] })).setCell ⟨g, i * 4 + 2, none⟩ (.int .i64 0)).setCell ⟨g, i * 4 + 3, none⟩ (.int .i64 0) = w6 at *
              obtain ⟨tb, off, e, c0, c1, c2, c3⟩ := HT.out i HKL.out
              subst e
              rw [← nth_eq HKL.out] at c0 c1 c2 c3
              obtain ⟨x, ex⟩ : ∃ x, nth l i = x := ⟨_, rfl⟩
              rw [ex] at c0 c1 c2 c3
              have EX := hide ex
              have CX : Hid (∀ W, Calm w6 W → W.cell? ⟨tb, off + i * 4, none⟩ = some (.int .i64 x.at_) ∧ W.cell? ⟨tb, off + i * 4 + 1, none⟩ = some (.string x.key) ∧ W.cell? ⟨tb, off + i * 4 + 2, none⟩ = some (.int .i64 x.start) ∧ W.cell? ⟨tb, off + i * 4 + 3, none⟩ = some (.int .i64 x.stop)) := hide (fun W hW => by
                have g9 : ∀ {o : Nat} {v : Value}, w.cell? ⟨tb, o, none⟩ = some v → W.cell? ⟨tb, o, none⟩ = some v := fun {o v} h => ((ZO.out.calm.tr hW).cell (p := ⟨tb, o, none⟩) (lt_of_cell h) (fun h => h)).trans h
                exact ⟨g9 c0, g9 c1, g9 c2, g9 c3⟩)
              obtain ⟨ln, eln⟩ : ∃ ln, L.length = ln := ⟨_, rfl⟩
              have HLN := hide eln
              have OB6 : Hid (w6.heap[b]? = some (.cells #[xp B9, .pointer (some ⟨q, 0, none⟩), yp B9, .slice lo ln lc, nilS, nilS] 31 (0, 0))) := hide (by have h9 := ZO.out.own; rw [← eln]; exact h9)
              clear c0 c1 c2 c3 ex eln
              refine wp_only ?_
              refine wp_region_z 16 (Calm w6) (by kernel_rfl) ?_
              have ty0 : Calm w6 { w6 with drawn := w6.drawn + 1 } := (Touch.refl (fun _ => False) w6).drew
              refine wpAnyZ_yield 0 71 (.pointer (some ⟨b, 0, none⟩)) [13,14,15,16] rfl rfl (by kernel_rfl) (by kernel_rfl) (by kernel_rfl) (by kernel_rfl) (by kernel_rfl) (fun _ _ _ h => h) (by kernel_rfl) (fun W hW => by kernel_rfl) (by assumption) rfl rfl ?_
              simp only [Act.put, List.setIfInBounds_toArray, List.set_cons_zero, List.set_cons_succ]
              refine wpAnyZ_yield 1 72 (.int .i64 1) [15,16] rfl rfl (by kernel_rfl) (by kernel_rfl) (by kernel_rfl) (by kernel_rfl) (by kernel_rfl) (fun _ _ _ h => h) (by kernel_rfl) (fun W hW => by kernel_rfl) (by assumption) rfl rfl ?_
              simp only [Act.put, List.setIfInBounds_toArray, List.set_cons_zero, List.set_cons_succ]
              refine wpAnyZ_yield 2 73 (.pointer (some ⟨b, 0, none⟩)) [4,5,6,7,12,16] rfl rfl (by kernel_rfl) (by kernel_rfl) (by kernel_rfl) (by kernel_rfl) (by kernel_rfl) (fun _ _ _ h => h) (by kernel_rfl) (fun W hW => by kernel_rfl) (by assumption) rfl rfl ?_
              simp only [Act.put, List.setIfInBounds_toArray, List.set_cons_zero, List.set_cons_succ]
              refine wpAnyZ_yield 3 74 (.int .i64 1) [6,7,12,16] rfl rfl (by kernel_rfl) (by kernel_rfl) (by kernel_rfl) (by kernel_rfl) (by kernel_rfl) (fun _ _ _ h => h) (by kernel_rfl) (fun W hW => by kernel_rfl) (by assumption) rfl rfl ?_
              simp only [Act.put, List.setIfInBounds_toArray, List.set_cons_zero, List.set_cons_succ]
              refine wpAnyZ_yield 4 75 (.pointer (some ⟨b, 0, none⟩)) [5,6,7,12,16] rfl rfl (by kernel_rfl) (by kernel_rfl) (by kernel_rfl) (by kernel_rfl) (by kernel_rfl) (fun _ _ _ h => h) (by kernel_rfl) (fun W hW => by go_simp) (by assumption) rfl rfl ?_
              simp only [Act.put, List.setIfInBounds_toArray, List.set_cons_zero, List.set_cons_succ]
              refine wpAnyZ_yield 5 76 (.pointer (some ⟨b, 2, none⟩)) [6,7,12,16] rfl rfl (by kernel_rfl) (by kernel_rfl) (by kernel_rfl) (by kernel_rfl) (by kernel_rfl) (fun _ _ _ h => h) (by kernel_rfl) (fun W hW => by go_simp) (by assumption) rfl rfl ?_
              simp only [Act.put, List.setIfInBounds_toArray, List.set_cons_zero, List.set_cons_succ]
              refine wpAnyZ_yield 6 77 (.pointer (some ⟨b, 3, none⟩)) [7,12,16] rfl rfl (by kernel_rfl) (by kernel_rfl) (by kernel_rfl) (by kernel_rfl) (by kernel_rfl) (fun _ _ _ h => h) (by kernel_rfl) (fun W hW => by go_simp) (by assumption) rfl rfl ?_
              simp only [Act.put, List.setIfInBounds_toArray, List.set_cons_zero, List.set_cons_succ]
              refine wpAnyZ_yield 7 78 (.slice lo ln lc) [12,16] rfl rfl (by kernel_rfl) (by kernel_rfl) (by kernel_rfl) (by kernel_rfl) (by kernel_rfl) (fun _ _ _ h => h) (by kernel_rfl) (fun W hW => by obtain ⟨e0, e1, e2, e3, e4, e5⟩ := cells6 (hW.at OB6.out); go_simp) (by assumption) rfl rfl ?_
              simp only [Act.put, List.setIfInBounds_toArray, List.set_cons_zero, List.set_cons_succ]
              refine wpAnyZ_yield 8 79 (.slice (some ⟨tb, off, none⟩) n cap) [10,11,12,16] rfl rfl (by kernel_rfl) (by kernel_rfl) (by kernel_rfl) (by kernel_rfl) (by kernel_rfl) (fun _ _ _ h => h) (by kernel_rfl) (fun W hW => by kernel_rfl) (by assumption) rfl rfl ?_
              simp only [Act.put, List.setIfInBounds_toArray, List.set_cons_zero, List.set_cons_succ]
              refine wpAnyZ_yield 9 80 (.int .i64 (i : Int)) [10,11,12,16] rfl rfl (by kernel_rfl) (by kernel_rfl) (by kernel_rfl) (by kernel_rfl) (by kernel_rfl) (fun _ _ _ h => h) (by kernel_rfl) (fun W hW => by kernel_rfl) (by assumption) rfl rfl ?_
              simp only [Act.put, List.setIfInBounds_toArray, List.set_cons_zero, List.set_cons_succ]
              refine wpAnyZ_yield 10 81 (.pointer (some ⟨tb, off + i * 4, none⟩)) [11,12,16] rfl rfl (by kernel_rfl) (by kernel_rfl) (by kernel_rfl) (by kernel_rfl) (by kernel_rfl) (fun _ _ _ h => h) (by kernel_rfl) (fun W hW => by go_simp) (by assumption) rfl rfl ?_
              simp only [Act.put, List.setIfInBounds_toArray, List.set_cons_zero, List.set_cons_succ]
              refine wpAnyZ_yield 11 82 (tv x) [12,16] rfl rfl (by kernel_rfl) (by kernel_rfl) (by kernel_rfl) (by kernel_rfl) (by kernel_rfl) (fun _ _ _ h => h) (by kernel_rfl) (fun W hW => by obtain ⟨c0, c1, c2, c3⟩ := CX.out W hW; go_simp) (by assumption) rfl rfl ?_
              simp only [Act.put, List.setIfInBounds_toArray, List.set_cons_zero, List.set_cons_succ]
              refine wpAnyZ_yield 13 84 (.pointer (some ⟨b, 0, none⟩)) [14,15,16] rfl rfl (by kernel_rfl) (by kernel_rfl) (by kernel_rfl) (by kernel_rfl) (by kernel_rfl) (fun _ _ _ h => h) (by kernel_rfl) (fun W hW => by go_simp) (by assumption) rfl rfl ?_
              simp only [Act.put, List.setIfInBounds_toArray, List.set_cons_zero, List.set_cons_succ]
              refine wpAnyZ_yield 14 85 (.pointer (some ⟨b, 2, none⟩)) [15,16] rfl rfl (by kernel_rfl) (by kernel_rfl) (by kernel_rfl) (by kernel_rfl) (by kernel_rfl) (fun _ _ _ h => h) (by kernel_rfl) (fun W hW => by go_simp) (by assumption) rfl rfl ?_
              simp only [Act.put, List.setIfInBounds_toArray, List.set_cons_zero, List.set_cons_succ]
              have RS := rset_any lo lc L x { w6 with drawn := w6.drawn + 1 } (ZO.out.rl.calm ty0) ZO.out.srt (by have := HLL.out; have := HB.out; omega)
              rw [HLN.out] at RS
              refine wpAnyZ_enter 12 83 10 #[.slice lo ln lc, tv x] rfl rfl (by decide) (by kernel_rfl) (by kernel_rfl) (by kernel_rfl) ?_
              refine RS.mono ?_
              rintro e w7 ⟨ao7, cap7, rfl, rl7, loc7, t7⟩
              have ty7 : Calm w6 w7 := ty0.tr t7
              refine ⟨_, rfl, ty7, ?_⟩
              simp only [Act.put, List.setIfInBounds_toArray, List.set_cons_zero, List.set_cons_succ]
              refine wpAnyZ_yield 15 86 (.pointer (some ⟨b, 3, none⟩)) [16] rfl rfl (by kernel_rfl) (by kernel_rfl) (by kernel_rfl) (by kernel_rfl) (by kernel_rfl) (fun _ _ _ h => h) (by kernel_rfl) (fun W hW => by go_simp) (by assumption) rfl rfl ?_
              simp only [Act.put, List.setIfInBounds_toArray, List.set_cons_zero, List.set_cons_succ]
              have OB7 := ty7.at OB6.out
              have o8 := heap_setCell_row (i := 3) OB7 (.slice ao7 (setT x L).length cap7)
              simp at o8
              obtain ⟨col8, z8⟩ := ZO.out.set ty7 HKL.out EX.out rl7 (fun a ha => (loc7 a ha).imp id (fun h => Nat.le_trans ty0.size h)) o8
              have NX := hide z8
              obtain ⟨m, em⟩ : ∃ m, (setT x L).length = m := ⟨_, rfl⟩
              simp only [em] at NX
              rw [em]
              clear em RS rl7 loc7 t7 o8 z8
              refine wpAnyZ_end rfl (by kernel_rfl) (by kernel_rfl) (by kernel_rfl) ?_
              obtain ⟨e0, e1, e2, e3, e4, e5⟩ := cells6 OB7
              have fz : w7.frozen? ⟨b, 3, none⟩ = false := by simp [World.frozen?, OB7]
              unfold Oper.wp
              go_simp
              rw [onlyN_normal]
              clear ty0 ty7 e0 e1 e2 e3 e4 e5 fz OB7 CX OB6 ZO
              go_wp2_with fail
              go_roundw
              case rel => exact ⟨i + 1, setT x L, ao7, cap7, col8, by rw [SW.out], hlt, NX.out⟩
              case measure => rw [SW.out]; simp [intOf]; omega
            · have e : i = n := by omega
              subst e
              have e9 := EB9.out
              subst e9
              have SD := hide (zs.side (by have := HNE.out; omega) (by have := HB.out; have := HNE.out; omega) (by have := zs.bd; have := HNE.out; omega))
              have RES := hide (zs.two SD.out)
              have HLL : Hid (L.length ≤ i) := hide zs.bd
              clear zs hlt hi
              go_wp2_with fail
              go_roundw
              case rel => exact .inr (.inr ⟨rfl, C, ⟨q, F, V, L, lo, lc⟩, col5, HC.out, HLL.out, RES.out⟩)
              case measure => simp [intOf]
    · have PW := hide pw
      have HA := hide hA
      have HC := hide hC
      clear pw hA hC
      go_wp2_with fail
      go_loopw [9] (fun v9 wx => ∃ (j : Nat) (A C : Od) (Os : List Od) (u v : Value) (col : Nat → Nat), v9 = .int .i64 (j : Int) ∧ j ≤ sn ∧ A.L.length ≤ n + j ∧ C.L.length ≤ n + j ∧ Os.length ≤ 20 ∧ Pw w b 0 A C Os u v col wx) (fun v _ => sn - (intOf v).toNat)
      case atStart => exact ⟨0, A, C, [], nilS, nilS, col, rfl, Nat.zero_le _, HA.out, HC.out, Nat.zero_le _, PW.out⟩
      case round =>
        clear PW HA HC
        obtain ⟨j, A, C, Os, u, v, col, rfl, hj, hA, hC, hO, pw⟩ := hrel
        by_cases hlt : j < sn
        · have hlt' : (j : Int) < (sn : Int) := by omega
          obtain ⟨ob, oo, e, hcs⟩ := HS.out j (by rw [HSN.out]; exact hlt)
          subst e
          have hgd := HGS.out _ (List.getElem_mem (l := ss) (n := j) (by rw [HSN.out]; exact hlt))
          generalize ss[j]'(by rw [HSN.out]; exact hlt) = s9 at hcs hgd
          obtain ⟨kind, on, leave, ts, us, upto⟩ := s9
          have ST := hide (step_whole w wr b (n + j) A C Os u v col ⟨kind, on, leave, ts, us, upto⟩ pw hgd.1 hgd.2 hA hC (by have := HB.out; have := HSB.out; omega) hO)
          have SW : Hid (wrap64 ((j : Int) + 1) = ((j + 1 : Nat) : Int)) := hide (by have := HSB.out; unfold wrap64; omega)
          have OPC : Hid (∀ i (hi : i < 12), wr.cell? ⟨ob, oo + j * 12 + i, none⟩ = some (sc ⟨kind, on, leave, ts, us, upto⟩)[i]) := hide (fun i hi => (pw.calm.cell (p := ⟨ob, oo + j * 12 + i, none⟩) (lt_of_cell (hcs i hi)) (fun h => h)).trans (hcs i hi))
          have d0 : wr.cell? ⟨ob, oo + j * 12, none⟩ = some (.int .i64 kind) := OPC.out 0 (by decide)
          have d1 : wr.cell? ⟨ob, oo + j * 12 + 1, none⟩ = some (.int .i64 on) := OPC.out 1 (by decide)
          have d2 : wr.cell? ⟨ob, oo + j * 12 + 2, none⟩ = some (.int .i64 leave) := OPC.out 2 (by decide)
          have d3 : wr.cell? ⟨ob, oo + j * 12 + 3, none⟩ = some (.int .i64 ts.at_) := OPC.out 3 (by decide)
          have d4 : wr.cell? ⟨ob, oo + j * 12 + 4, none⟩ = some (.string ts.key) := OPC.out 4 (by decide)
          have d5 : wr.cell? ⟨ob, oo + j * 12 + 5, none⟩ = some (.int .i64 ts.start) := OPC.out 5 (by decide)
          have d6 : wr.cell? ⟨ob, oo + j * 12 + 6, none⟩ = some (.int .i64 ts.stop) := OPC.out 6 (by decide)
          have d7 : wr.cell? ⟨ob, oo + j * 12 + 7, none⟩ = some (.int .i64 us.at_) := OPC.out 7 (by decide)
          have d8 : wr.cell? ⟨ob, oo + j * 12 + 8, none⟩ = some (.string us.key) := OPC.out 8 (by decide)
          have d9 : wr.cell? ⟨ob, oo + j * 12 + 9, none⟩ = some (.int .i64 us.start) := OPC.out 9 (by decide)
          have d10 : wr.cell? ⟨ob, oo + j * 12 + 10, none⟩ = some (.int .i64 us.stop) := OPC.out 10 (by decide)
          have d11 : wr.cell? ⟨ob, oo + j * 12 + 11, none⟩ = some (.int .i64 upto) := OPC.out 11 (by decide)
          clear pw hA hC hO hcs hgd OPC
          go_wp2_with fail
          refine ST.out.mono ?_
          rintro e w2 ⟨rfl, A', C', Os', u', v', col', pw', ha', hc', ho'⟩
          have PW' := hide pw'
          have HL' : Hid (A'.L.length ≤ n + (j + 1) ∧ C'.L.length ≤ n + (j + 1) ∧ Os'.length ≤ 20) := hide ⟨by omega, by omega, ho'⟩
          clear pw' ha' hc' ho' ST d0 d1 d2 d3 d4 d5 d6 d7 d8 d9 d10 d11
          go_wp2_with fail
          go_roundw
          case rel => exact ⟨j + 1, A', C', Os', u', v', col', by rw [SW.out], hlt, HL'.out.1, HL'.out.2.1, HL'.out.2.2, PW'.out⟩
          case measure => rw [SW.out]; simp [intOf]; omega
        · have e : j = sn := by omega
          subst e
          have PF0 : Hid (∃ (A C : Od) (Os : List Od) (u v : Value) (col : Nat → Nat), Os.length ≤ 20 ∧ Pf w b A C Os Os u v col wr) := hide ⟨A, C, Os, u, v, col, hO, pw.pf⟩
          clear pw hA hC hO hlt hj A C Os u v col
          go_wp2_with fail
          go_loopw [11] (fun v11 wx => (v11 = .int .i64 0 ∧ ∃ (A C : Od) (Os : List Od) (u v : Value) (col : Nat → Nat), Os.length ≤ 20 ∧ Pf w b A C Os Os u v col wx) ∨ (v11 = .int .i64 1 ∧ ∃ (A C : Od) (Os : List Od) (u v : Value) (col : Nat → Nat), Os.length ≤ 21 ∧ Pf w b A C Os Os u v col wx) ∨ (v11 = .int .i64 2 ∧ ∃ (A C : Od) (Os : List Od) (u v : Value) (col : Nat → Nat), Os.length ≤ 22 ∧ Pf w b A C Os Os u v col wx)) (fun v _ => 2 - (intOf v).toNat)
          case atStart => exact .inl ⟨rfl, PF0.out⟩
          case round =>
            clear PF0
            rcases hrel with ⟨rfl, A, C, Os, u, v, col, hO, pf⟩ | ⟨rfl, A, C, Os, u, v, col, hO, pf⟩ | ⟨rfl, A, C, Os, u, v, col, hO, pf⟩
            · obtain ⟨uo, uc, eu⟩ := own_shape pf.ru
              obtain ⟨vo, vc, ev⟩ := own_shape pf.rv
              obtain ⟨m, em⟩ : ∃ m, Os.length = m := ⟨_, rfl⟩
              rw [em] at eu ev
              subst eu ev
              have PF := hide pf
              have HM := hide em
              have HM2 : Hid (m ≤ 20) := hide (by omega)
              obtain ⟨wv, ewv⟩ : ∃ wv, wv = wr := ⟨_, rfl⟩
              subst ewv
              clear pf em hO
              go_wp2_with fail
              have OBX := hide PF.out.own
              have HNB : Hid (¬ (Value.slice uo m uc).ownBlock = some b) := hide (fun e => by have h1 := PF.out.uc b e; have h2 := PF.out.bc; omega)
              have RX := hide PF.out.ru
              rw [HM.out] at RX
              refine wp_only ?_
              refine wp_region_z 15 (Touch (fun x => (Value.slice uo m uc).ownBlock = some x) wv) (by kernel_rfl) ?_
              have hS0 : Touch (fun x => (Value.slice uo m uc).ownBlock = some x) wv { wv with drawn := wv.drawn + 1 } := (Touch.refl _ wv).drew
              have hC0 : Calm wv { wv with drawn := wv.drawn + 1 } := (Touch.refl (fun _ => False) wv).drew
              generalize ({ wv with drawn := wv.drawn + 1 } : World) = x3 at *
              refine wpAnyZ_yield 0 105 (.pointer (some ⟨b, 0, none⟩)) [15] rfl rfl (by kernel_rfl) (by kernel_rfl) (by kernel_rfl) (by kernel_rfl) (by kernel_rfl) (fun _ _ _ h => h) (by kernel_rfl) (fun W hW => by kernel_rfl) (by assumption) rfl rfl ?_
              simp only [Act.put, List.setIfInBounds_toArray, List.set_cons_zero, List.set_cons_succ]
              refine wpAnyZ_yield 1 106 (.pointer (some ⟨b, 0, none⟩)) [15] rfl rfl (by kernel_rfl) (by kernel_rfl) (by kernel_rfl) (by kernel_rfl) (by kernel_rfl) (fun _ _ _ h => h) (by kernel_rfl) (fun W hW => by kernel_rfl) (by assumption) rfl rfl ?_
              simp only [Act.put, List.setIfInBounds_toArray, List.set_cons_zero, List.set_cons_succ]
              refine wpAnyZ_yield 2 107 (.pointer (some ⟨b, 0, none⟩)) [15] rfl rfl (by kernel_rfl) (by kernel_rfl) (by kernel_rfl) (by kernel_rfl) (by kernel_rfl) (fun _ _ _ h => h) (by kernel_rfl) (fun W hW => by go_simp) (by assumption) rfl rfl ?_
              simp only [Act.put, List.setIfInBounds_toArray, List.set_cons_zero, List.set_cons_succ]
              refine wpAnyZ_yield 3 108 (.pointer (some ⟨b, 4, none⟩)) [15] rfl rfl (by kernel_rfl) (by kernel_rfl) (by kernel_rfl) (by kernel_rfl) (by kernel_rfl) (fun _ _ _ h => h) (by kernel_rfl) (fun W hW => by go_simp) (by assumption) rfl rfl ?_
              simp only [Act.put, List.setIfInBounds_toArray, List.set_cons_zero, List.set_cons_succ]
              refine wpAnyZ_yield 4 109 (.slice uo m uc) [15] rfl rfl (by kernel_rfl) (by kernel_rfl) (by kernel_rfl) (by kernel_rfl) (by kernel_rfl) (fun _ _ _ h => h) (by kernel_rfl) (fun W hW => by obtain ⟨e0, e1, e2, e3, e4, e5⟩ := cells6 (hW.heap OBX.out HNB.out); go_simp) (by assumption) rfl rfl ?_
              simp only [Act.put, List.setIfInBounds_toArray, List.set_cons_zero, List.set_cons_succ]
              refine wpAnyZ_yield 5 110 (.pointer (some ⟨b, 0, none⟩)) [15] rfl rfl (by kernel_rfl) (by kernel_rfl) (by kernel_rfl) (by kernel_rfl) (by kernel_rfl) (fun _ _ _ h => h) (by kernel_rfl) (fun W hW => by kernel_rfl) (by assumption) rfl rfl ?_
              simp only [Act.put, List.setIfInBounds_toArray, List.set_cons_zero, List.set_cons_succ]
              refine wpAnyZ_yield 6 111 (.int .i64 0) [15] rfl rfl (by kernel_rfl) (by kernel_rfl) (by kernel_rfl) (by kernel_rfl) (by kernel_rfl) (fun _ _ _ h => h) (by kernel_rfl) (fun W hW => by kernel_rfl) (by assumption) rfl rfl ?_
              simp only [Act.put, List.setIfInBounds_toArray, List.set_cons_zero, List.set_cons_succ]
              refine wpAnyZ_yield 7 112 (.pointer (some ⟨b, 0, none⟩)) [15] rfl rfl (by kernel_rfl) (by kernel_rfl) (by kernel_rfl) (by kernel_rfl) (by kernel_rfl) (fun _ _ _ h => h) (by kernel_rfl) (fun W hW => by go_simp) (by assumption) rfl rfl ?_
              simp only [Act.put, List.setIfInBounds_toArray, List.set_cons_zero, List.set_cons_succ]
              refine wpAnyZ_yield 8 113 (.pointer (some ⟨b, 0, none⟩)) [15] rfl rfl (by kernel_rfl) (by kernel_rfl) (by kernel_rfl) (by kernel_rfl) (by kernel_rfl) (fun _ _ _ h => h) (by kernel_rfl) (fun W hW => by go_simp) (by assumption) rfl rfl ?_
              simp only [Act.put, List.setIfInBounds_toArray, List.set_cons_zero, List.set_cons_succ]
              refine wpAnyZ_yield 9 114 (.pointer (some ⟨b, 0, none⟩)) [15] rfl rfl (by kernel_rfl) (by kernel_rfl) (by kernel_rfl) (by kernel_rfl) (by kernel_rfl) (fun _ _ _ h => h) (by kernel_rfl) (fun W hW => by go_simp) (by assumption) rfl rfl ?_
              simp only [Act.put, List.setIfInBounds_toArray, List.set_cons_zero, List.set_cons_succ]
              refine wpAnyZ_yield 10 115 (A.ptr) [15] rfl rfl (by kernel_rfl) (by kernel_rfl) (by kernel_rfl) (by kernel_rfl) (by kernel_rfl) (fun _ _ _ h => h) (by kernel_rfl) (fun W hW => by obtain ⟨e0, e1, e2, e3, e4, e5⟩ := cells6 (hW.heap OBX.out HNB.out); go_simp) (by assumption) rfl rfl ?_
              simp only [Act.put, List.setIfInBounds_toArray, List.set_cons_zero, List.set_cons_succ]
              obtain ⟨no, nc, x5, hr5, rx5, t5, loc5⟩ := run_vapp Try.underlying28 infoPtr rfl (by decide) x3 w.heap.size 28 (.slice uo m uc) (Os.map Od.ptr) (by rw [List.length_map, HM.out]; exact own_touch RX.out hC0 (fun _ _ h => h)) (A.ptr) rfl (by rw [List.length_map, HM.out]; have := HM2.out; omega) (Nat.le_trans PF.out.calm.size hC0.size)
              rw [List.length_map, HM.out] at hr5 rx5 loc5
              have tA5 : Calm x3 (x3.alloc (.cells #[A.ptr] 25)) := (Touch.refl _ _).alloc _
              refine wpAnyZ_value 11 116 (.slice (some ⟨x3.heap.size, 0, none⟩) 1 1) (w' := x3.alloc (.cells #[A.ptr] 25)) rfl rfl (by decide) (by kernel_rfl) (by kernel_rfl) (by go_simp) (hS0.alloc _) ?_
              simp only [Act.put, List.setIfInBounds_toArray, List.set_cons_zero, List.set_cons_succ]
              have hS5 : Touch (fun x => (Value.slice uo m uc).ownBlock = some x) wv x5 := hS0.trans t5 (fun _ _ h => h)
              obtain ⟨m1, em1⟩ : ∃ m1, m1 = m + 1 := ⟨_, rfl⟩
              have HM1 := hide em1
              rw [← em1] at hr5 rx5 loc5
              clear em1
              refine wpAnyZ_value 12 117 (.slice no m1 nc) (w' := x5) rfl rfl (by decide) (by kernel_rfl) (by kernel_rfl) (exec_tapp rfl hr5) hS5 ?_
              simp only [Act.put, List.setIfInBounds_toArray, List.set_cons_zero, List.set_cons_succ]
              refine wpAnyZ_yield 13 118 (.pointer (some ⟨b, 0, none⟩)) [14,15] rfl rfl (by kernel_rfl) (by kernel_rfl) (by kernel_rfl) (by kernel_rfl) (by kernel_rfl) (fun _ _ _ h => h) (by kernel_rfl) (fun W hW => by go_simp) (by assumption) rfl rfl ?_
              simp only [Act.put, List.setIfInBounds_toArray, List.set_cons_zero, List.set_cons_succ]
              refine wpAnyZ_yield 14 119 (.pointer (some ⟨b, 4, none⟩)) [15] rfl rfl (by kernel_rfl) (by kernel_rfl) (by kernel_rfl) (by kernel_rfl) (by kernel_rfl) (fun _ _ _ h => h) (by kernel_rfl) (fun W hW => by go_simp) (by assumption) rfl rfl ?_
              simp only [Act.put, List.setIfInBounds_toArray, List.set_cons_zero, List.set_cons_succ]
              refine wpAnyZ_end rfl (by kernel_rfl) (by kernel_rfl) (by kernel_rfl) ?_
              have OW5 := hS5.heap OBX.out HNB.out
              obtain ⟨e0, e1, e2, e3, e4, e5⟩ := cells6 OW5
              have fz : x5.frozen? ⟨b, 4, none⟩ = false := by simp [World.frozen?, OW5]
              unfold Oper.wp
              go_simp
              rw [onlyN_normal]
              have o6 := heap_setCell_row (i := 4) OW5 (.slice no m1 nc)
              simp at o6
              have t6s : Touch (fun x => x = b) x5 (x5.setCell ⟨b, 4, none⟩ (.slice no m1 nc)) := (Touch.refl (fun x => x = b) x5).setCell (p := ⟨b, 4, none⟩) (fun _ => rfl) _
              have RX6 := own_touch rx5 t6s (fun x hx e => by
                subst e
                obtain ⟨_, cur, hc⟩ := own_block rx5 hx
                exact tags hc OW5 (by decide) rfl)
              obtain ⟨col6, pf6⟩ := PF.out.more (C := A) (.inl rfl) ((hS5.mono (fun _ _ h => .inl h)).trans t6s (fun _ _ h => .inr h)) o6 (by rw [HM.out, ← HM1.out]; exact RX6) (fun x hx => (loc5 x hx).imp id (fun h => Nat.le_trans hC0.size h))
              have PF6 := hide pf6
              generalize x5.setCell ⟨b, 4, none⟩ (.slice no m1 nc) = w6 at *
              clear PF OBX HNB RX hS0 hC0 hr5 rx5 t5 loc5 tA5 hS5 OW5 e0 e1 e2 e3 e4 e5 fz o6 t6s RX6 pf6
              obtain ⟨Ps, ePs⟩ : ∃ Ps, Os = Ps := ⟨_, rfl⟩
              have PF : Hid (Pf w b A C (Os ++ [A]) Ps (.slice no m1 nc) (.slice vo m vc) col6 w6) := hide (by have h9 := PF6.out; rw [ePs] at h9 ⊢; exact h9)
              have HMP : Hid (Ps.length = m) := hide (by rw [← ePs]; exact HM.out)
              have EPS := hide ePs
              have HM1u := hide HM1.out
              obtain ⟨no1, eno⟩ : ∃ x, x = no := ⟨_, rfl⟩
              subst eno
              obtain ⟨nc1, enc⟩ : ∃ x, x = nc := ⟨_, rfl⟩
              subst enc
              obtain ⟨m2, em2⟩ : ∃ x, x = m1 := ⟨_, rfl⟩
              subst em2
              clear ePs PF6 HM1
              go_wp2_with fail
              obtain ⟨wv, ewv⟩ : ∃ wv, wv = w6 := ⟨_, rfl⟩
              subst ewv
              have OBX := hide PF.out.own
              have HNB : Hid (¬ (Value.slice vo m vc).ownBlock = some b) := hide (fun e => by have h1 := PF.out.vc b e; have h2 := PF.out.bc; omega)
              have RX := hide PF.out.rv
              rw [HMP.out] at RX
              refine wp_only ?_
              refine wp_region_z 15 (Touch (fun x => (Value.slice vo m vc).ownBlock = some x) wv) (by kernel_rfl) ?_
              have hS0 : Touch (fun x => (Value.slice vo m vc).ownBlock = some x) wv { wv with drawn := wv.drawn + 1 } := (Touch.refl _ wv).drew
              have hC0 : Calm wv { wv with drawn := wv.drawn + 1 } := (Touch.refl (fun _ => False) wv).drew
              generalize ({ wv with drawn := wv.drawn + 1 } : World) = x3 at *
              refine wpAnyZ_yield 0 120 (.pointer (some ⟨b, 0, none⟩)) [15] rfl rfl (by kernel_rfl) (by kernel_rfl) (by kernel_rfl) (by kernel_rfl) (by kernel_rfl) (fun _ _ _ h => h) (by kernel_rfl) (fun W hW => by kernel_rfl) (by assumption) rfl rfl ?_
              simp only [Act.put, List.setIfInBounds_toArray, List.set_cons_zero, List.set_cons_succ]
              refine wpAnyZ_yield 1 121 (.pointer (some ⟨b, 0, none⟩)) [15] rfl rfl (by kernel_rfl) (by kernel_rfl) (by kernel_rfl) (by kernel_rfl) (by kernel_rfl) (fun _ _ _ h => h) (by kernel_rfl) (fun W hW => by kernel_rfl) (by assumption) rfl rfl ?_
              simp only [Act.put, List.setIfInBounds_toArray, List.set_cons_zero, List.set_cons_succ]
              refine wpAnyZ_yield 2 122 (.pointer (some ⟨b, 0, none⟩)) [15] rfl rfl (by kernel_rfl) (by kernel_rfl) (by kernel_rfl) (by kernel_rfl) (by kernel_rfl) (fun _ _ _ h => h) (by kernel_rfl) (fun W hW => by go_simp) (by assumption) rfl rfl ?_
              simp only [Act.put, List.setIfInBounds_toArray, List.set_cons_zero, List.set_cons_succ]
              refine wpAnyZ_yield 3 123 (.pointer (some ⟨b, 5, none⟩)) [15] rfl rfl (by kernel_rfl) (by kernel_rfl) (by kernel_rfl) (by kernel_rfl) (by kernel_rfl) (fun _ _ _ h => h) (by kernel_rfl) (fun W hW => by go_simp) (by assumption) rfl rfl ?_
              simp only [Act.put, List.setIfInBounds_toArray, List.set_cons_zero, List.set_cons_succ]
              refine wpAnyZ_yield 4 124 (.slice vo m vc) [15] rfl rfl (by kernel_rfl) (by kernel_rfl) (by kernel_rfl) (by kernel_rfl) (by kernel_rfl) (fun _ _ _ h => h) (by kernel_rfl) (fun W hW => by obtain ⟨e0, e1, e2, e3, e4, e5⟩ := cells6 (hW.heap OBX.out HNB.out); go_simp) (by assumption) rfl rfl ?_
              simp only [Act.put, List.setIfInBounds_toArray, List.set_cons_zero, List.set_cons_succ]
              refine wpAnyZ_yield 5 125 (.pointer (some ⟨b, 0, none⟩)) [15] rfl rfl (by kernel_rfl) (by kernel_rfl) (by kernel_rfl) (by kernel_rfl) (by kernel_rfl) (fun _ _ _ h => h) (by kernel_rfl) (fun W hW => by kernel_rfl) (by assumption) rfl rfl ?_
              simp only [Act.put, List.setIfInBounds_toArray, List.set_cons_zero, List.set_cons_succ]
              refine wpAnyZ_yield 6 126 (.int .i64 0) [15] rfl rfl (by kernel_rfl) (by kernel_rfl) (by kernel_rfl) (by kernel_rfl) (by kernel_rfl) (fun _ _ _ h => h) (by kernel_rfl) (fun W hW => by kernel_rfl) (by assumption) rfl rfl ?_
              simp only [Act.put, List.setIfInBounds_toArray, List.set_cons_zero, List.set_cons_succ]
              refine wpAnyZ_yield 7 127 (.pointer (some ⟨b, 0, none⟩)) [15] rfl rfl (by kernel_rfl) (by kernel_rfl) (by kernel_rfl) (by kernel_rfl) (by kernel_rfl) (fun _ _ _ h => h) (by kernel_rfl) (fun W hW => by go_simp) (by assumption) rfl rfl ?_
              simp only [Act.put, List.setIfInBounds_toArray, List.set_cons_zero, List.set_cons_succ]
              refine wpAnyZ_yield 8 128 (.pointer (some ⟨b, 2, none⟩)) [15] rfl rfl (by kernel_rfl) (by kernel_rfl) (by kernel_rfl) (by kernel_rfl) (by kernel_rfl) (fun _ _ _ h => h) (by kernel_rfl) (fun W hW => by go_simp) (by assumption) rfl rfl ?_
              simp only [Act.put, List.setIfInBounds_toArray, List.set_cons_zero, List.set_cons_succ]
              refine wpAnyZ_yield 9 129 (.pointer (some ⟨b, 2, none⟩)) [15] rfl rfl (by kernel_rfl) (by kernel_rfl) (by kernel_rfl) (by kernel_rfl) (by kernel_rfl) (fun _ _ _ h => h) (by kernel_rfl) (fun W hW => by go_simp) (by assumption) rfl rfl ?_
              simp only [Act.put, List.setIfInBounds_toArray, List.set_cons_zero, List.set_cons_succ]
              refine wpAnyZ_yield 10 130 (A.sl) [15] rfl rfl (by kernel_rfl) (by kernel_rfl) (by kernel_rfl) (by kernel_rfl) (by kernel_rfl) (fun _ _ _ h => h) (by kernel_rfl) (fun W hW => by obtain ⟨e0, e1, e2, e3, e4, e5⟩ := cells6 (hW.heap OBX.out HNB.out); go_simp) (by assumption) rfl rfl ?_
              simp only [Act.put, List.setIfInBounds_toArray, List.set_cons_zero, List.set_cons_succ]
              obtain ⟨no, nc, x5, hr5, rx5, t5, loc5⟩ := run_vapp Try.underlying29 infoSl rfl (by decide) x3 w.heap.size 29 (.slice vo m vc) (Ps.map Od.sl) (by rw [List.length_map, HMP.out]; exact own_touch RX.out hC0 (fun _ _ h => h)) (A.sl) rfl (by rw [List.length_map, HMP.out]; have := HM2.out; omega) (Nat.le_trans PF.out.calm.size hC0.size)
              rw [List.length_map, HMP.out] at hr5 rx5 loc5
              have tA5 : Calm x3 (x3.alloc (.cells #[A.sl] 22)) := (Touch.refl _ _).alloc _
              refine wpAnyZ_value 11 131 (.slice (some ⟨x3.heap.size, 0, none⟩) 1 1) (w' := x3.alloc (.cells #[A.sl] 22)) rfl rfl (by decide) (by kernel_rfl) (by kernel_rfl) (by go_simp) (hS0.alloc _) ?_
              simp only [Act.put, List.setIfInBounds_toArray, List.set_cons_zero, List.set_cons_succ]
              have hS5 : Touch (fun x => (Value.slice vo m vc).ownBlock = some x) wv x5 := hS0.trans t5 (fun _ _ h => h)
              obtain ⟨m1, em1⟩ : ∃ m1, m1 = m + 1 := ⟨_, rfl⟩
              have HM1 := hide em1
              rw [← em1] at hr5 rx5 loc5
              clear em1
              refine wpAnyZ_value 12 132 (.slice no m1 nc) (w' := x5) rfl rfl (by decide) (by kernel_rfl) (by kernel_rfl) (exec_tapp rfl hr5) hS5 ?_
              simp only [Act.put, List.setIfInBounds_toArray, List.set_cons_zero, List.set_cons_succ]
              refine wpAnyZ_yield 13 133 (.pointer (some ⟨b, 0, none⟩)) [14,15] rfl rfl (by kernel_rfl) (by kernel_rfl) (by kernel_rfl) (by kernel_rfl) (by kernel_rfl) (fun _ _ _ h => h) (by kernel_rfl) (fun W hW => by go_simp) (by assumption) rfl rfl ?_
              simp only [Act.put, List.setIfInBounds_toArray, List.set_cons_zero, List.set_cons_succ]
              refine wpAnyZ_yield 14 134 (.pointer (some ⟨b, 5, none⟩)) [15] rfl rfl (by kernel_rfl) (by kernel_rfl) (by kernel_rfl) (by kernel_rfl) (by kernel_rfl) (fun _ _ _ h => h) (by kernel_rfl) (fun W hW => by go_simp) (by assumption) rfl rfl ?_
              simp only [Act.put, List.setIfInBounds_toArray, List.set_cons_zero, List.set_cons_succ]
              refine wpAnyZ_end rfl (by kernel_rfl) (by kernel_rfl) (by kernel_rfl) ?_
              have OW5 := hS5.heap OBX.out HNB.out
              obtain ⟨e0, e1, e2, e3, e4, e5⟩ := cells6 OW5
              have fz : x5.frozen? ⟨b, 5, none⟩ = false := by simp [World.frozen?, OW5]
              unfold Oper.wp
              go_simp
              rw [onlyN_normal]
              have o6 := heap_setCell_row (i := 5) OW5 (.slice no m1 nc)
              simp at o6
              have t6s : Touch (fun x => x = b) x5 (x5.setCell ⟨b, 5, none⟩ (.slice no m1 nc)) := (Touch.refl (fun x => x = b) x5).setCell (p := ⟨b, 5, none⟩) (fun _ => rfl) _
              have RX6 := own_touch rx5 t6s (fun x hx e => by
                subst e
                obtain ⟨_, cur, hc⟩ := own_block rx5 hx
                exact tags hc OW5 (by decide) rfl)
              obtain ⟨col6, pf6⟩ := PF.out.last (C := A) (.inl rfl) ((hS5.mono (fun _ _ h => .inl h)).trans t6s (fun _ _ h => .inr h)) o6 (by rw [HMP.out, ← HM1.out]; exact RX6) (fun x hx => (loc5 x hx).imp id (fun h => Nat.le_trans hC0.size h))
              have PF6 := hide pf6
              generalize x5.setCell ⟨b, 5, none⟩ (.slice no m1 nc) = w6 at *
              clear PF OBX HNB RX hS0 hC0 hr5 rx5 t5 loc5 tA5 hS5 OW5 e0 e1 e2 e3 e4 e5 fz o6 t6s RX6 pf6
              have RES : Hid (∃ (A' C' : Od) (Os' : List Od) (u' v' : Value) (col' : Nat → Nat), Os'.length ≤ 21 ∧ Pf w b A' C' Os' Os' u' v' col' w6) := hide ⟨A, C, Os ++ [A], _, _, col6, by rw [List.length_append, HM.out]; have := HM2.out; simp; omega, by have h9 := PF6.out; rw [← EPS.out] at h9; exact h9⟩
              clear PF6
              go_wp2_with fail
              go_roundw
              case rel => exact .inr (.inl ⟨rfl, RES.out⟩)
              case measure => simp [intOf]
            · obtain ⟨uo, uc, eu⟩ := own_shape pf.ru
              obtain ⟨vo, vc, ev⟩ := own_shape pf.rv
              obtain ⟨m, em⟩ : ∃ m, Os.length = m := ⟨_, rfl⟩
              rw [em] at eu ev
              subst eu ev
              have PF := hide pf
              have HM := hide em
              have HM2 : Hid (m ≤ 21) := hide (by omega)
              obtain ⟨wv, ewv⟩ : ∃ wv, wv = wr := ⟨_, rfl⟩
              subst ewv
              clear pf em hO
              go_wp2_with fail
              have OBX := hide PF.out.own
              have HNB : Hid (¬ (Value.slice uo m uc).ownBlock = some b) := hide (fun e => by have h1 := PF.out.uc b e; have h2 := PF.out.bc; omega)
              have RX := hide PF.out.ru
              rw [HM.out] at RX
              refine wp_only ?_
              refine wp_region_z 15 (Touch (fun x => (Value.slice uo m uc).ownBlock = some x) wv) (by kernel_rfl) ?_
              have hS0 : Touch (fun x => (Value.slice uo m uc).ownBlock = some x) wv { wv with drawn := wv.drawn + 1 } := (Touch.refl _ wv).drew
              have hC0 : Calm wv { wv with drawn := wv.drawn + 1 } := (Touch.refl (fun _ => False) wv).drew
              generalize ({ wv with drawn := wv.drawn + 1 } : World) = x3 at *
              refine wpAnyZ_yield 0 105 (.pointer (some ⟨b, 0, none⟩)) [15] rfl rfl (by kernel_rfl) (by kernel_rfl) (by kernel_rfl) (by kernel_rfl) (by kernel_rfl) (fun _ _ _ h => h) (by kernel_rfl) (fun W hW => by kernel_rfl) (by assumption) rfl rfl ?_
              simp only [Act.put, List.setIfInBounds_toArray, List.set_cons_zero, List.set_cons_succ]
              refine wpAnyZ_yield 1 106 (.pointer (some ⟨b, 0, none⟩)) [15] rfl rfl (by kernel_rfl) (by kernel_rfl) (by kernel_rfl) (by kernel_rfl) (by kernel_rfl) (fun _ _ _ h => h) (by kernel_rfl) (fun W hW => by kernel_rfl) (by assumption) rfl rfl ?_
              simp only [Act.put, List.setIfInBounds_toArray, List.set_cons_zero, List.set_cons_succ]
              refine wpAnyZ_yield 2 107 (.pointer (some ⟨b, 0, none⟩)) [15] rfl rfl (by kernel_rfl) (by kernel_rfl) (by kernel_rfl) (by kernel_rfl) (by kernel_rfl) (fun _ _ _ h => h) (by kernel_rfl) (fun W hW => by go_simp) (by assumption) rfl rfl ?_
              simp only [Act.put, List.setIfInBounds_toArray, List.set_cons_zero, List.set_cons_succ]
              refine wpAnyZ_yield 3 108 (.pointer (some ⟨b, 4, none⟩)) [15] rfl rfl (by kernel_rfl) (by kernel_rfl) (by kernel_rfl) (by kernel_rfl) (by kernel_rfl) (fun _ _ _ h => h) (by kernel_rfl) (fun W hW => by go_simp) (by assumption) rfl rfl ?_
              simp only [Act.put, List.setIfInBounds_toArray, List.set_cons_zero, List.set_cons_succ]
              refine wpAnyZ_yield 4 109 (.slice uo m uc) [15] rfl rfl (by kernel_rfl) (by kernel_rfl) (by kernel_rfl) (by kernel_rfl) (by kernel_rfl) (fun _ _ _ h => h) (by kernel_rfl) (fun W hW => by obtain ⟨e0, e1, e2, e3, e4, e5⟩ := cells6 (hW.heap OBX.out HNB.out); go_simp) (by assumption) rfl rfl ?_
              simp only [Act.put, List.setIfInBounds_toArray, List.set_cons_zero, List.set_cons_succ]
              refine wpAnyZ_yield 5 110 (.pointer (some ⟨b, 0, none⟩)) [15] rfl rfl (by kernel_rfl) (by kernel_rfl) (by kernel_rfl) (by kernel_rfl) (by kernel_rfl) (fun _ _ _ h => h) (by kernel_rfl) (fun W hW => by kernel_rfl) (by assumption) rfl rfl ?_
              simp only [Act.put, List.setIfInBounds_toArray, List.set_cons_zero, List.set_cons_succ]
              refine wpAnyZ_yield 6 111 (.int .i64 1) [15] rfl rfl (by kernel_rfl) (by kernel_rfl) (by kernel_rfl) (by kernel_rfl) (by kernel_rfl) (fun _ _ _ h => h) (by kernel_rfl) (fun W hW => by kernel_rfl) (by assumption) rfl rfl ?_
              simp only [Act.put, List.setIfInBounds_toArray, List.set_cons_zero, List.set_cons_succ]
              refine wpAnyZ_yield 7 112 (.pointer (some ⟨b, 0, none⟩)) [15] rfl rfl (by kernel_rfl) (by kernel_rfl) (by kernel_rfl) (by kernel_rfl) (by kernel_rfl) (fun _ _ _ h => h) (by kernel_rfl) (fun W hW => by go_simp) (by assumption) rfl rfl ?_
              simp only [Act.put, List.setIfInBounds_toArray, List.set_cons_zero, List.set_cons_succ]
              refine wpAnyZ_yield 8 113 (.pointer (some ⟨b, 0, none⟩)) [15] rfl rfl (by kernel_rfl) (by kernel_rfl) (by kernel_rfl) (by kernel_rfl) (by kernel_rfl) (fun _ _ _ h => h) (by kernel_rfl) (fun W hW => by go_simp) (by assumption) rfl rfl ?_
              simp only [Act.put, List.setIfInBounds_toArray, List.set_cons_zero, List.set_cons_succ]
              refine wpAnyZ_yield 9 114 (.pointer (some ⟨b, 1, none⟩)) [15] rfl rfl (by kernel_rfl) (by kernel_rfl) (by kernel_rfl) (by kernel_rfl) (by kernel_rfl) (fun _ _ _ h => h) (by kernel_rfl) (fun W hW => by go_simp) (by assumption) rfl rfl ?_
              simp only [Act.put, List.setIfInBounds_toArray, List.set_cons_zero, List.set_cons_succ]
              refine wpAnyZ_yield 10 115 (C.ptr) [15] rfl rfl (by kernel_rfl) (by kernel_rfl) (by kernel_rfl) (by kernel_rfl) (by kernel_rfl) (fun _ _ _ h => h) (by kernel_rfl) (fun W hW => by obtain ⟨e0, e1, e2, e3, e4, e5⟩ := cells6 (hW.heap OBX.out HNB.out); go_simp) (by assumption) rfl rfl ?_
              simp only [Act.put, List.setIfInBounds_toArray, List.set_cons_zero, List.set_cons_succ]
              obtain ⟨no, nc, x5, hr5, rx5, t5, loc5⟩ := run_vapp Try.underlying28 infoPtr rfl (by decide) x3 w.heap.size 28 (.slice uo m uc) (Os.map Od.ptr) (by rw [List.length_map, HM.out]; exact own_touch RX.out hC0 (fun _ _ h => h)) (C.ptr) rfl (by rw [List.length_map, HM.out]; have := HM2.out; omega) (Nat.le_trans PF.out.calm.size hC0.size)
              rw [List.length_map, HM.out] at hr5 rx5 loc5
              have tA5 : Calm x3 (x3.alloc (.cells #[C.ptr] 25)) := (Touch.refl _ _).alloc _
              refine wpAnyZ_value 11 116 (.slice (some ⟨x3.heap.size, 0, none⟩) 1 1) (w' := x3.alloc (.cells #[C.ptr] 25)) rfl rfl (by decide) (by kernel_rfl) (by kernel_rfl) (by go_simp) (hS0.alloc _) ?_
              simp only [Act.put, List.setIfInBounds_toArray, List.set_cons_zero, List.set_cons_succ]
              have hS5 : Touch (fun x => (Value.slice uo m uc).ownBlock = some x) wv x5 := hS0.trans t5 (fun _ _ h => h)
              obtain ⟨m1, em1⟩ : ∃ m1, m1 = m + 1 := ⟨_, rfl⟩
              have HM1 := hide em1
              rw [← em1] at hr5 rx5 loc5
              clear em1
              refine wpAnyZ_value 12 117 (.slice no m1 nc) (w' := x5) rfl rfl (by decide) (by kernel_rfl) (by kernel_rfl) (exec_tapp rfl hr5) hS5 ?_
              simp only [Act.put, List.setIfInBounds_toArray, List.set_cons_zero, List.set_cons_succ]
              refine wpAnyZ_yield 13 118 (.pointer (some ⟨b, 0, none⟩)) [14,15] rfl rfl (by kernel_rfl) (by kernel_rfl) (by kernel_rfl) (by kernel_rfl) (by kernel_rfl) (fun _ _ _ h => h) (by kernel_rfl) (fun W hW => by go_simp) (by assumption) rfl rfl ?_
              simp only [Act.put, List.setIfInBounds_toArray, List.set_cons_zero, List.set_cons_succ]
              refine wpAnyZ_yield 14 119 (.pointer (some ⟨b, 4, none⟩)) [15] rfl rfl (by kernel_rfl) (by kernel_rfl) (by kernel_rfl) (by kernel_rfl) (by kernel_rfl) (fun _ _ _ h => h) (by kernel_rfl) (fun W hW => by go_simp) (by assumption) rfl rfl ?_
              simp only [Act.put, List.setIfInBounds_toArray, List.set_cons_zero, List.set_cons_succ]
              refine wpAnyZ_end rfl (by kernel_rfl) (by kernel_rfl) (by kernel_rfl) ?_
              have OW5 := hS5.heap OBX.out HNB.out
              obtain ⟨e0, e1, e2, e3, e4, e5⟩ := cells6 OW5
              have fz : x5.frozen? ⟨b, 4, none⟩ = false := by simp [World.frozen?, OW5]
              unfold Oper.wp
              go_simp
              rw [onlyN_normal]
              have o6 := heap_setCell_row (i := 4) OW5 (.slice no m1 nc)
              simp at o6
              have t6s : Touch (fun x => x = b) x5 (x5.setCell ⟨b, 4, none⟩ (.slice no m1 nc)) := (Touch.refl (fun x => x = b) x5).setCell (p := ⟨b, 4, none⟩) (fun _ => rfl) _
              have RX6 := own_touch rx5 t6s (fun x hx e => by
                subst e
                obtain ⟨_, cur, hc⟩ := own_block rx5 hx
                exact tags hc OW5 (by decide) rfl)
              obtain ⟨col6, pf6⟩ := PF.out.more (C := C) (.inr rfl) ((hS5.mono (fun _ _ h => .inl h)).trans t6s (fun _ _ h => .inr h)) o6 (by rw [HM.out, ← HM1.out]; exact RX6) (fun x hx => (loc5 x hx).imp id (fun h => Nat.le_trans hC0.size h))
              have PF6 := hide pf6
              generalize x5.setCell ⟨b, 4, none⟩ (.slice no m1 nc) = w6 at *
              clear PF OBX HNB RX hS0 hC0 hr5 rx5 t5 loc5 tA5 hS5 OW5 e0 e1 e2 e3 e4 e5 fz o6 t6s RX6 pf6
              obtain ⟨Ps, ePs⟩ : ∃ Ps, Os = Ps := ⟨_, rfl⟩
              have PF : Hid (Pf w b A C (Os ++ [C]) Ps (.slice no m1 nc) (.slice vo m vc) col6 w6) := hide (by have h9 := PF6.out; rw [ePs] at h9 ⊢; exact h9)
              have HMP : Hid (Ps.length = m) := hide (by rw [← ePs]; exact HM.out)
              have EPS := hide ePs
              have HM1u := hide HM1.out
              obtain ⟨no1, eno⟩ : ∃ x, x = no := ⟨_, rfl⟩
              subst eno
              obtain ⟨nc1, enc⟩ : ∃ x, x = nc := ⟨_, rfl⟩
              subst enc
              obtain ⟨m2, em2⟩ : ∃ x, x = m1 := ⟨_, rfl⟩
              subst em2
              clear ePs PF6 HM1
              go_wp2_with fail
              obtain ⟨wv, ewv⟩ : ∃ wv, wv = w6 := ⟨_, rfl⟩
              subst ewv
              have OBX := hide PF.out.own
              have HNB : Hid (¬ (Value.slice vo m vc).ownBlock = some b) := hide (fun e => by have h1 := PF.out.vc b e; have h2 := PF.out.bc; omega)
              have RX := hide PF.out.rv
              rw [HMP.out] at RX
              refine wp_only ?_
              refine wp_region_z 15 (Touch (fun x => (Value.slice vo m vc).ownBlock = some x) wv) (by kernel_rfl) ?_
              have hS0 : Touch (fun x => (Value.slice vo m vc).ownBlock = some x) wv { wv with drawn := wv.drawn + 1 } := (Touch.refl _ wv).drew
              have hC0 : Calm wv { wv with drawn := wv.drawn + 1 } := (Touch.refl (fun _ => False) wv).drew
              generalize ({ wv with drawn := wv.drawn + 1 } : World) = x3 at *
              refine wpAnyZ_yield 0 120 (.pointer (some ⟨b, 0, none⟩)) [15] rfl rfl (by kernel_rfl) (by kernel_rfl) (by kernel_rfl) (by kernel_rfl) (by kernel_rfl) (fun _ _ _ h => h) (by kernel_rfl) (fun W hW => by kernel_rfl) (by assumption) rfl rfl ?_
              simp only [Act.put, List.setIfInBounds_toArray, List.set_cons_zero, List.set_cons_succ]
              refine wpAnyZ_yield 1 121 (.pointer (some ⟨b, 0, none⟩)) [15] rfl rfl (by kernel_rfl) (by kernel_rfl) (by kernel_rfl) (by kernel_rfl) (by kernel_rfl) (fun _ _ _ h => h) (by kernel_rfl) (fun W hW => by kernel_rfl) (by assumption) rfl rfl ?_
              simp only [Act.put, List.setIfInBounds_toArray, List.set_cons_zero, List.set_cons_succ]
              refine wpAnyZ_yield 2 122 (.pointer (some ⟨b, 0, none⟩)) [15] rfl rfl (by kernel_rfl) (by kernel_rfl) (by kernel_rfl) (by kernel_rfl) (by kernel_rfl) (fun _ _ _ h => h) (by kernel_rfl) (fun W hW => by go_simp) (by assumption) rfl rfl ?_
              simp only [Act.put, List.setIfInBounds_toArray, List.set_cons_zero, List.set_cons_succ]
              refine wpAnyZ_yield 3 123 (.pointer (some ⟨b, 5, none⟩)) [15] rfl rfl (by kernel_rfl) (by kernel_rfl) (by kernel_rfl) (by kernel_rfl) (by kernel_rfl) (fun _ _ _ h => h) (by kernel_rfl) (fun W hW => by go_simp) (by assumption) rfl rfl ?_
              simp only [Act.put, List.setIfInBounds_toArray, List.set_cons_zero, List.set_cons_succ]
              refine wpAnyZ_yield 4 124 (.slice vo m vc) [15] rfl rfl (by kernel_rfl) (by kernel_rfl) (by kernel_rfl) (by kernel_rfl) (by kernel_rfl) (fun _ _ _ h => h) (by kernel_rfl) (fun W hW => by obtain ⟨e0, e1, e2, e3, e4, e5⟩ := cells6 (hW.heap OBX.out HNB.out); go_simp) (by assumption) rfl rfl ?_
              simp only [Act.put, List.setIfInBounds_toArray, List.set_cons_zero, List.set_cons_succ]
              refine wpAnyZ_yield 5 125 (.pointer (some ⟨b, 0, none⟩)) [15] rfl rfl (by kernel_rfl) (by kernel_rfl) (by kernel_rfl) (by kernel_rfl) (by kernel_rfl) (fun _ _ _ h => h) (by kernel_rfl) (fun W hW => by kernel_rfl) (by assumption) rfl rfl ?_
              simp only [Act.put, List.setIfInBounds_toArray, List.set_cons_zero, List.set_cons_succ]
              refine wpAnyZ_yield 6 126 (.int .i64 1) [15] rfl rfl (by kernel_rfl) (by kernel_rfl) (by kernel_rfl) (by kernel_rfl) (by kernel_rfl) (fun _ _ _ h => h) (by kernel_rfl) (fun W hW => by kernel_rfl) (by assumption) rfl rfl ?_
              simp only [Act.put, List.setIfInBounds_toArray, List.set_cons_zero, List.set_cons_succ]
              refine wpAnyZ_yield 7 127 (.pointer (some ⟨b, 0, none⟩)) [15] rfl rfl (by kernel_rfl) (by kernel_rfl) (by kernel_rfl) (by kernel_rfl) (by kernel_rfl) (fun _ _ _ h => h) (by kernel_rfl) (fun W hW => by go_simp) (by assumption) rfl rfl ?_
              simp only [Act.put, List.setIfInBounds_toArray, List.set_cons_zero, List.set_cons_succ]
              refine wpAnyZ_yield 8 128 (.pointer (some ⟨b, 2, none⟩)) [15] rfl rfl (by kernel_rfl) (by kernel_rfl) (by kernel_rfl) (by kernel_rfl) (by kernel_rfl) (fun _ _ _ h => h) (by kernel_rfl) (fun W hW => by go_simp) (by assumption) rfl rfl ?_
              simp only [Act.put, List.setIfInBounds_toArray, List.set_cons_zero, List.set_cons_succ]
              refine wpAnyZ_yield 9 129 (.pointer (some ⟨b, 3, none⟩)) [15] rfl rfl (by kernel_rfl) (by kernel_rfl) (by kernel_rfl) (by kernel_rfl) (by kernel_rfl) (fun _ _ _ h => h) (by kernel_rfl) (fun W hW => by go_simp) (by assumption) rfl rfl ?_
              simp only [Act.put, List.setIfInBounds_toArray, List.set_cons_zero, List.set_cons_succ]
              refine wpAnyZ_yield 10 130 (C.sl) [15] rfl rfl (by kernel_rfl) (by kernel_rfl) (by kernel_rfl) (by kernel_rfl) (by kernel_rfl) (fun _ _ _ h => h) (by kernel_rfl) (fun W hW => by obtain ⟨e0, e1, e2, e3, e4, e5⟩ := cells6 (hW.heap OBX.out HNB.out); go_simp) (by assumption) rfl rfl ?_
              simp only [Act.put, List.setIfInBounds_toArray, List.set_cons_zero, List.set_cons_succ]
              obtain ⟨no, nc, x5, hr5, rx5, t5, loc5⟩ := run_vapp Try.underlying29 infoSl rfl (by decide) x3 w.heap.size 29 (.slice vo m vc) (Ps.map Od.sl) (by rw [List.length_map, HMP.out]; exact own_touch RX.out hC0 (fun _ _ h => h)) (C.sl) rfl (by rw [List.length_map, HMP.out]; have := HM2.out; omega) (Nat.le_trans PF.out.calm.size hC0.size)
              rw [List.length_map, HMP.out] at hr5 rx5 loc5
              have tA5 : Calm x3 (x3.alloc (.cells #[C.sl] 22)) := (Touch.refl _ _).alloc _
              refine wpAnyZ_value 11 131 (.slice (some ⟨x3.heap.size, 0, none⟩) 1 1) (w' := x3.alloc (.cells #[C.sl] 22)) rfl rfl (by decide) (by kernel_rfl) (by kernel_rfl) (by go_simp) (hS0.alloc _) ?_
              simp only [Act.put, List.setIfInBounds_toArray, List.set_cons_zero, List.set_cons_succ]
              have hS5 : Touch (fun x => (Value.slice vo m vc).ownBlock = some x) wv x5 := hS0.trans t5 (fun _ _ h => h)
              obtain ⟨m1, em1⟩ : ∃ m1, m1 = m + 1 := ⟨_, rfl⟩
              have HM1 := hide em1
              rw [← em1] at hr5 rx5 loc5
              clear em1
              refine wpAnyZ_value 12 132 (.slice no m1 nc) (w' := x5) rfl rfl (by decide) (by kernel_rfl) (by kernel_rfl) (exec_tapp rfl hr5) hS5 ?_
              simp only [Act.put, List.setIfInBounds_toArray, List.set_cons_zero, List.set_cons_succ]
              refine wpAnyZ_yield 13 133 (.pointer (some ⟨b, 0, none⟩)) [14,15] rfl rfl (by kernel_rfl) (by kernel_rfl) (by kernel_rfl) (by kernel_rfl) (by kernel_rfl) (fun _ _ _ h => h) (by kernel_rfl) (fun W hW => by go_simp) (by assumption) rfl rfl ?_
              simp only [Act.put, List.setIfInBounds_toArray, List.set_cons_zero, List.set_cons_succ]
              refine wpAnyZ_yield 14 134 (.pointer (some ⟨b, 5, none⟩)) [15] rfl rfl (by kernel_rfl) (by kernel_rfl) (by kernel_rfl) (by kernel_rfl) (by kernel_rfl) (fun _ _ _ h => h) (by kernel_rfl) (fun W hW => by go_simp) (by assumption) rfl rfl ?_
              simp only [Act.put, List.setIfInBounds_toArray, List.set_cons_zero, List.set_cons_succ]
              refine wpAnyZ_end rfl (by kernel_rfl) (by kernel_rfl) (by kernel_rfl) ?_
              have OW5 := hS5.heap OBX.out HNB.out
              obtain ⟨e0, e1, e2, e3, e4, e5⟩ := cells6 OW5
              have fz : x5.frozen? ⟨b, 5, none⟩ = false := by simp [World.frozen?, OW5]
              unfold Oper.wp
              go_simp
              rw [onlyN_normal]
              have o6 := heap_setCell_row (i := 5) OW5 (.slice no m1 nc)
              simp at o6
              have t6s : Touch (fun x => x = b) x5 (x5.setCell ⟨b, 5, none⟩ (.slice no m1 nc)) := (Touch.refl (fun x => x = b) x5).setCell (p := ⟨b, 5, none⟩) (fun _ => rfl) _
              have RX6 := own_touch rx5 t6s (fun x hx e => by
                subst e
                obtain ⟨_, cur, hc⟩ := own_block rx5 hx
                exact tags hc OW5 (by decide) rfl)
              obtain ⟨col6, pf6⟩ := PF.out.last (C := C) (.inr rfl) ((hS5.mono (fun _ _ h => .inl h)).trans t6s (fun _ _ h => .inr h)) o6 (by rw [HMP.out, ← HM1.out]; exact RX6) (fun x hx => (loc5 x hx).imp id (fun h => Nat.le_trans hC0.size h))
              have PF6 := hide pf6
              generalize x5.setCell ⟨b, 5, none⟩ (.slice no m1 nc) = w6 at *
              clear PF OBX HNB RX hS0 hC0 hr5 rx5 t5 loc5 tA5 hS5 OW5 e0 e1 e2 e3 e4 e5 fz o6 t6s RX6 pf6
              have RES : Hid (∃ (A' C' : Od) (Os' : List Od) (u' v' : Value) (col' : Nat → Nat), Os'.length ≤ 22 ∧ Pf w b A' C' Os' Os' u' v' col' w6) := hide ⟨A, C, Os ++ [C], _, _, col6, by rw [List.length_append, HM.out]; have := HM2.out; simp; omega, by have h9 := PF6.out; rw [← EPS.out] at h9; exact h9⟩
              clear PF6
              go_wp2_with fail
              go_roundw
              case rel => exact .inr (.inr ⟨rfl, RES.out⟩)
              case measure => simp [intOf]
            · obtain ⟨uo, uc, eu⟩ := own_shape pf.ru
              obtain ⟨vo, vc, ev⟩ := own_shape pf.rv
              obtain ⟨m, em⟩ : ∃ m, Os.length = m := ⟨_, rfl⟩
              rw [em] at eu ev
              subst eu ev
              have PF := hide pf
              have HM := hide em
              have HM2 : Hid (m ≤ 22) := hide (by omega)
              have KN := hide known_any
              clear pf em hO
              go_wp2_with fail
              go_loopw [12] (fun v wx => ∃ i : Nat, v = .int .i64 (i : Int) ∧ i ≤ m ∧ Pf w b A C Os Os (.slice uo m uc) (.slice vo m vc) col wx) (fun v _ => m - (intOf v).toNat)
              case atStart => exact ⟨0, rfl, Nat.zero_le _, PF.out⟩
              case round =>
                clear PF
                obtain ⟨i, rfl, hi, pf⟩ := hrel
                by_cases hlt : i < m
                · have hlt' : (i : Int) < (m : Int) := by omega
                  have hiO : i < Os.length := by have := HM.out; omega
                  have ru9 : wr.ownsRow w.heap.size 25 1 (.slice uo m uc) (Os.map Od.ptr).length (Os.map Od.ptr) := by rw [List.length_map]; exact pf.ru
                  have rv9 : wr.ownsRow w.heap.size 22 1 (.slice vo m vc) (Os.map Od.sl).length (Os.map Od.sl) := by rw [List.length_map]; exact pf.rv
                  obtain ⟨ub, rfl, cu⟩ := row_at ru9 (i := i) (by rw [List.length_map]; exact hiO)
                  obtain ⟨vb, rfl, cv⟩ := row_at rv9 (i := i) (by rw [List.length_map]; exact hiO)
                  obtain ⟨c, -, -, -, sd⟩ := pf.ab Os[i] (.inr (.inr (.inl (List.getElem_mem hiO))))
                  rw [List.getElem_map] at cu cv
                  generalize Os[i] = o at cu cv sd
                  obtain ⟨ol, eol⟩ : ∃ ol, o.L.length = ol := ⟨_, rfl⟩
                  have HOL := hide eol
                  have CU0 := hide cu
                  have CV0 : Hid (wr.cell? ⟨vb, i, none⟩ = some (.slice o.lo ol o.lc)) := hide (by rw [← eol]; exact cv)
                  have SD := hide sd
                  have PF := hide pf
                  have OB := hide pf.own
                  have SW : Hid (wrap64 ((i : Int) + 1) = ((i + 1 : Nat) : Int)) := hide (by have := HM2.out; unfold wrap64; omega)
                  have HVL : Hid (o.V.length = ol) := hide (by rw [← eol]; exact same_len sd.tq.nd.nodup sd.srt.nodup sd.mem)
                  obtain ⟨b0, b1, b2, b3, b4, b5⟩ := cells6 OB.out
                  clear cu cv sd pf ru9 rv9 eol
                  go_wp2_with fail
                  clear b0 b1 b2 b3 b4 b5
                  refine wp_only ?_
                  refine wp_region_held (S := Calm wr) (by kernel_rfl) ?_
                  have hT0 : Calm wr { wr with drawn := wr.drawn + 1 } := (Touch.refl (fun _ => False) wr).drew
                  generalize ({ wr with drawn := wr.drawn + 1 } : World) = x0 at *
                  refine wpAnyH_yield 0 144 (.pointer (some ⟨b, 0, none⟩)) rfl rfl (by kernel_rfl) (by kernel_rfl) (by kernel_rfl) (fun _ _ _ h => h) (by kernel_rfl) (fun W hW => by kernel_rfl) (by assumption) rfl rfl ?_
                  simp only [Act.put, List.setIfInBounds_toArray, List.set_cons_zero, List.set_cons_succ]
                  refine wpAnyH_yield 1 145 (.pointer (some ⟨b, 0, none⟩)) rfl rfl (by kernel_rfl) (by kernel_rfl) (by kernel_rfl) (fun _ _ _ h => h) (by kernel_rfl) (fun W hW => by go_simp) (by assumption) rfl rfl ?_
                  simp only [Act.put, List.setIfInBounds_toArray, List.set_cons_zero, List.set_cons_succ]
                  refine wpAnyH_yield 2 146 (.pointer (some ⟨b, 4, none⟩)) rfl rfl (by kernel_rfl) (by kernel_rfl) (by kernel_rfl) (fun _ _ _ h => h) (by kernel_rfl) (fun W hW => by go_simp) (by assumption) rfl rfl ?_
                  simp only [Act.put, List.setIfInBounds_toArray, List.set_cons_zero, List.set_cons_succ]
                  refine wpAnyH_yield 3 147 (.slice (some ⟨ub, 0, none⟩) m uc) rfl rfl (by kernel_rfl) (by kernel_rfl) (by kernel_rfl) (fun _ _ _ h => h) (by kernel_rfl) (fun W hW => by obtain ⟨e0, e1, e2, e3, e4, e5⟩ := cells6 (hW.at OB.out); go_simp) (by assumption) rfl rfl ?_
                  simp only [Act.put, List.setIfInBounds_toArray, List.set_cons_zero, List.set_cons_succ]
                  refine wpAnyH_yield 4 148 (.int .i64 (i : Int)) rfl rfl (by kernel_rfl) (by kernel_rfl) (by kernel_rfl) (fun _ _ _ h => h) (by kernel_rfl) (fun W hW => by kernel_rfl) (by assumption) rfl rfl ?_
                  simp only [Act.put, List.setIfInBounds_toArray, List.set_cons_zero, List.set_cons_succ]
                  refine wpAnyH_yield 5 149 (.pointer (some ⟨ub, i, none⟩)) rfl rfl (by kernel_rfl) (by kernel_rfl) (by kernel_rfl) (fun _ _ _ h => h) (by kernel_rfl) (fun W hW => by go_simp) (by assumption) rfl rfl ?_
                  simp only [Act.put, List.setIfInBounds_toArray, List.set_cons_zero, List.set_cons_succ]
                  refine wpAnyH_yield 6 150 (.pointer (some ⟨o.q, 0, none⟩)) rfl rfl (by kernel_rfl) (by kernel_rfl) (by kernel_rfl) (fun _ _ _ h => h) (by kernel_rfl) (fun W hW => by have c0 := (hW.cell (p := ⟨ub, i, none⟩) (lt_of_cell CU0.out) (fun h => h)).trans CU0.out; go_simp) (by assumption) rfl rfl ?_
                  simp only [Act.put, List.setIfInBounds_toArray, List.set_cons_zero, List.set_cons_succ]
                  refine wpAnyH_yield 8 152 (.pointer (some ⟨b, 0, none⟩)) rfl rfl (by kernel_rfl) (by kernel_rfl) (by kernel_rfl) (fun _ _ _ h => h) (by kernel_rfl) (fun W hW => by kernel_rfl) (by assumption) rfl rfl ?_
                  simp only [Act.put, List.setIfInBounds_toArray, List.set_cons_zero, List.set_cons_succ]
                  refine wpAnyH_yield 9 153 (.pointer (some ⟨b, 0, none⟩)) rfl rfl (by kernel_rfl) (by kernel_rfl) (by kernel_rfl) (fun _ _ _ h => h) (by kernel_rfl) (fun W hW => by go_simp) (by assumption) rfl rfl ?_
                  simp only [Act.put, List.setIfInBounds_toArray, List.set_cons_zero, List.set_cons_succ]
                  refine wpAnyH_yield 10 154 (.pointer (some ⟨b, 5, none⟩)) rfl rfl (by kernel_rfl) (by kernel_rfl) (by kernel_rfl) (fun _ _ _ h => h) (by kernel_rfl) (fun W hW => by go_simp) (by assumption) rfl rfl ?_
                  simp only [Act.put, List.setIfInBounds_toArray, List.set_cons_zero, List.set_cons_succ]
                  refine wpAnyH_yield 11 155 (.slice (some ⟨vb, 0, none⟩) m vc) rfl rfl (by kernel_rfl) (by kernel_rfl) (by kernel_rfl) (fun _ _ _ h => h) (by kernel_rfl) (fun W hW => by obtain ⟨e0, e1, e2, e3, e4, e5⟩ := cells6 (hW.at OB.out); go_simp) (by assumption) rfl rfl ?_
                  simp only [Act.put, List.setIfInBounds_toArray, List.set_cons_zero, List.set_cons_succ]
                  refine wpAnyH_yield 12 156 (.int .i64 (i : Int)) rfl rfl (by kernel_rfl) (by kernel_rfl) (by kernel_rfl) (fun _ _ _ h => h) (by kernel_rfl) (fun W hW => by kernel_rfl) (by assumption) rfl rfl ?_
                  simp only [Act.put, List.setIfInBounds_toArray, List.set_cons_zero, List.set_cons_succ]
                  refine wpAnyH_yield 13 157 (.pointer (some ⟨vb, i, none⟩)) rfl rfl (by kernel_rfl) (by kernel_rfl) (by kernel_rfl) (fun _ _ _ h => h) (by kernel_rfl) (fun W hW => by go_simp) (by assumption) rfl rfl ?_
                  simp only [Act.put, List.setIfInBounds_toArray, List.set_cons_zero, List.set_cons_succ]
                  refine wpAnyH_yield 14 158 (.slice o.lo ol o.lc) rfl rfl (by kernel_rfl) (by kernel_rfl) (by kernel_rfl) (fun _ _ _ h => h) (by kernel_rfl) (fun W hW => by have c0 := (hW.cell (p := ⟨vb, i, none⟩) (lt_of_cell CV0.out) (fun h => h)).trans CV0.out; go_simp) (by assumption) rfl rfl ?_
                  simp only [Act.put, List.setIfInBounds_toArray, List.set_cons_zero, List.set_cons_succ]
                  refine wpAnyH_enter 7 151 13 #[.pointer (some ⟨o.q, 0, none⟩)] rfl rfl (by kernel_rfl) (by kernel_rfl) (by kernel_rfl) ?_
                  refine (all_any _ _).mono ?_
                  rintro e x1 ⟨rfl, hw⟩
                  have hT1 : Calm wr x1 := by rw [hw]; exact hT0.alloc _
                  have hBx : x1.heap[x0.heap.size]? = some (.cells #[.pointer (some ⟨o.q, 0, none⟩)] 25 (0, 0)) := by rw [hw]; exact World.alloc_heap_new _ _
                  obtain ⟨Bx, eBx⟩ : ∃ Bx, Bx = x0.heap.size := ⟨_, rfl⟩
                  rw [← eBx] at hBx ⊢
                  refine ⟨_, rfl, hT1, ?_⟩
                  simp only [Act.put, List.setIfInBounds_toArray, List.set_cons_zero, List.set_cons_succ]
                  have SD1 := SD.out.touch hT1 (fun _ h => h.elim)
                  have WKS := twalk_any #[.pointer (some ⟨Bx, 0, none⟩)] (AllA Bx o.q o.L) o.L (fun k x => o.L[k]? = some x) (fun _ _ h => h) (all_seq _ Bx o.q o.L SD1.srt (by have := SD1.bd; omega)) o.lo o.lc 0 x1 (fun W h => ⟨h.at hBx, o.F, o.V, SD1.tq.calm h, SD1.mem⟩) SD1.rl.tms (by have := SD1.bd; omega)
                  rw [HOL.out] at WKS
                  refine wpAnyH_enter 15 159 12 #[.func (.func 30) #[] #[.pointer (some ⟨Bx, 0, none⟩)], .slice o.lo ol o.lc, .int .i64 0] rfl rfl (by kernel_rfl) (by kernel_rfl) (by kernel_rfl) ?_
                  refine WKS.mono ?_
                  rintro e x2 ⟨rfl, t2⟩
                  have hT2 : Calm wr x2 := hT1.tr t2
                  refine ⟨_, rfl, hT2, ?_⟩
                  simp only [Act.put, List.setIfInBounds_toArray, List.set_cons_zero, List.set_cons_succ]
                  clear WKS SD1 hBx eBx hw t2
                  refine wpAnyH_yield 16 13 (.bool true) rfl rfl (by kernel_rfl) (by kernel_rfl) (by kernel_rfl) (fun _ _ _ h => h) (by kernel_rfl) (fun W hW => by kernel_rfl) (by assumption) rfl rfl ?_
                  simp only [Act.put, List.setIfInBounds_toArray, List.set_cons_zero, List.set_cons_succ]
                  refine wpAnyH_done (by kernel_rfl) ?_ _
                  rw [onlyN_normal]
                  have T2 := hide hT2
                  clear hT0 hT1 hT2
                  go_wp2_with fail
                  refine wp_only ?_
                  refine wp_region_held (S := Calm wr) (by kernel_rfl) ?_
                  have hT0 : Calm wr { x2 with drawn := x2.drawn + 1 } := T2.out.drew
                  generalize ({ x2 with drawn := x2.drawn + 1 } : World) = x3 at *
                  refine wpAnyH_yield 0 160 (.bool true) rfl rfl (by kernel_rfl) (by kernel_rfl) (by kernel_rfl) (fun _ _ _ h => h) (by kernel_rfl) (fun W hW => by kernel_rfl) (by assumption) rfl rfl ?_
                  simp only [Act.put, List.setIfInBounds_toArray, List.set_cons_zero, List.set_cons_succ]
                  refine wpAnyH_yield 1 161 (.bool false) rfl rfl (by kernel_rfl) (by kernel_rfl) (by kernel_rfl) (fun _ _ _ h => h) (by kernel_rfl) (fun W hW => by kernel_rfl) (by assumption) rfl rfl ?_
                  simp only [Act.put, List.setIfInBounds_toArray, List.set_cons_zero, List.set_cons_succ]
                  refine wpAnyH_yield 2 162 (.bool false) rfl rfl (by kernel_rfl) (by kernel_rfl) (by kernel_rfl) (fun _ _ _ h => h) (by kernel_rfl) (fun W hW => by kernel_rfl) (by assumption) rfl rfl ?_
                  simp only [Act.put, List.setIfInBounds_toArray, List.set_cons_zero, List.set_cons_succ]
                  refine wpAnyH_yield 3 163 (.pointer (some ⟨b, 0, none⟩)) rfl rfl (by kernel_rfl) (by kernel_rfl) (by kernel_rfl) (fun _ _ _ h => h) (by kernel_rfl) (fun W hW => by kernel_rfl) (by assumption) rfl rfl ?_
                  simp only [Act.put, List.setIfInBounds_toArray, List.set_cons_zero, List.set_cons_succ]
                  refine wpAnyH_yield 4 164 (.pointer (some ⟨b, 0, none⟩)) rfl rfl (by kernel_rfl) (by kernel_rfl) (by kernel_rfl) (fun _ _ _ h => h) (by kernel_rfl) (fun W hW => by go_simp) (by assumption) rfl rfl ?_
                  simp only [Act.put, List.setIfInBounds_toArray, List.set_cons_zero, List.set_cons_succ]
                  refine wpAnyH_yield 5 165 (.pointer (some ⟨b, 4, none⟩)) rfl rfl (by kernel_rfl) (by kernel_rfl) (by kernel_rfl) (fun _ _ _ h => h) (by kernel_rfl) (fun W hW => by go_simp) (by assumption) rfl rfl ?_
                  simp only [Act.put, List.setIfInBounds_toArray, List.set_cons_zero, List.set_cons_succ]
                  refine wpAnyH_yield 6 166 (.slice (some ⟨ub, 0, none⟩) m uc) rfl rfl (by kernel_rfl) (by kernel_rfl) (by kernel_rfl) (fun _ _ _ h => h) (by kernel_rfl) (fun W hW => by obtain ⟨e0, e1, e2, e3, e4, e5⟩ := cells6 (hW.at OB.out); go_simp) (by assumption) rfl rfl ?_
                  simp only [Act.put, List.setIfInBounds_toArray, List.set_cons_zero, List.set_cons_succ]
                  refine wpAnyH_yield 7 167 (.int .i64 (i : Int)) rfl rfl (by kernel_rfl) (by kernel_rfl) (by kernel_rfl) (fun _ _ _ h => h) (by kernel_rfl) (fun W hW => by kernel_rfl) (by assumption) rfl rfl ?_
                  simp only [Act.put, List.setIfInBounds_toArray, List.set_cons_zero, List.set_cons_succ]
                  refine wpAnyH_yield 8 168 (.pointer (some ⟨ub, i, none⟩)) rfl rfl (by kernel_rfl) (by kernel_rfl) (by kernel_rfl) (fun _ _ _ h => h) (by kernel_rfl) (fun W hW => by go_simp) (by assumption) rfl rfl ?_
                  simp only [Act.put, List.setIfInBounds_toArray, List.set_cons_zero, List.set_cons_succ]
                  refine wpAnyH_yield 9 169 (.pointer (some ⟨o.q, 0, none⟩)) rfl rfl (by kernel_rfl) (by kernel_rfl) (by kernel_rfl) (fun _ _ _ h => h) (by kernel_rfl) (fun W hW => by have c0 := (hW.cell (p := ⟨ub, i, none⟩) (lt_of_cell CU0.out) (fun h => h)).trans CU0.out; go_simp) (by assumption) rfl rfl ?_
                  simp only [Act.put, List.setIfInBounds_toArray, List.set_cons_zero, List.set_cons_succ]
                  refine wpAnyH_yield 11 171 (.pointer (some ⟨b, 0, none⟩)) rfl rfl (by kernel_rfl) (by kernel_rfl) (by kernel_rfl) (fun _ _ _ h => h) (by kernel_rfl) (fun W hW => by kernel_rfl) (by assumption) rfl rfl ?_
                  simp only [Act.put, List.setIfInBounds_toArray, List.set_cons_zero, List.set_cons_succ]
                  refine wpAnyH_yield 12 172 (.pointer (some ⟨b, 0, none⟩)) rfl rfl (by kernel_rfl) (by kernel_rfl) (by kernel_rfl) (fun _ _ _ h => h) (by kernel_rfl) (fun W hW => by go_simp) (by assumption) rfl rfl ?_
                  simp only [Act.put, List.setIfInBounds_toArray, List.set_cons_zero, List.set_cons_succ]
                  refine wpAnyH_yield 13 173 (.pointer (some ⟨b, 5, none⟩)) rfl rfl (by kernel_rfl) (by kernel_rfl) (by kernel_rfl) (fun _ _ _ h => h) (by kernel_rfl) (fun W hW => by go_simp) (by assumption) rfl rfl ?_
                  simp only [Act.put, List.setIfInBounds_toArray, List.set_cons_zero, List.set_cons_succ]
                  refine wpAnyH_yield 14 174 (.slice (some ⟨vb, 0, none⟩) m vc) rfl rfl (by kernel_rfl) (by kernel_rfl) (by kernel_rfl) (fun _ _ _ h => h) (by kernel_rfl) (fun W hW => by obtain ⟨e0, e1, e2, e3, e4, e5⟩ := cells6 (hW.at OB.out); go_simp) (by assumption) rfl rfl ?_
                  simp only [Act.put, List.setIfInBounds_toArray, List.set_cons_zero, List.set_cons_succ]
                  refine wpAnyH_yield 15 175 (.int .i64 (i : Int)) rfl rfl (by kernel_rfl) (by kernel_rfl) (by kernel_rfl) (fun _ _ _ h => h) (by kernel_rfl) (fun W hW => by kernel_rfl) (by assumption) rfl rfl ?_
                  simp only [Act.put, List.setIfInBounds_toArray, List.set_cons_zero, List.set_cons_succ]
                  refine wpAnyH_yield 16 176 (.pointer (some ⟨vb, i, none⟩)) rfl rfl (by kernel_rfl) (by kernel_rfl) (by kernel_rfl) (fun _ _ _ h => h) (by kernel_rfl) (fun W hW => by go_simp) (by assumption) rfl rfl ?_
                  simp only [Act.put, List.setIfInBounds_toArray, List.set_cons_zero, List.set_cons_succ]
                  refine wpAnyH_yield 17 177 (.slice o.lo ol o.lc) rfl rfl (by kernel_rfl) (by kernel_rfl) (by kernel_rfl) (fun _ _ _ h => h) (by kernel_rfl) (fun W hW => by have c0 := (hW.cell (p := ⟨vb, i, none⟩) (lt_of_cell CV0.out) (fun h => h)).trans CV0.out; go_simp) (by assumption) rfl rfl ?_
                  simp only [Act.put, List.setIfInBounds_toArray, List.set_cons_zero, List.set_cons_succ]
                  refine wpAnyH_yield 18 178 (.int .i64 (ol : Int)) rfl rfl (by kernel_rfl) (by kernel_rfl) (by kernel_rfl) (fun _ _ _ h => h) (by kernel_rfl) (fun W hW => by go_simp) (by assumption) rfl rfl ?_
                  simp only [Act.put, List.setIfInBounds_toArray, List.set_cons_zero, List.set_cons_succ]
                  have LNS := len_any o.q o.F o.V x3 (SD.out.touch hT0 (fun _ h => h.elim)).tq
                  rw [HVL.out] at LNS
                  refine wpAnyH_enter 10 170 14 #[.pointer (some ⟨o.q, 0, none⟩)] rfl rfl (by kernel_rfl) (by kernel_rfl) (by kernel_rfl) ?_
                  refine LNS.mono ?_
                  rintro e x4 ⟨rfl, hw⟩
                  subst hw
                  refine ⟨_, rfl, hT0, ?_⟩
                  simp only [Act.put, List.setIfInBounds_toArray, List.set_cons_zero, List.set_cons_succ]
                  refine wpAnyH_yield 19 179 (.bool false) rfl rfl (by kernel_rfl) (by kernel_rfl) (by kernel_rfl) (fun _ _ _ h => h) (by kernel_rfl) (fun W hW => by go_simp) (by assumption) rfl rfl ?_
                  simp only [Act.put, List.setIfInBounds_toArray, List.set_cons_zero, List.set_cons_succ]
                  refine wpAnyH_yield 20 180 (.bool false) rfl rfl (by kernel_rfl) (by kernel_rfl) (by kernel_rfl) (fun _ _ _ h => h) (by kernel_rfl) (fun W hW => by kernel_rfl) (by assumption) rfl rfl ?_
                  simp only [Act.put, List.setIfInBounds_toArray, List.set_cons_zero, List.set_cons_succ]
                  refine wpAnyH_done (by kernel_rfl) ?_ _
                  rw [onlyN_normal]
                  have NX := hide (PF.out.still hT0)
                  clear hT0 LNS
                  go_wp2_with fail
                  go_roundw
                  case rel => exact ⟨i + 1, by rw [SW.out], hlt, NX.out⟩
                  case measure => rw [SW.out]; simp [intOf]; omega
                · have e : i = m := by omega
                  subst e
                  have PF := hide pf
                  obtain ⟨b0, b1, b2, b3, b4, b5⟩ := cells6 pf.own
                  clear pf hlt hi
                  go_wp2_with fail
                  refine (KN.out _).mono ?_
                  rintro e x6 ⟨rfl, t6⟩
                  have T9 := hide (PF.out.calm.tr t6)
                  clear t6 b0 b1 b2 b3 b4 b5
                  go_wp2_with fail
                  go_ret
                  exact ⟨rfl, T9.out⟩

end Go.Proofs.Ytlnblhajcbmmkaa
