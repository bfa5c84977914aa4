/- The walk of TriggerLeft, by contracts of the program's trigger. -/
import Derived.Test.YtfmlbcddomggaaaVM
namespace Go.Proofs.Ytfmlbcddomggaaa
open Go.RowKit

/-- Two numbers. -/
abbrev a2c (a b : Int) : Array Value := #[.int .i64 a, .int .i64 b]
theorem a2_cells {w : World} {g : Nat} {a b : Int} {ty : TypeId} (h : w.heap[g]? = some (.cells (a2c a b) ty (0, 0))) :
    w.cell? ⟨g, 0, none⟩ = some (.int .i64 a) ∧ w.cell? ⟨g, 1, none⟩ = some (.int .i64 b) := by simp [World.cell?, h]

/-- How many of the first i should tell. -/
def toldN (f t : Int) (L : List Wn) (i : Nat) : Nat := ((L.take i).filter fun x => onT x f t).length
theorem toldN_next (f t : Int) (L : List Wn) (i : Nat) (hi : i < L.length) : toldN f t L (i + 1) = toldN f t L i + (onT (L.getD i wn0) f t).toNat := by
  unfold toldN
  rw [List.take_succ_eq_append_getElem hi, List.filter_append, List.length_append, List.getD_eq_getElem?_getD, List.getElem?_eq_getElem hi]
  simp only [Option.getD_some, List.filter_cons, List.filter_nil]
  split
  · rename_i h; rw [h]; rfl
  · rename_i h; rw [Bool.not_eq_true] at h; rw [h]; rfl
theorem toldN_le (f t : Int) (L : List Wn) (i : Nat) : toldN f t L i ≤ i := Nat.le_trans (List.length_filter_le _ _) (List.length_take_le _ _)
theorem leftN_le (lt t : Int) (L : List Wn) (i : Nat) : leftN lt t L i ≤ i := Nat.le_trans (List.length_filter_le _ _) (List.length_take_le _ _)

set_option maxRecDepth 100000 in
set_option maxHeartbeats 20000000 in
theorem left_walk (hB : BehC) (hO : OnC) (hT : TellC) (hE : EvC) (hM : MarkC) (c : Cf) (ao : Option Addr) (cap : Nat) (L : List Wn) (f t : Int) (hs : ∀ w w' : World, encW.Sl w ao cap L → Calm w w' → encW.Sl w' ao cap L) (w : World) (hsl : encW.Sl w ao cap L) (hok : ∀ x ∈ L, x.Ok) (hn : L.length ≤ 2000000000000) (hlt : I64 c.lt) (hf : I64 f) (ht : I64 t) :
    Calls Try.prog 7 #[cfv c, .slice ao L.length cap, .agg (a2c f t)] w fun e w' => e = .returned (.bool true) ∧ Calm w w' := by
  have CK := fun w => hide (known10_any hB hO hT hE w)
  have CM : Hid (∀ W, Calm w W → _) := hide fun W (h : Calm w W) => hM c kK ao cap L f t W (hs w W hsl h) hn hok hlt hf ht
  have CV : Hid (∀ x, x ∈ L → ∀ w, Calls Try.prog 23 #[spv x.sp, .int .i64 c.lt, .int .i64 t] w fun e w' => e = .returned (.bool (overB x.b c.lt t)) ∧ Calm w w') := hide fun x hx w => rover_any x.sp c.lt t (hok x hx).b hlt ht w
  have HAt : Hid (∀ k, k < L.length → ∀ W, Calm w W → _) := hide fun k hk W hW => wn_at (Rc.Mem.calm hsl.mem hW) k hk
  have OA := hide (outM_at f t c.lt c.di L)
  have OLn := hide (outM_len f t c.lt c.di L)
  obtain ⟨pr, pl⟩ := panesM_rise kK f t L
  have LN := hide (leftN_next c.lt t L)
  have TN := hide (toldN_next f t L)
  have LE := hide (leftN_le c.lt t L)
  have TE := hide (toldN_le f t L)
  have LZ : Hid (leftN c.lt t L 0 = 0) := hide rfl
  have TZ : Hid (toldN f t L 0 = 0) := hide rfl
  have HPl : Hid ((panesM kK f t L).length = toldN f t L L.length) := hide (by rw [pl]; unfold toldN; rw [List.take_length])
  have HPr := hide pr
  have MB := hide (fun x => marked_b f t c.di x)
  have ME : Hid (∀ x, onT x f t = false → markedW f t c.di x = x) := hide fun x h => by unfold markedW; rw [h]; rfl
  generalize outM f t c.lt c.di L = O at *
  generalize panesM kK f t L = P at *
  obtain ⟨n, hN⟩ : ∃ n, n = L.length := ⟨_, rfl⟩
  have HN := hide hN
  rw [← hN] at CM OLn HPl hn ⊢
  have A0 := (al1 w (.cells (cfc c) 24) (.cells (a2c f t) 51)).1
  have A1 := (al1 w (.cells (cfc c) 24) (.cells (a2c f t) 51)).2
  have T0 : Calm w ((w.alloc (.cells (cfc c) 24)).alloc (.cells (a2c f t) 51)) := ((Touch.refl _ _).alloc _).alloc _
  have HA0 := hide A0
  have HA1 := hide A1
  have HT0 := hide T0
  clear A0 A1 T0 hB hO hT hE hM hs hsl hok hlt hf ht hN pr pl
  go_enter Try.func7, Try.ntmps7
  go_wp2_with fail
  refine (CK _).out.mono ?_
  rintro e w1 ⟨rfl, T1⟩
  have H0 := hide (T1.at HA0.out)
  have H1 := hide (T1.at HA1.out)
  have HT := hide (HT0.out.tr T1)
  clear T1 HA0 HA1 HT0 CK
  generalize w.heap.size = B at *
  obtain ⟨⟨g0, g1, g2, g3, g4, g5, g6⟩, g7, g8, g9⟩ := cf_cells H0.out
  obtain ⟨a0, a1⟩ := a2_cells H1.out
  have C1 := hide (CM.out w1 HT.out)
  go_wp2_with fail
  refine C1.out.mono ?_
  rintro e w2 ⟨oo, oc, po, pc, rfl, OW, PW, T2⟩
  have G0 := hide (T2.at H0.out)
  have G1 := hide (T2.at H1.out)
  have GT := hide (HT.out.tr T2)
  have HOW := hide OW
  have HPW := hide PW
  clear T2 H0 H1 HT C1 CM OW PW g0 g1 g2 g3 g4 g5 g6 g7 g8 g9 a0 a1
  generalize hol : O.length = ol at *
  generalize hpl : P.length = pl at *
  have HOl := hide hol
  have HPll := hide hpl
  clear hol hpl
  go_wp2_with fail
  go_loopw [9, 10, 11] (fun a b i wr => ∃ j : Nat, i = .int .i64 j ∧ j ≤ n ∧ a = .int .i64 (leftN c.lt t L j : Nat) ∧ b = .int .i64 (toldN f t L j : Nat) ∧ Calm w2 wr) (fun _ _ i _ => n - (intOf i).toNat)
  case atStart => exact ⟨0, rfl, Nat.zero_le _, by rw [LZ.out]; rfl, by rw [TZ.out]; rfl, Touch.refl _ _⟩
  case round =>
    obtain ⟨j, rfl, hj, rfl, rfl, TL⟩ := hrel
    by_cases hlt : j < n
    · have hjL : j < L.length := by have := HN.out; omega
      have hxL : L.getD j wn0 ∈ L := by rw [List.getD_eq_getElem?_getD, List.getElem?_eq_getElem hjL]; exact List.getElem_mem hjL
      have C1 := hide (CV.out _ hxL)
      have LNj := hide (LN.out j hjL)
      have TNj := hide (TN.out j hjL)
      have OAj := hide (OA.out j hjL)
      have le1 := LE.out j
      have le2 := TE.out j
      obtain ⟨b, off, rfl, -⟩ := HAt.out j hjL w2 GT.out
      have KY : Hid (∀ W, Calm w2 W → wcell W b (off + j * 9) (L.getD j wn0)) := hide fun W hW => by
        obtain ⟨b', off', e, cc⟩ := HAt.out j hjL W (GT.out.tr hW)
        injection e with e
        injection e with e1 e2
        subst e1 e2
        exact cc
      generalize L.getD j wn0 = x at *
      generalize leftN c.lt t L j = la at *
      generalize toldN f t L j = tb at *
      have HI := hide TL
      obtain ⟨⟨c0, c1, c2⟩, ⟨c3, c4, c5, c6⟩, c7, c8⟩ := KY.out wr TL
      obtain ⟨a0, a1⟩ := a2_cells (TL.at G1.out)
      have hji : (j : Int) < (n : Int) := by omega
      have honT : onT x f t = (decide (f < x.b) && decide (x.b ≤ t)) := rfl
      generalize hd1 : decide (f < x.b) = d1 at *
      generalize hd2 : decide (x.b ≤ t) = d2 at *
      have HON := hide honT
      clear TL honT
      cases d1 <;> cases d2
      all_goals
        go_wp2_with fail
        go_quiet (fail)
        have H4 := hide (HI.out.drewN nq)
        clear HI c0 c1 c2 c3 c4 c5 c6 c7 c8 a0 a1 hd1 hd2
        generalize wr.drewN nq = wq at *
        go_wp2_with fail
        refine wp_region_held (S := Calm w2) (by kernel_rfl) ?_
        have hT0 : Calm w2 { wq with drawn := wq.drawn + 1 } := H4.out.drew
        refine wpAnyH_yield 0 55 (.slice (some ⟨b, off, none⟩) n cap) rfl rfl (by kernel_rfl) (by kernel_rfl) (by kernel_rfl) (fun _ _ _ h => h) (by kernel_rfl) (fun W hW => by kernel_rfl) (by assumption) rfl rfl ?_
        simp only [Act.put, List.setIfInBounds_toArray, List.set_cons_zero, List.set_cons_succ]
        refine wpAnyH_yield 1 56 (.int .i64 (j : Int)) rfl rfl (by kernel_rfl) (by kernel_rfl) (by kernel_rfl) (fun _ _ _ h => h) (by kernel_rfl) (fun W hW => by kernel_rfl) (by assumption) rfl rfl ?_
        simp only [Act.put, List.setIfInBounds_toArray, List.set_cons_zero, List.set_cons_succ]
        refine wpAnyH_yield 2 57 (.pointer (some ⟨b, off + j * 9, none⟩)) rfl rfl (by kernel_rfl) (by kernel_rfl) (by kernel_rfl) (fun _ _ _ h => h) (by kernel_rfl) (fun W hW => by go_simp) (by assumption) rfl rfl ?_
        simp only [Act.put, List.setIfInBounds_toArray, List.set_cons_zero, List.set_cons_succ]
        refine wpAnyH_yield 3 58 (.pointer (some ⟨b, off + j * 9, none⟩)) rfl rfl (by kernel_rfl) (by kernel_rfl) (by kernel_rfl) (fun _ _ _ h => h) (by kernel_rfl) (fun W hW => by go_simp) (by assumption) rfl rfl ?_
        simp only [Act.put, List.setIfInBounds_toArray, List.set_cons_zero, List.set_cons_succ]
        refine wpAnyH_yield 4 59 (spv x.sp) rfl rfl (by kernel_rfl) (by kernel_rfl) (by kernel_rfl) (fun _ _ _ h => h) (by kernel_rfl) (fun W hW => by obtain ⟨⟨c0, c1, c2⟩, -⟩ := KY.out W hW; go_simp) (by assumption) rfl rfl ?_
        simp only [Act.put, List.setIfInBounds_toArray, List.set_cons_zero, List.set_cons_succ]
        refine wpAnyH_yield 5 60 (.pointer (some ⟨B, 7, none⟩)) rfl rfl (by kernel_rfl) (by kernel_rfl) (by kernel_rfl) (fun _ _ _ h => h) (by kernel_rfl) (fun W hW => by go_simp) (by assumption) rfl rfl ?_
        simp only [Act.put, List.setIfInBounds_toArray, List.set_cons_zero, List.set_cons_succ]
        refine wpAnyH_yield 6 61 (.int .i64 c.lt) rfl rfl (by kernel_rfl) (by kernel_rfl) (by kernel_rfl) (fun _ _ _ h => h) (by kernel_rfl) (fun W hW => by obtain ⟨-, g7, -, -⟩ := cf_cells (hW.at G0.out); go_simp) (by assumption) rfl rfl ?_
        simp only [Act.put, List.setIfInBounds_toArray, List.set_cons_zero, List.set_cons_succ]
        refine wpAnyH_yield 7 62 (.pointer (some ⟨B + 1, 1, none⟩)) rfl rfl (by kernel_rfl) (by kernel_rfl) (by kernel_rfl) (fun _ _ _ h => h) (by kernel_rfl) (fun W hW => by go_simp) (by assumption) rfl rfl ?_
        simp only [Act.put, List.setIfInBounds_toArray, List.set_cons_zero, List.set_cons_succ]
        refine wpAnyH_yield 8 63 (.int .i64 t) rfl rfl (by kernel_rfl) (by kernel_rfl) (by kernel_rfl) (fun _ _ _ h => h) (by kernel_rfl) (fun W hW => by obtain ⟨a0, a1⟩ := a2_cells (hW.at G1.out); go_simp) (by assumption) rfl rfl ?_
        simp only [Act.put, List.setIfInBounds_toArray, List.set_cons_zero, List.set_cons_succ]
        refine wpAnyH_enter 9 64 23 #[spv x.sp, .int .i64 c.lt, .int .i64 t] rfl rfl (by kernel_rfl) (by kernel_rfl) (by kernel_rfl) ?_
        refine (C1.out _).mono ?_
        rintro r w5 ⟨rfl, T5⟩
        have h5 := hT0.tr T5
        refine ⟨_, rfl, h5, ?_⟩
        simp only [Act.put, List.setIfInBounds_toArray, List.set_cons_zero, List.set_cons_succ]
        refine wpAnyH_done (by kernel_rfl) ?_ _
        have H5 := hide h5
        clear hT0 T5 h5 C1 H4
        generalize overB x.b c.lt t = ov at *
        cases ov with
        | true =>
          go_wp2_with fail
          go_roundw
          case rel => exact ⟨j + 1, by go_num, by omega, by rw [LNj.out]; simp, by rw [TNj.out, HON.out]; simp, H5.out⟩
          case measure => simp [intOf]; omega
        | false =>
          obtain ⟨hla, hge⟩ := OAj.out rfl
          have hlol : la < ol := by have := HOl.out; omega
          have hmem := (Rc.Own.mem HOW.out).2.1
          obtain ⟨ob, of, rfl, cc⟩ := wn_at (Rc.Mem.calm hmem H5.out) la (by have := HOl.out; omega)
          rw [hge] at cc
          have ey := ME.out x
          rw [HON.out] at ey
          obtain ⟨hya, hyb, hyh⟩ := MB.out x
          generalize markedW f t c.di x = y at *
          obtain ⟨⟨i0, i1, i2⟩, ⟨i3, i4, i5, i6⟩, i7, i8⟩ := cc
          obtain ⟨⟨c0, c1, c2⟩, ⟨c3, c4, c5, c6⟩, c7, c8⟩ := KY.out w5 H5.out
          have OC : Hid (∀ W, Calm w2 W → wcell W ob (of + la * 9) y) := hide fun W hW => by
            obtain ⟨ob', of', e', c'⟩ := wn_at (Rc.Mem.calm hmem hW) la (by have := HOl.out; omega)
            injection e' with e'
            injection e' with e1 e2
            subst e1 e2
            rw [hge] at c'
            exact c'
          have hli : (la : Int) < (ol : Int) := by omega
          have hlg : ¬ (ol : Int) ≤ (la : Int) := by omega
          have hld : decide ((ol : Int) ≤ (la : Int)) = false := decide_eq_false hlg
          clear hmem hge hla hlg
          first
            | (have ey := ey rfl
               rw [hya] at i0
               rw [hyb] at i1
               rw [hyh] at i2
               subst ey
               clear hya hyb hyh OC
               go_wp2_with fail
               go_quiet (fail)
               have H6 := hide (H5.out.drewN nq)
               clear H5
               go_wp2_with fail
               go_roundw
               case rel => exact ⟨j + 1, by go_num, by omega, by rw [LNj.out]; simp, by rw [TNj.out, HON.out]; simp, H6.out⟩
               case measure => simp [intOf]; omega)
            | (clear ey i0 i1 i2 i3 i4 i5 i6 i7 i8 c0 c1 c2 c3 c4 c5 c6 c7 c8
               go_wp2_with fail
               refine wp_region_held (S := Calm w2) (by kernel_rfl) ?_
               have hT0 : Calm w2 { w5 with drawn := w5.drawn + 1 } := H5.out.drew
               refine wpAnyH_yield 0 65 (.int .i64 (la : Int)) rfl rfl (by kernel_rfl) (by kernel_rfl) (by kernel_rfl) (fun _ _ _ h => h) (by kernel_rfl) (fun W hW => by kernel_rfl) (by assumption) rfl rfl ?_
               simp only [Act.put, List.setIfInBounds_toArray, List.set_cons_zero, List.set_cons_succ]
               refine wpAnyH_yield 1 66 (.slice (some ⟨ob, of, none⟩) ol oc) rfl rfl (by kernel_rfl) (by kernel_rfl) (by kernel_rfl) (fun _ _ _ h => h) (by kernel_rfl) (fun W hW => by kernel_rfl) (by assumption) rfl rfl ?_
               simp only [Act.put, List.setIfInBounds_toArray, List.set_cons_zero, List.set_cons_succ]
               refine wpAnyH_yield 2 67 (.int .i64 (ol : Int)) rfl rfl (by kernel_rfl) (by kernel_rfl) (by kernel_rfl) (fun _ _ _ h => h) (by kernel_rfl) (fun W hW => by go_simp) (by assumption) rfl rfl ?_
               simp only [Act.put, List.setIfInBounds_toArray, List.set_cons_zero, List.set_cons_succ]
               refine wpAnyH_yield 3 68 (.bool false) rfl rfl (by kernel_rfl) (by kernel_rfl) (by kernel_rfl) (fun _ _ _ h => h) (by kernel_rfl) (fun W hW => by go_simp) (by assumption) rfl rfl ?_
               simp only [Act.put, List.setIfInBounds_toArray, List.set_cons_zero, List.set_cons_succ]
               refine wpAnyH_yield 4 69 (.bool false) rfl rfl (by kernel_rfl) (by kernel_rfl) (by kernel_rfl) (fun _ _ _ h => h) (by kernel_rfl) (fun W hW => by kernel_rfl) (by assumption) rfl rfl ?_
               simp only [Act.put, List.setIfInBounds_toArray, List.set_cons_zero, List.set_cons_succ]
               refine wpAnyH_yield 5 70 (.slice (some ⟨ob, of, none⟩) ol oc) rfl rfl (by kernel_rfl) (by kernel_rfl) (by kernel_rfl) (fun _ _ _ h => h) (by kernel_rfl) (fun W hW => by kernel_rfl) (by assumption) rfl rfl ?_
               simp only [Act.put, List.setIfInBounds_toArray, List.set_cons_zero, List.set_cons_succ]
               refine wpAnyH_yield 6 71 (.int .i64 (la : Int)) rfl rfl (by kernel_rfl) (by kernel_rfl) (by kernel_rfl) (fun _ _ _ h => h) (by kernel_rfl) (fun W hW => by kernel_rfl) (by assumption) rfl rfl ?_
               simp only [Act.put, List.setIfInBounds_toArray, List.set_cons_zero, List.set_cons_succ]
               refine wpAnyH_yield 7 72 (.pointer (some ⟨ob, of + la * 9, none⟩)) rfl rfl (by kernel_rfl) (by kernel_rfl) (by kernel_rfl) (fun _ _ _ h => h) (by kernel_rfl) (fun W hW => by go_simp) (by assumption) rfl rfl ?_
               simp only [Act.put, List.setIfInBounds_toArray, List.set_cons_zero, List.set_cons_succ]
               refine wpAnyH_yield 8 73 (.pointer (some ⟨ob, of + la * 9, none⟩)) rfl rfl (by kernel_rfl) (by kernel_rfl) (by kernel_rfl) (fun _ _ _ h => h) (by kernel_rfl) (fun W hW => by go_simp) (by assumption) rfl rfl ?_
               simp only [Act.put, List.setIfInBounds_toArray, List.set_cons_zero, List.set_cons_succ]
               refine wpAnyH_yield 9 74 (spv x.sp) rfl rfl (by kernel_rfl) (by kernel_rfl) (by kernel_rfl) (fun _ _ _ h => h) (by kernel_rfl) (fun W hW => by obtain ⟨⟨i0, i1, i2⟩, -⟩ := OC.out W hW; rw [hya] at i0; rw [hyb] at i1; rw [hyh] at i2; go_simp) (by assumption) rfl rfl ?_
               simp only [Act.put, List.setIfInBounds_toArray, List.set_cons_zero, List.set_cons_succ]
               refine wpAnyH_yield 10 75 (.slice (some ⟨b, off, none⟩) n cap) rfl rfl (by kernel_rfl) (by kernel_rfl) (by kernel_rfl) (fun _ _ _ h => h) (by kernel_rfl) (fun W hW => by kernel_rfl) (by assumption) rfl rfl ?_
               simp only [Act.put, List.setIfInBounds_toArray, List.set_cons_zero, List.set_cons_succ]
               refine wpAnyH_yield 11 76 (.int .i64 (j : Int)) rfl rfl (by kernel_rfl) (by kernel_rfl) (by kernel_rfl) (fun _ _ _ h => h) (by kernel_rfl) (fun W hW => by kernel_rfl) (by assumption) rfl rfl ?_
               simp only [Act.put, List.setIfInBounds_toArray, List.set_cons_zero, List.set_cons_succ]
               refine wpAnyH_yield 12 77 (.pointer (some ⟨b, off + j * 9, none⟩)) rfl rfl (by kernel_rfl) (by kernel_rfl) (by kernel_rfl) (fun _ _ _ h => h) (by kernel_rfl) (fun W hW => by go_simp) (by assumption) rfl rfl ?_
               simp only [Act.put, List.setIfInBounds_toArray, List.set_cons_zero, List.set_cons_succ]
               refine wpAnyH_yield 13 78 (.pointer (some ⟨b, off + j * 9, none⟩)) rfl rfl (by kernel_rfl) (by kernel_rfl) (by kernel_rfl) (fun _ _ _ h => h) (by kernel_rfl) (fun W hW => by go_simp) (by assumption) rfl rfl ?_
               simp only [Act.put, List.setIfInBounds_toArray, List.set_cons_zero, List.set_cons_succ]
               refine wpAnyH_yield 14 79 (spv x.sp) rfl rfl (by kernel_rfl) (by kernel_rfl) (by kernel_rfl) (fun _ _ _ h => h) (by kernel_rfl) (fun W hW => by obtain ⟨⟨c0, c1, c2⟩, -⟩ := KY.out W hW; go_simp) (by assumption) rfl rfl ?_
               simp only [Act.put, List.setIfInBounds_toArray, List.set_cons_zero, List.set_cons_succ]
               refine wpAnyH_yield 15 80 (.bool false) rfl rfl (by kernel_rfl) (by kernel_rfl) (by kernel_rfl) (fun _ _ _ h => h) (by kernel_rfl) (fun W hW => by go_simp) (by assumption) rfl rfl ?_
               simp only [Act.put, List.setIfInBounds_toArray, List.set_cons_zero, List.set_cons_succ]
               refine wpAnyH_yield 16 81 (.bool false) rfl rfl (by kernel_rfl) (by kernel_rfl) (by kernel_rfl) (fun _ _ _ h => h) (by kernel_rfl) (fun W hW => by kernel_rfl) (by assumption) rfl rfl ?_
               simp only [Act.put, List.setIfInBounds_toArray, List.set_cons_zero, List.set_cons_succ]
               refine wpAnyH_yield 17 82 (.bool false) rfl rfl (by kernel_rfl) (by kernel_rfl) (by kernel_rfl) (fun _ _ _ h => h) (by kernel_rfl) (fun W hW => by kernel_rfl) (by assumption) rfl rfl ?_
               simp only [Act.put, List.setIfInBounds_toArray, List.set_cons_zero, List.set_cons_succ]
               refine wpAnyH_yield 18 83 (.slice (some ⟨ob, of, none⟩) ol oc) rfl rfl (by kernel_rfl) (by kernel_rfl) (by kernel_rfl) (fun _ _ _ h => h) (by kernel_rfl) (fun W hW => by kernel_rfl) (by assumption) rfl rfl ?_
               simp only [Act.put, List.setIfInBounds_toArray, List.set_cons_zero, List.set_cons_succ]
               refine wpAnyH_yield 19 84 (.int .i64 (la : Int)) rfl rfl (by kernel_rfl) (by kernel_rfl) (by kernel_rfl) (fun _ _ _ h => h) (by kernel_rfl) (fun W hW => by kernel_rfl) (by assumption) rfl rfl ?_
               simp only [Act.put, List.setIfInBounds_toArray, List.set_cons_zero, List.set_cons_succ]
               refine wpAnyH_yield 20 85 (.pointer (some ⟨ob, of + la * 9, none⟩)) rfl rfl (by kernel_rfl) (by kernel_rfl) (by kernel_rfl) (fun _ _ _ h => h) (by kernel_rfl) (fun W hW => by go_simp) (by assumption) rfl rfl ?_
               simp only [Act.put, List.setIfInBounds_toArray, List.set_cons_zero, List.set_cons_succ]
               refine wpAnyH_yield 21 86 (.pointer (some ⟨ob, of + la * 9 + 2, none⟩)) rfl rfl (by kernel_rfl) (by kernel_rfl) (by kernel_rfl) (fun _ _ _ h => h) (by kernel_rfl) (fun W hW => by go_simp) (by assumption) rfl rfl ?_
               simp only [Act.put, List.setIfInBounds_toArray, List.set_cons_zero, List.set_cons_succ]
               refine wpAnyH_yield 22 87 (.int .i64 x.h) rfl rfl (by kernel_rfl) (by kernel_rfl) (by kernel_rfl) (fun _ _ _ h => h) (by kernel_rfl) (fun W hW => by obtain ⟨⟨i0, i1, i2⟩, -⟩ := OC.out W hW; rw [hya] at i0; rw [hyb] at i1; rw [hyh] at i2; go_simp) (by assumption) rfl rfl ?_
               simp only [Act.put, List.setIfInBounds_toArray, List.set_cons_zero, List.set_cons_succ]
               refine wpAnyH_yield 23 88 (.slice (some ⟨b, off, none⟩) n cap) rfl rfl (by kernel_rfl) (by kernel_rfl) (by kernel_rfl) (fun _ _ _ h => h) (by kernel_rfl) (fun W hW => by kernel_rfl) (by assumption) rfl rfl ?_
               simp only [Act.put, List.setIfInBounds_toArray, List.set_cons_zero, List.set_cons_succ]
               refine wpAnyH_yield 24 89 (.int .i64 (j : Int)) rfl rfl (by kernel_rfl) (by kernel_rfl) (by kernel_rfl) (fun _ _ _ h => h) (by kernel_rfl) (fun W hW => by kernel_rfl) (by assumption) rfl rfl ?_
               simp only [Act.put, List.setIfInBounds_toArray, List.set_cons_zero, List.set_cons_succ]
               refine wpAnyH_yield 25 90 (.pointer (some ⟨b, off + j * 9, none⟩)) rfl rfl (by kernel_rfl) (by kernel_rfl) (by kernel_rfl) (fun _ _ _ h => h) (by kernel_rfl) (fun W hW => by go_simp) (by assumption) rfl rfl ?_
               simp only [Act.put, List.setIfInBounds_toArray, List.set_cons_zero, List.set_cons_succ]
               refine wpAnyH_yield 26 91 (.pointer (some ⟨b, off + j * 9 + 2, none⟩)) rfl rfl (by kernel_rfl) (by kernel_rfl) (by kernel_rfl) (fun _ _ _ h => h) (by kernel_rfl) (fun W hW => by go_simp) (by assumption) rfl rfl ?_
               simp only [Act.put, List.setIfInBounds_toArray, List.set_cons_zero, List.set_cons_succ]
               refine wpAnyH_yield 27 92 (.int .i64 x.h) rfl rfl (by kernel_rfl) (by kernel_rfl) (by kernel_rfl) (fun _ _ _ h => h) (by kernel_rfl) (fun W hW => by obtain ⟨⟨c0, c1, c2⟩, -⟩ := KY.out W hW; go_simp) (by assumption) rfl rfl ?_
               simp only [Act.put, List.setIfInBounds_toArray, List.set_cons_zero, List.set_cons_succ]
               refine wpAnyH_yield 28 93 (.bool false) rfl rfl (by kernel_rfl) (by kernel_rfl) (by kernel_rfl) (fun _ _ _ h => h) (by kernel_rfl) (fun W hW => by go_simp) (by assumption) rfl rfl ?_
               simp only [Act.put, List.setIfInBounds_toArray, List.set_cons_zero, List.set_cons_succ]
               refine wpAnyH_yield 29 94 (.bool false) rfl rfl (by kernel_rfl) (by kernel_rfl) (by kernel_rfl) (fun _ _ _ h => h) (by kernel_rfl) (fun W hW => by kernel_rfl) (by assumption) rfl rfl ?_
               simp only [Act.put, List.setIfInBounds_toArray, List.set_cons_zero, List.set_cons_succ]
               refine wpAnyH_yield 30 95 (.bool false) rfl rfl (by kernel_rfl) (by kernel_rfl) (by kernel_rfl) (fun _ _ _ h => h) (by kernel_rfl) (fun W hW => by kernel_rfl) (by assumption) rfl rfl ?_
               simp only [Act.put, List.setIfInBounds_toArray, List.set_cons_zero, List.set_cons_succ]
               refine wpAnyH_yield 31 96 (.bool true) rfl rfl (by kernel_rfl) (by kernel_rfl) (by kernel_rfl) (fun _ _ _ h => h) (by kernel_rfl) (fun W hW => by kernel_rfl) (by assumption) rfl rfl ?_
               simp only [Act.put, List.setIfInBounds_toArray, List.set_cons_zero, List.set_cons_succ]
               refine wpAnyH_yield 32 97 (.bool false) rfl rfl (by kernel_rfl) (by kernel_rfl) (by kernel_rfl) (fun _ _ _ h => h) (by kernel_rfl) (fun W hW => by go_simp) (by assumption) rfl rfl ?_
               simp only [Act.put, List.setIfInBounds_toArray, List.set_cons_zero, List.set_cons_succ]
               refine wpAnyH_yield 33 98 (.bool false) rfl rfl (by kernel_rfl) (by kernel_rfl) (by kernel_rfl) (fun _ _ _ h => h) (by kernel_rfl) (fun W hW => by kernel_rfl) (by assumption) rfl rfl ?_
               simp only [Act.put, List.setIfInBounds_toArray, List.set_cons_zero, List.set_cons_succ]
               refine wpAnyH_skip 34 99 rfl rfl (by kernel_rfl) (by kernel_rfl) (by kernel_rfl) (fun _ _ _ h => h) (by kernel_rfl) (by assumption) rfl rfl ?_
               simp only [Act.put, List.setIfInBounds_toArray, List.set_cons_zero, List.set_cons_succ]
               refine wpAnyH_skip 35 100 rfl rfl (by kernel_rfl) (by kernel_rfl) (by kernel_rfl) (fun _ _ _ h => h) (by kernel_rfl) (by assumption) rfl rfl ?_
               simp only [Act.put, List.setIfInBounds_toArray, List.set_cons_zero, List.set_cons_succ]
               refine wpAnyH_skip 36 101 rfl rfl (by kernel_rfl) (by kernel_rfl) (by kernel_rfl) (fun _ _ _ h => h) (by kernel_rfl) (by assumption) rfl rfl ?_
               simp only [Act.put, List.setIfInBounds_toArray, List.set_cons_zero, List.set_cons_succ]
               refine wpAnyH_skip 37 102 rfl rfl (by kernel_rfl) (by kernel_rfl) (by kernel_rfl) (fun _ _ _ h => h) (by kernel_rfl) (by assumption) rfl rfl ?_
               simp only [Act.put, List.setIfInBounds_toArray, List.set_cons_zero, List.set_cons_succ]
               refine wpAnyH_skip 38 103 rfl rfl (by kernel_rfl) (by kernel_rfl) (by kernel_rfl) (fun _ _ _ h => h) (by kernel_rfl) (by assumption) rfl rfl ?_
               simp only [Act.put, List.setIfInBounds_toArray, List.set_cons_zero, List.set_cons_succ]
               refine wpAnyH_skip 39 104 rfl rfl (by kernel_rfl) (by kernel_rfl) (by kernel_rfl) (fun _ _ _ h => h) (by kernel_rfl) (by assumption) rfl rfl ?_
               simp only [Act.put, List.setIfInBounds_toArray, List.set_cons_zero, List.set_cons_succ]
               refine wpAnyH_skip 40 105 rfl rfl (by kernel_rfl) (by kernel_rfl) (by kernel_rfl) (fun _ _ _ h => h) (by kernel_rfl) (by assumption) rfl rfl ?_
               simp only [Act.put, List.setIfInBounds_toArray, List.set_cons_zero, List.set_cons_succ]
               refine wpAnyH_skip 41 106 rfl rfl (by kernel_rfl) (by kernel_rfl) (by kernel_rfl) (fun _ _ _ h => h) (by kernel_rfl) (by assumption) rfl rfl ?_
               simp only [Act.put, List.setIfInBounds_toArray, List.set_cons_zero, List.set_cons_succ]
               refine wpAnyH_skip 42 107 rfl rfl (by kernel_rfl) (by kernel_rfl) (by kernel_rfl) (fun _ _ _ h => h) (by kernel_rfl) (by assumption) rfl rfl ?_
               simp only [Act.put, List.setIfInBounds_toArray, List.set_cons_zero, List.set_cons_succ]
               refine wpAnyH_yield 43 108 (.bool false) rfl rfl (by kernel_rfl) (by kernel_rfl) (by kernel_rfl) (fun _ _ _ h => h) (by kernel_rfl) (fun W hW => by kernel_rfl) (by assumption) rfl rfl ?_
               simp only [Act.put, List.setIfInBounds_toArray, List.set_cons_zero, List.set_cons_succ]
               refine wpAnyH_yield 44 109 (.bool false) rfl rfl (by kernel_rfl) (by kernel_rfl) (by kernel_rfl) (fun _ _ _ h => h) (by kernel_rfl) (fun W hW => by kernel_rfl) (by assumption) rfl rfl ?_
               simp only [Act.put, List.setIfInBounds_toArray, List.set_cons_zero, List.set_cons_succ]
               refine wpAnyH_done (by kernel_rfl) ?_ _
               have H6 := hide hT0
               clear hT0 H5
               go_wp2_with fail
               go_roundw
               case rel => exact ⟨j + 1, by go_num, by omega, by rw [LNj.out]; simp, by rw [TNj.out, HON.out]; simp, H6.out⟩
               case measure => simp [intOf]; omega)
    · have e : j = n := by omega
      subst e
      have hla : leftN c.lt t L j = ol := by have := OLn.out; omega
      have htb : toldN f t L j = pl := by have := HPl.out; omega
      rw [hla, htb]
      have PY : Hid (∀ i, i < pl → ∃ pb pf, po = some ⟨pb, pf, none⟩ ∧ ∀ W, Calm w2 W → pcell W pb (pf + i * 9) (P.getD i pn0)) := hide fun i hi => by
        have hm := (Rc.Own.mem HPW.out).2.1
        have hi' : i < P.length := by have := HPll.out; omega
        obtain ⟨pb, pf, e, -⟩ := pn_at hm i hi'
        refine ⟨pb, pf, e, fun W hW => ?_⟩
        obtain ⟨b', off', e', cc⟩ := pn_at (Rc.Mem.calm hm hW) i hi'
        rw [e] at e'
        injection e' with e'
        injection e' with e1 e2
        subst e1 e2
        exact cc
      have PR : Hid (∀ i, i + 1 < pl → (P.getD i pn0).b ≤ (P.getD (i + 1) pn0).b) := hide fun i hi => by
        have hl := HPll.out
        have := List.pairwise_iff_getElem.1 HPr.out i (i + 1) (by omega) (by omega) (by omega)
        rw [List.getD_eq_getElem?_getD, List.getElem?_eq_getElem (show i < P.length by omega), List.getD_eq_getElem?_getD, List.getElem?_eq_getElem (show i + 1 < P.length by omega)]
        exact this
      have HI := hide TL
      have hple : pl ≤ 2000000000000 := by have := TE.out j; omega
      clear TL CV HAt OA OLn LN TN LE TE LZ TZ HPl HPr MB ME HOW HPW hla htb
      go_wp2_with fail
      go_loopw [13] (fun i wr => ∃ l : Nat, i = .int .i64 ((l + 1 : Nat) : Int) ∧ (l = 0 ∨ l + 1 ≤ pl) ∧ Calm w2 wr) (fun i _ => pl + 1 - (intOf i).toNat)
      case atStart => exact ⟨0, rfl, .inl rfl, HI.out⟩
      case round =>
        obtain ⟨l, rfl, hl, TL⟩ := hrel
        by_cases hlt2 : l + 1 < pl
        · obtain ⟨pb, pf, rfl, h1⟩ := PY.out l (by omega)
          obtain ⟨pb', pf', e', h2⟩ := PY.out (l + 1) hlt2
          injection e' with e'
          injection e' with e1 e2
          subst e1 e2
          obtain ⟨⟨d0, d1, d2, d3, d4⟩, -⟩ := h1 wr TL
          obtain ⟨⟨f0, f1, f2, f3, f4⟩, -⟩ := h2 wr TL
          have hpr := PR.out l hlt2
          have hdd : decide ((P.getD (l + 1) pn0).b < (P.getD l pn0).b) = false := decide_eq_false (by omega)
          generalize P.getD l pn0 = q1 at *
          generalize P.getD (l + 1) pn0 = q2 at *
          have H7 := hide TL
          have hli : ((l + 1 : Nat) : Int) < (pl : Int) := by omega
          have hli2 : (l : Int) < (pl : Int) := by omega
          clear TL h1 h2 hpr PY PR d0 d1 d3 d4 f0 f1 f3 f4
          go_wp2_with fail
          go_quiet (fail)
          have H8 := hide (H7.out.drewN nq)
          clear H7
          go_wp2_with fail
          go_roundw
          case rel => exact ⟨l + 1, by go_num, .inr (by omega), H8.out⟩
          case measure => simp [intOf]; omega
        · have hli : ¬ ((l + 1 : Nat) : Int) < (pl : Int) := by omega
          have hld : decide (((l + 1 : Nat) : Int) < (pl : Int)) = false := decide_eq_false hli
          have H7 := hide TL
          clear TL PY PR hl
          go_wp2_with fail
          go_ret
          exact ⟨rfl, GT.out.tr H7.out⟩

end Go.Proofs.Ytfmlbcddomggaaa
