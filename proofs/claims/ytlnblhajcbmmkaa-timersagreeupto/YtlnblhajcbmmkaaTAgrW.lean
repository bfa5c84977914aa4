/- The walk of TimersAgree. -/
import Derived.Test.YtlnblhajcbmmkaaTAgrB
import Derived.Test.YtlnblhajcbmmkaaTAgrM
import Derived.Deep.CutRange
namespace Go.Proofs.Ytlnblhajcbmmkaa
open Go.RowKit

theorem last_wrap {first more : Int} (b1 : -9223372036854775808 ≤ first) (hm : 0 < more) (hf : first < 4611686018427387904) : first ≤ wrap64 (first + more.tmod 2305843009213693952) := by
  have a1 := Int.tmod_lt_of_pos more (b := 2305843009213693952) (by decide)
  have a2 : 0 ≤ more.tmod 2305843009213693952 := Int.tmod_nonneg _ (by omega)
  unfold wrap64
  omega

set_option maxRecDepth 100000 in
set_option maxHeartbeats 2000000 in
theorem agree_walk (ao : Option Addr) (cap : Nat) (l : List Tm) (first more : Int) (w : World) (ht : Tms w ao l) (hg : ∀ t ∈ l, Good t) (hb : l.length ≤ 1048576) (hf : Hid (-9223372036854775808 ≤ first)) :
    Calls Try.prog 6 #[.slice ao l.length cap, .int .i64 first, .int .i64 more] w fun e w' => e = .returned (.bool true) ∧ Calm w w' := by
  obtain ⟨n, hn⟩ : ∃ n, n = l.length := ⟨_, rfl⟩
  have HN := hide hn
  have HT := hide ht
  have HG := hide hg
  have HB : Hid (n ≤ 1048576) := hide (by omega)
  rw [← hn]
  clear hn ht hg hb
  go_enter Try.func6, Try.ntmps6
  go_upto_region 2 with fail
  go_cut [26] from 21 to 26 (fun v wc => ∃ c : Bool, v = .bool c ∧ (c = true → 0 < more ∧ first < 4611686018427387904) ∧ w = wc)
  case first =>
    go_wp2_with fail
    all_goals go_meet
    all_goals (case rel => first | exact ⟨false, rfl, fun h => (nomatch h), rfl⟩ | exact ⟨decide (first < 4611686018427387904), rfl, fun h => ⟨by assumption, of_decide_eq_true h⟩, rfl⟩)
  case rest =>
    obtain ⟨c, rfl, hc, rfl⟩ := hcut
    have HC := hide hc
    clear hc
    go_upto_if 26 with fail
    go_cut [7] from 27 to 30 (fun v wc => ∃ last : Int, v = .int .i64 last ∧ first ≤ last ∧ w = wc)
    case first =>
      cases c with
      | false =>
        go_wp2_with fail
        go_meet
        case rel => exact ⟨first, rfl, Int.le_refl _, rfl⟩
      | true =>
        have HL := hide (last_wrap hf.out (HC.out rfl).1 (HC.out rfl).2)
        go_wp2_with fail
        go_meet
        case rel => exact ⟨_, rfl, HL.out, rfl⟩
    case rest =>
      obtain ⟨last, rfl, hlast, rfl⟩ := hcut
      have HLAST := hide hlast
      clear hlast HC hf
      have e1 : wrap64 ((n : Int) - 1) = (n : Int) - 1 := by have := HB.out; unfold wrap64; omega
      have E1 := hide e1
      clear e1
      go_wp2_with fail
      rw [E1.out]
      go_loopw [8, 9] (fun v8 v9 wr => ∃ (j : Nat) (bo : Option Addr) (bc : Nat) (B : List Tm), j ≤ n ∧ v8 = .slice bo (2 * j) bc ∧ v9 = .int .i64 ((n : Int) - 1 - j) ∧ Bk w l j bo bc B wr) (fun v8 _ _ => n - lenOf v8 / 2)
      case atStart => exact ⟨0, none, 0, [], Nat.zero_le _, rfl, by simp, Bk.none w l⟩
      case round =>
        obtain ⟨j, bo, bc, B, hj, rfl, rfl, bk⟩ := hrel
        by_cases hlt : j < n
        · obtain ⟨i, hi⟩ : ∃ i, n = j + 1 + i := ⟨n - j - 1, by omega⟩
          have e9 : (n : Int) - 1 - j = (i : Int) := by omega
          have hii : (i : Int) < (n : Int) := by omega
          have hji : (j : Int) < (n : Int) := by omega
          have E10 : Hid (wrap64 ((n : Int) - 1 - (i : Int)) = (j : Int)) := hide (by have := HB.out; unfold wrap64; omega)
          have hin : i < l.length := by have := HN.out; omega
          have hjn : j < l.length := by have := HN.out; omega
          have E11 : Hid (wrap64 ((i : Int) - 1) = (n : Int) - 1 - ((j + 1 : Nat) : Int)) := hide (by have := HB.out; unfold wrap64; omega)
          obtain ⟨b, off, e, c0, c1, c2, c3⟩ := HT.out i hin
          obtain ⟨b', off', e', d0, d1, d2, d3⟩ := HT.out j hjn
          subst e
          injection e' with e'
          injection e' with eb eo _
          subst eb eo
          rw [← nth_eq hin] at c0 c1 c2 c3
          rw [← nth_eq hjn] at d0 d1 d2 d3
          obtain ⟨x, hx⟩ : ∃ x, nth l i = x := ⟨_, rfl⟩
          obtain ⟨y, hy⟩ : ∃ y, nth l j = y := ⟨_, rfl⟩
          rw [hx] at c0 c1 c2 c3
          rw [hy] at d0 d1 d2 d3
          have HX : Hid (nth l (l.length - 1 - j) = x) := hide (by rw [show l.length - 1 - j = i by have := HN.out; omega]; exact hx)
          have HY := hide hy
          have CX : Hid (∀ W, Calm w W → W.cell? ⟨b, off + i * 4, none⟩ = some (.int .i64 x.at_) ∧ W.cell? ⟨b, off + i * 4 + 1, none⟩ = some (.string x.key) ∧ W.cell? ⟨b, off + i * 4 + 2, none⟩ = some (.int .i64 x.start) ∧ W.cell? ⟨b, off + i * 4 + 3, none⟩ = some (.int .i64 x.stop)) := hide (fun W hW => by
            have g : ∀ {o : Nat} {v : Value}, w.cell? ⟨b, o, none⟩ = some v → W.cell? ⟨b, o, none⟩ = some v := fun {o v} h => (hW.cell (p := ⟨b, o, none⟩) (lt_of_cell h) (fun h => h)).trans h
            exact ⟨g c0, g c1, g c2, g c3⟩)
          have CY : Hid (∀ W, Calm w W → W.cell? ⟨b, off + j * 4, none⟩ = some (.int .i64 y.at_) ∧ W.cell? ⟨b, off + j * 4 + 1, none⟩ = some (.string y.key) ∧ W.cell? ⟨b, off + j * 4 + 2, none⟩ = some (.int .i64 y.start) ∧ W.cell? ⟨b, off + j * 4 + 3, none⟩ = some (.int .i64 y.stop)) := hide (fun W hW => by
            have g : ∀ {o : Nat} {v : Value}, w.cell? ⟨b, o, none⟩ = some v → W.cell? ⟨b, o, none⟩ = some v := fun {o v} h => (hW.cell (p := ⟨b, o, none⟩) (lt_of_cell h) (fun h => h)).trans h
            exact ⟨g d0, g d1, g d2, g d3⟩)
          have HBL : Hid (B.length = 2 * j ∧ j < n) := hide ⟨bk.len, hlt⟩
          have BK := hide bk
          rw [e9]
          clear bk c0 c1 c2 c3 d0 d1 d2 d3 hi hx hy e9 hin hjn hj
          go_wp2_with fail
          refine wp_only ?_
          refine wp_region_held (S := Calm w) (by kernel_rfl) ?_
          have hS0 : Calm w { wr with drawn := wr.drawn + 1 } := BK.out.calm.drew
          have hO0 : OwnT { wr with drawn := wr.drawn + 1 } w.heap.size (.slice bo (2 * j) bc) B := BK.out.own.calm ((Touch.refl (fun _ => False) wr).drew)
          generalize ({ wr with drawn := wr.drawn + 1 } : World) = w1 at *
          refine wpAnyH_yield 0 38 (.slice bo (2 * j) bc) rfl rfl (by kernel_rfl) (by kernel_rfl) (by kernel_rfl) (fun _ _ _ h => h) (by kernel_rfl) (fun W hW => by kernel_rfl) (by assumption) rfl rfl ?_
          simp only [Act.put, List.setIfInBounds_toArray, List.set_cons_zero, List.set_cons_succ]
          refine wpAnyH_yield 1 39 (.slice (some ⟨b, off, none⟩) n cap) rfl rfl (by kernel_rfl) (by kernel_rfl) (by kernel_rfl) (fun _ _ _ h => h) (by kernel_rfl) (fun W hW => by kernel_rfl) (by assumption) rfl rfl ?_
          simp only [Act.put, List.setIfInBounds_toArray, List.set_cons_zero, List.set_cons_succ]
          refine wpAnyH_yield 2 40 (.int .i64 (i : Int)) rfl rfl (by kernel_rfl) (by kernel_rfl) (by kernel_rfl) (fun _ _ _ h => h) (by kernel_rfl) (fun W hW => by kernel_rfl) (by assumption) rfl rfl ?_
          simp only [Act.put, List.setIfInBounds_toArray, List.set_cons_zero, List.set_cons_succ]
          refine wpAnyH_yield 3 41 (.pointer (some ⟨b, off + i * 4, none⟩)) rfl rfl (by kernel_rfl) (by kernel_rfl) (by kernel_rfl) (fun _ _ _ h => h) (by kernel_rfl) (fun W hW => by go_simp) (by assumption) rfl rfl ?_
          simp only [Act.put, List.setIfInBounds_toArray, List.set_cons_zero, List.set_cons_succ]
          refine wpAnyH_yield 4 42 (tv x) rfl rfl (by kernel_rfl) (by kernel_rfl) (by kernel_rfl) (fun _ _ _ h => h) (by kernel_rfl) (fun W hW => by obtain ⟨c0, c1, c2, c3⟩ := CX.out W hW; go_simp) (by assumption) rfl rfl ?_
          simp only [Act.put, List.setIfInBounds_toArray, List.set_cons_zero, List.set_cons_succ]
          refine wpAnyH_yield 5 43 (.slice (some ⟨b, off, none⟩) n cap) rfl rfl (by kernel_rfl) (by kernel_rfl) (by kernel_rfl) (fun _ _ _ h => h) (by kernel_rfl) (fun W hW => by kernel_rfl) (by assumption) rfl rfl ?_
          simp only [Act.put, List.setIfInBounds_toArray, List.set_cons_zero, List.set_cons_succ]
          refine wpAnyH_yield 6 44 (.slice (some ⟨b, off, none⟩) n cap) rfl rfl (by kernel_rfl) (by kernel_rfl) (by kernel_rfl) (fun _ _ _ h => h) (by kernel_rfl) (fun W hW => by kernel_rfl) (by assumption) rfl rfl ?_
          simp only [Act.put, List.setIfInBounds_toArray, List.set_cons_zero, List.set_cons_succ]
          refine wpAnyH_yield 7 45 (.int .i64 (n : Int)) rfl rfl (by kernel_rfl) (by kernel_rfl) (by kernel_rfl) (fun _ _ _ h => h) (by kernel_rfl) (fun W hW => by go_simp) (by assumption) rfl rfl ?_
          simp only [Act.put, List.setIfInBounds_toArray, List.set_cons_zero, List.set_cons_succ]
          refine wpAnyH_yield 8 46 (.int .i64 ((n : Int) - 1)) rfl rfl (by kernel_rfl) (by kernel_rfl) (by kernel_rfl) (fun _ _ _ h => h) (by kernel_rfl) (fun W hW => by go_simp; rw [wrapEq]; exact E1.out) (by assumption) rfl rfl ?_
          simp only [Act.put, List.setIfInBounds_toArray, List.set_cons_zero, List.set_cons_succ]
          refine wpAnyH_yield 9 47 (.int .i64 (i : Int)) rfl rfl (by kernel_rfl) (by kernel_rfl) (by kernel_rfl) (fun _ _ _ h => h) (by kernel_rfl) (fun W hW => by kernel_rfl) (by assumption) rfl rfl ?_
          simp only [Act.put, List.setIfInBounds_toArray, List.set_cons_zero, List.set_cons_succ]
          refine wpAnyH_yield 10 48 (.int .i64 (j : Int)) rfl rfl (by kernel_rfl) (by kernel_rfl) (by kernel_rfl) (fun _ _ _ h => h) (by kernel_rfl) (fun W hW => by go_simp; rw [wrapEq]; exact E10.out) (by assumption) rfl rfl ?_
          simp only [Act.put, List.setIfInBounds_toArray, List.set_cons_zero, List.set_cons_succ]
          refine wpAnyH_yield 11 49 (.pointer (some ⟨b, off + j * 4, none⟩)) rfl rfl (by kernel_rfl) (by kernel_rfl) (by kernel_rfl) (fun _ _ _ h => h) (by kernel_rfl) (fun W hW => by go_simp) (by assumption) rfl rfl ?_
          simp only [Act.put, List.setIfInBounds_toArray, List.set_cons_zero, List.set_cons_succ]
          refine wpAnyH_yield 12 50 (tv y) rfl rfl (by kernel_rfl) (by kernel_rfl) (by kernel_rfl) (fun _ _ _ h => h) (by kernel_rfl) (fun W hW => by obtain ⟨c0, c1, c2, c3⟩ := CY.out W hW; go_simp) (by assumption) rfl rfl ?_
          simp only [Act.put, List.setIfInBounds_toArray, List.set_cons_zero, List.set_cons_succ]
          have PM := tms_two w1 x y
          have tB : Calm w1 (w1.alloc (.cells #[.int .i64 x.at_, .string x.key, .int .i64 x.start, .int .i64 x.stop, .int .i64 y.at_, .string y.key, .int .i64 y.start, .int .i64 y.stop] 35)) := (Touch.refl _ _).alloc _
          refine wpAnyH_value 13 51 (.slice (some ⟨w1.heap.size, 0, none⟩) 2 2) (w' := w1.alloc (.cells #[.int .i64 x.at_, .string x.key, .int .i64 x.start, .int .i64 x.stop, .int .i64 y.at_, .string y.key, .int .i64 y.start, .int .i64 y.stop] 35)) rfl rfl (by kernel_rfl) (by kernel_rfl) (by go_simp) (hS0.tr tB) ?_
          simp only [Act.put, List.setIfInBounds_toArray, List.set_cons_zero, List.set_cons_succ]
          obtain ⟨ao2, cap2, w2, hr2, ow2, t2, -⟩ := run_tapp _ w.heap.size 22 (.slice bo (2 * j) bc) B (hO0.calm tB) (some ⟨w1.heap.size, 0, none⟩) 2 [x, y] PM (fun h => (nomatch h)) (by have := HBL.out; have := HB.out; simp; omega) (hS0.tr tB).size
          have hS2 : Calm w w2 := (hS0.tr tB).trans t2 (fun g hg hg2 => by
            have := World.ownsRow.lt hO0 g hg2
            omega)
          obtain ⟨L2, eL2⟩ : ∃ L2, L2 = (B ++ [x, y]).length := ⟨_, rfl⟩
          have HL2 := hide eL2
          rw [← eL2] at hr2 ow2
          refine wpAnyH_value 14 52 (.slice ao2 L2 cap2) (w' := w2) rfl rfl (by kernel_rfl) (by kernel_rfl) (exec_tapp rfl hr2) hS2 ?_
          simp only [Act.put, List.setIfInBounds_toArray, List.set_cons_zero, List.set_cons_succ]
          refine wpAnyH_yield 15 8 (.slice ao2 L2 cap2) rfl rfl (by kernel_rfl) (by kernel_rfl) (by kernel_rfl) (fun _ _ _ h => h) (by kernel_rfl) (fun W hW => by kernel_rfl) (by assumption) rfl rfl ?_
          simp only [Act.put, List.setIfInBounds_toArray, List.set_cons_zero, List.set_cons_succ]
          refine wpAnyH_done (by kernel_rfl) ?_ _
          rw [onlyN_normal]
          have NX := hide (BK.out.next (bo' := ao2) (bc' := cap2) (w' := w2) (by rw [← HN.out]; exact hlt) (by rw [HX.out, HY.out, ← eL2]; exact ow2) hS2)
          have EL : Hid (L2 = 2 * (j + 1)) := hide (by rw [eL2, List.length_append, BK.out.len]; simp; omega)
          rw [EL.out]
          clear hr2 ow2 t2 hS2 hS0 hO0 tB PM eL2
          go_wp2_with fail
          go_roundw
          case rel => exact ⟨j + 1, ao2, cap2, _, hlt, rfl, by rw [E11.out], NX.out⟩
          case measure => simp [lenOf]; omega
        · have hge : ¬ (0 : Int) ≤ (n : Int) - 1 - j := by omega
          have e : j = n := by omega
          subst e
          have BK := hide bk
          clear bk hlt hj
          go_wp2_with fail
          have HBO : Hid (B.length = 2 * j) := hide BK.out.len
          have HGB : Hid (∀ t ∈ B, Good t) := hide (fun t h => HG.out t (BK.out.sub t h))
          have TB := hide (OwnT.prs BK.out.own).2.1
          have BW := hide (show ∀ x, x ∈ B ↔ x ∈ l from by have h9 := BK.out; rw [HN.out] at h9; exact h9.whole)
          have TR := hide BK.out.calm
          have N1 := hide (new_any ao cap l wr (HT.out.calm TR.out) HG.out (by have := HB.out; have := HN.out; omega))
          rw [← HN.out] at N1
          clear BK
          refine N1.out.mono ?_
          rintro e w1 ⟨q1, F1, V1, rfl, tq1, m1, f1, t1⟩
          have TQ1 := hide tq1
          have M1 := hide m1
          have FR1 := hide f1
          have T1 := hide (TR.out.tr t1)
          have N2 := hide (new_any bo bc B w1 (TB.out.calm t1) HGB.out (by have := HB.out; have := HBO.out; omega))
          rw [HBO.out] at N2
          have S1 := hide t1.size
          clear tq1 m1 f1 t1 N1
          go_wp2_with fail
          refine N2.out.mono ?_
          rintro e w2 ⟨q2, F2, V2, rfl, tq2, m2, f2, t2⟩
          have TQ1b := hide (TQ1.out.calm t2)
          have TQ2 := hide tq2
          have M2 := hide (fun x => (m2 x).trans (BW.out x))
          have FR2 := hide f2
          have LT1 := hide TQ1.out.lt
          have T2 := hide (T1.out.tr t2)
          have S2 := hide t2.size
          have N3 := hide (new_any ao cap l w2 (HT.out.calm T2.out) HG.out (by have := HB.out; have := HN.out; omega))
          rw [← HN.out] at N3
          clear tq2 m2 f2 t2 N2 TQ1
          go_wp2_with fail
          refine N3.out.mono ?_
          rintro e w3 ⟨q3, F3, V3, rfl, tq3, m3, f3, t3⟩
          have TQ1 := hide (TQ1b.out.calm t3)
          have TQ2c := hide (TQ2.out.calm t3)
          have LT2 := hide TQ2.out.lt
          have TQ3 := hide tq3
          have M3 := hide m3
          have FR3 := hide f3
          have T3 := hide (T2.out.tr t3)
          have S3 := hide t3.size
          have EL2 : Hid (V2.length = V1.length) := hide (same_len TQ2.out.nd.nodup TQ1.out.nd.nodup (fun x => (M2.out x).trans (M1.out x).symm))
          have HLE : Hid (V1.length ≤ j) := hide (by rw [HN.out]; exact sub_len TQ1.out.nd.nodup (fun x hx => (M1.out x).1 hx))
          have LN1 := hide (fun W (h : Calm w3 W) => len_any q1 F1 V1 W (TQ1.out.calm h))
          have LN2 := hide (fun W (h : Calm w3 W) => len_any q2 F2 V2 W (TQ2c.out.calm h))
          rw [EL2.out] at LN2
          have DU1 := hide (due_any q1 F1 V1 first w3 TQ1.out (by have := HB.out; have := HLE.out; omega))
          have HLV : Hid (V1.length < 3518437208790) := hide (by have := HB.out; have := HLE.out; omega)
          clear tq3 m3 f3 t3 N3 TQ1b TQ2
          obtain ⟨m, em⟩ : ∃ m, V1.length = m := ⟨_, rfl⟩
          rw [em] at LN1 LN2 HLE HLV EL2
          have EM := hide em
          clear em
          have hle : ¬ (j : Int) < (m : Int) := by have := HLE.out; omega
          go_wp2_with fail
          refine (LN1.out w3 (Touch.refl _ _)).mono ?_
          rintro e w' ⟨rfl, hw⟩
          subst hw
          go_wp2_with fail
          refine (LN2.out w' (Touch.refl _ _)).mono ?_
          rintro e w'' ⟨rfl, hw⟩
          subst hw
          go_wp2_with fail
          refine (LN1.out w'' (Touch.refl _ _)).mono ?_
          rintro e w3 ⟨rfl, hw⟩
          subst hw
          go_wp2_with fail
          have DIS : Hid ((∀ g, F1 g → ¬ F2 g ∧ ¬ F3 g ∧ w.heap.size ≤ g ∧ g < w3.heap.size) ∧ (∀ g, F2 g → ¬ F1 g ∧ ¬ F3 g ∧ w.heap.size ≤ g ∧ g < w3.heap.size) ∧ ∀ g, F3 g → ¬ F1 g ∧ ¬ F2 g ∧ w.heap.size ≤ g ∧ g < w3.heap.size) := hide (by
            have a1 := FR1.out; have a2 := FR2.out; have a3 := FR3.out
            have b1 := LT1.out; have b2 := LT2.out; have b3 := TQ3.out.lt
            have c1 := S1.out; have c2 := S2.out; have c3 := S3.out; have c4 := TR.out.size
            refine ⟨fun g hg => ⟨fun h => ?_, fun h => ?_, ?_, ?_⟩, fun g hg => ⟨fun h => ?_, fun h => ?_, ?_, ?_⟩, fun g hg => ⟨fun h => ?_, fun h => ?_, ?_, ?_⟩⟩ <;> (first | (have := a1 g hg; have := b1 g hg) | (have := a2 g hg; have := b2 g hg) | (have := a3 g hg; have := b3 g hg)) <;> (first | (have := a1 g h; have := b1 g h; omega) | (have := a2 g h; have := b2 g h; omega) | (have := a3 g h; have := b3 g h; omega) | omega))
          clear LN1 LN2 FR1 FR2 FR3 LT1 LT2 S1 S2 S3 T1 T2 TB HBO HGB hle hge
          refine DU1.out.mono ?_
          rintro e w4 ⟨D1, U1, oa, oc, rfl, ow1, tq1, s1, d1, v1, t4⟩
          obtain ⟨m1, em1⟩ : ∃ m1, D1.length = m1 := ⟨_, rfl⟩
          rw [em1] at ow1 ⊢
          have HU1 : Hid (U1.length < 3518437208790) := hide (by
            have h1 := sub_len tq1.nd.nodup (fun x hx => ((v1 x).1 hx).1)
            have := HLV.out; have := EM.out; omega)
          have HM1 : Hid (m1 ≤ m) := hide (by
            have h1 := sub_len (Srt.nodup s1) (fun x hx => ((d1 x).1 hx).1)
            have := EM.out; omega)
          have DU2 := hide (due_any q1 F1 U1 last w4 tq1 HU1.out)
          have OW1 := hide ow1
          have SD1 := hide s1
          have MD1 := hide d1
          have MU1 := hide v1
          have T4 := hide t4
          have TQ3d := hide (TQ3.out.touch t4 (fun g hg => (DIS.out.1 g hg).2.1))
          have TQ2d := hide (TQ2c.out.touch t4 (fun g hg => (DIS.out.1 g hg).1))
          have TW4 := hide (T3.out.trans t4 (fun g hg hs => by have := (DIS.out.1 g hs).2.2.1; omega))
          clear ow1 tq1 s1 d1 v1 t4 DU1 TQ1 TQ2c TQ3 em1
          go_wp2_with fail
          refine DU2.out.mono ?_
          rintro e w5 ⟨D2, U2, pa, pc, rfl, ow2, tq1, s2, d2, v2, t5⟩
          obtain ⟨m2, em2⟩ : ∃ m2, D2.length = m2 := ⟨_, rfl⟩
          rw [em2] at ow2 ⊢
          obtain ⟨sO, mO⟩ := one_srt SD1.out s2 MD1.out MU1.out d2 HLAST.out
          obtain ⟨O, eO⟩ : ∃ O, D1 ++ D2 = O := ⟨_, rfl⟩
          rw [eO] at sO mO
          obtain ⟨k, ek⟩ : ∃ k, O.length = k := ⟨_, rfl⟩
          have HK : Hid (k ≤ m) := hide (by
            have h1 := sub_len (Srt.nodup sO) (fun x hx => ((mO x).1 hx).1)
            have := EM.out; omega)
          have SO := hide sO
          have MO : Hid (∀ x, x ∈ O ↔ x ∈ l ∧ x.at_ ≤ last) := hide (fun x => by rw [mO, M1.out])
          have MU2 : Hid (∀ x, x ∈ U2 ↔ x ∈ l ∧ last < x.at_) := hide (fun x => by
            rw [v2, MU1.out, M1.out]
            have := HLAST.out
            exact ⟨fun ⟨⟨h1, _⟩, h3⟩ => ⟨h1, h3⟩, fun ⟨h1, h2⟩ => ⟨⟨h1, by omega⟩, h2⟩⟩)
          have OW1b := hide (OW1.out.touch t5 (fun g hg hs => by
            have h1 := World.ownsRow.lt OW1.out g hg
            have h2 := (DIS.out.1 g hs).2.2.2
            omega))
          have P2 := hide (OwnT.prs ow2)
          have EM2 := hide em2
          have EO := hide eO
          have EK := hide ek
          have TQ1 := hide tq1
          have T5 := hide t5
          have TQ3 := hide (TQ3d.out.touch t5 (fun g hg => (DIS.out.1 g hg).2.1))
          have TQ2 := hide (TQ2d.out.touch t5 (fun g hg => (DIS.out.1 g hg).1))
          have TW5 := hide (TW4.out.trans t5 (fun g hg hs => by have := (DIS.out.1 g hs).2.2.1; omega))
          have SZ5 : Hid (w3.heap.size ≤ w5.heap.size) := hide (Nat.le_trans T4.out.size t5.size)
          have HK9 : Hid (k ≤ 3518437208800) := hide (by have := HK.out; have := HLV.out; omega)
          have P25 := hide P2.out.2.2.2.2.2
          clear ow2 tq1 s2 d2 v2 t5 DU2 em2 sO mO eO ek OW1 TQ3d TQ2d T4 SD1 MD1 MU1 TW4
          go_wp2_with (refine wpList_tapp2 rfl (.tmp 73) (.tmp 76) rfl w3.heap.size (.slice oa m1 oc) D1 rfl OW1b.out pa m2 pc D2 EM2.out rfl P2.out.2.1 P25.out O k EO.out EK.out HK9.out SZ5.out ?_)
          intro oa6 oc6 w6 ow6 t6
          have TX6 : Hid (∀ g, (Value.slice oa m1 oc).ownBlock = some g → w3.heap.size ≤ g) := hide (fun g hg => (World.ownsRow.lt OW1b.out g hg).1)
          have OW6 := hide ow6
          have NF : Hid (∀ g, (Value.slice oa m1 oc).ownBlock = some g → ¬ F1 g ∧ ¬ F2 g ∧ ¬ F3 g ∧ w.heap.size ≤ g) := hide (fun g hg => by
            have h1 := TX6.out g hg
            refine ⟨fun h => ?_, fun h => ?_, fun h => ?_, Nat.le_trans T3.out.size h1⟩
            · have := (DIS.out.1 g h).2.2.2; omega
            · have := (DIS.out.2.1 g h).2.2.2; omega
            · have := (DIS.out.2.2 g h).2.2.2; omega)
          have TQ1e := hide (TQ1.out.touch t6 (fun g hg => (NF.out g hg).1))
          have TQ2e := hide (TQ2.out.touch t6 (fun g hg => (NF.out g hg).2.1))
          have TQ3e := hide (TQ3.out.touch t6 (fun g hg => (NF.out g hg).2.2.1))
          have TW6 := hide (TW5.out.trans t6 (fun g hg hs => by have := (NF.out g hs).2.2.2; omega))
          have DU3 := hide (due_any q2 F2 V2 last w6 TQ2e.out (by have := EL2.out; have := HLV.out; omega))
          have SZ6 : Hid (w3.heap.size ≤ w6.heap.size) := hide (Nat.le_trans SZ5.out t6.size)
          clear ow6 t6 TQ1 TQ2 TQ3 OW1b P2 P25 NF TX6 TW5 T5 SZ5
          go_wp2_with fail
          refine DU3.out.mono ?_
          rintro e w7 ⟨E, U3, ta, tcap, rfl, ow7, tq2, s3, d3, v3, t7⟩
          have eE : E = O := sorted_ext s3 SO.out (fun x => by rw [d3, M2.out, MO.out])
          subst eE
          rw [EK.out] at ow7 ⊢
          have TQ1 := hide (TQ1e.out.touch t7 (fun g hg => (DIS.out.2.1 g hg).1))
          have EU : Hid (U3.length = U2.length) := hide (same_len tq2.nd.nodup TQ1.out.nd.nodup (fun x => by rw [v3, M2.out, MU2.out]))
          have LN2 := hide (fun W (h : Calm w7 W) => len_any q2 F2 U3 W (tq2.calm h))
          have LN1 := hide (fun W (h : Calm w7 W) => len_any q1 F1 U2 W (TQ1.out.calm h))
          rw [EU.out] at LN2
          obtain ⟨r, er⟩ : ∃ r, U2.length = r := ⟨_, rfl⟩
          rw [er] at LN1 LN2
          have ER := hide er
          have OW7 := hide ow7
          have P7 := hide (OwnT.prs ow7)
          have P6 := hide (OwnT.prs OW6.out)
          have AG : Hid (Ag w l E q1 q3 F1 F3 U2 oa6 ta 0 V3 w7) := hide ⟨P6.out.2.1.touch t7 (fun a ha _ hs => by
              have h1 := (P6.out.2.2.1 a ha).2.2.1
              have h2 := (DIS.out.2.1 _ hs).2.2.2
              omega), P7.out.2.1, TQ3e.out.touch t7 (fun g hg => (DIS.out.2.1 g hg).2.1), fun x => by rw [M3.out]; simp, TQ1.out, TW6.out.trans t7 (fun g hg hs => by have := (DIS.out.2.1 g hs).2.2.1; omega),
            ⟨fun p hp hs => by
              have h1 := (P6.out.2.2.1 p hp).2.2.1
              have h2 := (DIS.out.2.2 _ hs).2.2.2
              omega, fun p hp hs => by
              have h1 := (P7.out.2.2.1 p hp).2.2.1
              have h2 := (DIS.out.2.2 _ hs).2.2.2
              have h3 := SZ6.out
              omega⟩, fun g hg => ⟨(DIS.out.2.2 g hg).1, (DIS.out.2.2 g hg).2.2.1⟩⟩
          clear ow7 tq2 s3 d3 v3 t7 DU3 er TQ1e TQ2e TQ3e P6 P7 OW7 OW6 TQ1 TW6 SZ6 DIS M1 M2 M3
          go_wp2_with fail
          refine (LN1.out w7 (Touch.refl _ _)).mono ?_
          rintro e w' ⟨rfl, hw⟩
          subst hw
          go_wp2_with fail
          refine (LN2.out w' (Touch.refl _ _)).mono ?_
          rintro e w7 ⟨rfl, hw⟩
          subst hw
          clear LN1 LN2
          go_wp2_with fail
          go_loopw [15, 16, 17] (fun v15 v16 v17 wr => ∃ (i : Nat) (V : List Tm), i ≤ k ∧ v15 = .int .i64 (i : Int) ∧ Ag w l E q1 q3 F1 F3 U2 oa6 ta i V wr) (fun v _ _ _ => k - (intOf v).toNat)
          case atStart => exact ⟨0, V3, Nat.zero_le _, rfl, AG.out⟩
          case round =>
            obtain ⟨i, V, hi, rfl, ag⟩ := hrel
            by_cases hlt : i < k
            · have hki : (i : Int) < (k : Int) := by omega
              have hiO : i < E.length := by have := EK.out; omega
              obtain ⟨f0, f1⟩ := front_is SO.out MO.out ag.mem ag.c.first hiO
              have NE := hide (next_any q3 F3 V wr ag.c f0)
              rw [f1] at NE
              have AGk := hide ag
              have GX := hide (ag.c.good (nth V 0) (mem_nth.2 ⟨0, f0, rfl⟩))
              rw [f1] at GX
              have HF0 := hide f0
              have HF1 := hide f1
              clear f0 f1 ag AG
              go_wp2_with fail
              refine NE.out.mono ?_
              rintro e x1 ⟨rfl, u1⟩
              have AG1 := hide (AGk.out.still u1)
              clear u1 NE
              go_wp2_with fail
              obtain ⟨x, ex⟩ : ∃ x, nth E i = x := ⟨_, rfl⟩
              rw [ex] at GX
              simp only [ex]
              have HX := hide ex
              obtain ⟨A, eA⟩ : ∃ A, A = x1.heap.size := ⟨_, rfl⟩
              obtain ⟨x2, ex2⟩ : ∃ x2, x2 = x1.alloc (.cells #[.int .i64 x.at_, .string x.key, .int .i64 x.start, .int .i64 x.stop] 35) := ⟨_, rfl⟩
              have HBX : Hid (x2.heap[A]? = some (.cells (tc x) 35 (0, 0))) := hide (by rw [ex2, eA]; exact heap_alloc_last x1 _)
              have AG2 := hide (AG1.out.still (show Calm x1 x2 from by rw [ex2]; exact (Touch.refl _ _).alloc _))
              have HAF : Hid (¬ F3 A) := hide (fun h => by have := AG1.out.c.lt A h; omega)
              rw [← eA, ← ex2]
              clear eA ex2 ex AG1 AGk
              have ONE := hide AG2.out.one
              have TWO := hide AG2.out.two
              obtain ⟨b, off, e, c0, c1, c2, c3⟩ := AG2.out.one i hiO
              obtain ⟨b2, off2, e2, d0, d1, d2, d3⟩ := AG2.out.two i hiO
              subst e e2
              rw [← nth_eq hiO, HX.out] at c0 c1 c2 c3 d0 d1 d2 d3
              have CO : Hid (∀ W, Touch F3 x2 W → W.cell? ⟨b, off + i * 4, none⟩ = some (.int .i64 x.at_) ∧ W.cell? ⟨b, off + i * 4 + 1, none⟩ = some (.string x.key) ∧ W.cell? ⟨b, off + i * 4 + 2, none⟩ = some (.int .i64 x.start) ∧ W.cell? ⟨b, off + i * 4 + 3, none⟩ = some (.int .i64 x.stop)) := hide (fun W hW => by
                have g : ∀ {o : Nat} {v : Value}, x2.cell? ⟨b, o, none⟩ = some v → W.cell? ⟨b, o, none⟩ = some v := fun {o v} h => (hW.cell (p := ⟨b, o, none⟩) (lt_of_cell h) (show ¬ F3 b from AG2.out.rows.1 ⟨b, off, none⟩ rfl)).trans h
                exact ⟨g c0, g c1, g c2, g c3⟩)
              have CT : Hid (∀ W, Touch F3 x2 W → W.cell? ⟨b2, off2 + i * 4, none⟩ = some (.int .i64 x.at_) ∧ W.cell? ⟨b2, off2 + i * 4 + 1, none⟩ = some (.string x.key) ∧ W.cell? ⟨b2, off2 + i * 4 + 2, none⟩ = some (.int .i64 x.start) ∧ W.cell? ⟨b2, off2 + i * 4 + 3, none⟩ = some (.int .i64 x.stop)) := hide (fun W hW => by
                have g : ∀ {o : Nat} {v : Value}, x2.cell? ⟨b2, o, none⟩ = some v → W.cell? ⟨b2, o, none⟩ = some v := fun {o v} h => (hW.cell (p := ⟨b2, o, none⟩) (lt_of_cell h) (show ¬ F3 b2 from AG2.out.rows.2 ⟨b2, off2, none⟩ rfl)).trans h
                exact ⟨g d0, g d1, g d2, g d3⟩)
              have CB : Hid (∀ W, Touch F3 x2 W → W.cell? ⟨A, 0, none⟩ = some (.int .i64 x.at_) ∧ W.cell? ⟨A, 1, none⟩ = some (.string x.key) ∧ W.cell? ⟨A, 2, none⟩ = some (.int .i64 x.start) ∧ W.cell? ⟨A, 3, none⟩ = some (.int .i64 x.stop)) := hide (fun W hW => (cells4 (hW.heap HBX.out HAF.out)).1)
              have xV : decide (x ∈ V) = true := decide_eq_true (by rw [← HX.out, ← HF1.out]; exact mem_nth.2 ⟨0, HF0.out, rfl⟩)
              have HVL : Hid (V.length < 3518437208790) := hide (by
                have h1 := sub_len AG2.out.c.nd.nodup (fun z hz => ((AG2.out.mem z).1 hz).1)
                have := HB.out; have := HN.out; omega)
              have HAS1 : Hid (∀ W, Tq W q3 F3 V → Calls Try.prog 20 #[.pointer (some ⟨q3, 0, none⟩), tv x] W fun e w' => e = .returned (.bool true) ∧ Calm W w') := hide (fun W h => by have h9 := has_any q3 F3 V x W h GX.out; rw [xV] at h9; exact h9)
              have DRP1 : Hid (∀ W, Tq W q3 F3 V → Calls Try.prog 21 #[.pointer (some ⟨q3, 0, none⟩), tv x] W fun e w' => e = .returned (.bool true) ∧ (∃ V', Tq w' q3 F3 V' ∧ ∀ z, z ∈ V' ↔ z ∈ V ∧ z ≠ x) ∧ Touch F3 W w') := hide (fun W h => by have h9 := drop_any q3 F3 V x W h GX.out HVL.out; unfold DropR at h9; rw [xV] at h9; exact h9)
              have HAT : Hid (¬ last < x.at_) := hide (by
                have h1 : nth E i ∈ E := mem_nth.2 ⟨i, hiO, rfl⟩
                rw [HX.out] at h1
                have := ((MO.out x).1 h1).2
                omega)
              have ESW : Hid (wrap64 ((i : Int) + 1) = ((i + 1 : Nat) : Int)) := hide (by have := HK9.out; unfold wrap64; omega)
              clear c0 c1 c2 c3 d0 d1 d2 d3 xV HBX HAF
              by_cases hi0 : i = 0
              · have HI := hide hi0
                clear hi0
                refine wp_only ?_
                refine wp_region_held (S := Touch F3 x2) (by kernel_rfl) ?_
                have hS0 : Touch F3 x2 { x2 with drawn := x2.drawn + 1 } := (Touch.refl F3 x2).drew
                have A0 : Ag w l E q1 q3 F1 F3 U2 (some ⟨b, off, none⟩) (some ⟨b2, off2, none⟩) i V { x2 with drawn := x2.drawn + 1 } := AG2.out.still ((Touch.refl (fun _ => False) x2).drew)
                generalize ({ x2 with drawn := x2.drawn + 1 } : World) = x3 at *
                refine wpAnyH_yield 0 104 (.slice (some ⟨b, off, none⟩) k oc6) rfl rfl (by kernel_rfl) (by kernel_rfl) (by kernel_rfl) (fun _ _ _ h => h) (by kernel_rfl) (fun W hW => by kernel_rfl) (by assumption) rfl rfl ?_
                simp only [Act.put, List.setIfInBounds_toArray, List.set_cons_zero, List.set_cons_succ]
                refine wpAnyH_yield 1 105 (.int .i64 (i : Int)) rfl rfl (by kernel_rfl) (by kernel_rfl) (by kernel_rfl) (fun _ _ _ h => h) (by kernel_rfl) (fun W hW => by kernel_rfl) (by assumption) rfl rfl ?_
                simp only [Act.put, List.setIfInBounds_toArray, List.set_cons_zero, List.set_cons_succ]
                refine wpAnyH_yield 2 106 (.pointer (some ⟨b, off + i * 4, none⟩)) rfl rfl (by kernel_rfl) (by kernel_rfl) (by kernel_rfl) (fun _ _ _ h => h) (by kernel_rfl) (fun W hW => by go_simp) (by assumption) rfl rfl ?_
                simp only [Act.put, List.setIfInBounds_toArray, List.set_cons_zero, List.set_cons_succ]
                refine wpAnyH_yield 3 107 (tv x) rfl rfl (by kernel_rfl) (by kernel_rfl) (by kernel_rfl) (fun _ _ _ h => h) (by kernel_rfl) (fun W hW => by obtain ⟨c0, c1, c2, c3⟩ := CO.out W hW; go_simp) (by assumption) rfl rfl ?_
                simp only [Act.put, List.setIfInBounds_toArray, List.set_cons_zero, List.set_cons_succ]
                refine wpAnyH_yield 4 108 (.slice (some ⟨b2, off2, none⟩) k tcap) rfl rfl (by kernel_rfl) (by kernel_rfl) (by kernel_rfl) (fun _ _ _ h => h) (by kernel_rfl) (fun W hW => by kernel_rfl) (by assumption) rfl rfl ?_
                simp only [Act.put, List.setIfInBounds_toArray, List.set_cons_zero, List.set_cons_succ]
                refine wpAnyH_yield 5 109 (.int .i64 (i : Int)) rfl rfl (by kernel_rfl) (by kernel_rfl) (by kernel_rfl) (fun _ _ _ h => h) (by kernel_rfl) (fun W hW => by kernel_rfl) (by assumption) rfl rfl ?_
                simp only [Act.put, List.setIfInBounds_toArray, List.set_cons_zero, List.set_cons_succ]
                refine wpAnyH_yield 6 110 (.pointer (some ⟨b2, off2 + i * 4, none⟩)) rfl rfl (by kernel_rfl) (by kernel_rfl) (by kernel_rfl) (fun _ _ _ h => h) (by kernel_rfl) (fun W hW => by go_simp) (by assumption) rfl rfl ?_
                simp only [Act.put, List.setIfInBounds_toArray, List.set_cons_zero, List.set_cons_succ]
                refine wpAnyH_yield 7 111 (tv x) rfl rfl (by kernel_rfl) (by kernel_rfl) (by kernel_rfl) (fun _ _ _ h => h) (by kernel_rfl) (fun W hW => by obtain ⟨c0, c1, c2, c3⟩ := CT.out W hW; go_simp) (by assumption) rfl rfl ?_
                simp only [Act.put, List.setIfInBounds_toArray, List.set_cons_zero, List.set_cons_succ]
                refine wpAnyH_yield 8 112 (.bool false) rfl rfl (by kernel_rfl) (by kernel_rfl) (by kernel_rfl) (fun _ _ _ h => h) (by kernel_rfl) (fun W hW => by exact exec_bin rfl (by kernel_rfl) (by have he := neq_tm x x W; rw [decide_eq_true rfl] at he; exact he)) (by assumption) rfl rfl ?_
                simp only [Act.put, List.setIfInBounds_toArray, List.set_cons_zero, List.set_cons_succ]
                refine wpAnyH_yield 9 113 (.bool false) rfl rfl (by kernel_rfl) (by kernel_rfl) (by kernel_rfl) (fun _ _ _ h => h) (by kernel_rfl) (fun W hW => by kernel_rfl) (by assumption) rfl rfl ?_
                simp only [Act.put, List.setIfInBounds_toArray, List.set_cons_zero, List.set_cons_succ]
                refine wpAnyH_yield 10 114 (.bool true) rfl rfl (by kernel_rfl) (by kernel_rfl) (by kernel_rfl) (fun _ _ _ h => h) (by kernel_rfl) (fun W hW => by kernel_rfl) (by assumption) rfl rfl ?_
                simp only [Act.put, List.setIfInBounds_toArray, List.set_cons_zero, List.set_cons_succ]
                refine wpAnyH_yield 11 115 (.bool false) rfl rfl (by kernel_rfl) (by kernel_rfl) (by kernel_rfl) (fun _ _ _ h => h) (by kernel_rfl) (fun W hW => by kernel_rfl) (by assumption) rfl rfl ?_
                simp only [Act.put, List.setIfInBounds_toArray, List.set_cons_zero, List.set_cons_succ]
                refine wpAnyH_yield 12 116 (.bool false) rfl rfl (by kernel_rfl) (by kernel_rfl) (by kernel_rfl) (fun _ _ _ h => h) (by kernel_rfl) (fun W hW => by kernel_rfl) (by assumption) rfl rfl ?_
                simp only [Act.put, List.setIfInBounds_toArray, List.set_cons_zero, List.set_cons_succ]
                refine wpAnyH_yield 13 117 (.bool false) rfl rfl (by kernel_rfl) (by kernel_rfl) (by kernel_rfl) (fun _ _ _ h => h) (by kernel_rfl) (fun W hW => by kernel_rfl) (by assumption) rfl rfl ?_
                simp only [Act.put, List.setIfInBounds_toArray, List.set_cons_zero, List.set_cons_succ]
                refine wpAnyH_yield 14 118 (tv x) rfl rfl (by kernel_rfl) (by kernel_rfl) (by kernel_rfl) (fun _ _ _ h => h) (by kernel_rfl) (fun W hW => by obtain ⟨c0, c1, c2, c3⟩ := CB.out W hW; go_simp) (by assumption) rfl rfl ?_
                simp only [Act.put, List.setIfInBounds_toArray, List.set_cons_zero, List.set_cons_succ]
                refine wpAnyH_yield 15 119 (.slice (some ⟨b, off, none⟩) k oc6) rfl rfl (by kernel_rfl) (by kernel_rfl) (by kernel_rfl) (fun _ _ _ h => h) (by kernel_rfl) (fun W hW => by kernel_rfl) (by assumption) rfl rfl ?_
                simp only [Act.put, List.setIfInBounds_toArray, List.set_cons_zero, List.set_cons_succ]
                refine wpAnyH_yield 16 120 (.int .i64 (i : Int)) rfl rfl (by kernel_rfl) (by kernel_rfl) (by kernel_rfl) (fun _ _ _ h => h) (by kernel_rfl) (fun W hW => by kernel_rfl) (by assumption) rfl rfl ?_
                simp only [Act.put, List.setIfInBounds_toArray, List.set_cons_zero, List.set_cons_succ]
                refine wpAnyH_yield 17 121 (.pointer (some ⟨b, off + i * 4, none⟩)) rfl rfl (by kernel_rfl) (by kernel_rfl) (by kernel_rfl) (fun _ _ _ h => h) (by kernel_rfl) (fun W hW => by go_simp) (by assumption) rfl rfl ?_
                simp only [Act.put, List.setIfInBounds_toArray, List.set_cons_zero, List.set_cons_succ]
                refine wpAnyH_yield 18 122 (tv x) rfl rfl (by kernel_rfl) (by kernel_rfl) (by kernel_rfl) (fun _ _ _ h => h) (by kernel_rfl) (fun W hW => by obtain ⟨c0, c1, c2, c3⟩ := CO.out W hW; go_simp) (by assumption) rfl rfl ?_
                simp only [Act.put, List.setIfInBounds_toArray, List.set_cons_zero, List.set_cons_succ]
                refine wpAnyH_yield 19 123 (.bool false) rfl rfl (by kernel_rfl) (by kernel_rfl) (by kernel_rfl) (fun _ _ _ h => h) (by kernel_rfl) (fun W hW => by exact exec_bin rfl (by kernel_rfl) (by have he := neq_tm x x W; rw [decide_eq_true rfl] at he; exact he)) (by assumption) rfl rfl ?_
                simp only [Act.put, List.setIfInBounds_toArray, List.set_cons_zero, List.set_cons_succ]
                refine wpAnyH_yield 20 124 (.bool false) rfl rfl (by kernel_rfl) (by kernel_rfl) (by kernel_rfl) (fun _ _ _ h => h) (by kernel_rfl) (fun W hW => by kernel_rfl) (by assumption) rfl rfl ?_
                simp only [Act.put, List.setIfInBounds_toArray, List.set_cons_zero, List.set_cons_succ]
                refine wpAnyH_yield 21 125 (.bool false) rfl rfl (by kernel_rfl) (by kernel_rfl) (by kernel_rfl) (fun _ _ _ h => h) (by kernel_rfl) (fun W hW => by kernel_rfl) (by assumption) rfl rfl ?_
                simp only [Act.put, List.setIfInBounds_toArray, List.set_cons_zero, List.set_cons_succ]
                refine wpAnyH_yield 22 126 (.pointer (some ⟨A, 0, none⟩)) rfl rfl (by kernel_rfl) (by kernel_rfl) (by kernel_rfl) (fun _ _ _ h => h) (by kernel_rfl) (fun W hW => by go_simp) (by assumption) rfl rfl ?_
                simp only [Act.put, List.setIfInBounds_toArray, List.set_cons_zero, List.set_cons_succ]
                refine wpAnyH_yield 23 127 (.int .i64 x.at_) rfl rfl (by kernel_rfl) (by kernel_rfl) (by kernel_rfl) (fun _ _ _ h => h) (by kernel_rfl) (fun W hW => by obtain ⟨c0, c1, c2, c3⟩ := CB.out W hW; go_simp) (by assumption) rfl rfl ?_
                simp only [Act.put, List.setIfInBounds_toArray, List.set_cons_zero, List.set_cons_succ]
                refine wpAnyH_yield 24 128 (.int .i64 last) rfl rfl (by kernel_rfl) (by kernel_rfl) (by kernel_rfl) (fun _ _ _ h => h) (by kernel_rfl) (fun W hW => by kernel_rfl) (by assumption) rfl rfl ?_
                simp only [Act.put, List.setIfInBounds_toArray, List.set_cons_zero, List.set_cons_succ]
                refine wpAnyH_yield 25 129 (.bool false) rfl rfl (by kernel_rfl) (by kernel_rfl) (by kernel_rfl) (fun _ _ _ h => h) (by kernel_rfl) (fun W hW => by have h9 := HAT.out; go_simp) (by assumption) rfl rfl ?_
                simp only [Act.put, List.setIfInBounds_toArray, List.set_cons_zero, List.set_cons_succ]
                refine wpAnyH_yield 26 130 (.bool false) rfl rfl (by kernel_rfl) (by kernel_rfl) (by kernel_rfl) (fun _ _ _ h => h) (by kernel_rfl) (fun W hW => by kernel_rfl) (by assumption) rfl rfl ?_
                simp only [Act.put, List.setIfInBounds_toArray, List.set_cons_zero, List.set_cons_succ]
                refine wpAnyH_yield 27 131 (.bool false) rfl rfl (by kernel_rfl) (by kernel_rfl) (by kernel_rfl) (fun _ _ _ h => h) (by kernel_rfl) (fun W hW => by kernel_rfl) (by assumption) rfl rfl ?_
                simp only [Act.put, List.setIfInBounds_toArray, List.set_cons_zero, List.set_cons_succ]
                refine wpAnyH_yield 28 132 (.int .i64 (i : Int)) rfl rfl (by kernel_rfl) (by kernel_rfl) (by kernel_rfl) (fun _ _ _ h => h) (by kernel_rfl) (fun W hW => by kernel_rfl) (by assumption) rfl rfl ?_
                simp only [Act.put, List.setIfInBounds_toArray, List.set_cons_zero, List.set_cons_succ]
                refine wpAnyH_yield 29 133 (.bool false) rfl rfl (by kernel_rfl) (by kernel_rfl) (by kernel_rfl) (fun _ _ _ h => h) (by kernel_rfl) (fun W hW => by go_simp; exact HI.out) (by assumption) rfl rfl ?_
                simp only [Act.put, List.setIfInBounds_toArray, List.set_cons_zero, List.set_cons_succ]
                refine wpAnyH_yield 30 134 (.bool false) rfl rfl (by kernel_rfl) (by kernel_rfl) (by kernel_rfl) (fun _ _ _ h => h) (by kernel_rfl) (fun W hW => by kernel_rfl) (by assumption) rfl rfl ?_
                simp only [Act.put, List.setIfInBounds_toArray, List.set_cons_zero, List.set_cons_succ]
                refine wpAnyH_skip 31 135 rfl rfl (by kernel_rfl) (by kernel_rfl) (by kernel_rfl) (fun _ _ _ h => h) (by kernel_rfl) (by assumption) rfl rfl ?_
                simp only [Act.put, List.setIfInBounds_toArray, List.set_cons_zero, List.set_cons_succ]
                refine wpAnyH_skip 32 136 rfl rfl (by kernel_rfl) (by kernel_rfl) (by kernel_rfl) (fun _ _ _ h => h) (by kernel_rfl) (by assumption) rfl rfl ?_
                simp only [Act.put, List.setIfInBounds_toArray, List.set_cons_zero, List.set_cons_succ]
                refine wpAnyH_skip 33 137 rfl rfl (by kernel_rfl) (by kernel_rfl) (by kernel_rfl) (fun _ _ _ h => h) (by kernel_rfl) (by assumption) rfl rfl ?_
                simp only [Act.put, List.setIfInBounds_toArray, List.set_cons_zero, List.set_cons_succ]
                refine wpAnyH_skip 34 138 rfl rfl (by kernel_rfl) (by kernel_rfl) (by kernel_rfl) (fun _ _ _ h => h) (by kernel_rfl) (by assumption) rfl rfl ?_
                simp only [Act.put, List.setIfInBounds_toArray, List.set_cons_zero, List.set_cons_succ]
                refine wpAnyH_skip 35 139 rfl rfl (by kernel_rfl) (by kernel_rfl) (by kernel_rfl) (fun _ _ _ h => h) (by kernel_rfl) (by assumption) rfl rfl ?_
                simp only [Act.put, List.setIfInBounds_toArray, List.set_cons_zero, List.set_cons_succ]
                refine wpAnyH_skip 36 140 rfl rfl (by kernel_rfl) (by kernel_rfl) (by kernel_rfl) (fun _ _ _ h => h) (by kernel_rfl) (by assumption) rfl rfl ?_
                simp only [Act.put, List.setIfInBounds_toArray, List.set_cons_zero, List.set_cons_succ]
                refine wpAnyH_skip 37 141 rfl rfl (by kernel_rfl) (by kernel_rfl) (by kernel_rfl) (fun _ _ _ h => h) (by kernel_rfl) (by assumption) rfl rfl ?_
                simp only [Act.put, List.setIfInBounds_toArray, List.set_cons_zero, List.set_cons_succ]
                refine wpAnyH_skip 38 142 rfl rfl (by kernel_rfl) (by kernel_rfl) (by kernel_rfl) (fun _ _ _ h => h) (by kernel_rfl) (by assumption) rfl rfl ?_
                simp only [Act.put, List.setIfInBounds_toArray, List.set_cons_zero, List.set_cons_succ]
                refine wpAnyH_skip 39 143 rfl rfl (by kernel_rfl) (by kernel_rfl) (by kernel_rfl) (fun _ _ _ h => h) (by kernel_rfl) (by assumption) rfl rfl ?_
                simp only [Act.put, List.setIfInBounds_toArray, List.set_cons_zero, List.set_cons_succ]
                refine wpAnyH_skip 40 144 rfl rfl (by kernel_rfl) (by kernel_rfl) (by kernel_rfl) (fun _ _ _ h => h) (by kernel_rfl) (by assumption) rfl rfl ?_
                simp only [Act.put, List.setIfInBounds_toArray, List.set_cons_zero, List.set_cons_succ]
                refine wpAnyH_skip 41 145 rfl rfl (by kernel_rfl) (by kernel_rfl) (by kernel_rfl) (fun _ _ _ h => h) (by kernel_rfl) (by assumption) rfl rfl ?_
                simp only [Act.put, List.setIfInBounds_toArray, List.set_cons_zero, List.set_cons_succ]
                obtain ⟨x3', ex3⟩ : ∃ x, x = x3 := ⟨_, rfl⟩
                subst ex3
                refine wpAnyH_yield 42 146 (.bool false) rfl rfl (by kernel_rfl) (by kernel_rfl) (by kernel_rfl) (fun _ _ _ h => h) (by kernel_rfl) (fun W hW => by kernel_rfl) (by assumption) rfl rfl ?_
                simp only [Act.put, List.setIfInBounds_toArray, List.set_cons_zero, List.set_cons_succ]
                refine wpAnyH_yield 43 147 (.bool false) rfl rfl (by kernel_rfl) (by kernel_rfl) (by kernel_rfl) (fun _ _ _ h => h) (by kernel_rfl) (fun W hW => by kernel_rfl) (by assumption) rfl rfl ?_
                simp only [Act.put, List.setIfInBounds_toArray, List.set_cons_zero, List.set_cons_succ]
                refine wpAnyH_yield 44 148 (.bool false) rfl rfl (by kernel_rfl) (by kernel_rfl) (by kernel_rfl) (fun _ _ _ h => h) (by kernel_rfl) (fun W hW => by kernel_rfl) (by assumption) rfl rfl ?_
                simp only [Act.put, List.setIfInBounds_toArray, List.set_cons_zero, List.set_cons_succ]
                refine wpAnyH_yield 45 149 (.pointer (some ⟨q3, 0, none⟩)) rfl rfl (by kernel_rfl) (by kernel_rfl) (by kernel_rfl) (fun _ _ _ h => h) (by kernel_rfl) (fun W hW => by kernel_rfl) (by assumption) rfl rfl ?_
                simp only [Act.put, List.setIfInBounds_toArray, List.set_cons_zero, List.set_cons_succ]
                refine wpAnyH_yield 46 150 (tv x) rfl rfl (by kernel_rfl) (by kernel_rfl) (by kernel_rfl) (fun _ _ _ h => h) (by kernel_rfl) (fun W hW => by obtain ⟨c0, c1, c2, c3⟩ := CB.out W hW; go_simp) (by assumption) rfl rfl ?_
                simp only [Act.put, List.setIfInBounds_toArray, List.set_cons_zero, List.set_cons_succ]
                refine wpAnyH_enter 47 151 20 #[.pointer (some ⟨q3, 0, none⟩), tv x] rfl rfl (by kernel_rfl) (by kernel_rfl) (by kernel_rfl) ?_
                refine (HAS1.out _ A0.c).mono ?_
                rintro e x4 ⟨rfl, u4⟩
                have A4 := A0.still u4
                have hS4 := hS0.trans u4 (fun _ _ h => h.elim)
                refine ⟨_, rfl, hS4, ?_⟩
                clear A0 hS0 u4
                simp only [Act.put, List.setIfInBounds_toArray, List.set_cons_zero, List.set_cons_succ]
                refine wpAnyH_yield 48 152 (.bool false) rfl rfl (by kernel_rfl) (by kernel_rfl) (by kernel_rfl) (fun _ _ _ h => h) (by kernel_rfl) (fun W hW => by kernel_rfl) (by assumption) rfl rfl ?_
                simp only [Act.put, List.setIfInBounds_toArray, List.set_cons_zero, List.set_cons_succ]
                refine wpAnyH_yield 49 153 (.bool false) rfl rfl (by kernel_rfl) (by kernel_rfl) (by kernel_rfl) (fun _ _ _ h => h) (by kernel_rfl) (fun W hW => by kernel_rfl) (by assumption) rfl rfl ?_
                simp only [Act.put, List.setIfInBounds_toArray, List.set_cons_zero, List.set_cons_succ]
                refine wpAnyH_yield 50 154 (.bool false) rfl rfl (by kernel_rfl) (by kernel_rfl) (by kernel_rfl) (fun _ _ _ h => h) (by kernel_rfl) (fun W hW => by kernel_rfl) (by assumption) rfl rfl ?_
                simp only [Act.put, List.setIfInBounds_toArray, List.set_cons_zero, List.set_cons_succ]
                refine wpAnyH_yield 51 155 (.pointer (some ⟨q3, 0, none⟩)) rfl rfl (by kernel_rfl) (by kernel_rfl) (by kernel_rfl) (fun _ _ _ h => h) (by kernel_rfl) (fun W hW => by kernel_rfl) (by assumption) rfl rfl ?_
                simp only [Act.put, List.setIfInBounds_toArray, List.set_cons_zero, List.set_cons_succ]
                refine wpAnyH_yield 52 156 (tv x) rfl rfl (by kernel_rfl) (by kernel_rfl) (by kernel_rfl) (fun _ _ _ h => h) (by kernel_rfl) (fun W hW => by obtain ⟨c0, c1, c2, c3⟩ := CB.out W hW; go_simp) (by assumption) rfl rfl ?_
                simp only [Act.put, List.setIfInBounds_toArray, List.set_cons_zero, List.set_cons_succ]
                refine wpAnyH_enter 53 157 21 #[.pointer (some ⟨q3, 0, none⟩), tv x] rfl rfl (by kernel_rfl) (by kernel_rfl) (by kernel_rfl) ?_
                refine (DRP1.out _ A4.c).mono ?_
                rintro e x5 ⟨rfl, ⟨V', tq5, m5⟩, u5⟩
                have A5 : Ag w l E q1 q3 F1 F3 U2 (some ⟨b, off, none⟩) (some ⟨b2, off2, none⟩) (i + 1) V' x5 := A4.turn u5 tq5 (left_less A4.mem (by rw [HX.out]; exact m5) hiO)
                have hS5 := hS4.trans u5 (fun _ _ h => h)
                have xV : decide (x ∈ V') = false := decide_eq_false (fun h => ((m5 x).1 h).2 rfl)
                have HAS2 := has_any q3 F3 V' x
                have DRP2 := drop_any q3 F3 V' x
                rw [xV] at HAS2
                unfold DropR at DRP2
                rw [xV] at DRP2
                have HLV' : V'.length < 3518437208790 := Nat.lt_of_le_of_lt (sub_len tq5.nd.nodup (fun z hz => ((m5 z).1 hz).1)) HVL.out
                have HM5 := hide m5
                refine ⟨_, rfl, hS5, ?_⟩
                clear A4 hS4 u5 tq5 xV m5
                simp only [Act.put, List.setIfInBounds_toArray, List.set_cons_zero, List.set_cons_succ]
                refine wpAnyH_yield 54 158 (.bool false) rfl rfl (by kernel_rfl) (by kernel_rfl) (by kernel_rfl) (fun _ _ _ h => h) (by kernel_rfl) (fun W hW => by kernel_rfl) (by assumption) rfl rfl ?_
                simp only [Act.put, List.setIfInBounds_toArray, List.set_cons_zero, List.set_cons_succ]
                refine wpAnyH_yield 55 159 (.bool false) rfl rfl (by kernel_rfl) (by kernel_rfl) (by kernel_rfl) (fun _ _ _ h => h) (by kernel_rfl) (fun W hW => by kernel_rfl) (by assumption) rfl rfl ?_
                simp only [Act.put, List.setIfInBounds_toArray, List.set_cons_zero, List.set_cons_succ]
                refine wpAnyH_yield 56 160 (.bool false) rfl rfl (by kernel_rfl) (by kernel_rfl) (by kernel_rfl) (fun _ _ _ h => h) (by kernel_rfl) (fun W hW => by kernel_rfl) (by assumption) rfl rfl ?_
                simp only [Act.put, List.setIfInBounds_toArray, List.set_cons_zero, List.set_cons_succ]
                refine wpAnyH_yield 57 161 (.pointer (some ⟨q3, 0, none⟩)) rfl rfl (by kernel_rfl) (by kernel_rfl) (by kernel_rfl) (fun _ _ _ h => h) (by kernel_rfl) (fun W hW => by kernel_rfl) (by assumption) rfl rfl ?_
                simp only [Act.put, List.setIfInBounds_toArray, List.set_cons_zero, List.set_cons_succ]
                refine wpAnyH_yield 58 162 (tv x) rfl rfl (by kernel_rfl) (by kernel_rfl) (by kernel_rfl) (fun _ _ _ h => h) (by kernel_rfl) (fun W hW => by obtain ⟨c0, c1, c2, c3⟩ := CB.out W hW; go_simp) (by assumption) rfl rfl ?_
                simp only [Act.put, List.setIfInBounds_toArray, List.set_cons_zero, List.set_cons_succ]
                refine wpAnyH_enter 59 163 20 #[.pointer (some ⟨q3, 0, none⟩), tv x] rfl rfl (by kernel_rfl) (by kernel_rfl) (by kernel_rfl) ?_
                refine (HAS2 _ A5.c GX.out).mono ?_
                rintro e x6 ⟨rfl, u6'⟩
                have A6 := A5.still u6'
                have hS6 := hS5.trans u6' (fun _ _ h => h.elim)
                refine ⟨_, rfl, hS6, ?_⟩
                clear A5 hS5 u6' HAS2
                simp only [Act.put, List.setIfInBounds_toArray, List.set_cons_zero, List.set_cons_succ]
                refine wpAnyH_yield 60 164 (.bool false) rfl rfl (by kernel_rfl) (by kernel_rfl) (by kernel_rfl) (fun _ _ _ h => h) (by kernel_rfl) (fun W hW => by kernel_rfl) (by assumption) rfl rfl ?_
                simp only [Act.put, List.setIfInBounds_toArray, List.set_cons_zero, List.set_cons_succ]
                refine wpAnyH_yield 61 165 (.bool false) rfl rfl (by kernel_rfl) (by kernel_rfl) (by kernel_rfl) (fun _ _ _ h => h) (by kernel_rfl) (fun W hW => by kernel_rfl) (by assumption) rfl rfl ?_
                simp only [Act.put, List.setIfInBounds_toArray, List.set_cons_zero, List.set_cons_succ]
                refine wpAnyH_yield 62 166 (.pointer (some ⟨q3, 0, none⟩)) rfl rfl (by kernel_rfl) (by kernel_rfl) (by kernel_rfl) (fun _ _ _ h => h) (by kernel_rfl) (fun W hW => by kernel_rfl) (by assumption) rfl rfl ?_
                simp only [Act.put, List.setIfInBounds_toArray, List.set_cons_zero, List.set_cons_succ]
                refine wpAnyH_yield 63 167 (tv x) rfl rfl (by kernel_rfl) (by kernel_rfl) (by kernel_rfl) (fun _ _ _ h => h) (by kernel_rfl) (fun W hW => by obtain ⟨c0, c1, c2, c3⟩ := CB.out W hW; go_simp) (by assumption) rfl rfl ?_
                simp only [Act.put, List.setIfInBounds_toArray, List.set_cons_zero, List.set_cons_succ]
                refine wpAnyH_enter 64 168 21 #[.pointer (some ⟨q3, 0, none⟩), tv x] rfl rfl (by kernel_rfl) (by kernel_rfl) (by kernel_rfl) ?_
                refine (DRP2 _ A6.c GX.out HLV').mono ?_
                rintro e x7 ⟨rfl, ⟨V'', tq7, m7⟩, u7⟩
                have A7 : Ag w l E q1 q3 F1 F3 U2 (some ⟨b, off, none⟩) (some ⟨b2, off2, none⟩) (i + 1) V'' x7 := A6.turn u7 tq7 (fun z => by
                  rw [m7, ← A6.mem]
                  exact ⟨fun h => h.1, fun h => ⟨h, ((HM5.out z).1 h).2⟩⟩)
                have hS7 := hS6.trans u7 (fun _ _ h => h)
                refine ⟨_, rfl, hS7, ?_⟩
                clear A6 hS6 u7 tq7 m7 DRP2 HLV' HM5
                simp only [Act.put, List.setIfInBounds_toArray, List.set_cons_zero, List.set_cons_succ]
                refine wpAnyH_yield 65 169 (.bool false) rfl rfl (by kernel_rfl) (by kernel_rfl) (by kernel_rfl) (fun _ _ _ h => h) (by kernel_rfl) (fun W hW => by kernel_rfl) (by assumption) rfl rfl ?_
                simp only [Act.put, List.setIfInBounds_toArray, List.set_cons_zero, List.set_cons_succ]
                refine wpAnyH_done (by kernel_rfl) ?_ _
                rw [onlyN_normal]
                have A9 := hide A7
                clear A7 hS7
                go_wp2_with fail
                go_roundw
                case rel => exact ⟨i + 1, V'', hlt, by rw [ESW.out], A9.out⟩
                case measure => rw [ESW.out]; simp [intOf]; omega
              · have HI : Hid (0 < i) := hide (by omega)
                obtain ⟨p, hp⟩ : ∃ p, i = p + 1 := ⟨i - 1, by omega⟩
                have EP : Hid (wrap64 ((i : Int) - 1) = (p : Int)) := hide (by have := HK9.out; unfold wrap64; omega)
                have hpk : (p : Int) < (k : Int) := by omega
                have hpO : p < E.length := by omega
                obtain ⟨b3, off3, e3, c0, c1, c2, c3⟩ := ONE.out p hpO
                injection e3 with e3
                injection e3 with eb eo _
                subst eb eo
                rw [← nth_eq hpO] at c0 c1 c2 c3
                obtain ⟨y, ey⟩ : ∃ y, nth E p = y := ⟨_, rfl⟩
                rw [ey] at c0 c1 c2 c3
                have HZ0 : cmpT y x < 0 := by
                  have h7 := List.pairwise_iff_getElem.1 SO.out p i hpO hiO (by omega)
                  rw [← nth_eq, ← nth_eq, ey, HX.out] at h7
                  exact h7
                have CP : Hid (∀ W, Touch F3 x2 W → W.cell? ⟨b, off + p * 4, none⟩ = some (.int .i64 y.at_) ∧ W.cell? ⟨b, off + p * 4 + 1, none⟩ = some (.string y.key) ∧ W.cell? ⟨b, off + p * 4 + 2, none⟩ = some (.int .i64 y.start) ∧ W.cell? ⟨b, off + p * 4 + 3, none⟩ = some (.int .i64 y.stop)) := hide (fun W hW => by
                  have g : ∀ {o : Nat} {v : Value}, x2.cell? ⟨b, o, none⟩ = some v → W.cell? ⟨b, o, none⟩ = some v := fun {o v} h => (hW.cell (p := ⟨b, o, none⟩) (lt_of_cell h) (show ¬ F3 b from AG2.out.rows.1 ⟨b, off, none⟩ rfl)).trans h
                  exact ⟨g c0, g c1, g c2, g c3⟩)
                have CK : Hid (∀ W, ∃ z : Int, z < 0 ∧ Calls Try.prog 16 #[tv y, tv x] W fun e w' => e = .returned (.int .i64 z) ∧ Calm W w') := hide (fun W => ⟨cmpT y x, HZ0, (compareT_any y x W).mono fun e w' ⟨h1, h2⟩ => ⟨h1, by rw [h2]; exact ((Touch.refl _ _).alloc _).alloc _⟩⟩)
                clear hi0 hp c0 c1 c2 c3 ey HZ0 hpO
                refine wp_only ?_
                refine wp_region_held (S := Touch F3 x2) (by kernel_rfl) ?_
                have hS0 : Touch F3 x2 { x2 with drawn := x2.drawn + 1 } := (Touch.refl F3 x2).drew
                have A0 : Ag w l E q1 q3 F1 F3 U2 (some ⟨b, off, none⟩) (some ⟨b2, off2, none⟩) i V { x2 with drawn := x2.drawn + 1 } := AG2.out.still ((Touch.refl (fun _ => False) x2).drew)
                generalize ({ x2 with drawn := x2.drawn + 1 } : World) = x3 at *
                refine wpAnyH_yield 0 104 (.slice (some ⟨b, off, none⟩) k oc6) rfl rfl (by kernel_rfl) (by kernel_rfl) (by kernel_rfl) (fun _ _ _ h => h) (by kernel_rfl) (fun W hW => by kernel_rfl) (by assumption) rfl rfl ?_
                simp only [Act.put, List.setIfInBounds_toArray, List.set_cons_zero, List.set_cons_succ]
                refine wpAnyH_yield 1 105 (.int .i64 (i : Int)) rfl rfl (by kernel_rfl) (by kernel_rfl) (by kernel_rfl) (fun _ _ _ h => h) (by kernel_rfl) (fun W hW => by kernel_rfl) (by assumption) rfl rfl ?_
                simp only [Act.put, List.setIfInBounds_toArray, List.set_cons_zero, List.set_cons_succ]
                refine wpAnyH_yield 2 106 (.pointer (some ⟨b, off + i * 4, none⟩)) rfl rfl (by kernel_rfl) (by kernel_rfl) (by kernel_rfl) (fun _ _ _ h => h) (by kernel_rfl) (fun W hW => by go_simp) (by assumption) rfl rfl ?_
                simp only [Act.put, List.setIfInBounds_toArray, List.set_cons_zero, List.set_cons_succ]
                refine wpAnyH_yield 3 107 (tv x) rfl rfl (by kernel_rfl) (by kernel_rfl) (by kernel_rfl) (fun _ _ _ h => h) (by kernel_rfl) (fun W hW => by obtain ⟨c0, c1, c2, c3⟩ := CO.out W hW; go_simp) (by assumption) rfl rfl ?_
                simp only [Act.put, List.setIfInBounds_toArray, List.set_cons_zero, List.set_cons_succ]
                refine wpAnyH_yield 4 108 (.slice (some ⟨b2, off2, none⟩) k tcap) rfl rfl (by kernel_rfl) (by kernel_rfl) (by kernel_rfl) (fun _ _ _ h => h) (by kernel_rfl) (fun W hW => by kernel_rfl) (by assumption) rfl rfl ?_
                simp only [Act.put, List.setIfInBounds_toArray, List.set_cons_zero, List.set_cons_succ]
                refine wpAnyH_yield 5 109 (.int .i64 (i : Int)) rfl rfl (by kernel_rfl) (by kernel_rfl) (by kernel_rfl) (fun _ _ _ h => h) (by kernel_rfl) (fun W hW => by kernel_rfl) (by assumption) rfl rfl ?_
                simp only [Act.put, List.setIfInBounds_toArray, List.set_cons_zero, List.set_cons_succ]
                refine wpAnyH_yield 6 110 (.pointer (some ⟨b2, off2 + i * 4, none⟩)) rfl rfl (by kernel_rfl) (by kernel_rfl) (by kernel_rfl) (fun _ _ _ h => h) (by kernel_rfl) (fun W hW => by go_simp) (by assumption) rfl rfl ?_
                simp only [Act.put, List.setIfInBounds_toArray, List.set_cons_zero, List.set_cons_succ]
                refine wpAnyH_yield 7 111 (tv x) rfl rfl (by kernel_rfl) (by kernel_rfl) (by kernel_rfl) (fun _ _ _ h => h) (by kernel_rfl) (fun W hW => by obtain ⟨c0, c1, c2, c3⟩ := CT.out W hW; go_simp) (by assumption) rfl rfl ?_
                simp only [Act.put, List.setIfInBounds_toArray, List.set_cons_zero, List.set_cons_succ]
                refine wpAnyH_yield 8 112 (.bool false) rfl rfl (by kernel_rfl) (by kernel_rfl) (by kernel_rfl) (fun _ _ _ h => h) (by kernel_rfl) (fun W hW => by exact exec_bin rfl (by kernel_rfl) (by have he := neq_tm x x W; rw [decide_eq_true rfl] at he; exact he)) (by assumption) rfl rfl ?_
                simp only [Act.put, List.setIfInBounds_toArray, List.set_cons_zero, List.set_cons_succ]
                refine wpAnyH_yield 9 113 (.bool false) rfl rfl (by kernel_rfl) (by kernel_rfl) (by kernel_rfl) (fun _ _ _ h => h) (by kernel_rfl) (fun W hW => by kernel_rfl) (by assumption) rfl rfl ?_
                simp only [Act.put, List.setIfInBounds_toArray, List.set_cons_zero, List.set_cons_succ]
                refine wpAnyH_yield 10 114 (.bool true) rfl rfl (by kernel_rfl) (by kernel_rfl) (by kernel_rfl) (fun _ _ _ h => h) (by kernel_rfl) (fun W hW => by kernel_rfl) (by assumption) rfl rfl ?_
                simp only [Act.put, List.setIfInBounds_toArray, List.set_cons_zero, List.set_cons_succ]
                refine wpAnyH_yield 11 115 (.bool false) rfl rfl (by kernel_rfl) (by kernel_rfl) (by kernel_rfl) (fun _ _ _ h => h) (by kernel_rfl) (fun W hW => by kernel_rfl) (by assumption) rfl rfl ?_
                simp only [Act.put, List.setIfInBounds_toArray, List.set_cons_zero, List.set_cons_succ]
                refine wpAnyH_yield 12 116 (.bool false) rfl rfl (by kernel_rfl) (by kernel_rfl) (by kernel_rfl) (fun _ _ _ h => h) (by kernel_rfl) (fun W hW => by kernel_rfl) (by assumption) rfl rfl ?_
                simp only [Act.put, List.setIfInBounds_toArray, List.set_cons_zero, List.set_cons_succ]
                refine wpAnyH_yield 13 117 (.bool false) rfl rfl (by kernel_rfl) (by kernel_rfl) (by kernel_rfl) (fun _ _ _ h => h) (by kernel_rfl) (fun W hW => by kernel_rfl) (by assumption) rfl rfl ?_
                simp only [Act.put, List.setIfInBounds_toArray, List.set_cons_zero, List.set_cons_succ]
                refine wpAnyH_yield 14 118 (tv x) rfl rfl (by kernel_rfl) (by kernel_rfl) (by kernel_rfl) (fun _ _ _ h => h) (by kernel_rfl) (fun W hW => by obtain ⟨c0, c1, c2, c3⟩ := CB.out W hW; go_simp) (by assumption) rfl rfl ?_
                simp only [Act.put, List.setIfInBounds_toArray, List.set_cons_zero, List.set_cons_succ]
                refine wpAnyH_yield 15 119 (.slice (some ⟨b, off, none⟩) k oc6) rfl rfl (by kernel_rfl) (by kernel_rfl) (by kernel_rfl) (fun _ _ _ h => h) (by kernel_rfl) (fun W hW => by kernel_rfl) (by assumption) rfl rfl ?_
                simp only [Act.put, List.setIfInBounds_toArray, List.set_cons_zero, List.set_cons_succ]
                refine wpAnyH_yield 16 120 (.int .i64 (i : Int)) rfl rfl (by kernel_rfl) (by kernel_rfl) (by kernel_rfl) (fun _ _ _ h => h) (by kernel_rfl) (fun W hW => by kernel_rfl) (by assumption) rfl rfl ?_
                simp only [Act.put, List.setIfInBounds_toArray, List.set_cons_zero, List.set_cons_succ]
                refine wpAnyH_yield 17 121 (.pointer (some ⟨b, off + i * 4, none⟩)) rfl rfl (by kernel_rfl) (by kernel_rfl) (by kernel_rfl) (fun _ _ _ h => h) (by kernel_rfl) (fun W hW => by go_simp) (by assumption) rfl rfl ?_
                simp only [Act.put, List.setIfInBounds_toArray, List.set_cons_zero, List.set_cons_succ]
                refine wpAnyH_yield 18 122 (tv x) rfl rfl (by kernel_rfl) (by kernel_rfl) (by kernel_rfl) (fun _ _ _ h => h) (by kernel_rfl) (fun W hW => by obtain ⟨c0, c1, c2, c3⟩ := CO.out W hW; go_simp) (by assumption) rfl rfl ?_
                simp only [Act.put, List.setIfInBounds_toArray, List.set_cons_zero, List.set_cons_succ]
                refine wpAnyH_yield 19 123 (.bool false) rfl rfl (by kernel_rfl) (by kernel_rfl) (by kernel_rfl) (fun _ _ _ h => h) (by kernel_rfl) (fun W hW => by exact exec_bin rfl (by kernel_rfl) (by have he := neq_tm x x W; rw [decide_eq_true rfl] at he; exact he)) (by assumption) rfl rfl ?_
                simp only [Act.put, List.setIfInBounds_toArray, List.set_cons_zero, List.set_cons_succ]
                refine wpAnyH_yield 20 124 (.bool false) rfl rfl (by kernel_rfl) (by kernel_rfl) (by kernel_rfl) (fun _ _ _ h => h) (by kernel_rfl) (fun W hW => by kernel_rfl) (by assumption) rfl rfl ?_
                simp only [Act.put, List.setIfInBounds_toArray, List.set_cons_zero, List.set_cons_succ]
                refine wpAnyH_yield 21 125 (.bool false) rfl rfl (by kernel_rfl) (by kernel_rfl) (by kernel_rfl) (fun _ _ _ h => h) (by kernel_rfl) (fun W hW => by kernel_rfl) (by assumption) rfl rfl ?_
                simp only [Act.put, List.setIfInBounds_toArray, List.set_cons_zero, List.set_cons_succ]
                refine wpAnyH_yield 22 126 (.pointer (some ⟨A, 0, none⟩)) rfl rfl (by kernel_rfl) (by kernel_rfl) (by kernel_rfl) (fun _ _ _ h => h) (by kernel_rfl) (fun W hW => by go_simp) (by assumption) rfl rfl ?_
                simp only [Act.put, List.setIfInBounds_toArray, List.set_cons_zero, List.set_cons_succ]
                refine wpAnyH_yield 23 127 (.int .i64 x.at_) rfl rfl (by kernel_rfl) (by kernel_rfl) (by kernel_rfl) (fun _ _ _ h => h) (by kernel_rfl) (fun W hW => by obtain ⟨c0, c1, c2, c3⟩ := CB.out W hW; go_simp) (by assumption) rfl rfl ?_
                simp only [Act.put, List.setIfInBounds_toArray, List.set_cons_zero, List.set_cons_succ]
                refine wpAnyH_yield 24 128 (.int .i64 last) rfl rfl (by kernel_rfl) (by kernel_rfl) (by kernel_rfl) (fun _ _ _ h => h) (by kernel_rfl) (fun W hW => by kernel_rfl) (by assumption) rfl rfl ?_
                simp only [Act.put, List.setIfInBounds_toArray, List.set_cons_zero, List.set_cons_succ]
                refine wpAnyH_yield 25 129 (.bool false) rfl rfl (by kernel_rfl) (by kernel_rfl) (by kernel_rfl) (fun _ _ _ h => h) (by kernel_rfl) (fun W hW => by have h9 := HAT.out; go_simp) (by assumption) rfl rfl ?_
                simp only [Act.put, List.setIfInBounds_toArray, List.set_cons_zero, List.set_cons_succ]
                refine wpAnyH_yield 26 130 (.bool false) rfl rfl (by kernel_rfl) (by kernel_rfl) (by kernel_rfl) (fun _ _ _ h => h) (by kernel_rfl) (fun W hW => by kernel_rfl) (by assumption) rfl rfl ?_
                simp only [Act.put, List.setIfInBounds_toArray, List.set_cons_zero, List.set_cons_succ]
                refine wpAnyH_yield 27 131 (.bool false) rfl rfl (by kernel_rfl) (by kernel_rfl) (by kernel_rfl) (fun _ _ _ h => h) (by kernel_rfl) (fun W hW => by kernel_rfl) (by assumption) rfl rfl ?_
                simp only [Act.put, List.setIfInBounds_toArray, List.set_cons_zero, List.set_cons_succ]
                refine wpAnyH_yield 28 132 (.int .i64 (i : Int)) rfl rfl (by kernel_rfl) (by kernel_rfl) (by kernel_rfl) (fun _ _ _ h => h) (by kernel_rfl) (fun W hW => by kernel_rfl) (by assumption) rfl rfl ?_
                simp only [Act.put, List.setIfInBounds_toArray, List.set_cons_zero, List.set_cons_succ]
                refine wpAnyH_yield 29 133 (.bool true) rfl rfl (by kernel_rfl) (by kernel_rfl) (by kernel_rfl) (fun _ _ _ h => h) (by kernel_rfl) (fun W hW => by go_simp; exact HI.out) (by assumption) rfl rfl ?_
                simp only [Act.put, List.setIfInBounds_toArray, List.set_cons_zero, List.set_cons_succ]
                refine wpAnyH_yield 30 134 (.bool true) rfl rfl (by kernel_rfl) (by kernel_rfl) (by kernel_rfl) (fun _ _ _ h => h) (by kernel_rfl) (fun W hW => by kernel_rfl) (by assumption) rfl rfl ?_
                simp only [Act.put, List.setIfInBounds_toArray, List.set_cons_zero, List.set_cons_succ]
                refine wpAnyH_yield 31 135 (.slice (some ⟨b, off, none⟩) k oc6) rfl rfl (by kernel_rfl) (by kernel_rfl) (by kernel_rfl) (fun _ _ _ h => h) (by kernel_rfl) (fun W hW => by kernel_rfl) (by assumption) rfl rfl ?_
                simp only [Act.put, List.setIfInBounds_toArray, List.set_cons_zero, List.set_cons_succ]
                refine wpAnyH_yield 32 136 (.int .i64 (i : Int)) rfl rfl (by kernel_rfl) (by kernel_rfl) (by kernel_rfl) (fun _ _ _ h => h) (by kernel_rfl) (fun W hW => by kernel_rfl) (by assumption) rfl rfl ?_
                simp only [Act.put, List.setIfInBounds_toArray, List.set_cons_zero, List.set_cons_succ]
                refine wpAnyH_yield 33 137 (.int .i64 (p : Int)) rfl rfl (by kernel_rfl) (by kernel_rfl) (by kernel_rfl) (fun _ _ _ h => h) (by kernel_rfl) (fun W hW => by go_simp; rw [wrapEq]; exact EP.out) (by assumption) rfl rfl ?_
                simp only [Act.put, List.setIfInBounds_toArray, List.set_cons_zero, List.set_cons_succ]
                refine wpAnyH_yield 34 138 (.pointer (some ⟨b, off + p * 4, none⟩)) rfl rfl (by kernel_rfl) (by kernel_rfl) (by kernel_rfl) (fun _ _ _ h => h) (by kernel_rfl) (fun W hW => by go_simp) (by assumption) rfl rfl ?_
                simp only [Act.put, List.setIfInBounds_toArray, List.set_cons_zero, List.set_cons_succ]
                refine wpAnyH_yield 35 139 (tv y) rfl rfl (by kernel_rfl) (by kernel_rfl) (by kernel_rfl) (fun _ _ _ h => h) (by kernel_rfl) (fun W hW => by obtain ⟨c0, c1, c2, c3⟩ := CP.out W hW; go_simp) (by assumption) rfl rfl ?_
                simp only [Act.put, List.setIfInBounds_toArray, List.set_cons_zero, List.set_cons_succ]
                refine wpAnyH_yield 36 140 (.slice (some ⟨b, off, none⟩) k oc6) rfl rfl (by kernel_rfl) (by kernel_rfl) (by kernel_rfl) (fun _ _ _ h => h) (by kernel_rfl) (fun W hW => by kernel_rfl) (by assumption) rfl rfl ?_
                simp only [Act.put, List.setIfInBounds_toArray, List.set_cons_zero, List.set_cons_succ]
                refine wpAnyH_yield 37 141 (.int .i64 (i : Int)) rfl rfl (by kernel_rfl) (by kernel_rfl) (by kernel_rfl) (fun _ _ _ h => h) (by kernel_rfl) (fun W hW => by kernel_rfl) (by assumption) rfl rfl ?_
                simp only [Act.put, List.setIfInBounds_toArray, List.set_cons_zero, List.set_cons_succ]
                refine wpAnyH_yield 38 142 (.pointer (some ⟨b, off + i * 4, none⟩)) rfl rfl (by kernel_rfl) (by kernel_rfl) (by kernel_rfl) (fun _ _ _ h => h) (by kernel_rfl) (fun W hW => by go_simp) (by assumption) rfl rfl ?_
                simp only [Act.put, List.setIfInBounds_toArray, List.set_cons_zero, List.set_cons_succ]
                refine wpAnyH_yield 39 143 (tv x) rfl rfl (by kernel_rfl) (by kernel_rfl) (by kernel_rfl) (fun _ _ _ h => h) (by kernel_rfl) (fun W hW => by obtain ⟨c0, c1, c2, c3⟩ := CO.out W hW; go_simp) (by assumption) rfl rfl ?_
                simp only [Act.put, List.setIfInBounds_toArray, List.set_cons_zero, List.set_cons_succ]
                refine wpAnyH_enter 40 144 16 #[tv y, tv x] rfl rfl (by kernel_rfl) (by kernel_rfl) (by kernel_rfl) ?_
                obtain ⟨z, hz, CKZ⟩ := CK.out x3
                have HZ : Hid (¬ (0 : Int) ≤ z) := hide (by omega)
                clear hz
                refine CKZ.mono ?_
                rintro e x3' ⟨rfl, u3⟩
                have A3 := A0.still u3
                have hS3 := hS0.trans u3 (fun _ _ h => h.elim)
                refine ⟨_, rfl, hS3, ?_⟩
                clear A0 hS0 u3 CKZ
                have A0 := A3
                have hS0 := hS3
                clear A3 hS3
                simp only [Act.put, List.setIfInBounds_toArray, List.set_cons_zero, List.set_cons_succ]
                refine wpAnyH_yield 41 145 (.bool false) rfl rfl (by kernel_rfl) (by kernel_rfl) (by kernel_rfl) (fun _ _ _ h => h) (by kernel_rfl) (fun W hW => by have h9 := HZ.out; go_simp) (by assumption) rfl rfl ?_
                simp only [Act.put, List.setIfInBounds_toArray, List.set_cons_zero, List.set_cons_succ]
                refine wpAnyH_yield 42 146 (.bool false) rfl rfl (by kernel_rfl) (by kernel_rfl) (by kernel_rfl) (fun _ _ _ h => h) (by kernel_rfl) (fun W hW => by kernel_rfl) (by assumption) rfl rfl ?_
                simp only [Act.put, List.setIfInBounds_toArray, List.set_cons_zero, List.set_cons_succ]
                refine wpAnyH_yield 43 147 (.bool false) rfl rfl (by kernel_rfl) (by kernel_rfl) (by kernel_rfl) (fun _ _ _ h => h) (by kernel_rfl) (fun W hW => by kernel_rfl) (by assumption) rfl rfl ?_
                simp only [Act.put, List.setIfInBounds_toArray, List.set_cons_zero, List.set_cons_succ]
                refine wpAnyH_yield 44 148 (.bool false) rfl rfl (by kernel_rfl) (by kernel_rfl) (by kernel_rfl) (fun _ _ _ h => h) (by kernel_rfl) (fun W hW => by kernel_rfl) (by assumption) rfl rfl ?_
                simp only [Act.put, List.setIfInBounds_toArray, List.set_cons_zero, List.set_cons_succ]
                refine wpAnyH_yield 45 149 (.pointer (some ⟨q3, 0, none⟩)) rfl rfl (by kernel_rfl) (by kernel_rfl) (by kernel_rfl) (fun _ _ _ h => h) (by kernel_rfl) (fun W hW => by kernel_rfl) (by assumption) rfl rfl ?_
                simp only [Act.put, List.setIfInBounds_toArray, List.set_cons_zero, List.set_cons_succ]
                refine wpAnyH_yield 46 150 (tv x) rfl rfl (by kernel_rfl) (by kernel_rfl) (by kernel_rfl) (fun _ _ _ h => h) (by kernel_rfl) (fun W hW => by obtain ⟨c0, c1, c2, c3⟩ := CB.out W hW; go_simp) (by assumption) rfl rfl ?_
                simp only [Act.put, List.setIfInBounds_toArray, List.set_cons_zero, List.set_cons_succ]
                refine wpAnyH_enter 47 151 20 #[.pointer (some ⟨q3, 0, none⟩), tv x] rfl rfl (by kernel_rfl) (by kernel_rfl) (by kernel_rfl) ?_
                refine (HAS1.out _ A0.c).mono ?_
                rintro e x4 ⟨rfl, u4⟩
                have A4 := A0.still u4
                have hS4 := hS0.trans u4 (fun _ _ h => h.elim)
                refine ⟨_, rfl, hS4, ?_⟩
                clear A0 hS0 u4
                simp only [Act.put, List.setIfInBounds_toArray, List.set_cons_zero, List.set_cons_succ]
                refine wpAnyH_yield 48 152 (.bool false) rfl rfl (by kernel_rfl) (by kernel_rfl) (by kernel_rfl) (fun _ _ _ h => h) (by kernel_rfl) (fun W hW => by kernel_rfl) (by assumption) rfl rfl ?_
                simp only [Act.put, List.setIfInBounds_toArray, List.set_cons_zero, List.set_cons_succ]
                refine wpAnyH_yield 49 153 (.bool false) rfl rfl (by kernel_rfl) (by kernel_rfl) (by kernel_rfl) (fun _ _ _ h => h) (by kernel_rfl) (fun W hW => by kernel_rfl) (by assumption) rfl rfl ?_
                simp only [Act.put, List.setIfInBounds_toArray, List.set_cons_zero, List.set_cons_succ]
                refine wpAnyH_yield 50 154 (.bool false) rfl rfl (by kernel_rfl) (by kernel_rfl) (by kernel_rfl) (fun _ _ _ h => h) (by kernel_rfl) (fun W hW => by kernel_rfl) (by assumption) rfl rfl ?_
                simp only [Act.put, List.setIfInBounds_toArray, List.set_cons_zero, List.set_cons_succ]
                refine wpAnyH_yield 51 155 (.pointer (some ⟨q3, 0, none⟩)) rfl rfl (by kernel_rfl) (by kernel_rfl) (by kernel_rfl) (fun _ _ _ h => h) (by kernel_rfl) (fun W hW => by kernel_rfl) (by assumption) rfl rfl ?_
                simp only [Act.put, List.setIfInBounds_toArray, List.set_cons_zero, List.set_cons_succ]
                refine wpAnyH_yield 52 156 (tv x) rfl rfl (by kernel_rfl) (by kernel_rfl) (by kernel_rfl) (fun _ _ _ h => h) (by kernel_rfl) (fun W hW => by obtain ⟨c0, c1, c2, c3⟩ := CB.out W hW; go_simp) (by assumption) rfl rfl ?_
                simp only [Act.put, List.setIfInBounds_toArray, List.set_cons_zero, List.set_cons_succ]
                refine wpAnyH_enter 53 157 21 #[.pointer (some ⟨q3, 0, none⟩), tv x] rfl rfl (by kernel_rfl) (by kernel_rfl) (by kernel_rfl) ?_
                refine (DRP1.out _ A4.c).mono ?_
                rintro e x5 ⟨rfl, ⟨V', tq5, m5⟩, u5⟩
                have A5 : Ag w l E q1 q3 F1 F3 U2 (some ⟨b, off, none⟩) (some ⟨b2, off2, none⟩) (i + 1) V' x5 := A4.turn u5 tq5 (left_less A4.mem (by rw [HX.out]; exact m5) hiO)
                have hS5 := hS4.trans u5 (fun _ _ h => h)
                have xV : decide (x ∈ V') = false := decide_eq_false (fun h => ((m5 x).1 h).2 rfl)
                have HAS2 := has_any q3 F3 V' x
                have DRP2 := drop_any q3 F3 V' x
                rw [xV] at HAS2
                unfold DropR at DRP2
                rw [xV] at DRP2
                have HLV' : V'.length < 3518437208790 := Nat.lt_of_le_of_lt (sub_len tq5.nd.nodup (fun z hz => ((m5 z).1 hz).1)) HVL.out
                have HM5 := hide m5
                refine ⟨_, rfl, hS5, ?_⟩
                clear A4 hS4 u5 tq5 xV m5
                simp only [Act.put, List.setIfInBounds_toArray, List.set_cons_zero, List.set_cons_succ]
                refine wpAnyH_yield 54 158 (.bool false) rfl rfl (by kernel_rfl) (by kernel_rfl) (by kernel_rfl) (fun _ _ _ h => h) (by kernel_rfl) (fun W hW => by kernel_rfl) (by assumption) rfl rfl ?_
                simp only [Act.put, List.setIfInBounds_toArray, List.set_cons_zero, List.set_cons_succ]
                refine wpAnyH_yield 55 159 (.bool false) rfl rfl (by kernel_rfl) (by kernel_rfl) (by kernel_rfl) (fun _ _ _ h => h) (by kernel_rfl) (fun W hW => by kernel_rfl) (by assumption) rfl rfl ?_
                simp only [Act.put, List.setIfInBounds_toArray, List.set_cons_zero, List.set_cons_succ]
                refine wpAnyH_yield 56 160 (.bool false) rfl rfl (by kernel_rfl) (by kernel_rfl) (by kernel_rfl) (fun _ _ _ h => h) (by kernel_rfl) (fun W hW => by kernel_rfl) (by assumption) rfl rfl ?_
                simp only [Act.put, List.setIfInBounds_toArray, List.set_cons_zero, List.set_cons_succ]
                refine wpAnyH_yield 57 161 (.pointer (some ⟨q3, 0, none⟩)) rfl rfl (by kernel_rfl) (by kernel_rfl) (by kernel_rfl) (fun _ _ _ h => h) (by kernel_rfl) (fun W hW => by kernel_rfl) (by assumption) rfl rfl ?_
                simp only [Act.put, List.setIfInBounds_toArray, List.set_cons_zero, List.set_cons_succ]
                refine wpAnyH_yield 58 162 (tv x) rfl rfl (by kernel_rfl) (by kernel_rfl) (by kernel_rfl) (fun _ _ _ h => h) (by kernel_rfl) (fun W hW => by obtain ⟨c0, c1, c2, c3⟩ := CB.out W hW; go_simp) (by assumption) rfl rfl ?_
                simp only [Act.put, List.setIfInBounds_toArray, List.set_cons_zero, List.set_cons_succ]
                refine wpAnyH_enter 59 163 20 #[.pointer (some ⟨q3, 0, none⟩), tv x] rfl rfl (by kernel_rfl) (by kernel_rfl) (by kernel_rfl) ?_
                refine (HAS2 _ A5.c GX.out).mono ?_
                rintro e x6 ⟨rfl, u6'⟩
                have A6 := A5.still u6'
                have hS6 := hS5.trans u6' (fun _ _ h => h.elim)
                refine ⟨_, rfl, hS6, ?_⟩
                clear A5 hS5 u6' HAS2
                simp only [Act.put, List.setIfInBounds_toArray, List.set_cons_zero, List.set_cons_succ]
                refine wpAnyH_yield 60 164 (.bool false) rfl rfl (by kernel_rfl) (by kernel_rfl) (by kernel_rfl) (fun _ _ _ h => h) (by kernel_rfl) (fun W hW => by kernel_rfl) (by assumption) rfl rfl ?_
                simp only [Act.put, List.setIfInBounds_toArray, List.set_cons_zero, List.set_cons_succ]
                refine wpAnyH_yield 61 165 (.bool false) rfl rfl (by kernel_rfl) (by kernel_rfl) (by kernel_rfl) (fun _ _ _ h => h) (by kernel_rfl) (fun W hW => by kernel_rfl) (by assumption) rfl rfl ?_
                simp only [Act.put, List.setIfInBounds_toArray, List.set_cons_zero, List.set_cons_succ]
                refine wpAnyH_yield 62 166 (.pointer (some ⟨q3, 0, none⟩)) rfl rfl (by kernel_rfl) (by kernel_rfl) (by kernel_rfl) (fun _ _ _ h => h) (by kernel_rfl) (fun W hW => by kernel_rfl) (by assumption) rfl rfl ?_
                simp only [Act.put, List.setIfInBounds_toArray, List.set_cons_zero, List.set_cons_succ]
                refine wpAnyH_yield 63 167 (tv x) rfl rfl (by kernel_rfl) (by kernel_rfl) (by kernel_rfl) (fun _ _ _ h => h) (by kernel_rfl) (fun W hW => by obtain ⟨c0, c1, c2, c3⟩ := CB.out W hW; go_simp) (by assumption) rfl rfl ?_
                simp only [Act.put, List.setIfInBounds_toArray, List.set_cons_zero, List.set_cons_succ]
                refine wpAnyH_enter 64 168 21 #[.pointer (some ⟨q3, 0, none⟩), tv x] rfl rfl (by kernel_rfl) (by kernel_rfl) (by kernel_rfl) ?_
                refine (DRP2 _ A6.c GX.out HLV').mono ?_
                rintro e x7 ⟨rfl, ⟨V'', tq7, m7⟩, u7⟩
                have A7 : Ag w l E q1 q3 F1 F3 U2 (some ⟨b, off, none⟩) (some ⟨b2, off2, none⟩) (i + 1) V'' x7 := A6.turn u7 tq7 (fun z => by
                  rw [m7, ← A6.mem]
                  exact ⟨fun h => h.1, fun h => ⟨h, ((HM5.out z).1 h).2⟩⟩)
                have hS7 := hS6.trans u7 (fun _ _ h => h)
                refine ⟨_, rfl, hS7, ?_⟩
                clear A6 hS6 u7 tq7 m7 DRP2 HLV' HM5
                simp only [Act.put, List.setIfInBounds_toArray, List.set_cons_zero, List.set_cons_succ]
                refine wpAnyH_yield 65 169 (.bool false) rfl rfl (by kernel_rfl) (by kernel_rfl) (by kernel_rfl) (fun _ _ _ h => h) (by kernel_rfl) (fun W hW => by kernel_rfl) (by assumption) rfl rfl ?_
                simp only [Act.put, List.setIfInBounds_toArray, List.set_cons_zero, List.set_cons_succ]
                refine wpAnyH_done (by kernel_rfl) ?_ _
                rw [onlyN_normal]
                have A9 := hide A7
                clear A7 hS7
                go_wp2_with fail
                go_roundw
                case rel => exact ⟨i + 1, V'', hlt, by rw [ESW.out], A9.out⟩
                case measure => rw [ESW.out]; simp [intOf]; omega
            · have e : i = k := by omega
              subst e
              have MV := hide (left_last MO.out (by rw [EK.out]; exact ag.mem))
              have EV : Hid (V.length = r) := hide ((same_len ag.c.nd.nodup ag.a.nd.nodup (fun x => by rw [MV.out, MU2.out])).trans ER.out)
              have AGe := hide ag
              have KN := hide known_any
              clear ag hlt hi AG
              by_cases h0 : V = []
              · subst h0
                have er0 : r = 0 := EV.out.symm
                subst er0
                have NE := hide (next_none q3 F3 wr AGe.out.c)
                go_wp2_with fail
                refine NE.out.mono ?_
                rintro e x1 ⟨rfl, u1⟩
                have AG1 := hide (AGe.out.still u1)
                clear u1 NE
                go_wp2_with fail
                obtain ⟨x2, ex2⟩ : ∃ x2, x2 = x1.alloc (.cells #[.int .i64 tm0.at_, .string tm0.key, .int .i64 tm0.start, .int .i64 tm0.stop] 35) := ⟨_, rfl⟩
                have AG2 := hide (AG1.out.still (show Calm x1 x2 from by rw [ex2]; exact (Touch.refl _ _).alloc _))
                rw [← ex2]
                clear ex2 AG1 AGe
                have LN3 := hide (len_any q3 F3 [] x2 AG2.out.c)
                have LN1 := hide (len_any q1 F1 U2 x2 AG2.out.a)
                rw [ER.out] at LN1
                simp only [List.length_nil] at LN3
                refine LN3.out.mono ?_
                rintro e x3 ⟨rfl, hw⟩
                subst hw
                go_wp2_with fail
                refine LN1.out.mono ?_
                rintro e x4 ⟨rfl, hw⟩
                subst hw
                go_wp2_with fail
                refine LN3.out.mono ?_
                rintro e x5 ⟨rfl, hw⟩
                subst hw
                go_wp2_with fail
                refine (KN.out _).mono ?_
                rintro e x6 ⟨rfl, u6'⟩
                have T9 := hide (AG2.out.calm.tr u6')
                clear u6' LN3 LN1
                go_wp2_with fail
                go_ret
                exact ⟨rfl, T9.out⟩
              · have f0 : 0 < V.length := List.length_pos_iff.2 h0
                have NE := hide (next_any q3 F3 V wr AGe.out.c f0)
                obtain ⟨x, ex⟩ : ∃ x, nth V 0 = x := ⟨_, rfl⟩
                rw [ex] at NE
                have hat : last < x.at_ := ((MV.out x).1 (by rw [← ex]; exact mem_nth.2 ⟨0, f0, rfl⟩)).2
                have hr0 : (0 : Int) < (r : Int) := by have := EV.out; omega
                have hr1 : 0 < r := by omega
                clear f0 h0 ex
                go_wp2_with fail
                refine NE.out.mono ?_
                rintro e x1 ⟨rfl, u1⟩
                have AG1 := hide (AGe.out.still u1)
                clear u1 NE
                go_wp2_with fail
                obtain ⟨x2, ex2⟩ : ∃ x2, x2 = x1.alloc (.cells #[.int .i64 x.at_, .string x.key, .int .i64 x.start, .int .i64 x.stop] 35) := ⟨_, rfl⟩
                obtain ⟨A, eA⟩ : ∃ A, A = x1.heap.size := ⟨_, rfl⟩
                have HBX : x2.heap[A]? = some (.cells (tc x) 35 (0, 0)) := by rw [ex2, eA]; exact heap_alloc_last x1 _
                obtain ⟨⟨c0, c1, c2, c3⟩, -⟩ := cells4 HBX
                have AG2 := hide (AG1.out.still (show Calm x1 x2 from by rw [ex2]; exact (Touch.refl _ _).alloc _))
                rw [← ex2, ← eA]
                clear ex2 eA AG1 AGe HBX
                have LN3 := hide (len_any q3 F3 V x2 AG2.out.c)
                have LN1 := hide (len_any q1 F1 U2 x2 AG2.out.a)
                rw [ER.out] at LN1
                rw [EV.out] at LN3
                refine LN3.out.mono ?_
                rintro e x3 ⟨rfl, hw⟩
                subst hw
                go_wp2_with fail
                refine LN1.out.mono ?_
                rintro e x4 ⟨rfl, hw⟩
                subst hw
                go_wp2_with fail
                refine LN3.out.mono ?_
                rintro e x5 ⟨rfl, hw⟩
                subst hw
                go_wp2_with fail
                refine (KN.out _).mono ?_
                rintro e x6 ⟨rfl, u6'⟩
                have T9 := hide (AG2.out.calm.tr u6')
                clear u6' LN3 LN1
                go_wp2_with fail
                go_ret
                exact ⟨rfl, T9.out⟩
end Go.Proofs.Ytlnblhajcbmmkaa
