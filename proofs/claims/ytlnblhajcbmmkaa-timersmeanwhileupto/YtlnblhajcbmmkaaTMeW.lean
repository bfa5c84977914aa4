/- TimersMeanwhile, walked. -/
import Derived.Test.YtlnblhajcbmmkaaTMwR
import Derived.Test.YtlnblhajcbmmkaaTAgrM
import Derived.Test.YtlnblhajcbmmkaaTASeqT
import Derived.Test.YtlnblhajcbmmkaaTKnow
import Derived.Test.YtlnblhajcbmmkaaTWlk
import Derived.Sort.CutIn
namespace Go.Proofs.Ytlnblhajcbmmkaa
open Go.RowKit
attribute [local go_sem] Oper.semAt_some

set_option maxRecDepth 100000 in
set_option maxHeartbeats 4000000 in
theorem meanwhile_walk (ao : Option Addr) (cap : Nat) (l : List Tm) (so : Option Addr) (sc9 : Nat) (ss : List Sp) (w : World) (ht : Tms w ao l) (hg : ∀ t ∈ l, Good t) (hb : l.length ≤ 1048576) (hs : Stps w so ss) (hgs : ∀ s ∈ ss, Good s.t ∧ Good s.u) (hsb : ss.length ≤ 1048576) :
    Calls Try.prog 5 #[.slice ao l.length cap, .slice so ss.length sc9] w fun e w' => e = .returned (.bool true) ∧ Calm w w' := by
  obtain ⟨n, hn⟩ : ∃ n, n = l.length := ⟨_, rfl⟩
  obtain ⟨sn, hsn⟩ : ∃ sn, sn = ss.length := ⟨_, rfl⟩
  have HN := hide hn
  have HSN := hide hsn
  have HT := hide ht
  have HG := hide hg
  have HS := hide hs
  have HGS := hide hgs
  have HB : Hid (n ≤ 1048576) := hide (by omega)
  have HSB : Hid (sn ≤ 1048576) := hide (by omega)
  rw [← hn, ← hsn]
  clear hn hsn ht hg hb hs hgs hsb
  refine (callsIn_wide (n := 3)).1 (callsIn_of_wp_marks Try.func5 rfl trivial ?_ rfl)
  simp only [Try.ntmps5, List.size_toArray, List.length_cons, List.length_nil, Nat.reduceAdd, Nat.reduceSub, Array.replicate_succ, Array.replicate_zero, List.push_toArray, List.append_toArray, List.nil_append, List.cons_append]
  gi_wp2
  obtain ⟨B3, e3⟩ : ∃ B3, B3 = w.heap.size := ⟨_, rfl⟩
  obtain ⟨B4, e4⟩ : ∃ B4, B4 = w.heap.size + 1 := ⟨_, rfl⟩
  obtain ⟨w0, ew0⟩ : ∃ w0, w0 = (w.alloc (.cells #[.slice so sn sc9] 23)).alloc (.cells #[.bool false] 4) := ⟨_, rfl⟩
  have T0 : Hid (Calm w w0) := hide (by rw [ew0]; exact ((Touch.refl _ _).alloc _).alloc _)
  have K3 : Hid (w0.heap[B3]? = some (.cells #[.slice so sn sc9] 23 (0, 0))) := hide (by rw [ew0, e3]; exact (Below.heap_alloc _ _ _ (by simp)).trans (World.alloc_heap_new w _))
  have K4 : Hid (w0.heap[B4]? = some (.cells #[.bool false] 4 (0, 0))) := hide (by
    rw [ew0, e4]
    have := World.alloc_heap_new (w.alloc (.cells #[.slice so sn sc9] 23)) (.cells #[.bool false] 4)
    rwa [World.size_alloc] at this)
  have L34 : Hid (w.heap.size ≤ B3 ∧ w.heap.size ≤ B4) := hide (by omega)
  rw [← e4, ← e3, ← ew0]
  clear e3 e4 ew0
  have N1 := hide (new_any ao cap l w0 (HT.out.calm T0.out) HG.out (by have := HB.out; have := HN.out; omega))
  rw [← HN.out] at N1
  refine ⟨trivial, (callsIn_wide.2 N1.out).mono ?_⟩
  rintro e w1 ⟨q, F, V, rfl, tq, vm, fr, t1⟩
  have TQ := hide tq
  have VM := hide vm
  have FR := hide fr
  have T1 := hide t1
  clear tq vm fr t1 N1
  gi_wp2
  obtain ⟨b, eb⟩ : ∃ b, b = w1.heap.size := ⟨_, rfl⟩
  obtain ⟨B6, e6⟩ : ∃ B6, B6 = w1.heap.size + 1 := ⟨_, rfl⟩
  obtain ⟨B7, e7⟩ : ∃ B7, B7 = w1.heap.size + 1 + 1 := ⟨_, rfl⟩
  obtain ⟨w2, ew2⟩ : ∃ w2, w2 = ((w1.alloc (.cells #[.pointer (some ⟨q, 0, none⟩), .pointer (some ⟨q, 0, none⟩), .slice none 0 0, .slice none 0 0, .slice none 0 0, .slice none 0 0] 31)).alloc (.cells #[.pointer (some ⟨b, 0, none⟩)] 24)).alloc (.cells #[.slice none 0 0] 22) := ⟨_, rfl⟩
  have tA : Calm w1 w2 := by rw [ew2]; exact (((Touch.refl _ _).alloc _).alloc _).alloc _
  have M00 : Hid (M0 w B3 B4 B6 B7 b q (.slice so sn sc9) (.slice none 0 0) (.slice none 0 0) F V [] l none 0 0 (.slice none 0 0) (.slice none 0 0) w2) := hide (by
    have nw : ∀ (V : World) (o : Obj) (n : Nat), n = V.heap.size → (V.alloc o).heap[n]? = some o := fun V o n e => by rw [e]; exact World.alloc_heap_new V o
    have kp : ∀ (V : World) (o o' : Obj) (n : Nat), V.heap[n]? = some o → (V.alloc o').heap[n]? = some o := fun V o o' n h => (Below.heap_alloc V o' n (lt_of_heap h)).trans h
    have t01 : Calm w w2 := (T0.out.tr T1.out).tr tA
    have s0 := T0.out.size
    have s1 := T1.out.size
    have l3 := lt_of_heap K3.out
    have l4 := lt_of_heap K4.out
    refine ⟨t01, tA.at (T1.out.at K3.out), tA.at (T1.out.at K4.out), ?_, ?_, ?_, TQ.out.calm tA, VM.out, Rl.none _, List.Pairwise.nil, fun z => by simp, fun a ha => (nomatch ha), fun g hg => ?_, ⟨L34.out.2, by omega, by omega⟩⟩
    · rw [ew2]; exact kp _ _ _ _ (nw _ _ _ (by rw [e6]; simp))
    · rw [ew2]; exact nw _ _ _ (by rw [e7]; simp)
    · rw [ew2]; exact kp _ _ _ _ (kp _ _ _ _ (nw _ _ _ (by rw [eb])))
    · have h1 := FR.out g hg
      have h2 := TQ.out.lt g hg
      refine ⟨by omega, fun hm => ?_⟩
      simp only [List.mem_cons, List.not_mem_nil, or_false] at hm
      omega)
  have HX7 : Hid (w1.heap.size ≤ w2.heap.size) := hide tA.size
  rw [← e7, ← e6, ← eb, ← ew2]
  clear e6 e7 eb ew2 tA T1 T0 K3 K4 L34 TQ VM FR HX7
  gi_loopw [8] (fun i wr => ∃ (k : Nat) (L : List Tm) (lo : Option Addr) (lc : Nat), i = .int .i64 (k : Int) ∧ k ≤ n ∧ L.length ≤ k ∧ M0 w B3 B4 B6 B7 b q (.slice so sn sc9) (.slice none 0 0) (.slice none 0 0) F V L l lo lc k (.slice none 0 0) (.slice none 0 0) wr) (fun i _ => n - (intOf i).toNat)
  case atStart => exact ⟨0, [], none, 0, rfl, Nat.zero_le _, Nat.zero_le _, M00.out⟩
  case round =>
    clear M00
    obtain ⟨k, L, lo, lc, rfl, hk, hL, m0⟩ := hrel
    by_cases hlt : k < n
    · have hlt' : (k : Int) < (n : Int) := by omega
      have hkl : k < l.length := by have := HN.out; omega
      obtain ⟨tb, off, e, c0, c1, c2, c3⟩ := HT.out k hkl
      subst e
      rw [← nth_eq hkl] at c0 c1 c2 c3
      obtain ⟨x, ex⟩ : ∃ x, nth l k = x := ⟨_, rfl⟩
      rw [ex] at c0 c1 c2 c3
      have EX := hide ex
      have MZ := hide m0
      have HLL := hide hL
      have SW : Hid (wrap64 ((k : Int) + 1) = ((k + 1 : Nat) : Int)) := hide (by have := HB.out; unfold wrap64; omega)
      have CX : Hid (∀ W, Calm wr W → W.cell? ⟨tb, off + k * 4, none⟩ = some (.int .i64 x.at_) ∧ W.cell? ⟨tb, off + k * 4 + 1, none⟩ = some (.string x.key) ∧ W.cell? ⟨tb, off + k * 4 + 2, none⟩ = some (.int .i64 x.start) ∧ W.cell? ⟨tb, off + k * 4 + 3, none⟩ = some (.int .i64 x.stop)) := hide (fun W hW => by
        have g : ∀ {o : Nat} {v : Value}, w.cell? ⟨tb, o, none⟩ = some v → W.cell? ⟨tb, o, none⟩ = some v := fun {o v} h => ((MZ.out.calm.tr hW).cell (p := ⟨tb, o, none⟩) (lt_of_cell h) (fun h => h)).trans h
        exact ⟨g c0, g c1, g c2, g c3⟩)
      have HKL := hide hkl
      obtain ⟨ln, eln⟩ : ∃ ln, L.length = ln := ⟨_, rfl⟩
      have HLN := hide eln
      have B7H : Hid (∀ W, Calm wr W → W.heap[B7]? = some (.cells #[.slice lo ln lc] 22 (0, 0))) := hide (fun W hW => by rw [← eln]; exact hW.at m0.b7)
      clear c0 c1 c2 c3 ex m0 hL hkl eln
      refine wpIn_wide.2 ?_
      go_wp2_with fail
      refine wp_only ?_
      refine wp_region_z 6 (Calm wr) (by kernel_rfl) ?_
      have ty0 : Calm wr { wr with drawn := wr.drawn + 1 } := (Touch.refl (fun _ => False) wr).drew
      refine wpAnyZ_yield 0 29 (.slice lo ln lc) [6] rfl rfl (by kernel_rfl) (by kernel_rfl) (by kernel_rfl) (by kernel_rfl) (by kernel_rfl) (fun _ _ _ h => h) (by kernel_rfl) (fun W hW => by have c0 := (one_cell (B7H.out W hW)).1; go_simp) (by assumption) rfl rfl ?_
      simp only [Act.put, List.setIfInBounds_toArray, List.set_cons_zero, List.set_cons_succ]
      refine wpAnyZ_yield 1 30 (.slice (some ⟨tb, off, none⟩) n cap) [6] rfl rfl (by kernel_rfl) (by kernel_rfl) (by kernel_rfl) (by kernel_rfl) (by kernel_rfl) (fun _ _ _ h => h) (by kernel_rfl) (fun W hW => by kernel_rfl) (by assumption) rfl rfl ?_
      simp only [Act.put, List.setIfInBounds_toArray, List.set_cons_zero, List.set_cons_succ]
      refine wpAnyZ_yield 2 31 (.int .i64 (k : Int)) [6] rfl rfl (by kernel_rfl) (by kernel_rfl) (by kernel_rfl) (by kernel_rfl) (by kernel_rfl) (fun _ _ _ h => h) (by kernel_rfl) (fun W hW => by kernel_rfl) (by assumption) rfl rfl ?_
      simp only [Act.put, List.setIfInBounds_toArray, List.set_cons_zero, List.set_cons_succ]
      refine wpAnyZ_yield 3 32 (.pointer (some ⟨tb, off + k * 4, none⟩)) [6] rfl rfl (by kernel_rfl) (by kernel_rfl) (by kernel_rfl) (by kernel_rfl) (by kernel_rfl) (fun _ _ _ h => h) (by kernel_rfl) (fun W hW => by go_simp) (by assumption) rfl rfl ?_
      simp only [Act.put, List.setIfInBounds_toArray, List.set_cons_zero, List.set_cons_succ]
      refine wpAnyZ_yield 4 33 (tv x) [6] rfl rfl (by kernel_rfl) (by kernel_rfl) (by kernel_rfl) (by kernel_rfl) (by kernel_rfl) (fun _ _ _ h => h) (by kernel_rfl) (fun W hW => by obtain ⟨c0, c1, c2, c3⟩ := CX.out W hW; go_simp) (by assumption) rfl rfl ?_
      simp only [Act.put, List.setIfInBounds_toArray, List.set_cons_zero, List.set_cons_succ]
      have RS := rset_any lo lc L x { wr with drawn := wr.drawn + 1 } (MZ.out.rl.calm ty0) MZ.out.srt (by have := HLL.out; have := HB.out; omega)
      rw [HLN.out] at RS
      refine wpAnyZ_enter 5 34 10 #[.slice lo ln lc, tv x] rfl rfl (by decide) (by kernel_rfl) (by kernel_rfl) (by kernel_rfl) ?_
      refine RS.mono ?_
      rintro e w3 ⟨ao3, cap3, rfl, rl3, loc3, t3⟩
      have ty3 : Calm wr w3 := ty0.tr t3
      refine ⟨_, rfl, ty3, ?_⟩
      simp only [Act.put, List.setIfInBounds_toArray, List.set_cons_zero, List.set_cons_succ]
      have NX : Hid (M0 w B3 B4 B6 B7 b q (.slice so sn sc9) (.slice none 0 0) (.slice none 0 0) F V (setT x L) l ao3 cap3 (k + 1) (.slice none 0 0) (.slice none 0 0) (w3.setCell ⟨B7, 0, none⟩ (.slice ao3 (setT x L).length cap3))) := hide (MZ.out.set ty3 HKL.out EX.out rl3 (fun a ha => (loc3 a ha).imp id (fun h => Nat.le_trans ty0.size h)))
      have HL9 : Hid ((setT x L).length ≤ k + 1) := hide (Nat.le_trans (setT_len x L) (by have := HLL.out; omega))
      obtain ⟨c7, f7⟩ := one_cell (B7H.out w3 ty3)
      obtain ⟨m, em⟩ : ∃ m, (setT x L).length = m := ⟨_, rfl⟩
      rw [em] at NX ⊢
      clear em RS rl3 loc3 t3
      refine wpAnyZ_end rfl (by kernel_rfl) (by kernel_rfl) (by kernel_rfl) ?_
      unfold Oper.wp
      go_simp
      rw [onlyN_normal]
      clear ty0 ty3 c7 f7 CX B7H MZ
      go_wp2_with fail
      go_roundw
      case rel => exact ⟨k + 1, setT x L, ao3, cap3, by rw [SW.out], hlt, HL9.out, NX.out⟩
      case measure => rw [SW.out]; simp [intOf]; omega
    · have e : k = n := by omega
      subst e
      have MZ := hide m0
      have HLL := hide hL
      have hx := all_not_nil #[.pointer (some ⟨wr.heap.size, 0, none⟩)] (wr.alloc (.cells #[.pointer (some ⟨q, 0, none⟩)] 25))
      clear m0 hL hk hlt
      gi_wp2
      refine ⟨trivial, (callsIn_wide.2 (all_any _ _)).mono ?_⟩
      rintro e w3 ⟨rfl, hw⟩
      subst hw
      gi_wp2
      clear hx
      obtain ⟨Bx, ex⟩ : ∃ Bx, Bx = wr.heap.size := ⟨_, rfl⟩
      obtain ⟨B10, e10⟩ : ∃ B10, B10 = wr.heap.size + 1 := ⟨_, rfl⟩
      obtain ⟨W1, eW1⟩ : ∃ W1, W1 = (wr.alloc (.cells #[.pointer (some ⟨q, 0, none⟩)] 25)).alloc (.cells #[.int .i64 0] 3) := ⟨_, rfl⟩
      have tA : Calm wr W1 := by rw [eW1]; exact ((Touch.refl _ _).alloc _).alloc _
      have hbx : W1.heap[Bx]? = some (.cells #[.pointer (some ⟨q, 0, none⟩)] 25 (0, 0)) := by rw [eW1, ex]; exact (Below.heap_alloc _ _ _ (by simp)).trans (World.alloc_heap_new wr _)
      have h10 : W1.heap[B10]? = some (.cells #[.int .i64 ((0 : Nat) : Int)] 3 (0, 0)) := by
        rw [eW1, e10]
        have := World.alloc_heap_new (wr.alloc (.cells #[.pointer (some ⟨q, 0, none⟩)] 25)) (.cells #[.int .i64 ((0 : Nat) : Int)] 3)
        rwa [World.size_alloc] at this
      have MB0 := hide (MZ.out.mb (by have := HN.out; omega) tA hbx h10 (by omega) (by omega))
      rw [← e10, ← ex, ← eW1]
      clear e10 ex eW1 tA hbx h10 MZ
      refine wpIn_loop (fun a' W' => ∃ (j : Nat) (F : Nat → Prop) (V L : List Tm) (lo : Option Addr) (lc t : Nat) (y0 y1 : Value) (Ds : List Nat) (f : Nat → Value), (j ≤ 3 ∧ L.length ≤ k * 2 ^ j ∧ t ≤ k * 2 ^ j ∧ Mb w B3 B4 B6 B7 B10 Bx b q (.slice so sn sc9) (.slice none 0 0) (.slice none 0 0) F V L lo lc t y0 y1 Ds W' ∧ (∀ D ∈ Ds, W'.heap[D]? = some (.deferred (some []))) ∧ (∀ D ∈ Ds, w.heap.size ≤ D) ∧ Ds.Nodup) ∧ a' = { tmps := #[.slice ao k cap, .slice so sn sc9, undef, .pointer (some ⟨B3, 0, none⟩), .pointer (some ⟨B4, 0, none⟩), .pointer (some ⟨q, 0, none⟩), .pointer (some ⟨B6, 0, none⟩), .pointer (some ⟨B7, 0, none⟩), .int .i64 (k : Int), .func (.func 30) #[] #[.pointer (some ⟨Bx, 0, none⟩)], .pointer (some ⟨B10, 0, none⟩), .int .i64 (j : Int), f 12, f 13, f 14, f 15, f 16, f 17, f 18, f 19, f 20, f 21, f 22, f 23, f 24, f 25, f 26, f 27, f 28, f 29, f 30, f 31, f 32, f 33, f 34, f 35, f 36, f 37, f 38, f 39, f 40, f 41, f 42, f 43, f 44, f 45, f 46, f 47, f 48, f 49, f 50, f 51, f 52, f 53, f 54, f 55, f 56, f 57, f 58, f 59, f 60, f 61, f 62, f 63, f 64, f 65, f 66, f 67, f 68, f 69, f 70, f 71, f 72, f 73, f 74, f 75, f 76, f 77, f 78, f 79, f 80, f 81, f 82, f 83, f 84, f 85, f 86, f 87, f 88, f 89, f 90, f 91, f 92, f 93, f 94, f 95, f 96, f 97, f 98, f 99, f 100, f 101, f 102, f 103], defers := Ds.map mark }) (fun a' _ => 3 - (intOf (a'.tmps.getD 11 undef)).toNat) ?h0 ?round
      case h0 =>
        exact ⟨0, F, V, L, lo, lc, 0, _, _, [], fun i => Array.getD #[undef, undef, undef, undef, undef, undef, undef, undef, undef, undef, undef, undef, _, _, _, _, _, _, _, _, _, _, _, _, _, _, _, _, _, _, _, _, _, _, _, _, _, _, _, _, _, _, _, _, _, _, _, _, _, _, _, _, _, _, _, _, _, _, _, _, _, _, _, _, _, _, _, _, _, _, _, _, _, _, _, _, _, _, _, _, _, _, _, _, _, _, _, _, _, _, _, _, _, _, _, _, _, _, _, _, _, _, _, _] i undef, ⟨by omega, by simpa using HLL.out, Nat.zero_le _, MB0.out, fun _ h => (nomatch h), fun _ h => (nomatch h), List.nodup_nil⟩, rfl⟩
      case round =>
        clear MB0 HLL
        rintro a' V0 ⟨j, F, V, L, lo, lc, t, y0, y1, Ds, f, ⟨hj, hLk, htk, mb, hds, hdw, hdn⟩, rfl⟩
        by_cases hj3 : j < 3
        · have hjl : (j : Int) < 3 := by omega
          have HJ := hide hj3
          have HLK := hide hLk
          have HTK := hide htk
          have MBH := hide mb
          have HDS := hide hds
          have HDW := hide hdw
          have HDN := hide hdn
          have HLB : Hid (L.length ≤ 4194304 ∧ t ≤ 4194304) := hide (by
            have h2 : (2 : Nat) ^ j ≤ 4 := by
              rcases (show j = 0 ∨ j = 1 ∨ j = 2 by omega) with rfl | rfl | rfl <;> decide
            have h3 : k * 2 ^ j ≤ 1048576 * 4 := Nat.mul_le_mul HB.out h2
            omega)
          clear mb hds hdw hdn hLk htk hj hj3
          gi_upto_region 15 with fail
          gi_cut [12] from 43 (fun v wx => ∃ (B12 : Nat) (wo : Option Addr) (wcap : Nat), v = .pointer (some ⟨B12, 0, none⟩) ∧ Mb w B3 B4 B6 B7 B10 Bx b q (.slice so sn sc9) (.slice none 0 0) (.slice none 0 0) F V L lo lc t y0 y1 (B12 :: (wo.toList.map (·.block) ++ Ds)) wx ∧ wx.heap[B12]? = some (.cells #[.slice wo L.length wcap] 22 (0, 0)) ∧ Tms wx wo L ∧ V0.heap.size ≤ B12 ∧ Calm V0 wx ∧ ∀ a, wo = some a → a.block < wx.heap.size)
          case first =>
            refine wpIn_wide.2 ?_
            have c7 := (one_cell MBH.out.b7).1
            have TL := hide MBH.out.rl.tms
            have NI := hide MBH.out.rl.nil
            have ON : Hid (OwnT V0 V0.heap.size (.slice none 0 0) []) := hide (World.ownsRow_nil _ _ _ _)
            have HB9 : Hid (L.length ≤ 3518437208800) := hide (by have := HLB.out; omega)
            go_wp2_with (at_builtin; refine wpList_tapp2 rfl (.const (.slice none 0 0)) (.tmp 43) rfl V0.heap.size (.slice none 0 0) [] rfl ON.out lo L.length lc L rfl rfl TL.out NI.out L L.length rfl rfl HB9.out (Nat.le_refl _) ?ny)
            case ny =>
              intro wo wcap w3 own3 t3
              have T3 : Hid (Calm V0 w3) := hide (t3.mono (fun g _ hg => by simp [Value.ownBlock] at hg))
              have OW3 := hide own3
              clear own3 t3 c7
              go_wp2_with fail
              have tB : Calm w3 (w3.alloc (.cells #[.slice wo L.length wcap] 22)) := (Touch.refl _ _).alloc _
              gi_meet
              case rel =>
                obtain ⟨-, tm, rw_, -⟩ := OwnT.prs OW3.out
                refine ⟨w3.heap.size, wo, wcap, rfl, ?_, World.alloc_heap_new _ _, tm.calm tB, T3.out.size, T3.out.tr tB, fun a ha => by
                  obtain ⟨_, _, _, cs, hc⟩ := rw_ a ha
                  have h1 := lt_of_heap hc
                  have h2 := tB.size
                  omega⟩
                cases wo with
                | none => exact (MBH.out.still T3.out).fresh tB (Nat.le_refl _) (by simp)
                | some a =>
                  obtain ⟨_, _, h1, cs, hc⟩ := rw_ a rfl
                  exact (MBH.out.fresh T3.out (K := a.block) h1 (lt_of_heap hc)).fresh tB (Nat.le_refl _) (by simp)
          case rest =>
            obtain ⟨B12, wo, wcap, rfl, mb, h12, wt, hlo, tc0, wlt⟩ := hcut
            gi_wp2
            obtain ⟨B13, e13⟩ : ∃ B13, B13 = wc.heap.size := ⟨_, rfl⟩
            obtain ⟨W9, e9⟩ : ∃ W9, W9 = wc.alloc (.cells #[.int .i64 0] 3) := ⟨_, rfl⟩
            have tA : Calm wc W9 := by rw [e9]; exact (Touch.refl _ _).alloc _
            have HMB : Hid (Mb w B3 B4 B6 B7 B10 Bx b q (.slice so sn sc9) (.slice none 0 0) (.slice none 0 0) F V L lo lc t y0 y1 (ksR B12 B13 wo Ds) W9) := hide (mb.fresh tA (K := B13) (by omega) (by rw [e13, e9]; simp))
            have HWN : Hid (Wn B12 B13 wo wcap L 0 Ds W9) := hide ⟨tA.at h12, by rw [e13, e9]; exact World.alloc_heap_new _ _, wt.calm tA, fun D hD => tA.at (tc0.at (HDS.out D hD)), fun a ha e => by have := wlt a ha; omega⟩
            have H13 : Hid (w.heap.size ≤ B13) := hide (by rw [e13]; exact mb.calm.size)
            rw [← e13, ← e9]
            clear e13 e9 tA mb h12 wt hlo tc0 wlt HDS MBH
            have SQ := hide (all_seqT Bx q L HMB.out.srt (by have := HLB.out; omega))
            obtain ⟨ln, eln⟩ : ∃ ln, L.length = ln := ⟨_, rfl⟩
            have HLN := hide eln
            clear eln
            refine wpIn_rangeT (gf := 30) (lb := #[.pointer (some ⟨Bx, 0, none⟩)]) rfl (enters_of Try.func30 (by kernel_rfl) rfl) SQ.out (fun _ => rfl)
              (fun g => F g ∨ g = b ∨ g = B7 ∨ g = B10 ∨ g = B13) ?hs (fun W h => ⟨(HMB.out.still h).bx, F, V, (HMB.out.still h).tq, HMB.out.mem⟩)
              (fun T kk W => ∃ (F' : Nat → Prop) (V' L' : List Tm), L'.length ≤ L.length + kk ∧ ∃ (lo' : Option Addr) (lc' : Nat) (y0' y1' : Value), Mr w B3 B4 B6 B7 B10 Bx b q (.slice so sn sc9) (.slice none 0 0) (.slice none 0 0) F W9.heap.size T B12 B13 wo wcap L Ds F' V' L' lo' lc' (t + kk) kk y0' y1' W) (fun _ _ _ => False)
              (fun T _ x a' W => ∃ p, W.heap[p]? = some (.cells (tc x) 35 (0, 0)) ∧ T ≤ p ∧ a' = { tmps := #[.slice ao k cap, .slice so sn sc9, undef, .pointer (some ⟨B3, 0, none⟩), .pointer (some ⟨B4, 0, none⟩), .pointer (some ⟨q, 0, none⟩), .pointer (some ⟨B6, 0, none⟩), .pointer (some ⟨B7, 0, none⟩), .int .i64 (k : Int), .func (.func 30) #[] #[.pointer (some ⟨Bx, 0, none⟩)], .pointer (some ⟨B10, 0, none⟩), .int .i64 (j : Int), .pointer (some ⟨B12, 0, none⟩), .pointer (some ⟨B13, 0, none⟩), .pointer (some ⟨p, 0, none⟩), f 15, f 16, f 17, f 18, f 19, f 20, f 21, f 22, f 23, f 24, f 25, f 26, f 27, f 28, f 29, f 30, f 31, f 32, f 33, f 34, f 35, f 36, f 37, f 38, .int .i64 (j : Int), .bool true, f 41, f 42, u43, u44, .func (.func 30) #[] #[.pointer (some ⟨Bx, 0, none⟩)], tv x, u47, u48, u49, u50, u51, u52, u53, u54, u55, u56, u57, u58, u59, u60, u61, u62, u63, u64, u65, u66, u67, u68, u69, u70, u71, u72, u73, u74, u75, u76, u77, u78, u79, u80, u81, u82, u83, u84, u85, u86, u87, u88, u89, u90, u91, u92, u93, u94, u95, u96, u97, u98, u99, u100, u101, u102, u103], defers := [] })
              (fun W h hz => ⟨F, V, L, Nat.le_refl _, lo, lc, y0, y1, Mr.begin HMB.out HWN.out H13.out h hz (Nat.le_refl _)⟩)
              (fun T kk W W' ⟨F', V', L', h1, lo', lc', y0', y1', h2⟩ ht => ⟨F', V', L', h1, lo', lc', y0', y1', h2.still ht⟩)
              (fun T kk W o _ ⟨F', V', L', h1, lo', lc', y0', y1', h2⟩ => ⟨F', V', L', h1, lo', lc', y0', y1', h2.put o⟩)
              (fun _ _ _ _ h => h) (fun T kk x a' W o hT ⟨p, h1, h2, h3⟩ => ⟨p, (touch_put W _ o).heap h1 (fun e => by omega), h2, h3⟩) ?assign ?body ?done ?stop
            case hs =>
              rintro g (hg | rfl | rfl | rfl | rfl)
              · exact HMB.out.tq.lt g hg
              · exact lt_of_heap HMB.out.own
              · exact lt_of_heap HMB.out.b7
              · exact lt_of_heap HMB.out.b10
              · exact lt_of_heap HWN.out.b13
            case assign =>
              rintro l9 T kk x W K hT ⟨F', V', L', h1, lo', lc', y0', y1', h2⟩ hkm hx hK
              have HK := hide hK
              have HTW := hide h2.top.2
              have HI := hide (show (∃ (F' : Nat → Prop) (V' L' : List Tm), L'.length ≤ L.length + kk ∧ ∃ (lo' : Option Addr) (lc' : Nat) (y0' y1' : Value), Mr w B3 B4 B6 B7 B10 Bx b q (.slice so sn sc9) (.slice none 0 0) (.slice none 0 0) F W9.heap.size T B12 B13 wo wcap L Ds F' V' L' lo' lc' (t + kk) kk y0' y1' W) from ⟨F', V', L', h1, lo', lc', y0', y1', h2⟩)
              clear hK h1 h2
              simp only [encT]
              gi_wp2
              have tB : Calm W (W.alloc (.cells (tc x) 35)) := (Touch.refl _ _).alloc _
              obtain ⟨F2, V2, L2, g1, lo2, lc2, y02, y12, g2⟩ := HI.out
              exact HK.out _ _ (tB.mono fun _ _ h => h.elim) ⟨F2, V2, L2, g1, lo2, lc2, y02, y12, g2.still tB⟩ ⟨W.heap.size, heap_alloc_last W _, HTW.out, rfl⟩
            case body =>
              rintro l9 T kk x a' W hT ⟨F', V', L', hL', lo', lc', y0', y1', mr⟩ hkm hx ⟨p, hp, hpT, rfl⟩
              obtain ⟨wb, off, rfl, p0, p1, p2, p3⟩ := mr.wn.want kk hkm
              obtain ⟨⟨q0, q1, q2, q3⟩, -⟩ := cells4 hp
              have hxe : L[kk] = x := by rw [List.getElem?_eq_getElem hkm] at hx; injection hx
              rw [hxe] at p0 p1 p2 p3
              have c12 := (one_cell mr.wn.b12).1
              rw [HLN.out] at c12
              have c13 := (one_cell mr.wn.b13).1
              have hkn : kk < ln := by have := HLN.out; omega
              have hki : (kk : Int) < (ln : Int) := by omega
              have hd : decide ((ln : Int) ≤ (kk : Int)) = false := decide_eq_false (Int.not_le.2 hki)
              have hdn : decide (ln ≤ kk) = false := decide_eq_false (Nat.not_le.2 hkn)
              have MR0 := hide mr
              have HLL := hide hL'
              have HKB : Hid (kk < 4194304) := hide (by have := HLB.out; have := HLN.out; omega)
              clear hxe hx mr hL' hp hpT hkm HMB HWN SQ hjl
              gi_wp2
              refine region_quiet_round (by kernel_rfl) (by kernel_rfl) (by kernel_rfl) ?_
              repeat (go_big_quiet_step (fail))
              refine wpQuiet_nil ?_
              intro _ hw'
              obtain ⟨nq, hw''⟩ := hw'
              subst hw''
              have MQ := hide (MR0.out.still (Touch.drewN (Touch.refl (fun _ => False) W) nq))
              have TQ : Hid (Touch (fun g => (F g ∨ g = b ∨ g = B7 ∨ g = B10 ∨ g = B13) ∨ T ≤ g) W (W.drewN nq)) := hide (Touch.drewN (Touch.refl (fun g => (F g ∨ g = b ∨ g = B7 ∨ g = B10 ∨ g = B13) ∨ T ≤ g) W) nq)
              clear c12 c13 p0 p1 p2 p3 q0 q1 q2 q3 MR0 hd hdn hki hkn
              generalize W.drewN nq = xq at *
              obtain ⟨c13, f13⟩ := one_cell MQ.out.wn.b13
              obtain ⟨m1, t1⟩ := MQ.out.count (kk + 1)
              have ek : ((kk + 1 : Nat) : Int) = (kk : Int) + 1 := by omega
              rw [ek] at m1 t1
              have hk2 : wrap64 ((kk : Int) + 1) = (kk : Int) + 1 := by have := HKB.out; unfold wrap64; omega
              have M1 := hide m1
              have HT1 : Hid (Touch (fun g => (F g ∨ g = b ∨ g = B7 ∨ g = B10 ∨ g = B13) ∨ T ≤ g) W (xq.setCell ⟨B13, 0, none⟩ (.int .i64 ((kk : Int) + 1)))) := hide (TQ.out.trans (t1.mono (S' := (fun g => (F g ∨ g = b ∨ g = B7 ∨ g = B10 ∨ g = B13) ∨ T ≤ g)) (fun _ _ h => .inl (.inr (.inr (.inr (.inr h)))))) (fun _ _ h => h))
              clear m1 t1 ek MQ TQ
              gi_upto_region 22 with fail
              clear hk2 c13 f13
              generalize xq.setCell ⟨B13, 0, none⟩ (.int .i64 ((kk : Int) + 1)) = W1 at *
              obtain ⟨tk, etk⟩ : ∃ tk, tk = t + kk := ⟨_, rfl⟩
              rw [← etk] at M1
              have HTKK := hide etk
              have HTB : Hid (tk < 8388608 + 1) := hide (by have := HLB.out; have := HKB.out; omega)
              clear etk
              have c3 := (one_cell M1.out.mb.b3).1
              have c10 := (one_cell M1.out.mb.b10).1
              have HLQ : Hid (L'.length ≤ L.length + (kk + 1)) := hide (by have := HLL.out; omega)
              by_cases hs1 : tk < sn
              · obtain ⟨ob, oo, rfl, hcs⟩ := HS.out tk (by rw [← HSN.out]; exact hs1)
                have hgd := HGS.out _ (List.getElem_mem (l := ss) (n := tk) (by rw [← HSN.out]; exact hs1))
                generalize ss[tk]'(by rw [← HSN.out]; exact hs1) = s9 at hcs hgd
                obtain ⟨kind, on, leave, ts, us, upto⟩ := s9
                have HGD := hide hgd
                have OPC : Hid (∀ W, Calm w W → W.cell? ⟨ob, oo + tk * 12, none⟩ = some (.int .i64 kind) ∧ W.cell? ⟨ob, oo + tk * 12 + 1, none⟩ = some (.int .i64 on) ∧ W.cell? ⟨ob, oo + tk * 12 + 2, none⟩ = some (.int .i64 leave) ∧ W.cell? ⟨ob, oo + tk * 12 + 3, none⟩ = some (.int .i64 ts.at_) ∧ W.cell? ⟨ob, oo + tk * 12 + 4, none⟩ = some (.string ts.key) ∧ W.cell? ⟨ob, oo + tk * 12 + 5, none⟩ = some (.int .i64 ts.start) ∧ W.cell? ⟨ob, oo + tk * 12 + 6, none⟩ = some (.int .i64 ts.stop) ∧ W.cell? ⟨ob, oo + tk * 12 + 7, none⟩ = some (.int .i64 us.at_) ∧ W.cell? ⟨ob, oo + tk * 12 + 8, none⟩ = some (.string us.key) ∧ W.cell? ⟨ob, oo + tk * 12 + 9, none⟩ = some (.int .i64 us.start) ∧ W.cell? ⟨ob, oo + tk * 12 + 10, none⟩ = some (.int .i64 us.stop) ∧ W.cell? ⟨ob, oo + tk * 12 + 11, none⟩ = some (.int .i64 upto)) := hide (fun W hW => by
                  have g : ∀ {o : Nat} {v : Value}, w.cell? ⟨ob, o, none⟩ = some v → W.cell? ⟨ob, o, none⟩ = some v := fun {o v} h => (hW.cell (p := ⟨ob, o, none⟩) (lt_of_cell h) (fun h => h)).trans h
                  exact ⟨g (hcs 0 (by decide)), g (hcs 1 (by decide)), g (hcs 2 (by decide)), g (hcs 3 (by decide)), g (hcs 4 (by decide)), g (hcs 5 (by decide)), g (hcs 6 (by decide)), g (hcs 7 (by decide)), g (hcs 8 (by decide)), g (hcs 9 (by decide)), g (hcs 10 (by decide)), g (hcs 11 (by decide))⟩)
                have hsi : (tk : Int) < (sn : Int) := by omega
                have d0 := (OPC.out W1 M1.out.mb.calm).1
                clear hcs hgd
                by_cases hk7 : kind = 7
                · subst hk7
                  obtain ⟨rl, tl⟩ := M1.out.tick (tk + 1)
                  have ek9 : ((tk + 1 : Nat) : Int) = (tk : Int) + 1 := by omega
                  rw [ek9] at rl tl
                  have RL := hide rl
                  have TL : Hid (Touch (fun g => (F g ∨ g = b ∨ g = B7 ∨ g = B10 ∨ g = B13) ∨ T ≤ g) W (W1.setCell ⟨B10, 0, none⟩ (.int .i64 ((tk : Int) + 1)))) := hide (HT1.out.trans (tl.mono (S' := (fun g => (F g ∨ g = b ∨ g = B7 ∨ g = B10 ∨ g = B13) ∨ T ≤ g)) (fun _ _ h => .inl (.inr (.inr (.inr (.inl h)))))) (fun _ _ h => h))
                  obtain ⟨c10, f10⟩ := one_cell M1.out.mb.b10
                  have hsw : wrap64 ((tk : Int) + 1) = (tk : Int) + 1 := by have := HTB.out; unfold wrap64; omega
                  clear rl tl ek9
                  gi_wp2
                  refine ⟨TL.out, F', V', L', HLQ.out, lo', lc', y0', y1', ?_⟩
                  have e := HTKK.out
                  have e2 : t + (kk + 1) = tk + 1 := by omega
                  rw [e2]
                  exact RL.out
                · have hkb : (kind == (7 : Int)) = false := by rw [beq_eq_false_iff_ne]; exact hk7
                  have hkn : (kind != (7 : Int)) = true := by rw [bne_iff_ne]; exact hk7
                  have HK7 := hide hk7
                  clear hk7
                  obtain ⟨lm, elm⟩ : ∃ lm, L'.length = lm := ⟨_, rfl⟩
                  have HLM := hide elm
                  have HB6 := hide M1.out.mb.b6
                  have HB7 : Hid (W1.heap[B7]? = some (.cells #[.slice lo' lm lc'] 22 (0, 0))) := hide (by rw [← elm]; exact M1.out.mb.b7)
                  have HN6 : Hid (¬ B6 = b) := hide (fun e => tags M1.out.mb.b6 M1.out.mb.own (by decide) e)
                  have HN7 : Hid (¬ B7 = b) := hide (fun e => tags M1.out.mb.b7 M1.out.mb.own (by decide) e)
                  clear elm
                  gi_wp2
                  clear c3 c10 d0
                  refine region_held_round (S := Touch (fun g => g = b) W1) (by kernel_rfl) (by kernel_rfl) ?_
                  have hT0 : Touch (fun g => g = b) W1 { W1 with drawn := W1.drawn + 1 } := (Touch.refl (fun g => g = b) W1).drew
                  have MD : Mr w B3 B4 B6 B7 B10 Bx b q (.slice (some ⟨ob, oo, none⟩) sn sc9) (.slice none 0 0) (.slice none 0 0) F W9.heap.size T B12 B13 (some ⟨wb, off, none⟩) wcap L Ds F' V' L' lo' lc' tk (kk + 1) y0' y1' { W1 with drawn := W1.drawn + 1 } := M1.out.still ((Touch.refl (fun _ => False) W1).drew)
                  generalize ({ W1 with drawn := W1.drawn + 1 } : World) = w5 at *
                  refine wpAnyH_yield 0 73 (.pointer (some ⟨b, 0, none⟩)) rfl rfl (by kernel_rfl) (by kernel_rfl) (by kernel_rfl) (fun _ _ _ h => h) (by kernel_rfl) (fun W hW => by have c0 := (one_cell (hW.heap HB6.out HN6.out)).1; go_simp) (by assumption) rfl rfl ?_
                  simp only [Act.put, List.setIfInBounds_toArray, List.set_cons_zero, List.set_cons_succ]
                  refine wpAnyH_yield 1 74 (.pointer (some ⟨b, 0, none⟩)) rfl rfl (by kernel_rfl) (by kernel_rfl) (by kernel_rfl) (fun _ _ _ h => h) (by kernel_rfl) (fun W hW => by have c0 := (one_cell (hW.heap HB6.out HN6.out)).1; go_simp) (by assumption) rfl rfl ?_
                  simp only [Act.put, List.setIfInBounds_toArray, List.set_cons_zero, List.set_cons_succ]
                  refine wpAnyH_yield 2 75 (.slice lo' lm lc') rfl rfl (by kernel_rfl) (by kernel_rfl) (by kernel_rfl) (fun _ _ _ h => h) (by kernel_rfl) (fun W hW => by have c0 := (one_cell (hW.heap HB7.out HN7.out)).1; go_simp) (by assumption) rfl rfl ?_
                  simp only [Act.put, List.setIfInBounds_toArray, List.set_cons_zero, List.set_cons_succ]
                  refine wpAnyH_yield 3 76 (.slice lo' lm lc') rfl rfl (by kernel_rfl) (by kernel_rfl) (by kernel_rfl) (fun _ _ _ h => h) (by kernel_rfl) (fun W hW => by have c0 := (one_cell (hW.heap HB7.out HN7.out)).1; go_simp) (by assumption) rfl rfl ?_
                  simp only [Act.put, List.setIfInBounds_toArray, List.set_cons_zero, List.set_cons_succ]
                  refine wpAnyH_yield 4 77 (.pointer (some ⟨b, 0, none⟩)) rfl rfl (by kernel_rfl) (by kernel_rfl) (by kernel_rfl) (fun _ _ _ h => h) (by kernel_rfl) (fun W hW => by go_simp) (by assumption) rfl rfl ?_
                  simp only [Act.put, List.setIfInBounds_toArray, List.set_cons_zero, List.set_cons_succ]
                  refine wpAnyH_yield 5 78 (.pointer (some ⟨b, 2, none⟩)) rfl rfl (by kernel_rfl) (by kernel_rfl) (by kernel_rfl) (fun _ _ _ h => h) (by kernel_rfl) (fun W hW => by go_simp) (by assumption) rfl rfl ?_
                  simp only [Act.put, List.setIfInBounds_toArray, List.set_cons_zero, List.set_cons_succ]
                  refine wpAnyH_yield 6 79 (.pointer (some ⟨b, 2, none⟩)) rfl rfl (by kernel_rfl) (by kernel_rfl) (by kernel_rfl) (fun _ _ _ h => h) (by kernel_rfl) (fun W hW => by go_simp) (by assumption) rfl rfl ?_
                  simp only [Act.put, List.setIfInBounds_toArray, List.set_cons_zero, List.set_cons_succ]
                  refine wpAnyH_yield 8 80 (.pointer (some ⟨b, 0, none⟩)) rfl rfl (by kernel_rfl) (by kernel_rfl) (by kernel_rfl) (fun _ _ _ h => h) (by kernel_rfl) (fun W hW => by go_simp) (by assumption) rfl rfl ?_
                  simp only [Act.put, List.setIfInBounds_toArray, List.set_cons_zero, List.set_cons_succ]
                  refine wpAnyH_yield 9 81 (.pointer (some ⟨b, 2, none⟩)) rfl rfl (by kernel_rfl) (by kernel_rfl) (by kernel_rfl) (fun _ _ _ h => h) (by kernel_rfl) (fun W hW => by go_simp) (by assumption) rfl rfl ?_
                  simp only [Act.put, List.setIfInBounds_toArray, List.set_cons_zero, List.set_cons_succ]
                  have OB := MD.mb.own
                  have hTs : Touch (fun g => g = b) W1 (w5.setCell ⟨b, 2, none⟩ (.slice lo' lm lc')) := hT0.setCell (p := ⟨b, 2, none⟩) (fun _ => rfl) _
                  have OB2 : (w5.setCell ⟨b, 2, none⟩ (.slice lo' lm lc')).heap[b]? = _ := heap_setCell_row (i := 2) OB (.slice lo' lm lc')
                  simp at OB2
                  refine wpAnyH_do 7 (w5.setCell ⟨b, 2, none⟩ (.slice lo' lm lc')) rfl (by kernel_rfl) (by kernel_rfl) (fun K hK => ?_) hTs ?_
                  · obtain ⟨e0, e1, e2, e3, e4, e5⟩ := cells6 OB
                    have fz : w5.frozen? ⟨b, 2, none⟩ = false := by simp [World.frozen?, OB]
                    unfold Oper.wp
                    go_simp
                    exact hK
                  refine wpAnyH_yield 10 82 (.pointer (some ⟨b, 3, none⟩)) rfl rfl (by kernel_rfl) (by kernel_rfl) (by kernel_rfl) (fun _ _ _ h => h) (by kernel_rfl) (fun W hW => by go_simp) (by assumption) rfl rfl ?_
                  simp only [Act.put, List.setIfInBounds_toArray, List.set_cons_zero, List.set_cons_succ]
                  have hTs3 : Touch (fun g => g = b) W1 ((w5.setCell ⟨b, 2, none⟩ (.slice lo' lm lc')).setCell ⟨b, 3, none⟩ (.slice lo' lm lc')) := hTs.setCell (p := ⟨b, 3, none⟩) (fun _ => rfl) _
                  refine wpAnyH_do 11 ((w5.setCell ⟨b, 2, none⟩ (.slice lo' lm lc')).setCell ⟨b, 3, none⟩ (.slice lo' lm lc')) rfl (by kernel_rfl) (by kernel_rfl) (fun K hK => ?_) hTs3 ?_
                  · obtain ⟨e0, e1, e2, e3, e4, e5⟩ := cells6 OB2
                    have fz : (w5.setCell ⟨b, 2, none⟩ (.slice lo' lm lc')).frozen? ⟨b, 3, none⟩ = false := by simp [World.frozen?, OB2]
                    unfold Oper.wp
                    go_simp
                    exact hK
                  clear OB OB2
                  refine wpAnyH_done (by kernel_rfl) (plainly_mk ?_) _
                  obtain ⟨m3, t3⟩ := MD.laid
                  rw [HLM.out] at m3 t3
                  have M3 := hide m3
                  have HT3 : Hid (Touch (fun g => (F g ∨ g = b ∨ g = B7 ∨ g = B10 ∨ g = B13) ∨ T ≤ g) W ((w5.setCell ⟨b, 2, none⟩ (.slice lo' lm lc')).setCell ⟨b, 3, none⟩ (.slice lo' lm lc'))) := hide (HT1.out.trans (hTs3.mono (S' := (fun g => (F g ∨ g = b ∨ g = B7 ∨ g = B10 ∨ g = B13) ∨ T ≤ g)) (fun _ _ h => .inl (.inr (.inl h)))) (fun _ _ h => h))
                  clear m3 t3 MD hT0 hTs hTs3 HT1 M1 HB6 HB7 HN6 HN7
                  generalize (w5.setCell ⟨b, 2, none⟩ (.slice lo' lm lc')).setCell ⟨b, 3, none⟩ (.slice lo' lm lc') = W3 at *
                  have c3 := (one_cell M3.out.mb.b3).1
                  have c10 := (one_cell M3.out.mb.b10).1
                  have c6 := (one_cell M3.out.mb.b6).1
                  obtain ⟨d0, d1, d2, d3, d4, d5, d6, d7, d8, d9, d10, d11⟩ := OPC.out W3 M3.out.mb.calm
                  gi_upto_region 26 with fail
                  obtain ⟨P, eP⟩ : ∃ P, P = W3.heap.size := ⟨_, rfl⟩
                  obtain ⟨W4, eW4⟩ : ∃ W4, W4 = W3.alloc (.cells (sc ⟨kind, 0, leave, ts, us, upto⟩) 41) := ⟨_, rfl⟩
                  have tA : Calm W3 W4 := by rw [eW4]; exact (Touch.refl _ _).alloc _
                  have HP := heap_alloc_last W3 (.cells (sc ⟨kind, 0, leave, ts, us, upto⟩) 41)
                  rw [← eW4, ← eP] at HP
                  simp only [sc] at eW4
                  rw [← eW4, ← eP]
                  have M4 := hide (M3.out.still tA)
                  have HT4 : Hid (Touch (fun g => (F g ∨ g = b ∨ g = B7 ∨ g = B10 ∨ g = B13) ∨ T ≤ g) W W4) := hide (HT3.out.trans tA (fun _ _ h => h.elim))
                  have HKF : kOf 0 = ((0 : Nat) : Int) := by kernel_rfl
                  have ST := hide (step_any b 0 q F' V' L' lo' lc' (.pointer (some ⟨q, 0, none⟩)) (.slice lo' lm lc') (.slice none 0 0) (.slice none 0 0) ⟨kind, 0, leave, ts, us, upto⟩ W4 (by have h9 := M4.out.mb; rw [← HLM.out] at h9; have h8 := h9.wd; rw [HLM.out] at h8; exact h8) HKF HK7.out HGD.out.1 HGD.out.2 (by have := HLL.out; have := HLB.out; have := HKB.out; omega))
                  clear c3 c10 c6 d0 d1 d2 d3 d4 d5 d6 d7 d8 d9 d10 d11 eW4 eP tA M3 HT3 HKF OPC
                  have c6 := (one_cell M4.out.mb.b6).1
                  obtain ⟨d0, d1, d2, ⟨d3, d4, d5, d6⟩, ⟨d7, d8, d9, d10⟩, d11⟩ := cells12 HP
                  simp only at d0 d1 d2 d3 d4 d5 d6 d7 d8 d9 d10 d11
                  clear HP
                  gi_wp2
                  refine ⟨trivial, CallsIn.inRound _ ((callsIn_wide.2 ST.out).mono ?_)⟩
                  rintro e W5 ⟨rfl, F2, V2, L2, lo2, lc2, wd2, hl2, hF2, hlo2, t5⟩
                  have h9 := M4.out
                  rw [← HLM.out] at h9 wd2
                  obtain ⟨k6, kb, k7, m6, t6⟩ := h9.step wd2 hF2 hlo2 t5
                  obtain ⟨l2, el2⟩ : ∃ l2, L2.length = l2 := ⟨_, rfl⟩
                  have HL2 : Hid (L2.length ≤ L.length + (kk + 1)) := hide (by have := HLL.out; omega)
                  rw [el2] at kb m6 t6
                  have M6 := hide m6
                  have HT6 : Hid (Touch (fun g => (F g ∨ g = b ∨ g = B7 ∨ g = B10 ∨ g = B13) ∨ T ≤ g) W (W5.setCell ⟨B7, 0, none⟩ (.slice lo2 l2 lc2))) := hide (HT4.out.trans (t6.mono (S' := (fun g => (F g ∨ g = b ∨ g = B7 ∨ g = B10 ∨ g = B13) ∨ T ≤ g)) (fun g _ h => by
                    rcases h with (h | h | h) | h
                    · exact .inl (.inl h)
                    · exact .inl (.inr (.inl h))
                    · exact .inl (.inr (.inr (.inl h)))
                    · exact .inr h)) (fun _ _ h => h))
                  clear c6 d0 d1 d2 d3 d4 d5 d6 d7 d8 d9 d10 d11 h9 wd2 hF2 hlo2 t5 m6 t6 ST M4 HT4 hl2 el2
                  have c6 := (one_cell k6).1
                  obtain ⟨c7, f7⟩ := one_cell k7
                  obtain ⟨e0, e1, e2, e3, e4, e5⟩ := cells6 kb
                  clear k6 kb k7
                  gi_upto_region 29 with fail
                  clear c6 c7 f7 e0 e1 e2 e3 e4 e5
                  generalize W5.setCell ⟨B7, 0, none⟩ (.slice lo2 l2 lc2) = W6 at *
                  obtain ⟨rl, tl⟩ := M6.out.tick (tk + 1)
                  have ek9 : ((tk + 1 : Nat) : Int) = (tk : Int) + 1 := by omega
                  rw [ek9] at rl tl
                  have RL := hide rl
                  have TL : Hid (Touch (fun g => (F g ∨ g = b ∨ g = B7 ∨ g = B10 ∨ g = B13) ∨ T ≤ g) W (W6.setCell ⟨B10, 0, none⟩ (.int .i64 ((tk : Int) + 1)))) := hide (HT6.out.trans (tl.mono (S' := (fun g => (F g ∨ g = b ∨ g = B7 ∨ g = B10 ∨ g = B13) ∨ T ≤ g)) (fun _ _ h => .inl (.inr (.inr (.inr (.inl h)))))) (fun _ _ h => h))
                  obtain ⟨c10, f10⟩ := one_cell M6.out.mb.b10
                  have hsw : wrap64 ((tk : Int) + 1) = (tk : Int) + 1 := by have := HTB.out; unfold wrap64; omega
                  clear rl tl ek9
                  gi_wp2
                  refine ⟨TL.out, F2, V2, L2, HL2.out, lo2, lc2, .slice lo2 l2 lc2, .slice lo' L'.length lc', ?_⟩
                  have e := HTKK.out
                  have e2 : t + (kk + 1) = tk + 1 := by omega
                  rw [e2]
                  exact RL.out
              · have hsi : ¬ (tk : Int) < (sn : Int) := by omega
                obtain ⟨rl, tl⟩ := M1.out.tick (tk + 1)
                have ek9 : ((tk + 1 : Nat) : Int) = (tk : Int) + 1 := by omega
                rw [ek9] at rl tl
                have RL := hide rl
                have TL : Hid (Touch (fun g => (F g ∨ g = b ∨ g = B7 ∨ g = B10 ∨ g = B13) ∨ T ≤ g) W (W1.setCell ⟨B10, 0, none⟩ (.int .i64 ((tk : Int) + 1)))) := hide (HT1.out.trans (tl.mono (S' := (fun g => (F g ∨ g = b ∨ g = B7 ∨ g = B10 ∨ g = B13) ∨ T ≤ g)) (fun _ _ h => .inl (.inr (.inr (.inr (.inl h)))))) (fun _ _ h => h))
                obtain ⟨c10, f10⟩ := one_cell M1.out.mb.b10
                have hsw : wrap64 ((tk : Int) + 1) = (tk : Int) + 1 := by have := HTB.out; unfold wrap64; omega
                clear rl tl ek9
                gi_wp2
                refine ⟨TL.out, F', V', L', HLQ.out, lo', lc', y0', y1', ?_⟩
                have e := HTKK.out
                have e2 : t + (kk + 1) = tk + 1 := by omega
                rw [e2]
                exact RL.out
            case done =>
              rintro T W hT ⟨F', V', L', hL', lo', lc', y0', y1', mr⟩ hd
              have hw : wrap64 ((j : Int) + 1) = ((j + 1 : Nat) : Int) := by have := HJ.out; unfold wrap64; omega
              have c12 := (one_cell mr.wn.b12).1
              have c13 := (one_cell mr.wn.b13).1
              have hnn : ((ln : Int) != (ln : Int)) = false := by simp
              have MBN : Hid (Mb w B3 B4 B6 B7 B10 Bx b q (.slice so sn sc9) (.slice none 0 0) (.slice none 0 0) F' V' L' lo' lc' (t + L.length) y0' y1' (W9.heap.size :: Ds) W) := hide ((mr.mb.less (Ks' := Ds) (fun g hg => by simp [ksR, hg])).push ⟨lt_of_heap hd, fun hm => by have := mr.fx _ (.inl hm); omega⟩ (fun hf => by
                  rcases mr.ft _ hf with e | e
                  · have := mr.f0 _ e; omega
                  · omega) (fun a ha hn e => by
                  rcases mr.lt a ha hn with e2 | e2 <;> omega))
              have HD9 : Hid (∀ D ∈ W9.heap.size :: Ds, W.heap[D]? = some (.deferred (some []))) := hide (fun D hD => by
                rcases List.mem_cons.1 hD with rfl | hD
                · exact hd
                · exact mr.wn.ds D hD)
              have HN9 : Hid ((W9.heap.size :: Ds).Nodup) := hide (List.nodup_cons.2 ⟨fun h => by have := mr.fx W9.heap.size (.inr (by simp [ksR, h])); omega, HDN.out⟩)
              have HW9' : Hid (∀ D ∈ W9.heap.size :: Ds, w.heap.size ≤ D) := hide (fun D hD => by
                rcases List.mem_cons.1 hD with rfl | hD
                · exact mr.l13.2
                · exact HDW.out D hD)
              have HBB : Hid (L'.length ≤ k * 2 ^ (j + 1) ∧ t + L.length ≤ k * 2 ^ (j + 1)) := hide (by
                have h2 := HLK.out
                have h3 := HTK.out
                rw [Nat.pow_succ, ← Nat.mul_assoc]
                omega)
              rw [HLN.out] at c12 c13
              clear mr hd hL' SQ HMB HWN
              gi_wp2
              refine ⟨⟨j + 1, F', V', L', lo', lc', t + L.length, y0', y1', W9.heap.size :: Ds, fun i => Array.getD #[undef, undef, undef, undef, undef, undef, undef, undef, undef, undef, undef, undef, _, _, _, _, _, _, _, _, _, _, _, _, _, _, _, _, _, _, _, _, _, _, _, _, _, _, _, _, _, _, _, _, _, _, _, _, _, _, _, _, _, _, _, _, _, _, _, _, _, _, _, _, _, _, _, _, _, _, _, _, _, _, _, _, _, _, _, _, _, _, _, _, _, _, _, _, _, _, _, _, _, _, _, _, _, _, _, _, _, _, _, _] i undef, ⟨HJ.out, HBB.out.1, HBB.out.2, MBN.out, HD9.out, HW9'.out, HN9.out⟩, rfl⟩, ?_⟩
              have := HJ.out
              simp [intOf]
              omega
            case stop =>
              rintro c kk W hkm h hd
              exact h.elim
        · have e : j = 3 := by omega
          subst e
          clear hj hj3
          have MBH := hide mb
          have HDS := hide hds
          have HDW := hide hdw
          have HDN := hide hdn
          clear mb hds hdw hdn hLk htk
          gi_wp2
          refine ⟨trivial, (callsIn_wide.2 (known_any _)).mono ?_⟩
          rintro e w3 ⟨rfl, t3⟩
          have MB3 := hide (MBH.out.still t3)
          have HD3 : Hid (∀ D ∈ Ds, w3.heap[D]? = some (.deferred (some []))) := hide (fun D hD => t3.at (HDS.out D hD))
          obtain ⟨c4, f4⟩ := one_cell MB3.out.b4
          have T4 : Hid (Touch (fun g => g = B4) w3 (w3.setCell ⟨B4, 0, none⟩ (.bool true))) := hide ((Touch.refl (fun g => g = B4) w3).setCell (p := ⟨B4, 0, none⟩) (fun _ => rfl) _)
          have K4 := hide (set_one (.bool true) MB3.out.b4)
          have HD4 : Hid (∀ D ∈ Ds, (w3.setCell ⟨B4, 0, none⟩ (.bool true)).heap[D]? = some (.deferred (some []))) := hide (fun D hD => T4.out.heap (HD3.out D hD) (fun e => by
            have h1 := HD3.out D hD
            rw [e, MB3.out.b4] at h1
            cases h1))
          clear t3 MBH HDS HD3
          gi_wp2
          refine leaves_marks Ds _ HD4.out HDN.out (fun W2 tw => ?_)
          have r4 := (one_cell (tw.heap K4.out (fun hm => by
            have h1 := HD4.out _ hm
            rw [K4.out] at h1
            cases h1))).1
          exact ⟨.bool true, by simp [results, Try.results5, go_sem, r4], rfl, (MB3.out.calm.trans T4.out (fun g hg e => by have := MB3.out.low; omega)).trans tw (fun g hg hm => by have := HDW.out g hm; omega)⟩
end Go.Proofs.Ytlnblhajcbmmkaa
