/- The walk of GroupsStretches where the numbers may be. -/
import Derived.Test.YtmhobdcnohhaaaaStrW
namespace Go.Proofs.Ytmhobdcnohhaaaa
open Go.RowKit
attribute [local go_sem] Oper.semAt_some

set_option maxRecDepth 100000 in
set_option maxHeartbeats 4000000 in
theorem stretches_yes (p g leave : Int) (hm : mayW p g = true) (w : World) : Calls Try.prog 4 #[.int .i64 p, .int .i64 g, .int .i64 leave] w fun e w' => e = .returned (.bool true) ∧ Touch (fun _ => False) w w' := by
  have M := hide (rmays_any p g)
  have HP : Hid (((p.toNat : Nat) : Int) = p ∧ ((g.toNat : Nat) : Int) = g) := hide (by have := mayW_yes hm; omega)
  have HM : Hid (May p.toNat g.toNat) := hide (by
    obtain ⟨P, G, rfl, rfl, m⟩ := may_of hm
    exact m)
  have hmany : many p g = p.toNat := by unfold many; simp [hm]
  refine (callsIn_wide (n := 3)).1 (callsIn_of_wp_marks Try.func4 rfl trivial ?_ rfl)
  simp only [Try.ntmps4, List.size_toArray, List.length_cons, List.length_nil, Nat.reduceAdd, Nat.reduceSub, Array.replicate_succ, Array.replicate_zero, List.push_toArray, List.append_toArray, List.nil_append, List.cons_append]
  have FN := func_not_nil
  gi_wp2
  refine ⟨trivial, (callsIn_wide.2 (stretches_any _ _ _)).mono ?_⟩
  rintro e w1 ⟨rfl, rfl⟩
  gi_wp2
  refine ⟨trivial, (callsIn_wide.2 (M.out _)).mono ?_⟩
  rintro e w1 ⟨rfl, rfl⟩
  gi_wp2
  obtain ⟨low0, elow⟩ : ∃ low, low = w.heap.size + 1 + 1 + 1 + 1 + 1 + 1 + 1 + 1 := ⟨_, rfl⟩
  obtain ⟨T0, eT⟩ : ∃ T, T = w.heap.size + 1 + 1 + 1 + 1 + 1 + 1 + 1 := ⟨_, rfl⟩
  obtain ⟨B8, e8⟩ : ∃ B8, B8 = w.heap.size + 1 + 1 + 1 + 1 + 1 + 1 := ⟨_, rfl⟩
  obtain ⟨S2, f2⟩ : ∃ S2, S2 = w.heap.size + 1 + 1 + 1 + 1 + 1 := ⟨_, rfl⟩
  obtain ⟨S1, f1⟩ : ∃ S1, S1 = w.heap.size + 1 + 1 + 1 + 1 := ⟨_, rfl⟩
  obtain ⟨B6, e6⟩ : ∃ B6, B6 = w.heap.size + 1 + 1 + 1 := ⟨_, rfl⟩
  obtain ⟨B5, e5⟩ : ∃ B5, B5 = w.heap.size + 1 + 1 := ⟨_, rfl⟩
  obtain ⟨B4, e4⟩ : ∃ B4, B4 = w.heap.size + 1 := ⟨_, rfl⟩
  obtain ⟨B3, e3⟩ : ∃ B3, B3 = w.heap.size := ⟨_, rfl⟩
  obtain ⟨W1, eW1⟩ : ∃ W1, W1 = (((((((w.alloc (.cells #[.int .i64 p] 3)).alloc (.cells #[.int .i64 g] 3)).alloc (.cells #[.int .i64 leave] 3)).alloc (.cells #[.bool false] 4)).alloc (.cells #[.int .i64 p] 3)).alloc (.cells #[.int .i64 g] 3)).alloc (.cells #[.int .i64 p] 3)).alloc (.cells #[.int .i64 0] 3) := ⟨_, rfl⟩
  have hsz : W1.heap.size = low0 := by rw [eW1, elow]; simp
  have SO : So w low0 B3 B4 B5 B6 B8 T0 S1 S2 p g leave 0 [] W1 := by
    have nw : ∀ (V : World) (o : Obj) (n : Nat), n = V.heap.size → (V.alloc o).heap[n]? = some o := fun V o n e => by rw [e]; exact World.alloc_heap_new V o
    have kp : ∀ (V : World) (o o' : Obj) (n : Nat), V.heap[n]? = some o → (V.alloc o').heap[n]? = some o := fun V o o' n h => (Below.heap_alloc V o' n (lt_of_heap h)).trans h
    refine ⟨by rw [eW1]; exact ((((((((Touch.refl _ _).alloc _).alloc _).alloc _).alloc _).alloc _).alloc _).alloc _).alloc _, ?_, ?_, ?_, ?_, ?_, ?_, ?_, ?_, fun _ h => (nomatch h), List.nodup_nil, ⟨by omega, by omega, by omega⟩, ⟨by omega, by omega, by omega, by omega, by omega, by omega, by omega, by omega⟩, by rw [hsz]; exact Nat.le_refl _⟩
    · rw [eW1]; exact kp _ _ _ _ (kp _ _ _ _ (kp _ _ _ _ (kp _ _ _ _ (kp _ _ _ _ (kp _ _ _ _ (kp _ _ _ _ (nw _ _ _ e3)))))))
    · rw [eW1]; exact kp _ _ _ _ (kp _ _ _ _ (kp _ _ _ _ (kp _ _ _ _ (kp _ _ _ _ (kp _ _ _ _ (nw _ _ _ (by rw [e4]; simp)))))))
    · rw [eW1]; exact kp _ _ _ _ (kp _ _ _ _ (kp _ _ _ _ (kp _ _ _ _ (kp _ _ _ _ (nw _ _ _ (by rw [e5]; simp))))))
    · rw [eW1]; exact kp _ _ _ _ (kp _ _ _ _ (kp _ _ _ _ (kp _ _ _ _ (nw _ _ _ (by rw [e6]; simp)))))
    · rw [hmany, HP.out.1, eW1]; exact kp _ _ _ _ (nw _ _ _ (by rw [e8]; simp))
    · rw [eW1]; exact nw _ _ _ (by rw [eT]; simp)
    · rw [eW1]; exact kp _ _ _ _ (kp _ _ _ _ (kp _ _ _ _ (nw _ _ _ (by rw [f1]; simp))))
    · rw [eW1]; exact kp _ _ _ _ (kp _ _ _ _ (nw _ _ _ (by rw [f2]; simp)))
  rw [← eT, ← e8, ← f2, ← f1, ← e6, ← e5, ← e4, ← e3, ← eW1]
  have HSEQ := hide (stretches1_any S1 S2 p g)
  have HSO := hide SO
  clear e3 e4 e5 e6 e8 eT f1 f2 elow eW1 SO FN
  refine wpIn_loop (StrI w B3 B4 B5 B6 B8 S1 S2 p g leave) (fun a _ => 3 - a.defers.length) (StrI.intro 0 T0 low0 [] (by omega) rfl rfl rfl HSO.out) ?_
  rintro a W' ⟨t, T, low, Ds, us, ht, hDs, rfl, so⟩
  by_cases h2 : t < 2
  · obtain ⟨ct, _⟩ := one_cell so.bt
    have hti : (t : Int) < 2 := by omega
    have HS := hide so
    clear so
    gi_wp2
    obtain ⟨top, etop⟩ : ∃ top, top = W'.heap.size + 1 + 1 := ⟨_, rfl⟩
    obtain ⟨A, eA⟩ : ∃ A, A = W'.heap.size + 1 := ⟨_, rfl⟩
    obtain ⟨N, eN⟩ : ∃ N, N = W'.heap.size := ⟨_, rfl⟩
    obtain ⟨W2, eW2⟩ : ∃ W2, W2 = (W'.alloc (.cells #[.int .i64 0] 3)).alloc (.cells #[.int .i64 0] 3) := ⟨_, rfl⟩
    have hsz2 : W2.heap.size = top := by rw [eW2, etop]; simp
    have SK : Sk w low top B3 B4 B5 B6 B8 T S1 S2 N A p g leave t Ds 0 (st p.toNat g.toNat 0) W2 := by
      have nw : ∀ (V : World) (o : Obj) (n : Nat), n = V.heap.size → (V.alloc o).heap[n]? = some o := fun V o n e => by rw [e]; exact World.alloc_heap_new V o
      have kp : ∀ (V : World) (o o' : Obj) (n : Nat), V.heap[n]? = some o → (V.alloc o').heap[n]? = some o := fun V o o' n h => (Below.heap_alloc V o' n (lt_of_heap h)).trans h
      have zl := HS.out.sz
      rw [st_zero]
      refine ⟨HS.out.turn (S := fun _ => False) (by rw [eW2]; exact ((Touch.refl (fun _ => False) W').alloc _).alloc _) (fun _ h => h.elim), ?_, ?_, ⟨by omega, by omega, by omega⟩, by omega⟩
      · rw [eW2]; exact kp _ _ _ _ (nw _ _ _ eN)
      · rw [eW2]; exact nw _ _ _ (by rw [eA]; simp)
    rw [← eA, ← eN, ← eW2]
    have HSK := hide SK
    clear eA eN etop eW2 SK HS ct
    refine wpIn_range (gf := 34) (lb := #[.pointer (some ⟨S1, 0, none⟩), .pointer (some ⟨S2, 0, none⟩)]) rfl (enters_of Try.func34 (by kernel_rfl) rfl) HSEQ.out (fun _ => rfl)
      (fun k W => Sk w low top B3 B4 B5 B6 B8 T S1 S2 N A p g leave t Ds k (st p.toNat g.toNat k) W ∧ (t = 0 → leave ≤ 0 ∨ (k : Int) < leave))
      (fun c k W => c = .exit 2 ∧ t = 0 ∧ 0 < k ∧ (k : Int) = leave ∧ Sk w low top B3 B4 B5 B6 B8 T S1 S2 N A p g leave t Ds k (st p.toNat g.toNat k) W)
      (fun k x a' W => x = k ∧ ∃ Bx : Nat, W.heap[Bx]? = some (.cells #[.int .i64 (st p.toNat g.toNat k : Nat), .int .i64 (st p.toNat g.toNat (k + 1) : Nat)] 45 (0, 0)) ∧ top ≤ Bx ∧ a' = { tmps := #[.int .i64 p, .int .i64 g, .int .i64 leave, .pointer (some ⟨B3, 0, none⟩), .pointer (some ⟨B4, 0, none⟩), .pointer (some ⟨B5, 0, none⟩), .pointer (some ⟨B6, 0, none⟩), .func (.func 34) #[] #[.pointer (some ⟨S1, 0, none⟩), .pointer (some ⟨S2, 0, none⟩)], .pointer (some ⟨B8, 0, none⟩), .pointer (some ⟨T, 0, none⟩), .pointer (some ⟨N, 0, none⟩), .pointer (some ⟨A, 0, none⟩), .int .i64 (k : Int), .pointer (some ⟨Bx, 0, none⟩), us 14, us 15, us 16, us 17, us 18, us 19, us 20, us 21, us 22, us 23, us 24, us 25, .int .i64 (t : Int), .bool true, us 28, us 29, .func (.func 34) #[] #[.pointer (some ⟨S1, 0, none⟩), .pointer (some ⟨S2, 0, none⟩)], .int .i64 (k : Int), .agg #[.int .i64 (st p.toNat g.toNat k : Nat), .int .i64 (st p.toNat g.toNat (k + 1) : Nat)], us 33, us 34, us 35, us 36, us 37, us 38, us 39, us 40, us 41, us 42, us 43, us 44, us 45, us 46, us 47, us 48, us 49, us 50, us 51, us 52, us 53, us 54, us 55, us 56, us 57, us 58, us 59, us 60, us 61, us 62, us 63, us 64, us 65, us 66, us 67, us 68, us 69, us 70, us 71, us 72, us 73, us 74, us 75, us 76, us 77, us 78, us 79, us 80, us 81, us 82, us 83, us 84, us 85, us 86, us 87, us 88, us 89, us 90, us 91, us 92, us 93, us 94, us 95, us 96, us 97, us 98, us 99, us 100, us 101, us 102, us 103, us 104, us 105, us 106, us 107, us 108, us 109, us 110, us 111, us 112, us 113, us 114, us 115, us 116, us 117, us 118, us 119, us 120, us 121, us 122, us 123, us 124, us 125, us 126, us 127, us 128, us 129, us 130, us 131, us 132], defers := [] })
      (fun k W h => ⟨(one_cell h.1.so.s1).1, (one_cell h.1.so.s2).1⟩) (fun k W W' h ht => ⟨h.1.turn ht (fun _ h => h.elim), h.2⟩) (fun k => ?ip) (fun c k => ?xp) (fun k x a' => ?ap) ⟨HSK.out, fun _ => ?z0⟩ ?assign ?body ?done ?stop
    case z0 =>
      by_cases h : leave ≤ 0
      · exact .inl h
      · exact .inr (by omega)
    case ip =>
      rw [hsz2]
      rintro W l o o' ⟨h, hl⟩ h1 h2 h3
      exact ⟨Sk.bides W l o o' h h1 h2 h3, hl⟩
    case xp =>
      rw [hsz2]
      rintro W l o o' ⟨q1, q2, q3, q4, h⟩ h1 h2 h3
      exact ⟨q1, q2, q3, q4, Sk.bides W l o o' h h1 h2 h3⟩
    case ap =>
      rw [hsz2]
      rintro W l o o' ⟨hx, Bx, h1, h2, h3⟩ hl ho hc
      refine ⟨hx, Bx, (touch_put W l o').heap h1 (fun e => ?_), h2, h3⟩
      subst e
      rw [h1] at ho; injection ho with ho; rw [← ho] at hc; cases hc
    case assign =>
      rintro l k x W0 W K h0 ⟨hi, hlv⟩ hkm rfl hK
      have hB := World.alloc_heap_new W (.cells #[.int .i64 (st p.toNat g.toNat x : Nat), .int .i64 (st p.toNat g.toNat (x + 1) : Nat)] 45)
      have HBB := hide hB
      have HI := hide hi
      have HLV := hide hlv
      clear hB h0 hi hlv
      simp only [handed]
      gi_wp2
      refine hK _ _ (KeepsOthers.alloc _ _) ⟨HI.out.turn ((Touch.refl (fun _ => False) W).alloc _) (fun _ h => h.elim), HLV.out⟩ ⟨trivial, W.heap.size, HBB.out, HI.out.sz, rfl⟩
    case body =>
      rintro l k x a' W ⟨hi, hlv⟩ hkm ⟨rfl, Bx, hBx, hBt, rfl⟩
      obtain ⟨c3, _⟩ := one_cell hi.so.b3
      obtain ⟨c4, _⟩ := one_cell hi.so.b4
      obtain ⟨cn, _⟩ := one_cell hi.bn
      have hxp : x < p.toNat := by rw [hmany] at hkm; exact hkm
      have RS := hide (rstretch_yes x p.toNat g.toNat HM.out hxp)
      rw [HP.out.1, HP.out.2] at RS
      gi_wp2
      refine ⟨trivial, (CallsIn.inRound l (callsIn_wide.2 (RS.out _))).mono ?_⟩
      rintro e w8 ⟨rfl, rfl⟩
      gi_wp2
      have t8 := (Touch.refl (fun _ => False) W).drew
      have HI := hide (hi.turn t8 (fun _ h => h.elim))
      have HBX := hide (t8.heap hBx (fun h => h))
      have HK8 := hide (keeps_touch t8 (fun _ h => h.elim))
      have HLV := hide hlv
      have HXP := hide hkm
      clear hi hBx t8 c3 c4 cn RS hlv
      generalize W.drew = wd at *
      obtain ⟨c3, _⟩ := one_cell HI.out.so.b3
      obtain ⟨c4, _⟩ := one_cell HI.out.so.b4
      obtain ⟨c8, _⟩ := one_cell HI.out.so.b8
      obtain ⟨cn, _⟩ := one_cell HI.out.bn
      obtain ⟨ca, _⟩ := one_cell HI.out.ba
      obtain ⟨d0, d1⟩ := cells2 HBX.out
      have hp0 : ¬ p = 0 := by have := HP.out.1; omega
      obtain ⟨ln, qq, e2, e1, e3, hn1, hn2⟩ := len_facts hm hxp
      have hd1 : decide (many p g ≤ x) = false := decide_eq_false (by omega)
      have hd2 : ¬ ((many p g : Nat) : Int) ≤ (x : Int) := by omega
      have SW := hide (succ_wrap (k := x) (by have := HM.out.p2; have := HM.out.g2; omega))
      generalize hst : st p.toNat g.toNat x = sa at *
      generalize hst2 : st p.toNat g.toNat (x + 1) = sb at *
      have HST := hide hst
      have HST2 := hide hst2
      generalize many p g = mm at *
      clear hst hst2 hkm hxp hmany hm
      have NE := neq_pair (sa : Int) (sb : Int)
      refine region_quiet_round (by kernel_rfl) (by kernel_rfl) (by kernel_rfl) ?_
      repeat (go_big_quiet_step (fail))
      refine wpQuiet_nil ?_
      intro _ hw'
      obtain ⟨nq, hw''⟩ := hw'
      subst hw''
      have tq := Touch.drewN (Touch.refl (fun _ => False) wd) nq
      have S8 := HI.out.turn tq (fun _ h => h.elim)
      have HX8 := tq.heap HBX.out (fun h => h)
      have HK9 := hide (HK8.out.trans (keeps_touch tq (fun _ h => h.elim)))
      clear tq HI HBX HK8 c3 c4 c8 cn ca d0 d1 e1 e2 e3 hd1 hd2 NE
      generalize wd.drewN nq = wq at *
      obtain ⟨d0, d1⟩ := cells2 HX8
      obtain ⟨ca, fa⟩ := one_cell S8.ba
      have S9 := S8.setA sb
      obtain ⟨cn, fn⟩ := one_cell S9.bn
      have S10 := S9.setN (x + 1)
      obtain ⟨cn', _⟩ := one_cell S10.bn
      obtain ⟨ct', _⟩ := one_cell S10.so.bt
      obtain ⟨cl', _⟩ := one_cell S10.so.b5
      have HS10 := hide S10
      have ex : ((x + 1 : Nat) : Int) = (x : Int) + 1 := by omega
      have esw := SW.out
      rw [ex] at esw cn' ct' cl'
      have HK10 := hide (HK9.out.trans ((KeepsOthers.setCell wq ⟨A, 0, none⟩ (.int .i64 (sb : Int))).trans (KeepsOthers.setCell _ ⟨N, 0, none⟩ (.int .i64 ((x : Int) + 1)))))
      clear S8 S9 S10 HX8
      have HT : Hid (t = 0 ∨ t = 1) := hide (by omega)
      clear ht h2 hti hDs
      rcases HT.out with rfl | rfl
      · by_cases hle : (x : Int) + 1 = leave
        · have HLE := hide hle
          have hE : (((x : Int) + 1) == leave) = true := by rw [beq_iff_eq]; exact hle
          clear hle
          gi_wp2
          exact ⟨HK10.out, rfl, Nat.succ_pos _, by rw [ex]; exact HLE.out, by rw [HST2.out]; exact HS10.out⟩
        · have HLE := hide hle
          have hE : (((x : Int) + 1) == leave) = false := by rw [beq_eq_false_iff_ne]; exact hle
          clear hle
          gi_wp2
          have hfin : leave ≤ 0 ∨ ((x + 1 : Nat) : Int) < leave := by
            have h3 := HLE.out
            rcases HLV.out trivial with h | h
            · exact .inl h
            · exact .inr (by omega)
          exact ⟨HK10.out, by rw [HST2.out]; exact HS10.out, hfin⟩
      · gi_wp2
        exact ⟨HK10.out, by show Sk w low top B3 B4 B5 B6 B8 T S1 S2 N A p g leave 1 Ds (x + 1) (st p.toNat g.toNat (x + 1)) _; rw [HST2.out]; exact HS10.out⟩
    case done =>
      rintro D W hD ⟨hi, hlv⟩ hd
      rw [hsz2] at hD
      have HG : Hid (0 < many p g → ((st p.toNat g.toNat (many p g) : Nat) : Int) = g) := hide (fun _ => by rw [hmany, st_all HM.out]; exact HP.out.2)
      obtain ⟨c4, _⟩ := one_cell hi.so.b4
      obtain ⟨c5, _⟩ := one_cell hi.so.b5
      obtain ⟨c8, _⟩ := one_cell hi.so.b8
      obtain ⟨ct, _⟩ := one_cell hi.so.bt
      obtain ⟨cn, _⟩ := one_cell hi.bn
      obtain ⟨ca, _⟩ := one_cell hi.ba
      have HNX := hide (hi.next hD hd)
      clear HSEQ HSO HSK hmany
      generalize st p.toNat g.toNat (many p g) = xx at *
      generalize many p g = mm at *
      have HDs := hide hDs
      have HT : Hid (t = 0 ∨ t = 1) := hide (by omega)
      clear hi hd hDs hti ht
      rcases HT.out with rfl | rfl
      · by_cases hle : leave ≤ 0
        · have hlg : ¬ (0 : Int) < leave := by omega
          clear hlv
          rcases Nat.eq_zero_or_pos mm with hm0 | hmp
          · subst hm0
            gi_wp2
            exact ⟨StrI.intro 1 _ _ (D :: Ds) (by omega) (by rw [List.length_cons, HDs.out]) rfl rfl HNX.out, by have := HDs.out; omega⟩
          · have hmi : (0 : Int) < (mm : Int) := by omega
            have hE : ((xx : Int) == g) = true := by rw [beq_iff_eq]; exact HG.out hmp
            clear HG
            gi_wp2
            exact ⟨StrI.intro 1 _ _ (D :: Ds) (by omega) (by rw [List.length_cons, HDs.out]) rfl rfl HNX.out, by have := HDs.out; omega⟩
        · have hlg : (0 : Int) < leave := by omega
          have hml : (mm : Int) < leave := by rcases hlv rfl with h | h <;> omega
          clear hlv
          gi_wp2
          exact ⟨StrI.intro 1 _ _ (D :: Ds) (by omega) (by rw [List.length_cons, HDs.out]) rfl rfl HNX.out, by have := HDs.out; omega⟩
      · clear hlv
        rcases Nat.eq_zero_or_pos mm with hm0 | hmp
        · subst hm0
          gi_wp2
          exact ⟨StrI.intro 2 _ _ (D :: Ds) (by omega) (by rw [List.length_cons, HDs.out]) rfl rfl HNX.out, by have := HDs.out; omega⟩
        · have hmi : (0 : Int) < (mm : Int) := by omega
          have hE : ((xx : Int) == g) = true := by rw [beq_iff_eq]; exact HG.out hmp
          clear HG
          gi_wp2
          exact ⟨StrI.intro 2 _ _ (D :: Ds) (by omega) (by rw [List.length_cons, HDs.out]) rfl rfl HNX.out, by have := HDs.out; omega⟩
    case stop =>
      rintro D c k W hD hkm ⟨rfl, ht0, hk0, hkl, hi⟩ hd
      rw [hsz2] at hD
      subst ht0
      obtain ⟨c5, _⟩ := one_cell hi.so.b5
      obtain ⟨c8, _⟩ := one_cell hi.so.b8
      obtain ⟨ct, _⟩ := one_cell hi.so.bt
      obtain ⟨cn, _⟩ := one_cell hi.bn
      have HNX := hide (hi.next hD hd)
      clear HSEQ HSO HSK hmany hi
      generalize many p g = mm at *
      have HDs := hide hDs
      have hlg : (0 : Int) < leave := by omega
      have hml : ¬ (mm : Int) < leave := by omega
      have hE : ((k : Int) == leave) = true := by rw [beq_iff_eq]; exact hkl
      clear hE hd hDs hti ht
      gi_wp2
      exact ⟨StrI.intro 1 _ _ (D :: Ds) (by omega) (by rw [List.length_cons, HDs.out]) rfl rfl HNX.out, by have := HDs.out; omega⟩
  · have e2 : t = 2 := by omega
    subst e2
    obtain ⟨ct, _⟩ := one_cell so.bt
    have HS := hide so
    clear so
    gi_wp2
    refine ⟨trivial, (callsIn_wide.2 (known_any _)).mono ?_⟩
    rintro e w5 ⟨rfl, t5⟩
    have S5 := HS.out.turn t5 (fun _ h => h.elim)
    have t6 : Touch (fun g => g = B6) w5 (w5.setCell ⟨B6, 0, none⟩ (.bool true)) := (Touch.refl (fun g => g = B6) w5).setCell (p := ⟨B6, 0, none⟩) (fun _ => rfl) _
    obtain ⟨c6, f6⟩ := one_cell S5.b6
    have H6 := hide (set_one (.bool true) S5.b6)
    have HT6 := hide (S5.touch.trans t6 (fun g hg e => by have := S5.lo; omega))
    have HM6 : Hid (∀ D ∈ Ds, w.heap.size ≤ D ∧ (w5.setCell ⟨B6, 0, none⟩ (.bool true)).heap[D]? = some (.deferred (some []))) := hide (fun D hD => ⟨(S5.mks D hD).1, t6.heap (S5.mks D hD).2.2 (fun e => by
      have h := (S5.mks D hD).2.2
      subst e
      rw [S5.b6] at h; cases h)⟩)
    have HND := hide S5.nd
    clear S5 t5 t6 HS ct
    gi_wp2
    refine leaves_marks Ds _ (fun D hD => (HM6.out D hD).2) HND.out (fun W2 tw => ?_)
    have r6 := (one_cell (tw.heap H6.out (fun hm => by have h := (HM6.out _ hm).2; rw [H6.out] at h; cases h))).1
    exact ⟨.bool true, by simp [results, Try.results4, go_sem, r6], rfl, HT6.out.trans tw (fun g hg hm => by have := (HM6.out _ hm).1; omega)⟩

theorem stretches_walk (p g leave : Int) (w : World) : Calls Try.prog 4 #[.int .i64 p, .int .i64 g, .int .i64 leave] w fun e w' => e = .returned (.bool true) ∧ Touch (fun _ => False) w w' := by
  cases h : mayW p g with
  | false => exact stretches_no p g leave h w
  | true => exact stretches_yes p g leave h w

end Go.Proofs.Ytmhobdcnohhaaaa
