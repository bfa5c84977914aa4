/- A line read (the program's read; the walk). The program's Parse. Trees in memory, told by what they hold in order; the small functions. The program's weight, sideOf, pair, over. -/
import Derived.Test.YtamfcmmhmfhhkaaGreatDoorG18
import Derived.WalkMore
import Derived.Deep.CutRange
import Derived.Test.YtamfcmmhmfhhkaaGreatDoorG0
namespace Go.Proofs.YtamfcmmhmfhhkaaGreatDoor
open Go.RowKit

set_option maxRecDepth 100000 in
set_option maxHeartbeats 16000000 in
theorem read_any (s : ByteArray) (hs : s.size ≤ 900000) (w : World) (hy : Yv w) : Calls Tryz.prog 34 #[.string s] w fun e w' => (∃ o, ParR s o ∧ e = .returned (.tuple #[pnv (o.getD pn0), .bool o.isSome])) ∧ Calm w w' := by
  have HYv : Hid (∀ W, Calm w W → Yv W) := hide fun W hW => hy.calm hW
  -- the three blocks
  have A0 := al_new w (.cells (pnc pn0) 40)
  have S0 := al_size w (.cells (pnc pn0) 40)
  have S1 := al_size (w.alloc (.cells (pnc pn0) 40)) (.cells #[.string s] 94)
  have A1 := al_old A0 (.cells #[.string s] 94)
  have B1 := al_new (w.alloc (.cells (pnc pn0) 40)) (.cells #[.string s] 94)
  have A2 := al_old A1 (.cells (f7c fun _ => 0) 91)
  have B2 := al_old B1 (.cells (f7c fun _ => 0) 91)
  have C2 := al_new ((w.alloc (.cells (pnc pn0) 40)).alloc (.cells #[.string s] 94)) (.cells (f7c fun _ => 0) 91)
  have S2 := al_size ((w.alloc (.cells (pnc pn0) 40)).alloc (.cells #[.string s] 94)) (.cells (f7c fun _ => 0) 91)
  rw [S1, S0] at C2
  rw [S0] at B2
  have M0 : Hid (RdM w (((w.alloc (.cells (pnc pn0) 40)).alloc (.cells #[.string s] 94)).alloc (.cells (f7c fun _ => 0) 91)) w.heap.size s.toList (fun _ => 0) (.slice none ([] : List Int).length 0) []) := hide
    ⟨A2, by unfold Crs; rw [bl_of]; exact B2, C2, Rc.Own.nil _ _ _, (((Touch.refl (fun _ => False) w).alloc _).alloc _).alloc _, by rw [S2, S1, S0]; omega, rfl⟩
  clear A0 S0 S1 A1 B1 A2 B2 C2 S2 hy
  have TK := hide (fun R n q W h => take_any R n q W h)
  have NX := hide (fun R q W h => next_any R q W h)
  have CO := hide (fun R q W h => code_any R q W h)
  have WD := hide (fun R hl q W h => word_any R hl q W h)
  have KN := hide (fun t W h => kindOf_any t W h)
  have NU := hide (fun t ht W h => numberOf_any t ht W h)
  have IT := hide (fun b W => itself_any b W)
  have PA := hide (fun k d f W => paneOf_any k d f W)
  go_enter Tryz.func34, Tryz.ntmps34
  go_wp2_with fail
  refine wp_scope_fall (fun l a W => AtQ s w.heap.size w l a W) (fun l _ W => rkQ w.heap.size l W) ?_ ?_
  · intro hp
    have C0 := TK.out s.toList 34 (w.heap.size + 1) _ M0.out.crs
    have HC0 := hide C0
    clear C0 HYv NX CO WD KN NU IT PA TK
    cases ht : tkB s.toList 34 with
    | false =>
      rw [ht] at HC0
      have HN : Hid (NoP s) := hide (NoP.first fun b R e => tkB_no ht b R e)
      clear ht hp
      go_wp2_with fail
      refine HC0.out.mono ?_
      rintro r w1 ⟨rfl, h1, t1⟩
      have M1 := hide (M0.out.step h1 t1)
      clear h1 t1 HC0 M0
      go_wp2_with fail
      go_step3
      show At0 s w.heap.size w _ _
      exact ⟨_, _, _, _, frq, HN.out, M1.out.res, M1.out.calm, rfl⟩
    | true =>
      rw [ht] at HC0
      obtain ⟨b, R', e, hb⟩ := tkB_yes ht
      have hb' : b = 34 := UInt8.toNat_inj.1 (by rw [hb]; rfl)
      subst hb'
      have HK0 : Hid (Ks s 1 [] R') := hide (Ks.start e)
      have e2 : s.toList.tail = R' := by rw [e]; rfl
      rw [e2] at HC0
      clear ht hb e e2
      go_wp2_with fail
      refine HC0.out.mono ?_
      rintro r w1 ⟨rfl, h1, t1⟩
      have M1 := hide (M0.out.step h1 t1)
      clear h1 t1 HC0 M0
      go_wp2_with fail
      go_step3
      rename_i hK
      refine hK _ _ (hp.out 1 _ _ _ ?_ rfl)
      show At1q s w.heap.size w _ _
      exact ⟨1, [], R', _, _, _, frq, HK0, by simp, M1.out⟩
  · intro l a0 W0 hl hf
    clear M0
    by_cases l0 : l = 0
    · subst l0
      obtain ⟨v5, v6, v8, f, rfl, hn, hr, hc, -⟩ : At0 s w.heap.size w a0 W0 := hl
      have HN := hide hn
      have HR := hide hr
      have HC := hide hc
      clear hn hr hc hf HYv NX CO WD KN NU IT PA TK
      refine ⟨_, rfl, ?_⟩
      unfold FrQ
      have Q2 : Hid (Calm w (W0.setRow w.heap.size (pnc pn0))) := hide (HC.out.trans (S' := fun g => g = w.heap.size) ⟨rfl, rfl, rfl, by simp, fun j _ hj => setRow_other _ _ j _ hj⟩ (fun g hg e => by omega))
      generalize w.heap.size = D at *
      have hi9 : (Tryz.prog.info? 40).map (·.size) = some 9 := by kernel_rfl
      have hq1 : Hid ((pnc pn0).all (·.oneCell') = true) := hide (by simp [Value.oneCell'])
      have Q1 := hide (setRow_heap _ _ _ (pnc pn0) _ _ HR.out)
      go_wp2_with (refine wpList_store_rowTo rfl 40 (.tmp 2) (.tmp 83) rfl rfl D (pnc pn0) rfl rfl 40 _ HR.out hi9 rfl hq1.out ?_)
      simp only [jumps]
      refine bodyPost_ret (results_cell_one rfl _ _ _ _ _ _ _ rfl Q1.out Tryz.underlying40 rfl (by kernel_rfl) _ rfl) rfl ?_
      exact ⟨⟨none, HN.out, rfl⟩, Q2.out⟩
    by_cases l1 : l = 1
    · subst l1
      obtain ⟨i, A, R, a5, c5, f, rfl, HK, hA, hm⟩ : At1q s w.heap.size w a0 W0 := hl
      have HM := hide hm
      have RL := hm.crs.rl
      refine ⟨_, rfl, ?_⟩
      unfold FrQ
      clear hm hf HYv CO WD KN NU PA TK
      cases R with
      | nil =>
        have N1 : Hid (Calls Tryz.prog 50 #[.pointer (some ⟨w.heap.size + 1, 0, none⟩)] W0 fun e w' => e = .returned (.tuple #[.int .u8 0, .bool false]) ∧ Crs w' (w.heap.size + 1) [] ∧ Touch (fun g => g = w.heap.size + 1) W0 w') := hide (NX.out [] _ _ HM.out.crs)
        have HN := hide HK.out.past
        clear NX IT HK
        go_wp2_with fail
        refine N1.out.mono ?_
        rintro r w1 ⟨rfl, h1, t1⟩
        have ML := HM.out.loose t1
        clear h1 t1 N1 HM
        go_wp2_with fail
        go_step3
        refine ⟨?_, ?_⟩
        · show At0 s w.heap.size w _ _
          exact ⟨_, _, _, _, frq, HN.out, ML.1, ML.2, rfl⟩
        · show rkQ _ 0 _ < rkQ _ 1 _
          rw [rk0, rk1]
          omega
      | cons b R =>
        have N1 : Hid (Calls Tryz.prog 50 #[.pointer (some ⟨w.heap.size + 1, 0, none⟩)] W0 fun e w' => e = .returned (.tuple #[.int .u8 (b.toNat : Int), .bool true]) ∧ Crs w' (w.heap.size + 1) R ∧ Touch (fun g => g = w.heap.size + 1) W0 w') := hide (NX.out (b :: R) _ _ HM.out.crs)
        have RL2 : rlW w.heap.size W0 = R.length + 1 := RL
        by_cases hlen : 256 < A.length
        · have hlz : (256 : Int) < (A.length : Int) := by omega
          have HN := hide (HK.out.long hlen)
          clear NX IT HK hlen
          go_wp2_with fail
          refine N1.out.mono ?_
          rintro r w1 ⟨rfl, h1, t1⟩
          have ML := HM.out.loose t1
          clear h1 t1 N1 HM
          go_wp2_with fail
          go_step3
          refine ⟨?_, ?_⟩
          · show At0 s w.heap.size w _ _
            exact ⟨_, _, _, _, frq, HN.out, ML.1, ML.2, rfl⟩
          · show rkQ _ 0 _ < rkQ _ 1 _
            rw [rk0, rk1]
            omega
        have hlz : ¬ (256 : Int) < (A.length : Int) := by omega
        have hA2 : A.length ≤ 256 := by omega
        by_cases h34 : b.toNat = 34
        · have hb : b = 34 := UInt8.toNat_inj.1 (by rw [h34]; rfl)
          have h34z : ((b.toNat : Int) == 34) = true := by rw [beq_iff_eq]; omega
          have HKb : Hid (Kb s (strOfNums A) R) := hide (by have h := HK.out; rw [hb] at h; exact h.last)
          clear NX IT HK h34 hb
          generalize (b.toNat : Int) = bn at *
          go_wp2_with fail
          refine N1.out.mono ?_
          rintro r w1 ⟨rfl, h1, t1⟩
          have M1 := hide (HM.out.step h1 t1)
          clear h1 t1 N1 HM
          go_wp2_with fail
          go_step3
          refine ⟨?_, ?_⟩
          · show At2q s w.heap.size w _ _
            exact ⟨A, R, _, _, _, frq, HKb, hA2, M1.out⟩
          · show rkQ _ 2 _ < rkQ _ 1 _
            have := M1.out.crs.rl
            rw [rk2, rk1, this, RL2]
            omega
        have h34z : ((b.toNat : Int) == 34) = false := by rw [beq_eq_false_iff_ne]; omega
        by_cases h92 : b.toNat = 92
        · have hb : b = 92 := UInt8.toNat_inj.1 (by rw [h92]; rfl)
          have h92z : ((b.toNat : Int) == 92) = true := by rw [beq_iff_eq]; omega
          have HK3 : Hid (Ks s i A (92 :: R)) := hide (by have h := HK.out; rw [hb] at h; exact h)
          clear NX IT HK h34 h92 hb
          generalize (b.toNat : Int) = bn at *
          go_wp2_with fail
          refine N1.out.mono ?_
          rintro r w1 ⟨rfl, h1, t1⟩
          have M1 := hide (HM.out.step h1 t1)
          clear h1 t1 N1 HM
          go_wp2_with fail
          go_step3
          refine ⟨?_, ?_⟩
          · show At3 s w.heap.size w _ _
            exact ⟨i, A, R, _, _, _, frq, HK3, hA2, M1.out⟩
          · show rkQ _ 3 _ < rkQ _ 1 _
            have := M1.out.crs.rl
            rw [rk3, rk1, this, RL2]
            omega
        have h92z : ((b.toNat : Int) == 92) = false := by rw [beq_eq_false_iff_ne]; omega
        have I1 := hide (fun W => IT.out (b.toNat : Int) W)
        cases hit : itB (b.toNat : Int) with
        | false =>
          rw [hit] at I1
          have HN := hide (HK.out.odd h34 h92 hit)
          clear NX IT HK h34 h92 hit
          generalize (b.toNat : Int) = bn at *
          go_wp2_with fail
          refine N1.out.mono ?_
          rintro r w1 ⟨rfl, h1, t1⟩
          have ML := HM.out.loose t1
          clear h1 t1 N1 HM
          go_wp2_with fail
          refine (I1.out _).mono ?_
          rintro r w2 ⟨rfl, hq⟩
          obtain rfl := hq.symm
          clear hq I1
          go_wp2_with fail
          go_step3
          refine ⟨?_, ?_⟩
          · show At0 s w.heap.size w _ _
            exact ⟨_, _, _, _, frq, HN.out, ML.1, ML.2, rfl⟩
          · show rkQ _ 0 _ < rkQ _ 1 _
            rw [rk0, rk1]
            omega
        | true =>
          rw [hit] at I1
          have HK1 := hide (HK.out.plain hit)
          clear NX IT HK h34 h92 hit
          generalize (b.toNat : Int) = bn at *
          go_wp2_with fail
          refine N1.out.mono ?_
          rintro r w1 ⟨rfl, h1, t1⟩
          have m1 := HM.out.step h1 t1
          obtain ⟨a4, p4, w4, hr, ow, t4⟩ := by_app bn m1.row m1.big (by omega)
          have M4 := hide (m1.grow ow t4)
          obtain ⟨n4, hn4⟩ : ∃ n4, n4 = A.length + 1 := ⟨_, rfl⟩
          rw [← hn4] at hr
          have HR := hide hr
          have HN4 : Hid (n4 = (A ++ [bn]).length) := hide (by rw [hn4]; exact (len_snoc _ _).symm)
          clear h1 t1 N1 HM m1 hr ow t4 hn4
          go_wp2_with fail
          refine (I1.out _).mono ?_
          rintro r w2 ⟨rfl, hq⟩
          obtain rfl := hq.symm
          clear hq I1
          go_wp2_with (at_builtin; refine Rc.wpList_appR rfl (.tmp 37) (.tmp 39) 64 64 rfl _ _ _ rfl rfl HR.out ?_)
          go_step3
          obtain rfl := HN4.out
          refine ⟨?_, ?_⟩
          · show At1q s w.heap.size w _ _
            exact ⟨i + 1, A ++ [bn], R, _, _, _, frq, HK1, by rw [len_snoc]; omega, M4.out⟩
          · show rkQ _ 1 _ < rkQ _ 1 _
            have := M4.out.crs.rl
            rw [rk1, rk1, this, RL2]
            omega
    by_cases l2 : l = 2
    · subst l2
      obtain ⟨A, R, a5, c5, f, rfl, HK, hA, hm⟩ : At2q s w.heap.size w a0 W0 := hl
      have HM := hide hm
      have RL := hm.crs.rl
      have hRl : R.length ≤ 900000 := Nat.le_trans HK.out.len hs
      have T1 := hide (TK.out R 32 _ _ hm.crs)
      refine ⟨_, rfl, ?_⟩
      unfold FrQ
      clear hm CO NX IT NU PA TK
      cases ht : tkB R 32 with
      | false =>
        rw [ht] at T1
        have HN := hide (HK.out.none ht)
        clear hf HYv WD KN HK ht
        go_wp2_with fail
        refine T1.out.mono ?_
        rintro r w1 ⟨rfl, h1, t1⟩
        have ML := HM.out.loose t1
        clear h1 t1 T1 HM
        go_wp2_with fail
        go_step3
        refine ⟨?_, ?_⟩
        · show At0 s w.heap.size w _ _
          exact ⟨_, _, _, _, frq, HN.out, ML.1, ML.2, rfl⟩
        · show rkQ _ 0 _ < rkQ _ 2 _
          rw [rk0, rk2]
          omega
      | true =>
        rw [ht] at T1
        have HKi : Hid (∀ d : Int, 1 ≤ d → d ≤ 3 → nameB d = bl (wdL R.tail) → Nb s (strOfNums A) d (fun _ => 0) 0 (wdR R.tail)) := hide fun d h1 h2 h3 => HK.out.kind ht h1 h2 h3 _
        have HNo : Hid ((∀ d : Int, 1 ≤ d → d ≤ 3 → nameB d ≠ bl (wdL R.tail)) → NoP s) := hide fun h => HK.out.nokind ht h
        have hRt : R = 32 :: R.tail := tk_cons ht
        have hlR : R.length = R.tail.length + 1 := by rw [hRt]; rfl
        have hw0 := wdR_len R.tail
        generalize R.tail = R' at *
        clear HK ht hRt
        go_wp2_with fail
        refine T1.out.mono ?_
        rintro r w1 ⟨rfl, h1, t1⟩
        have M1 := hide (HM.out.step h1 t1)
        have W1 := hide (WD.out R' (by omega) _ _ h1)
        clear h1 t1 T1 HM WD
        go_wp2_with fail
        refine W1.out.mono ?_
        rintro r w2 ⟨rfl, h2, t2⟩
        have M2 := hide (M1.out.step h2 t2)
        have K2 := hide (KN.out (bl (wdL R')) w2 (HYv.out w2 M2.out.calm).kds)
        clear h2 t2 W1 M1 KN HYv
        generalize bl (wdL R') = t at *
        go_wp2_with fail
        refine K2.out.mono ?_
        rintro r w3 ⟨hk, t3⟩
        have M3 := hide (M2.out.stay t3)
        clear t3 K2 M2
        rcases hk with ⟨d, d1, d2, d3, rfl⟩ | ⟨rfl, hno⟩
        · have HB := hide (HKi.out d d1 d2 d3)
          have HD := hide (And.intro d1 d2)
          clear HKi HNo d1 d2 d3
          go_wp2_with fail
          go_step3
          rename_i hK
          refine hK _ _ (hf.out 4 _ _ _ ?_ ?_ rfl)
          · show At4 s w.heap.size w _ _
            exact ⟨A, wdR R', d, _, 0, _, _, _, frq, HB, hA, HD.out.1, HD.out.2, by omega, M3.out⟩
          · show rkQ _ 4 _ < rkQ _ 2 _
            have := M3.out.crs.rl
            rw [rk4, rk2, this, RL]
            omega
        · have HN := hide (HNo.out hno)
          have ML := And.intro M3.out.res M3.out.calm
          clear hno HKi HNo hf
          go_wp2_with fail
          go_step3
          refine ⟨?_, ?_⟩
          · show At0 s w.heap.size w _ _
            exact ⟨_, _, _, _, frq, HN.out, ML.1, ML.2, rfl⟩
          · show rkQ _ 0 _ < rkQ _ 2 _
            rw [rk0, rk2]
            omega
    by_cases l3 : l = 3
    · subst l3
      obtain ⟨i, A, R, a5, c5, f, rfl, HK, hA, hm⟩ : At3 s w.heap.size w a0 W0 := hl
      have HM := hide hm
      have RL := hm.crs.rl
      have C1 := hide (CO.out R _ _ hm.crs)
      refine ⟨_, rfl, ?_⟩
      unfold FrQ
      clear hm hf HYv CO NX IT WD KN NU PA TK
      go_wp2_with fail
      refine C1.out.mono ?_
      rintro r w1 ⟨hc, t1⟩
      rcases hc with ⟨h, l, R', rfl, h1, h2, h3, rfl, h4⟩ | ⟨rfl, h1⟩
      · have HK1 := hide (HK.out.code h1 h2 h3)
        have m1 := HM.out.step h4 t1
        have RL2 : rlW w.heap.size W0 = R'.length + 1 + 1 + 1 := RL
        generalize 16 * digX (h.toNat : Int) + digX (l.toNat : Int) = bn at *
        obtain ⟨a4, p4, w4, hr, ow, t4⟩ := by_app bn m1.row m1.big (by omega)
        have M4 := hide (m1.grow ow t4)
        obtain ⟨n4, hn4⟩ : ∃ n4, n4 = A.length + 1 := ⟨_, rfl⟩
        rw [← hn4] at hr
        have HR := hide hr
        have HN4 : Hid (n4 = (A ++ [bn]).length) := hide (by rw [hn4]; exact (len_snoc _ _).symm)
        clear h1 h2 h3 h4 t1 C1 HM m1 hr ow t4 hn4 HK RL
        go_wp2_with (at_builtin; refine Rc.wpList_appR rfl (.tmp 47) (.tmp 49) 64 64 rfl _ _ _ rfl rfl HR.out ?_)
        go_step3
        obtain rfl := HN4.out
        refine ⟨?_, ?_⟩
        · show At1q s w.heap.size w _ _
          exact ⟨i + 4, A ++ [bn], R', _, _, _, frq, HK1, by rw [len_snoc]; omega, M4.out⟩
        · show rkQ _ 1 _ < rkQ _ 3 _
          have := M4.out.crs.rl
          rw [rk1, rk3, this, RL2]
          omega
      · have HN := hide (HK.out.bad h1)
        have ML := HM.out.loose t1
        clear h1 t1 C1 HM HK RL
        go_wp2_with fail
        go_step3
        refine ⟨?_, ?_⟩
        · show At0 s w.heap.size w _ _
          exact ⟨_, _, _, _, frq, HN.out, ML.1, ML.2, rfl⟩
        · show rkQ _ 0 _ < rkQ _ 3 _
          rw [rk0, rk3]
          omega
    by_cases l4 : l = 4
    · subst l4
      obtain ⟨A, R, d, g, j, a5, c5, f, rfl, HK, hA, hd1, hd2, hj, hm⟩ : At4 s w.heap.size w a0 W0 := hl
      have HM := hide hm
      have RL := hm.crs.rl
      have hRl : R.length ≤ 900000 := Nat.le_trans HK.out.len hs
      have T1 := hide (TK.out R 32 _ _ hm.crs)
      refine ⟨_, rfl, ?_⟩
      unfold FrQ
      clear hm CO NX IT KN TK
      cases ht : tkB R 32 with
      | false =>
        rw [ht] at T1
        have HN := hide (HK.out.none hj ht)
        clear hf HYv WD NU PA HK ht
        go_wp2_with fail
        refine T1.out.mono ?_
        rintro r w1 ⟨rfl, h1, t1⟩
        have ML := HM.out.loose t1
        clear h1 t1 T1 HM
        go_wp2_with fail
        go_step3
        refine ⟨?_, ?_⟩
        · show At0 s w.heap.size w _ _
          exact ⟨_, _, _, _, frq, HN.out, ML.1, ML.2, rfl⟩
        · show rkQ _ 0 _ < rkQ _ 4 _
          rw [rk0, rk4]
          omega
      | true =>
        rw [ht] at T1
        have HNu : Hid (∀ x, numP (bl (wdL R.tail)) = some x → Nb s (strOfNums A) d (upG g j x) (j + 1) (wdR R.tail)) := hide fun x h => HK.out.num hj ht h
        have HNo : Hid (numP (bl (wdL R.tail)) = none → NoP s) := hide fun h => HK.out.nonum hj h
        have hRt : R = 32 :: R.tail := tk_cons ht
        have hlR : R.length = R.tail.length + 1 := by rw [hRt]; rfl
        have hw0 := wdR_len R.tail
        have hbs : (bl (wdL R.tail)).size ≤ 900000 := by
          rw [bl_size]
          have := congrArg List.length (wd_app R.tail)
          rw [List.length_append] at this
          omega
        generalize R.tail = R' at *
        have hjz : (j : Int) < 7 := by omega
        have hj0 : (0 : Int) ≤ (j : Int) := by omega
        clear HK ht hRt
        go_wp2_with fail
        refine T1.out.mono ?_
        rintro r w1 ⟨rfl, h1, t1⟩
        have M1 := hide (HM.out.step h1 t1)
        have W1 := hide (WD.out R' (by omega) _ _ h1)
        clear h1 t1 T1 HM WD
        go_wp2_with fail
        refine W1.out.mono ?_
        rintro r w2 ⟨rfl, h2, t2⟩
        have M2 := hide (M1.out.step h2 t2)
        have N2 := hide (NU.out (bl (wdL R')) (by omega) w2 (HYv.out w2 M2.out.calm))
        clear h2 t2 W1 M1 NU hbs
        generalize bl (wdL R') = t at *
        go_wp2_with fail
        refine N2.out.mono ?_
        rintro r w3 ⟨rfl, t3⟩
        have M3 := hide (M2.out.stay t3)
        have cz := f7_cells M3.out.num j hj
        have fz : w3.frozen? ⟨w.heap.size + 2, j, none⟩ = false := by simp [World.frozen?, M3.out.num]
        clear t3 N2 M2
        cases hx : numP t with
        | none =>
          have HN := hide (HNo.out hx)
          have M4 := hide (M3.out.set hj 0)
          unfold numV2
          clear HNu HNo hf hx HYv PA
          go_wp2_with fail
          go_step3
          refine ⟨?_, ?_⟩
          · show At0 s w.heap.size w _ _
            exact ⟨_, _, _, _, frq, HN.out, M4.out.res, M4.out.calm, rfl⟩
          · show rkQ _ 0 _ < rkQ _ 4 _
            rw [rk0, rk4]
            omega
        | some x =>
          have HB := hide (HNu.out x hx)
          have M4 := hide (M3.out.set hj x)
          have q1 : IntKind.i64.wrap ((j : Int) + 1) = (j : Int) + 1 := by rw [IntKind.wrap_i64]; omega
          unfold numV2
          clear HNu HNo hx
          by_cases hj6 : j < 6
          · have hj6z : (j : Int) + 1 < 7 := by omega
            clear HYv PA hf
            go_wp2_with fail
            go_step3
            refine ⟨?_, ?_⟩
            · show At4 s w.heap.size w _ _
              exact ⟨A, wdR R', d, _, j + 1, _, _, _, frq, HB, hA, hd1, hd2, by omega, M4.out⟩
            · show rkQ _ 4 _ < rkQ _ 4 _
              have := M4.out.crs.rl
              rw [rk4, rk4, this, RL]
              omega
          have hj6z : ¬ (j : Int) + 1 < 7 := by omega
          have hj7 : j + 1 = 7 := by omega
          have c9 := (one_cell M4.out.crs).1
          rw [hj7] at HB
          cases hR2 : wdR R' with
          | cons b R2 =>
            have HN : Hid (NoP s) := hide (by have h := HB.out; rw [hR2] at h; exact h.more)
            have hne := bl_ne (R := wdR R') (by rw [hR2]; simp)
            have HJ0 : Hid (At0 s w.heap.size w = At0 s w.heap.size w) := hide rfl
            generalize bl (wdR R') = t2 at *
            clear HYv PA HB hR2
            go_wp2_with fail
            go_step3
            rename_i hK
            refine hK _ _ (hf.out 0 _ _ _ ?_ ?_ rfl)
            · show At0 s w.heap.size w _ _
              exact ⟨_, _, _, _, frq, HN.out, M4.out.res, M4.out.calm, rfl⟩
            · show rkQ _ 0 _ < rkQ _ 4 _
              rw [rk0, rk4]
              omega
          | nil =>
            have HP : Hid (ParR s (some (pnF (strOfNums A) d (upG g j x)))) := hide (by
              have h := HB.out
              rw [hR2] at h
              exact h.last (by rw [strOfNums_size]; omega) hd1 hd2)
            have cv := conv_any M4.out.row
            have P4 := hide (PA.out (strOfNums A) d (upG g j x) (w3.setCell ⟨w.heap.size + 2, j, none⟩ (.int .i64 x)))
            rw [hR2, show bl [] = ⟨#[]⟩ from rfl] at c9
            obtain ⟨P, hP⟩ : ∃ P, P = pnF (strOfNums A) d (upG g j x) := ⟨_, rfl⟩
            rw [← hP] at HP P4
            have f0 := f7_cells M4.out.num 0 (by omega)
            have f1 := f7_cells M4.out.num 1 (by omega)
            have f2 := f7_cells M4.out.num 2 (by omega)
            have f3 := f7_cells M4.out.num 3 (by omega)
            have f4 := f7_cells M4.out.num 4 (by omega)
            have f5 := f7_cells M4.out.num 5 (by omega)
            have f6 := f7_cells M4.out.num 6 (by omega)
            have R4 := hide M4.out.res
            have C4 := hide M4.out.calm
            clear HYv PA HB hR2 hP hf M4
            generalize strOfNums A = ky at *
            generalize upG g j x = gg at *
            go_wp2_with fail
            refine P4.out.mono ?_
            rintro r w5 ⟨rfl, t5⟩
            have R5 := hide (t5.at R4.out)
            have C5 := hide (C4.out.tr t5)
            clear t5 R4 C4 P4 c9 f0 f1 f2 f3 f4 f5 f6 cv cz fz
            have Q2 : Hid (Calm w (w5.setRow w.heap.size (pnc P))) := hide (C5.out.trans (S' := fun g => g = w.heap.size) ⟨rfl, rfl, rfl, by simp, fun j _ hj => setRow_other _ _ j _ hj⟩ (fun g hg e => by omega))
            generalize w.heap.size = D at *
            have hi9 : (Tryz.prog.info? 40).map (·.size) = some 9 := by kernel_rfl
            have hq1 : Hid ((pnc P).all (·.oneCell') = true) := hide (by simp [Value.oneCell'])
            have Q1 := hide (setRow_heap _ _ _ (pnc P) _ _ R5.out)
            go_wp2_with (refine wpList_store_rowTo rfl 40 (.tmp 2) (.tmp 82) rfl rfl D (pnc P) rfl rfl 40 _ R5.out hi9 rfl hq1.out ?_)
            simp only [jumps]
            refine bodyPost_ret (results_cell_one rfl _ _ _ _ _ _ _ rfl Q1.out Tryz.underlying40 rfl (by kernel_rfl) _ rfl) rfl ?_
            exact ⟨⟨some P, HP.out, rfl⟩, Q2.out⟩
    · unfold AtQ at hl
      rw [if_neg l0, if_neg l1, if_neg l2, if_neg l3, if_neg l4] at hl
      exact hl.elim

end Go.Proofs.YtamfcmmhmfhhkaaGreatDoor

namespace Go.Proofs.YtamfcmmhmfhhkaaGreatDoor
open Go.RowKit

/-- What Parse tells. -/
def parW (o : Option Pn) : Value := .tuple #[pnv (o.getD pn0), .int .i64 (if o.isSome then 0 else 280)]

set_option maxRecDepth 100000 in
set_option maxHeartbeats 4000000 in
theorem parse_any (s : ByteArray) (hs : s.size ≤ 900000) (w : World) (hy : Yv w) : Calls Tryz.prog 21 #[.string s] w fun e w' => (∃ o, ParR s o ∧ e = .returned (parW o)) ∧ Calm w w' := by
  have A0 := hide (al_new w (.cells (pnc pn0) 40))
  have T0 := hide ((Touch.refl (fun _ => False) w).alloc (.cells (pnc pn0) 40))
  have CR := hide (read_any s hs (w.alloc (.cells (pnc pn0) 40)) (hy.calm T0.out))
  have hi9 : (Tryz.prog.info? 40).map (·.size) = some 9 := by kernel_rfl
  clear hy hs
  go_enter Tryz.func21, Tryz.ntmps21
  go_wp2_with fail
  refine CR.out.mono ?_
  rintro e w1 ⟨⟨o, ho, rfl⟩, T1⟩
  have A1 := hide (T1.at A0.out)
  have HT := hide (T0.out.tr T1)
  have hDw : w.heap.size < w1.heap.size := lt_of_heap A1.out
  obtain ⟨D, hD⟩ : ∃ D, D = w.heap.size := ⟨_, rfl⟩
  have HO := hide ho
  have Z0 := hide (al_new w1 (.cells (pnc pn0) 40))
  have Z1 := hide (setRow_heap _ _ _ (pnc (o.getD pn0)) _ _ Z0.out)
  have Z2 : Hid (Touch (fun _ => False) w1 ((w1.alloc (.cells (pnc pn0) 40)).setRow w1.heap.size (pnc (o.getD pn0)))) := hide (((Touch.refl (fun _ => False) w1).alloc _).trans (S' := fun g => g = w1.heap.size) ⟨rfl, rfl, rfl, by simp, fun j _ hj => setRow_other _ _ j _ hj⟩ (fun g hg e => by omega))
  have hq1 : Hid ((pnc (o.getD pn0)).all (·.oneCell') = true) := hide (by simp [Value.oneCell'])
  have hq0 : Hid ((pnc pn0).all (·.oneCell') = true) := hide (by simp [Value.oneCell'])
  have A2 := hide (Z2.out.at A1.out)
  have HT2 := hide (HT.out.tr Z2.out)
  clear ho T1 CR A0 T0 HT A1
  generalize hP : o.getD pn0 = P at *
  have HP := hide hP
  clear hP
  go_upto_region 2 with (refine wpList_store_rowTo rfl 40 (.tmp 4) (.tmp 9) rfl rfl w1.heap.size (pnc P) rfl rfl 40 _ Z0.out hi9 rfl hq1.out ?_)
  generalize (w1.alloc (.cells (pnc pn0) 40)).setRow w1.heap.size (pnc P) = w2 at *
  rw [← hD] at A2 ⊢
  have HD := hide hD
  clear hD Z0 Z2
  generalize w1.heap.size = E at *
  have E3 : Hid (∀ P' : Pn, (w2.setRow D (pnc P')).heap[D]? = some (.cells (pnc P') 40 (0, 0)) ∧ Calm w (w2.setRow D (pnc P'))) := hide fun P' => ⟨setRow_heap _ _ _ (pnc P') _ _ A2.out, HT2.out.trans (S' := fun g => g = D) ⟨rfl, rfl, rfl, by simp, fun j _ hj => setRow_other _ _ j _ hj⟩ (fun g hg e => by have := HD.out; omega)⟩
  cases o with
  | none =>
    go_wp2_with (refine wpList_store_rowTo rfl 40 (.tmp 2) (.tmp 13) rfl rfl D (pnc pn0) rfl rfl 40 _ A2.out hi9 rfl hq0.out ?_)
    refine bodyPost_ret (results_cell_one rfl _ _ _ _ _ _ _ rfl (E3.out pn0).1 Tryz.underlying40 rfl (by kernel_rfl) _ rfl) rfl ?_
    exact ⟨⟨none, HO.out, rfl⟩, (E3.out pn0).2⟩
  | some p =>
    obtain rfl : p = P := HP.out
    obtain ⟨⟨c0, c1, c2, c3, c4⟩, c5, c6, c7, c8⟩ := pn_cells Z1.out
    go_wp2_with (refine wpList_store_rowTo rfl 40 (.tmp 2) (.tmp 14) rfl rfl D (pnc p) rfl rfl 40 _ A2.out hi9 rfl hq1.out ?_)
    refine bodyPost_ret (results_cell_one rfl _ _ _ _ _ _ _ rfl (E3.out p).1 Tryz.underlying40 rfl (by kernel_rfl) _ rfl) rfl ?_
    exact ⟨⟨some p, HO.out, rfl⟩, (E3.out p).2⟩

end Go.Proofs.YtamfcmmhmfhhkaaGreatDoor

namespace Go.Proofs.YtamfcmmhmfhhkaaGreatDoor.LM
open Go.RowKit

/-- A tree in memory, told by what it holds in order. -/
inductive TL (w : World) : Value → List (ByteArray × (Option Addr × Nat × Nat)) → Prop
  | nil : TL w (.pointer none) []
  | node {b : Nat} {k : ByteArray} {v : (Option Addr × Nat × Nat)} {p q : Option Addr} {L R : List (ByteArray × (Option Addr × Nat × Nat))}
      (hb : w.heap[b]? = some (.cells #[.string k, .slice v.1 v.2.1 v.2.2, .int .i64 (((L.length + 1 + R.length : Nat)) : Int), .pointer p, .pointer q] 85 (0, 0)))
      (hl : TL w (.pointer p) L) (hr : TL w (.pointer q) R) : TL w (.pointer (some ⟨b, 0, none⟩)) (L ++ (k, v) :: R)

theorem TL.calm {w w' : World} {p : Value} {L : List (ByteArray × (Option Addr × Nat × Nat))} (h : TL w p L) (ht : Calm w w') : TL w' p L := by
  induction h with
  | nil => exact .nil
  | node hb _ _ il ir => exact .node (ht.at hb) il ir

theorem TL.ptr {w : World} {p : Value} {L : List (ByteArray × (Option Addr × Nat × Nat))} (h : TL w p L) : ∃ a, p = .pointer a := by cases h <;> exact ⟨_, rfl⟩

theorem TL.none_of {w : World} {p : Value} (h : TL w p []) : p = .pointer none := by
  generalize hX : ([] : List (ByteArray × (Option Addr × Nat × Nat))) = X at h
  cases h with
  | nil => rfl
  | node => simp at hX

theorem TL.some_of {w : World} {p : Option Addr} {X : List (ByteArray × (Option Addr × Nat × Nat))} (h : TL w (.pointer p) X) (hne : X ≠ []) : ∃ b, p = some b := by
  cases h with
  | nil => exact absurd rfl hne
  | node => exact ⟨_, rfl⟩

set_option maxRecDepth 100000 in
theorem size_any (p : Value) (L : List (ByteArray × (Option Addr × Nat × Nat))) (w : World) (h : TL w p L) : Calls Tryz.prog 110 #[p] w fun e w' => e = .returned (.int .i64 (L.length : Nat)) ∧ w' = w := by
  cases h with
  | nil =>
    go_enter Tryz.func110, Tryz.ntmps110
    go_wp2_with fail
    go_ret
    exact ⟨rfl, rfl⟩
  | node hb hl hr =>
    obtain ⟨c0, c1, c2, c3, c4⟩ := cells5 hb
    rename_i b k v p q L R
    have e : (L ++ (k, v) :: R).length = L.length + 1 + R.length := by simp; omega
    rw [e]
    generalize L.length + 1 + R.length = n at *
    go_enter Tryz.func110, Tryz.ntmps110
    go_wp2_with fail
    go_ret
    exact ⟨rfl, rfl⟩

end Go.Proofs.YtamfcmmhmfhhkaaGreatDoor.LM

namespace Go.Proofs.YtamfcmmhmfhhkaaGreatDoor.LM
open Go.RowKit

/-- So many keys can be counted, and thrice as many. -/
structure Low (n : Nat) : Prop where
  le : n ≤ 1152921504606846976

/-- A node's own cells. -/
def Nd (w : World) (b : Nat) (k : ByteArray) (v : (Option Addr × Nat × Nat)) (p q : Option Addr) : Prop :=
  ∃ n : Int, w.heap[b]? = some (.cells #[.string k, .slice v.1 v.2.1 v.2.2, .int .i64 n, .pointer p, .pointer q] 85 (0, 0))

theorem Nd.calm {w w' : World} {b : Nat} {k : ByteArray} {v : (Option Addr × Nat × Nat)} {p q : Option Addr} (h : Nd w b k v p q) (ht : Calm w w') : Nd w' b k v p q := by
  obtain ⟨n, h⟩ := h
  exact ⟨n, ht.at h⟩

/-- What stands in order: A on side s, B on the other one. -/
def row (s : Int) (x : ByteArray × (Option Addr × Nat × Nat)) (A B : List (ByteArray × (Option Addr × Nat × Nat))) : List (ByteArray × (Option Addr × Nat × Nat)) := if s = 0 then A ++ x :: B else B ++ x :: A

theorem row0 (x : ByteArray × (Option Addr × Nat × Nat)) (A B : List (ByteArray × (Option Addr × Nat × Nat))) : row 0 x A B = A ++ x :: B := rfl
theorem row1 (x : ByteArray × (Option Addr × Nat × Nat)) (A B : List (ByteArray × (Option Addr × Nat × Nat))) : row 1 x A B = B ++ x :: A := rfl

theorem wrap_1 {n : Nat} (h : n + 1 < 9223372036854775808) : wrap64 ((n : Int) + 1) = ((n + 1 : Nat) : Int) := by unfold wrap64; omega

set_option maxRecDepth 100000 in
theorem weight_any (p : Value) (L : List (ByteArray × (Option Addr × Nat × Nat))) (w : World) (h : TL w p L) (hl : Low L.length) : Calls Tryz.prog 95 #[p] w fun e w' => e = .returned (.int .i64 (L.length + 1 : Nat)) ∧ w' = w := by
  have S := hide (size_any p L w h)
  have W := hide (wrap_1 (n := L.length) (by have := hl.le; omega))
  obtain ⟨a, rfl⟩ := h.ptr
  clear h hl
  generalize L.length = n at *
  go_enter Tryz.func95, Tryz.ntmps95
  go_wp2_with fail
  refine S.out.mono ?_
  rintro e w' ⟨rfl, rfl⟩
  go_wp2_with fail
  go_ret
  exact ⟨by rw [W.out]; rfl, rfl⟩

set_option maxRecDepth 100000 in
theorem pair0_any (p q : Option Addr) (w : World) : Calls Tryz.prog 82 #[.int .i64 0, .pointer p, .pointer q] w fun e w' => e = .returned (.agg #[.pointer p, .pointer q]) ∧ Calm w w' := by
  go_enter Tryz.func82, Tryz.ntmps82
  go_wp2_with fail
  refine bodyPost_ret (results_cell_row rfl _ _ _ _ _ _ _ rfl ((Below.heap_alloc _ _ _ (by simp)).trans (heap_alloc_last w _)) Tryz.underlying83 rfl (by kernel_rfl)) rfl ?_
  exact ⟨rfl, ((Touch.refl _ _).alloc _).alloc _⟩

set_option maxRecDepth 100000 in
theorem pair1_any (p q : Option Addr) (w : World) : Calls Tryz.prog 82 #[.int .i64 1, .pointer p, .pointer q] w fun e w' => e = .returned (.agg #[.pointer q, .pointer p]) ∧ Calm w w' := by
  go_enter Tryz.func82, Tryz.ntmps82
  go_wp2_with fail
  refine bodyPost_ret (results_cell_row rfl _ _ _ _ _ _ _ rfl ((Below.heap_alloc _ _ _ (by simp)).trans (heap_alloc_last w _)) Tryz.underlying83 rfl (by kernel_rfl)) rfl ?_
  exact ⟨rfl, ((Touch.refl _ _).alloc _).alloc _⟩

theorem over_sum {l r : Nat} (h : Low (l + 1 + r)) : wrap64 (wrap64 ((l : Int) + 1) + (r : Int)) = ((l + 1 + r : Nat) : Int) := by have := h.le; unfold wrap64; omega

set_option maxRecDepth 100000 in
set_option maxHeartbeats 2000000 in
theorem over_any (b : Nat) (k : ByteArray) (v : (Option Addr × Nat × Nat)) (x y p q : Option Addr) (L R : List (ByteArray × (Option Addr × Nat × Nat))) (w : World) (hn : Nd w b k v x y) (hp : TL w (.pointer p) L) (hq : TL w (.pointer q) R) (hl : Low (L.length + 1 + R.length)) :
    Calls Tryz.prog 97 #[.pointer (some ⟨b, 0, none⟩), .agg #[.pointer p, .pointer q]] w fun e w' => ∃ b', e = .returned (.pointer (some ⟨b', 0, none⟩)) ∧ TL w' (.pointer (some ⟨b', 0, none⟩)) (L ++ (k, v) :: R) ∧ Nd w' b' k v p q ∧ Calm w w' := by
  have W := hide (over_sum hl)
  have SP := hide (fun (W : World) (h : Calm w W) => size_any (.pointer p) L W (hp.calm h))
  have SQ := hide (fun (W : World) (h : Calm w W) => size_any (.pointer q) R W (hq.calm h))
  have HP := hide hp
  have HQ := hide hq
  have T := hide ((Touch.refl (fun _ => False) w).alloc (.cells #[.pointer p, .pointer q] 83))
  obtain ⟨n, hb⟩ := hn
  have HB0 := hide hb
  clear hp hq hl hb
  generalize hll : L.length = l at *
  generalize hrr : R.length = r at *
  have HL := hide hll
  have HR := hide hrr
  clear hll hrr
  go_enter Tryz.func97, Tryz.ntmps97
  go_wp2_with fail
  have HA0 : Hid ((w.alloc (.cells #[.pointer p, .pointer q] 83)).heap[w.heap.size]? = some (.cells #[.pointer p, .pointer q] 83 (0, 0))) := hide (heap_alloc_last w _)
  generalize w.alloc (.cells #[.pointer p, .pointer q] 83) = w0 at *
  refine wp_region_held (S := Calm w0) (by kernel_rfl) ?_
  have hT0 : Calm w0 { w0 with drawn := w0.drawn + 1 } := (Touch.refl (fun _ => False) w0).drew
  refine wpAnyH_yield 0 6 (.pointer (some ⟨w.heap.size, 0, none⟩)) rfl rfl (by kernel_rfl) (by kernel_rfl) (by kernel_rfl) (fun _ _ _ h => h) (by kernel_rfl) (fun W hW => by go_simp) (by assumption) rfl rfl ?_
  simp only [Act.put, List.setIfInBounds_toArray, List.set_cons_zero, List.set_cons_succ]
  refine wpAnyH_yield 1 7 (.pointer p) rfl rfl (by kernel_rfl) (by kernel_rfl) (by kernel_rfl) (fun _ _ _ h => h) (by kernel_rfl) (fun W hW => by obtain ⟨c0, c1⟩ := cells2 (hW.at HA0.out); go_simp) (by assumption) rfl rfl ?_
  simp only [Act.put, List.setIfInBounds_toArray, List.set_cons_zero, List.set_cons_succ]
  refine wpAnyH_yield 4 10 (.pointer (some ⟨w.heap.size, 1, none⟩)) rfl rfl (by kernel_rfl) (by kernel_rfl) (by kernel_rfl) (fun _ _ _ h => h) (by kernel_rfl) (fun W hW => by go_simp) (by assumption) rfl rfl ?_
  simp only [Act.put, List.setIfInBounds_toArray, List.set_cons_zero, List.set_cons_succ]
  refine wpAnyH_yield 5 11 (.pointer q) rfl rfl (by kernel_rfl) (by kernel_rfl) (by kernel_rfl) (fun _ _ _ h => h) (by kernel_rfl) (fun W hW => by obtain ⟨c0, c1⟩ := cells2 (hW.at HA0.out); go_simp) (by assumption) rfl rfl ?_
  simp only [Act.put, List.setIfInBounds_toArray, List.set_cons_zero, List.set_cons_succ]
  refine wpAnyH_enter 2 8 110 #[.pointer p] rfl rfl (by kernel_rfl) (by kernel_rfl) (by kernel_rfl) ?_
  refine (SP.out _ (T.out.tr hT0)).mono ?_
  rintro r _ ⟨rfl, rfl⟩
  refine ⟨_, rfl, hT0, ?_⟩
  simp only [Act.put, List.setIfInBounds_toArray, List.set_cons_zero, List.set_cons_succ]
  refine wpAnyH_yield 3 9 (.int .i64 (wrap64 ((l : Int) + 1))) rfl rfl (by kernel_rfl) (by kernel_rfl) (by kernel_rfl) (fun _ _ _ h => h) (by kernel_rfl) (fun W hW => by go_simp; rw [wrapEq]) (by assumption) rfl rfl ?_
  simp only [Act.put, List.setIfInBounds_toArray, List.set_cons_zero, List.set_cons_succ]
  refine wpAnyH_enter 6 12 110 #[.pointer q] rfl rfl (by kernel_rfl) (by kernel_rfl) (by kernel_rfl) ?_
  refine (SQ.out _ (T.out.tr hT0)).mono ?_
  rintro r _ ⟨rfl, rfl⟩
  refine ⟨_, rfl, hT0, ?_⟩
  simp only [Act.put, List.setIfInBounds_toArray, List.set_cons_zero, List.set_cons_succ]
  refine wpAnyH_yield 7 13 (.int .i64 (wrap64 (wrap64 ((l : Int) + 1) + (r : Int)))) rfl rfl (by kernel_rfl) (by kernel_rfl) (by kernel_rfl) (fun _ _ _ h => h) (by kernel_rfl) (fun W hW => by go_simp; rw [wrapEq]) (by assumption) rfl rfl ?_
  simp only [Act.put, List.setIfInBounds_toArray, List.set_cons_zero, List.set_cons_succ]
  refine wpAnyH_yield 8 5 (.int .i64 (wrap64 (wrap64 ((l : Int) + 1) + (r : Int)))) rfl rfl (by kernel_rfl) (by kernel_rfl) (by kernel_rfl) (fun _ _ _ h => h) (by kernel_rfl) (fun W hW => by kernel_rfl) (by assumption) rfl rfl ?_
  simp only [Act.put, List.setIfInBounds_toArray, List.set_cons_zero, List.set_cons_succ]
  refine wpAnyH_done (by kernel_rfl) ?_ _
  rw [W.out]
  have T1 := T.out.tr hT0
  have HA := hide (hT0.at HA0.out)
  generalize ({ w0 with drawn := w0.drawn + 1 } : World) = w1 at *
  clear hT0 T
  go_wp2_with fail
  have HB := hide (T1.at HB0.out)
  generalize hm : l + 1 + r = m at *
  refine wp_region_held (S := Calm w1) (by kernel_rfl) ?_
  have hT : Calm w1 { w1 with drawn := w1.drawn + 1 } := (Touch.refl (fun _ => False) w1).drew
  refine wpAnyH_yield 0 14 (.pointer (some ⟨b, 0, none⟩)) rfl rfl (by kernel_rfl) (by kernel_rfl) (by kernel_rfl) (fun _ _ _ h => h) (by kernel_rfl) (fun W hW => by kernel_rfl) (by assumption) rfl rfl ?_
  simp only [Act.put, List.setIfInBounds_toArray, List.set_cons_zero, List.set_cons_succ]
  refine wpAnyH_yield 1 15 (.pointer (some ⟨b, 0, none⟩)) rfl rfl (by kernel_rfl) (by kernel_rfl) (by kernel_rfl) (fun _ _ _ h => h) (by kernel_rfl) (fun W hW => by kernel_rfl) (by assumption) rfl rfl ?_
  simp only [Act.put, List.setIfInBounds_toArray, List.set_cons_zero, List.set_cons_succ]
  refine wpAnyH_yield 2 16 (.pointer (some ⟨b, 0, none⟩)) rfl rfl (by kernel_rfl) (by kernel_rfl) (by kernel_rfl) (fun _ _ _ h => h) (by kernel_rfl) (fun W hW => by go_simp) (by assumption) rfl rfl ?_
  simp only [Act.put, List.setIfInBounds_toArray, List.set_cons_zero, List.set_cons_succ]
  refine wpAnyH_yield 3 17 (.string k) rfl rfl (by kernel_rfl) (by kernel_rfl) (by kernel_rfl) (fun _ _ _ h => h) (by kernel_rfl) (fun W hW => by obtain ⟨c0, c1, c2, c3, c4⟩ := cells5 (hW.at HB.out); go_simp) (by assumption) rfl rfl ?_
  simp only [Act.put, List.setIfInBounds_toArray, List.set_cons_zero, List.set_cons_succ]
  refine wpAnyH_yield 4 18 (.pointer (some ⟨b, 0, none⟩)) rfl rfl (by kernel_rfl) (by kernel_rfl) (by kernel_rfl) (fun _ _ _ h => h) (by kernel_rfl) (fun W hW => by kernel_rfl) (by assumption) rfl rfl ?_
  simp only [Act.put, List.setIfInBounds_toArray, List.set_cons_zero, List.set_cons_succ]
  refine wpAnyH_yield 5 19 (.pointer (some ⟨b, 0, none⟩)) rfl rfl (by kernel_rfl) (by kernel_rfl) (by kernel_rfl) (fun _ _ _ h => h) (by kernel_rfl) (fun W hW => by kernel_rfl) (by assumption) rfl rfl ?_
  simp only [Act.put, List.setIfInBounds_toArray, List.set_cons_zero, List.set_cons_succ]
  refine wpAnyH_yield 6 20 (.pointer (some ⟨b, 1, none⟩)) rfl rfl (by kernel_rfl) (by kernel_rfl) (by kernel_rfl) (fun _ _ _ h => h) (by kernel_rfl) (fun W hW => by go_simp) (by assumption) rfl rfl ?_
  simp only [Act.put, List.setIfInBounds_toArray, List.set_cons_zero, List.set_cons_succ]
  refine wpAnyH_yield 7 21 (.slice v.1 v.2.1 v.2.2) rfl rfl (by kernel_rfl) (by kernel_rfl) (by kernel_rfl) (fun _ _ _ h => h) (by kernel_rfl) (fun W hW => by obtain ⟨c0, c1, c2, c3, c4⟩ := cells5 (hW.at HB.out); go_simp) (by assumption) rfl rfl ?_
  simp only [Act.put, List.setIfInBounds_toArray, List.set_cons_zero, List.set_cons_succ]
  refine wpAnyH_yield 8 22 (.int .i64 (m : Int)) rfl rfl (by kernel_rfl) (by kernel_rfl) (by kernel_rfl) (fun _ _ _ h => h) (by kernel_rfl) (fun W hW => by kernel_rfl) (by assumption) rfl rfl ?_
  simp only [Act.put, List.setIfInBounds_toArray, List.set_cons_zero, List.set_cons_succ]
  refine wpAnyH_yield 9 23 (.agg #[.pointer p, .pointer q]) rfl rfl (by kernel_rfl) (by kernel_rfl) (by kernel_rfl) (fun _ _ _ h => h) (by kernel_rfl) (fun W hW => by obtain ⟨c0, c1⟩ := cells2 (hW.at HA.out); go_simp) (by assumption) rfl rfl ?_
  simp only [Act.put, List.setIfInBounds_toArray, List.set_cons_zero, List.set_cons_succ]
  refine wpAnyH_yield 10 24 (.agg #[.string k, .slice v.1 v.2.1 v.2.2, .int .i64 (m : Int), .pointer p, .pointer q]) rfl rfl (by kernel_rfl) (by kernel_rfl) (by kernel_rfl) (fun _ _ _ h => h) (by kernel_rfl) (fun W hW => by go_simp) (by assumption) rfl rfl ?_
  simp only [Act.put, List.setIfInBounds_toArray, List.set_cons_zero, List.set_cons_succ]
  refine wpAnyH_value 11 25 (.pointer (some ⟨w1.heap.size, 0, none⟩)) (w' := w1.drew.alloc (.cells #[.string k, .slice v.1 v.2.1 v.2.2, .int .i64 (m : Int), .pointer p, .pointer q] 85)) rfl rfl (by kernel_rfl) (by kernel_rfl) (by go_simp) (((Touch.refl (fun _ => False) w1).drew).alloc _) ?_
  simp only [Act.put, List.setIfInBounds_toArray, List.set_cons_zero, List.set_cons_succ]
  have hT2 : Calm w1 (w1.drew.alloc (.cells #[.string k, .slice v.1 v.2.1 v.2.2, .int .i64 (m : Int), .pointer p, .pointer q] 85)) := ((Touch.refl (fun _ => False) w1).drew).alloc _
  have hN2 : (w1.drew.alloc (.cells #[.string k, .slice v.1 v.2.1 v.2.2, .int .i64 (m : Int), .pointer p, .pointer q] 85)).heap[w1.heap.size]? = some (.cells #[.string k, .slice v.1 v.2.1 v.2.2, .int .i64 (m : Int), .pointer p, .pointer q] 85 (0, 0)) := heap_alloc_last w1.drew _
  generalize w1.drew.alloc (.cells #[.string k, .slice v.1 v.2.1 v.2.2, .int .i64 (m : Int), .pointer p, .pointer q] 85) = w2 at *
  refine wpAnyH_yield 12 4 (.pointer (some ⟨w1.heap.size, 0, none⟩)) rfl rfl (by kernel_rfl) (by kernel_rfl) (by kernel_rfl) (fun _ _ _ h => h) (by kernel_rfl) (fun W hW => by kernel_rfl) (by assumption) rfl rfl ?_
  simp only [Act.put, List.setIfInBounds_toArray, List.set_cons_zero, List.set_cons_succ]
  refine wpAnyH_done (by kernel_rfl) ?_ _
  go_wp2_with fail
  go_ret
  have T2 := T1.tr hT2
  refine ⟨_, rfl, .node ?_ (HP.out.calm T2) (HQ.out.calm T2), ⟨_, hN2⟩, T2⟩
  rw [HL.out, HR.out, hm]
  exact hN2

end Go.Proofs.YtamfcmmhmfhhkaaGreatDoor.LM
