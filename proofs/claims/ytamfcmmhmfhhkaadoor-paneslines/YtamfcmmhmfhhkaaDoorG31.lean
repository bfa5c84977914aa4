/- A line read (the program's read; the walk). The program's Parse. The program's Read. -/
import Derived.Test.YtamfcmmhmfhhkaaDoorG30
import Derived.WalkMore
import Derived.Deep.CutRange
import Derived.Test.YtamfcmmhmfhhkaaDoorG16
import Derived.Lib.IndexBytes
namespace Go.Proofs.YtamfcmmhmfhhkaaDoor
open Go.RowKit

set_option maxRecDepth 100000 in
set_option maxHeartbeats 16000000 in
theorem read_any (s : ByteArray) (hs : s.size ≤ 900000) (w : World) (hy : Yv w) : Calls Tryd.prog 34 #[.string s] w fun e w' => (∃ o, ParR s o ∧ e = .returned (.tuple #[pnv (o.getD pn0), .bool o.isSome])) ∧ Calm w w' := by
  have HYv : Hid (∀ W, Calm w W → Yv W) := hide fun W hW => hy.calm hW
  -- the three blocks
  have A0 := al_new w (.cells (pnc pn0) 29)
  have S0 := al_size w (.cells (pnc pn0) 29)
  have S1 := al_size (w.alloc (.cells (pnc pn0) 29)) (.cells #[.string s] 86)
  have A1 := al_old A0 (.cells #[.string s] 86)
  have B1 := al_new (w.alloc (.cells (pnc pn0) 29)) (.cells #[.string s] 86)
  have A2 := al_old A1 (.cells (f7c fun _ => 0) 76)
  have B2 := al_old B1 (.cells (f7c fun _ => 0) 76)
  have C2 := al_new ((w.alloc (.cells (pnc pn0) 29)).alloc (.cells #[.string s] 86)) (.cells (f7c fun _ => 0) 76)
  have S2 := al_size ((w.alloc (.cells (pnc pn0) 29)).alloc (.cells #[.string s] 86)) (.cells (f7c fun _ => 0) 76)
  rw [S1, S0] at C2
  rw [S0] at B2
  have M0 : Hid (RdM w (((w.alloc (.cells (pnc pn0) 29)).alloc (.cells #[.string s] 86)).alloc (.cells (f7c fun _ => 0) 76)) w.heap.size s.toList (fun _ => 0) (.slice none ([] : List Int).length 0) []) := hide
    ⟨A2, by unfold Crs; rw [bl_of]; exact B2, C2, Rc.Own.nil _ _ _, (((Touch.refl (fun _ => False) w).alloc _).alloc _).alloc _, by rw [S2, S1, S0]; omega, rfl⟩
  clear A0 S0 S1 A1 B1 A2 B2 C2 S2 hy
  have TK := hide (fun R n q W h => take_any R n q W h)
  have NX := hide (fun R q W h => next_any R q W h)
  have CO := hide (fun R q W h => code_any R q W h)
  have WD := hide (fun R hl q W h => word_any R hl q W h)
  have KN := hide (fun t W h => kindOf_any t W h)
  have NU := hide (fun t ht W h => numberOf_any t ht W h)
  have IT := hide (fun b W => itself_any b W)
  have PA := hide (fun k d f W => paneOf_any k d f W)
  go_enter Tryd.func34, Tryd.ntmps34
  go_wp2_with fail
  refine wp_scope_fall (fun l a W => AtQ s w.heap.size w l a W) (fun l _ W => rkQ w.heap.size l W) ?_ ?_
  · intro hp
    have C0 := TK.out s.toList 34 (w.heap.size + 1) _ M0.out.crs
    have HC0 := hide C0
    clear C0 HYv NX CO WD KN NU IT PA TK
    cases ht : tkB s.toList 34 with
    | false =>
      rw [ht] at HC0
      have HN : Hid (NoP s) := hide (NoP.first fun b R e => tkB_no ht b R e)
      clear ht hp
      go_wp2_with fail
      refine HC0.out.mono ?_
      rintro r w1 ⟨rfl, h1, t1⟩
      have M1 := hide (M0.out.step h1 t1)
      clear h1 t1 HC0 M0
      go_wp2_with fail
      go_step3
      show At0 s w.heap.size w _ _
      exact ⟨_, _, _, _, frq, HN.out, M1.out.res, M1.out.calm, rfl⟩
    | true =>
      rw [ht] at HC0
      obtain ⟨b, R', e, hb⟩ := tkB_yes ht
      have hb' : b = 34 := UInt8.toNat_inj.1 (by rw [hb]; rfl)
      subst hb'
      have HK0 : Hid (Ks s 1 [] R') := hide (Ks.start e)
      have e2 : s.toList.tail = R' := by rw [e]; rfl
      rw [e2] at HC0
      clear ht hb e e2
      go_wp2_with fail
      refine HC0.out.mono ?_
      rintro r w1 ⟨rfl, h1, t1⟩
      have M1 := hide (M0.out.step h1 t1)
      clear h1 t1 HC0 M0
      go_wp2_with fail
      go_step3
      rename_i hK
      refine hK _ _ (hp.out 1 _ _ _ ?_ rfl)
      show At1q s w.heap.size w _ _
      exact ⟨1, [], R', _, _, _, frq, HK0, by simp, M1.out⟩
  · intro l a0 W0 hl hf
    clear M0
    by_cases l0 : l = 0
    · subst l0
      obtain ⟨v5, v6, v8, f, rfl, hn, hr, hc, -⟩ : At0 s w.heap.size w a0 W0 := hl
      have HN := hide hn
      have HR := hide hr
      have HC := hide hc
      clear hn hr hc hf HYv NX CO WD KN NU IT PA TK
      refine ⟨_, rfl, ?_⟩
      unfold FrQ
      have Q2 : Hid (Calm w (W0.setRow w.heap.size (pnc pn0))) := hide (HC.out.trans (S' := fun g => g = w.heap.size) ⟨rfl, rfl, rfl, by simp, fun j _ hj => setRow_other _ _ j _ hj⟩ (fun g hg e => by omega))
      generalize w.heap.size = D at *
      have hi9 : (Tryd.prog.info? 29).map (·.size) = some 9 := by kernel_rfl
      have hq1 : Hid ((pnc pn0).all (·.oneCell') = true) := hide (by simp [Value.oneCell'])
      have Q1 := hide (setRow_heap _ _ _ (pnc pn0) _ _ HR.out)
      go_wp2_with (refine wpList_store_rowTo rfl 29 (.tmp 2) (.tmp 83) rfl rfl D (pnc pn0) rfl rfl 29 _ HR.out hi9 rfl hq1.out ?_)
      simp only [jumps]
      refine bodyPost_ret (results_cell_one rfl _ _ _ _ _ _ _ rfl Q1.out Tryd.underlying29 rfl (by kernel_rfl) _ rfl) rfl ?_
      exact ⟨⟨none, HN.out, rfl⟩, Q2.out⟩
    by_cases l1 : l = 1
    · subst l1
      obtain ⟨i, A, R, a5, c5, f, rfl, HK, hA, hm⟩ : At1q s w.heap.size w a0 W0 := hl
      have HM := hide hm
      have RL := hm.crs.rl
      refine ⟨_, rfl, ?_⟩
      unfold FrQ
      clear hm hf HYv CO WD KN NU PA TK
      cases R with
      | nil =>
        have N1 : Hid (Calls Tryd.prog 48 #[.pointer (some ⟨w.heap.size + 1, 0, none⟩)] W0 fun e w' => e = .returned (.tuple #[.int .u8 0, .bool false]) ∧ Crs w' (w.heap.size + 1) [] ∧ Touch (fun g => g = w.heap.size + 1) W0 w') := hide (NX.out [] _ _ HM.out.crs)
        have HN := hide HK.out.past
        clear NX IT HK
        go_wp2_with fail
        refine N1.out.mono ?_
        rintro r w1 ⟨rfl, h1, t1⟩
        have ML := HM.out.loose t1
        clear h1 t1 N1 HM
        go_wp2_with fail
        go_step3
        refine ⟨?_, ?_⟩
        · show At0 s w.heap.size w _ _
          exact ⟨_, _, _, _, frq, HN.out, ML.1, ML.2, rfl⟩
        · show rkQ _ 0 _ < rkQ _ 1 _
          rw [rk0, rk1]
          omega
      | cons b R =>
        have N1 : Hid (Calls Tryd.prog 48 #[.pointer (some ⟨w.heap.size + 1, 0, none⟩)] W0 fun e w' => e = .returned (.tuple #[.int .u8 (b.toNat : Int), .bool true]) ∧ Crs w' (w.heap.size + 1) R ∧ Touch (fun g => g = w.heap.size + 1) W0 w') := hide (NX.out (b :: R) _ _ HM.out.crs)
        have RL2 : rlW w.heap.size W0 = R.length + 1 := RL
        by_cases hlen : 256 < A.length
        · have hlz : (256 : Int) < (A.length : Int) := by omega
          have HN := hide (HK.out.long hlen)
          clear NX IT HK hlen
          go_wp2_with fail
          refine N1.out.mono ?_
          rintro r w1 ⟨rfl, h1, t1⟩
          have ML := HM.out.loose t1
          clear h1 t1 N1 HM
          go_wp2_with fail
          go_step3
          refine ⟨?_, ?_⟩
          · show At0 s w.heap.size w _ _
            exact ⟨_, _, _, _, frq, HN.out, ML.1, ML.2, rfl⟩
          · show rkQ _ 0 _ < rkQ _ 1 _
            rw [rk0, rk1]
            omega
        have hlz : ¬ (256 : Int) < (A.length : Int) := by omega
        have hA2 : A.length ≤ 256 := by omega
        by_cases h34 : b.toNat = 34
        · have hb : b = 34 := UInt8.toNat_inj.1 (by rw [h34]; rfl)
          have h34z : ((b.toNat : Int) == 34) = true := by rw [beq_iff_eq]; omega
          have HKb : Hid (Kb s (strOfNums A) R) := hide (by have h := HK.out; rw [hb] at h; exact h.last)
          clear NX IT HK h34 hb
          generalize (b.toNat : Int) = bn at *
          go_wp2_with fail
          refine N1.out.mono ?_
          rintro r w1 ⟨rfl, h1, t1⟩
          have M1 := hide (HM.out.step h1 t1)
          clear h1 t1 N1 HM
          go_wp2_with fail
          go_step3
          refine ⟨?_, ?_⟩
          · show At2q s w.heap.size w _ _
            exact ⟨A, R, _, _, _, frq, HKb, hA2, M1.out⟩
          · show rkQ _ 2 _ < rkQ _ 1 _
            have := M1.out.crs.rl
            rw [rk2, rk1, this, RL2]
            omega
        have h34z : ((b.toNat : Int) == 34) = false := by rw [beq_eq_false_iff_ne]; omega
        by_cases h92 : b.toNat = 92
        · have hb : b = 92 := UInt8.toNat_inj.1 (by rw [h92]; rfl)
          have h92z : ((b.toNat : Int) == 92) = true := by rw [beq_iff_eq]; omega
          have HK3 : Hid (Ks s i A (92 :: R)) := hide (by have h := HK.out; rw [hb] at h; exact h)
          clear NX IT HK h34 h92 hb
          generalize (b.toNat : Int) = bn at *
          go_wp2_with fail
          refine N1.out.mono ?_
          rintro r w1 ⟨rfl, h1, t1⟩
          have M1 := hide (HM.out.step h1 t1)
          clear h1 t1 N1 HM
          go_wp2_with fail
          go_step3
          refine ⟨?_, ?_⟩
          · show At3 s w.heap.size w _ _
            exact ⟨i, A, R, _, _, _, frq, HK3, hA2, M1.out⟩
          · show rkQ _ 3 _ < rkQ _ 1 _
            have := M1.out.crs.rl
            rw [rk3, rk1, this, RL2]
            omega
        have h92z : ((b.toNat : Int) == 92) = false := by rw [beq_eq_false_iff_ne]; omega
        have I1 := hide (fun W => IT.out (b.toNat : Int) W)
        cases hit : itB (b.toNat : Int) with
        | false =>
          rw [hit] at I1
          have HN := hide (HK.out.odd h34 h92 hit)
          clear NX IT HK h34 h92 hit
          generalize (b.toNat : Int) = bn at *
          go_wp2_with fail
          refine N1.out.mono ?_
          rintro r w1 ⟨rfl, h1, t1⟩
          have ML := HM.out.loose t1
          clear h1 t1 N1 HM
          go_wp2_with fail
          refine (I1.out _).mono ?_
          rintro r w2 ⟨rfl, hq⟩
          obtain rfl := hq.symm
          clear hq I1
          go_wp2_with fail
          go_step3
          refine ⟨?_, ?_⟩
          · show At0 s w.heap.size w _ _
            exact ⟨_, _, _, _, frq, HN.out, ML.1, ML.2, rfl⟩
          · show rkQ _ 0 _ < rkQ _ 1 _
            rw [rk0, rk1]
            omega
        | true =>
          rw [hit] at I1
          have HK1 := hide (HK.out.plain hit)
          clear NX IT HK h34 h92 hit
          generalize (b.toNat : Int) = bn at *
          go_wp2_with fail
          refine N1.out.mono ?_
          rintro r w1 ⟨rfl, h1, t1⟩
          have m1 := HM.out.step h1 t1
          obtain ⟨a4, p4, w4, hr, ow, t4⟩ := by_app bn m1.row m1.big (by omega)
          have M4 := hide (m1.grow ow t4)
          obtain ⟨n4, hn4⟩ : ∃ n4, n4 = A.length + 1 := ⟨_, rfl⟩
          rw [← hn4] at hr
          have HR := hide hr
          have HN4 : Hid (n4 = (A ++ [bn]).length) := hide (by rw [hn4]; exact (len_snoc _ _).symm)
          clear h1 t1 N1 HM m1 hr ow t4 hn4
          go_wp2_with fail
          refine (I1.out _).mono ?_
          rintro r w2 ⟨rfl, hq⟩
          obtain rfl := hq.symm
          clear hq I1
          go_wp2_with (at_builtin; refine Rc.wpList_appR rfl (.tmp 37) (.tmp 39) 55 55 rfl _ _ _ rfl rfl HR.out ?_)
          go_step3
          obtain rfl := HN4.out
          refine ⟨?_, ?_⟩
          · show At1q s w.heap.size w _ _
            exact ⟨i + 1, A ++ [bn], R, _, _, _, frq, HK1, by rw [len_snoc]; omega, M4.out⟩
          · show rkQ _ 1 _ < rkQ _ 1 _
            have := M4.out.crs.rl
            rw [rk1, rk1, this, RL2]
            omega
    by_cases l2 : l = 2
    · subst l2
      obtain ⟨A, R, a5, c5, f, rfl, HK, hA, hm⟩ : At2q s w.heap.size w a0 W0 := hl
      have HM := hide hm
      have RL := hm.crs.rl
      have hRl : R.length ≤ 900000 := Nat.le_trans HK.out.len hs
      have T1 := hide (TK.out R 32 _ _ hm.crs)
      refine ⟨_, rfl, ?_⟩
      unfold FrQ
      clear hm CO NX IT NU PA TK
      cases ht : tkB R 32 with
      | false =>
        rw [ht] at T1
        have HN := hide (HK.out.none ht)
        clear hf HYv WD KN HK ht
        go_wp2_with fail
        refine T1.out.mono ?_
        rintro r w1 ⟨rfl, h1, t1⟩
        have ML := HM.out.loose t1
        clear h1 t1 T1 HM
        go_wp2_with fail
        go_step3
        refine ⟨?_, ?_⟩
        · show At0 s w.heap.size w _ _
          exact ⟨_, _, _, _, frq, HN.out, ML.1, ML.2, rfl⟩
        · show rkQ _ 0 _ < rkQ _ 2 _
          rw [rk0, rk2]
          omega
      | true =>
        rw [ht] at T1
        have HKi : Hid (∀ d : Int, 1 ≤ d → d ≤ 3 → nameB d = bl (wdL R.tail) → Nb s (strOfNums A) d (fun _ => 0) 0 (wdR R.tail)) := hide fun d h1 h2 h3 => HK.out.kind ht h1 h2 h3 _
        have HNo : Hid ((∀ d : Int, 1 ≤ d → d ≤ 3 → nameB d ≠ bl (wdL R.tail)) → NoP s) := hide fun h => HK.out.nokind ht h
        have hRt : R = 32 :: R.tail := tk_cons ht
        have hlR : R.length = R.tail.length + 1 := by rw [hRt]; rfl
        have hw0 := wdR_len R.tail
        generalize R.tail = R' at *
        clear HK ht hRt
        go_wp2_with fail
        refine T1.out.mono ?_
        rintro r w1 ⟨rfl, h1, t1⟩
        have M1 := hide (HM.out.step h1 t1)
        have W1 := hide (WD.out R' (by omega) _ _ h1)
        clear h1 t1 T1 HM WD
        go_wp2_with fail
        refine W1.out.mono ?_
        rintro r w2 ⟨rfl, h2, t2⟩
        have M2 := hide (M1.out.step h2 t2)
        have K2 := hide (KN.out (bl (wdL R')) w2 (HYv.out w2 M2.out.calm).kds)
        clear h2 t2 W1 M1 KN HYv
        generalize bl (wdL R') = t at *
        go_wp2_with fail
        refine K2.out.mono ?_
        rintro r w3 ⟨hk, t3⟩
        have M3 := hide (M2.out.stay t3)
        clear t3 K2 M2
        rcases hk with ⟨d, d1, d2, d3, rfl⟩ | ⟨rfl, hno⟩
        · have HB := hide (HKi.out d d1 d2 d3)
          have HD := hide (And.intro d1 d2)
          clear HKi HNo d1 d2 d3
          go_wp2_with fail
          go_step3
          rename_i hK
          refine hK _ _ (hf.out 4 _ _ _ ?_ ?_ rfl)
          · show At4 s w.heap.size w _ _
            exact ⟨A, wdR R', d, _, 0, _, _, _, frq, HB, hA, HD.out.1, HD.out.2, by omega, M3.out⟩
          · show rkQ _ 4 _ < rkQ _ 2 _
            have := M3.out.crs.rl
            rw [rk4, rk2, this, RL]
            omega
        · have HN := hide (HNo.out hno)
          have ML := And.intro M3.out.res M3.out.calm
          clear hno HKi HNo hf
          go_wp2_with fail
          go_step3
          refine ⟨?_, ?_⟩
          · show At0 s w.heap.size w _ _
            exact ⟨_, _, _, _, frq, HN.out, ML.1, ML.2, rfl⟩
          · show rkQ _ 0 _ < rkQ _ 2 _
            rw [rk0, rk2]
            omega
    by_cases l3 : l = 3
    · subst l3
      obtain ⟨i, A, R, a5, c5, f, rfl, HK, hA, hm⟩ : At3 s w.heap.size w a0 W0 := hl
      have HM := hide hm
      have RL := hm.crs.rl
      have C1 := hide (CO.out R _ _ hm.crs)
      refine ⟨_, rfl, ?_⟩
      unfold FrQ
      clear hm hf HYv CO NX IT WD KN NU PA TK
      go_wp2_with fail
      refine C1.out.mono ?_
      rintro r w1 ⟨hc, t1⟩
      rcases hc with ⟨h, l, R', rfl, h1, h2, h3, rfl, h4⟩ | ⟨rfl, h1⟩
      · have HK1 := hide (HK.out.code h1 h2 h3)
        have m1 := HM.out.step h4 t1
        have RL2 : rlW w.heap.size W0 = R'.length + 1 + 1 + 1 := RL
        generalize 16 * digX (h.toNat : Int) + digX (l.toNat : Int) = bn at *
        obtain ⟨a4, p4, w4, hr, ow, t4⟩ := by_app bn m1.row m1.big (by omega)
        have M4 := hide (m1.grow ow t4)
        obtain ⟨n4, hn4⟩ : ∃ n4, n4 = A.length + 1 := ⟨_, rfl⟩
        rw [← hn4] at hr
        have HR := hide hr
        have HN4 : Hid (n4 = (A ++ [bn]).length) := hide (by rw [hn4]; exact (len_snoc _ _).symm)
        clear h1 h2 h3 h4 t1 C1 HM m1 hr ow t4 hn4 HK RL
        go_wp2_with (at_builtin; refine Rc.wpList_appR rfl (.tmp 47) (.tmp 49) 55 55 rfl _ _ _ rfl rfl HR.out ?_)
        go_step3
        obtain rfl := HN4.out
        refine ⟨?_, ?_⟩
        · show At1q s w.heap.size w _ _
          exact ⟨i + 4, A ++ [bn], R', _, _, _, frq, HK1, by rw [len_snoc]; omega, M4.out⟩
        · show rkQ _ 1 _ < rkQ _ 3 _
          have := M4.out.crs.rl
          rw [rk1, rk3, this, RL2]
          omega
      · have HN := hide (HK.out.bad h1)
        have ML := HM.out.loose t1
        clear h1 t1 C1 HM HK RL
        go_wp2_with fail
        go_step3
        refine ⟨?_, ?_⟩
        · show At0 s w.heap.size w _ _
          exact ⟨_, _, _, _, frq, HN.out, ML.1, ML.2, rfl⟩
        · show rkQ _ 0 _ < rkQ _ 3 _
          rw [rk0, rk3]
          omega
    by_cases l4 : l = 4
    · subst l4
      obtain ⟨A, R, d, g, j, a5, c5, f, rfl, HK, hA, hd1, hd2, hj, hm⟩ : At4 s w.heap.size w a0 W0 := hl
      have HM := hide hm
      have RL := hm.crs.rl
      have hRl : R.length ≤ 900000 := Nat.le_trans HK.out.len hs
      have T1 := hide (TK.out R 32 _ _ hm.crs)
      refine ⟨_, rfl, ?_⟩
      unfold FrQ
      clear hm CO NX IT KN TK
      cases ht : tkB R 32 with
      | false =>
        rw [ht] at T1
        have HN := hide (HK.out.none hj ht)
        clear hf HYv WD NU PA HK ht
        go_wp2_with fail
        refine T1.out.mono ?_
        rintro r w1 ⟨rfl, h1, t1⟩
        have ML := HM.out.loose t1
        clear h1 t1 T1 HM
        go_wp2_with fail
        go_step3
        refine ⟨?_, ?_⟩
        · show At0 s w.heap.size w _ _
          exact ⟨_, _, _, _, frq, HN.out, ML.1, ML.2, rfl⟩
        · show rkQ _ 0 _ < rkQ _ 4 _
          rw [rk0, rk4]
          omega
      | true =>
        rw [ht] at T1
        have HNu : Hid (∀ x, numP (bl (wdL R.tail)) = some x → Nb s (strOfNums A) d (upG g j x) (j + 1) (wdR R.tail)) := hide fun x h => HK.out.num hj ht h
        have HNo : Hid (numP (bl (wdL R.tail)) = none → NoP s) := hide fun h => HK.out.nonum hj h
        have hRt : R = 32 :: R.tail := tk_cons ht
        have hlR : R.length = R.tail.length + 1 := by rw [hRt]; rfl
        have hw0 := wdR_len R.tail
        have hbs : (bl (wdL R.tail)).size ≤ 900000 := by
          rw [bl_size]
          have := congrArg List.length (wd_app R.tail)
          rw [List.length_append] at this
          omega
        generalize R.tail = R' at *
        have hjz : (j : Int) < 7 := by omega
        have hj0 : (0 : Int) ≤ (j : Int) := by omega
        clear HK ht hRt
        go_wp2_with fail
        refine T1.out.mono ?_
        rintro r w1 ⟨rfl, h1, t1⟩
        have M1 := hide (HM.out.step h1 t1)
        have W1 := hide (WD.out R' (by omega) _ _ h1)
        clear h1 t1 T1 HM WD
        go_wp2_with fail
        refine W1.out.mono ?_
        rintro r w2 ⟨rfl, h2, t2⟩
        have M2 := hide (M1.out.step h2 t2)
        have N2 := hide (NU.out (bl (wdL R')) (by omega) w2 (HYv.out w2 M2.out.calm))
        clear h2 t2 W1 M1 NU hbs
        generalize bl (wdL R') = t at *
        go_wp2_with fail
        refine N2.out.mono ?_
        rintro r w3 ⟨rfl, t3⟩
        have M3 := hide (M2.out.stay t3)
        have cz := f7_cells M3.out.num j hj
        have fz : w3.frozen? ⟨w.heap.size + 2, j, none⟩ = false := by simp [World.frozen?, M3.out.num]
        clear t3 N2 M2
        cases hx : numP t with
        | none =>
          have HN := hide (HNo.out hx)
          have M4 := hide (M3.out.set hj 0)
          unfold numV2
          clear HNu HNo hf hx HYv PA
          go_wp2_with fail
          go_step3
          refine ⟨?_, ?_⟩
          · show At0 s w.heap.size w _ _
            exact ⟨_, _, _, _, frq, HN.out, M4.out.res, M4.out.calm, rfl⟩
          · show rkQ _ 0 _ < rkQ _ 4 _
            rw [rk0, rk4]
            omega
        | some x =>
          have HB := hide (HNu.out x hx)
          have M4 := hide (M3.out.set hj x)
          have q1 : IntKind.i64.wrap ((j : Int) + 1) = (j : Int) + 1 := by rw [IntKind.wrap_i64]; omega
          unfold numV2
          clear HNu HNo hx
          by_cases hj6 : j < 6
          · have hj6z : (j : Int) + 1 < 7 := by omega
            clear HYv PA hf
            go_wp2_with fail
            go_step3
            refine ⟨?_, ?_⟩
            · show At4 s w.heap.size w _ _
              exact ⟨A, wdR R', d, _, j + 1, _, _, _, frq, HB, hA, hd1, hd2, by omega, M4.out⟩
            · show rkQ _ 4 _ < rkQ _ 4 _
              have := M4.out.crs.rl
              rw [rk4, rk4, this, RL]
              omega
          have hj6z : ¬ (j : Int) + 1 < 7 := by omega
          have hj7 : j + 1 = 7 := by omega
          have c9 := (one_cell M4.out.crs).1
          rw [hj7] at HB
          cases hR2 : wdR R' with
          | cons b R2 =>
            have HN : Hid (NoP s) := hide (by have h := HB.out; rw [hR2] at h; exact h.more)
            have hne := bl_ne (R := wdR R') (by rw [hR2]; simp)
            have HJ0 : Hid (At0 s w.heap.size w = At0 s w.heap.size w) := hide rfl
            generalize bl (wdR R') = t2 at *
            clear HYv PA HB hR2
            go_wp2_with fail
            go_step3
            rename_i hK
            refine hK _ _ (hf.out 0 _ _ _ ?_ ?_ rfl)
            · show At0 s w.heap.size w _ _
              exact ⟨_, _, _, _, frq, HN.out, M4.out.res, M4.out.calm, rfl⟩
            · show rkQ _ 0 _ < rkQ _ 4 _
              rw [rk0, rk4]
              omega
          | nil =>
            have HP : Hid (ParR s (some (pnF (strOfNums A) d (upG g j x)))) := hide (by
              have h := HB.out
              rw [hR2] at h
              exact h.last (by rw [strOfNums_size]; omega) hd1 hd2)
            have cv := conv_any M4.out.row
            have P4 := hide (PA.out (strOfNums A) d (upG g j x) (w3.setCell ⟨w.heap.size + 2, j, none⟩ (.int .i64 x)))
            rw [hR2, show bl [] = ⟨#[]⟩ from rfl] at c9
            obtain ⟨P, hP⟩ : ∃ P, P = pnF (strOfNums A) d (upG g j x) := ⟨_, rfl⟩
            rw [← hP] at HP P4
            have f0 := f7_cells M4.out.num 0 (by omega)
            have f1 := f7_cells M4.out.num 1 (by omega)
            have f2 := f7_cells M4.out.num 2 (by omega)
            have f3 := f7_cells M4.out.num 3 (by omega)
            have f4 := f7_cells M4.out.num 4 (by omega)
            have f5 := f7_cells M4.out.num 5 (by omega)
            have f6 := f7_cells M4.out.num 6 (by omega)
            have R4 := hide M4.out.res
            have C4 := hide M4.out.calm
            clear HYv PA HB hR2 hP hf M4
            generalize strOfNums A = ky at *
            generalize upG g j x = gg at *
            go_wp2_with fail
            refine P4.out.mono ?_
            rintro r w5 ⟨rfl, t5⟩
            have R5 := hide (t5.at R4.out)
            have C5 := hide (C4.out.tr t5)
            clear t5 R4 C4 P4 c9 f0 f1 f2 f3 f4 f5 f6 cv cz fz
            have Q2 : Hid (Calm w (w5.setRow w.heap.size (pnc P))) := hide (C5.out.trans (S' := fun g => g = w.heap.size) ⟨rfl, rfl, rfl, by simp, fun j _ hj => setRow_other _ _ j _ hj⟩ (fun g hg e => by omega))
            generalize w.heap.size = D at *
            have hi9 : (Tryd.prog.info? 29).map (·.size) = some 9 := by kernel_rfl
            have hq1 : Hid ((pnc P).all (·.oneCell') = true) := hide (by simp [Value.oneCell'])
            have Q1 := hide (setRow_heap _ _ _ (pnc P) _ _ R5.out)
            go_wp2_with (refine wpList_store_rowTo rfl 29 (.tmp 2) (.tmp 82) rfl rfl D (pnc P) rfl rfl 29 _ R5.out hi9 rfl hq1.out ?_)
            simp only [jumps]
            refine bodyPost_ret (results_cell_one rfl _ _ _ _ _ _ _ rfl Q1.out Tryd.underlying29 rfl (by kernel_rfl) _ rfl) rfl ?_
            exact ⟨⟨some P, HP.out, rfl⟩, Q2.out⟩
    · unfold AtQ at hl
      rw [if_neg l0, if_neg l1, if_neg l2, if_neg l3, if_neg l4] at hl
      exact hl.elim

end Go.Proofs.YtamfcmmhmfhhkaaDoor

namespace Go.Proofs.YtamfcmmhmfhhkaaDoor
open Go.RowKit

/-- What Parse tells. -/
def parW (o : Option Pn) : Value := .tuple #[pnv (o.getD pn0), .int .i64 (if o.isSome then 0 else 280)]

set_option maxRecDepth 100000 in
set_option maxHeartbeats 4000000 in
theorem parse_any (s : ByteArray) (hs : s.size ≤ 900000) (w : World) (hy : Yv w) : Calls Tryd.prog 15 #[.string s] w fun e w' => (∃ o, ParR s o ∧ e = .returned (parW o)) ∧ Calm w w' := by
  have A0 := hide (al_new w (.cells (pnc pn0) 29))
  have T0 := hide ((Touch.refl (fun _ => False) w).alloc (.cells (pnc pn0) 29))
  have CR := hide (read_any s hs (w.alloc (.cells (pnc pn0) 29)) (hy.calm T0.out))
  have hi9 : (Tryd.prog.info? 29).map (·.size) = some 9 := by kernel_rfl
  clear hy hs
  go_enter Tryd.func15, Tryd.ntmps15
  go_wp2_with fail
  refine CR.out.mono ?_
  rintro e w1 ⟨⟨o, ho, rfl⟩, T1⟩
  have A1 := hide (T1.at A0.out)
  have HT := hide (T0.out.tr T1)
  have hDw : w.heap.size < w1.heap.size := lt_of_heap A1.out
  obtain ⟨D, hD⟩ : ∃ D, D = w.heap.size := ⟨_, rfl⟩
  have HO := hide ho
  have Z0 := hide (al_new w1 (.cells (pnc pn0) 29))
  have Z1 := hide (setRow_heap _ _ _ (pnc (o.getD pn0)) _ _ Z0.out)
  have Z2 : Hid (Touch (fun _ => False) w1 ((w1.alloc (.cells (pnc pn0) 29)).setRow w1.heap.size (pnc (o.getD pn0)))) := hide (((Touch.refl (fun _ => False) w1).alloc _).trans (S' := fun g => g = w1.heap.size) ⟨rfl, rfl, rfl, by simp, fun j _ hj => setRow_other _ _ j _ hj⟩ (fun g hg e => by omega))
  have hq1 : Hid ((pnc (o.getD pn0)).all (·.oneCell') = true) := hide (by simp [Value.oneCell'])
  have hq0 : Hid ((pnc pn0).all (·.oneCell') = true) := hide (by simp [Value.oneCell'])
  have A2 := hide (Z2.out.at A1.out)
  have HT2 := hide (HT.out.tr Z2.out)
  clear ho T1 CR A0 T0 HT A1
  generalize hP : o.getD pn0 = P at *
  have HP := hide hP
  clear hP
  go_upto_region 2 with (refine wpList_store_rowTo rfl 29 (.tmp 4) (.tmp 9) rfl rfl w1.heap.size (pnc P) rfl rfl 29 _ Z0.out hi9 rfl hq1.out ?_)
  generalize (w1.alloc (.cells (pnc pn0) 29)).setRow w1.heap.size (pnc P) = w2 at *
  rw [← hD] at A2 ⊢
  have HD := hide hD
  clear hD Z0 Z2
  generalize w1.heap.size = E at *
  have E3 : Hid (∀ P' : Pn, (w2.setRow D (pnc P')).heap[D]? = some (.cells (pnc P') 29 (0, 0)) ∧ Calm w (w2.setRow D (pnc P'))) := hide fun P' => ⟨setRow_heap _ _ _ (pnc P') _ _ A2.out, HT2.out.trans (S' := fun g => g = D) ⟨rfl, rfl, rfl, by simp, fun j _ hj => setRow_other _ _ j _ hj⟩ (fun g hg e => by have := HD.out; omega)⟩
  cases o with
  | none =>
    go_wp2_with (refine wpList_store_rowTo rfl 29 (.tmp 2) (.tmp 13) rfl rfl D (pnc pn0) rfl rfl 29 _ A2.out hi9 rfl hq0.out ?_)
    refine bodyPost_ret (results_cell_one rfl _ _ _ _ _ _ _ rfl (E3.out pn0).1 Tryd.underlying29 rfl (by kernel_rfl) _ rfl) rfl ?_
    exact ⟨⟨none, HO.out, rfl⟩, (E3.out pn0).2⟩
  | some p =>
    obtain rfl : p = P := HP.out
    obtain ⟨⟨c0, c1, c2, c3, c4⟩, c5, c6, c7, c8⟩ := pn_cells Z1.out
    go_wp2_with (refine wpList_store_rowTo rfl 29 (.tmp 2) (.tmp 14) rfl rfl D (pnc p) rfl rfl 29 _ A2.out hi9 rfl hq1.out ?_)
    refine bodyPost_ret (results_cell_one rfl _ _ _ _ _ _ _ rfl (E3.out p).1 Tryd.underlying29 rfl (by kernel_rfl) _ rfl) rfl ?_
    exact ⟨⟨some p, HO.out, rfl⟩, (E3.out p).2⟩

end Go.Proofs.YtamfcmmhmfhhkaaDoor

namespace Go.Proofs.YtamfcmmhmfhhkaaDoor
open Go.RowKit

theorem ib10 : ∀ R : List UInt8, (Lib.indexByte R 10 = -1 ∧ ∀ b ∈ R, b ≠ 10) ∨ ∃ a r, R = a ++ 10 :: r ∧ (∀ b ∈ a, b ≠ 10) ∧ Lib.indexByte R 10 = (a.length : Int)
  | [] => .inl ⟨rfl, fun b hb => (nomatch hb)⟩
  | b :: R => by
    by_cases h : b = 10
    · subst h
      exact .inr ⟨[], R, rfl, fun b hb => (nomatch hb), rfl⟩
    · have hb : (b == 10) = false := by rw [beq_eq_false_iff_ne]; exact h
      rcases ib10 R with ⟨h1, h2⟩ | ⟨a, r, h1, h2, h3⟩
      · refine .inl ⟨?_, fun c hc => ?_⟩
        · rw [Lib.indexByte, hb, h1]
          rfl
        · rcases List.mem_cons.1 hc with rfl | hc
          · exact h
          · exact h2 c hc
      · refine .inr ⟨b :: a, r, by rw [h1]; rfl, fun c hc => ?_, ?_⟩
        · rcases List.mem_cons.1 hc with rfl | hc
          · exact h
          · exact h2 c hc
        · rw [Lib.indexByte, hb, h3]
          have : ((a.length : Int) == -1) = false := by rw [beq_eq_false_iff_ne]; omega
          rw [this]
          simp
theorem ct_cases (R : List UInt8) : (Lib.cut R [10] = (R, [], false) ∧ ∀ b ∈ R, b ≠ 10) ∨ ∃ a r, R = a ++ 10 :: r ∧ (∀ b ∈ a, b ≠ 10) ∧ Lib.cut R [10] = (a, r, true) := by
  rcases ib10 R with ⟨h1, h2⟩ | ⟨a, r, h1, h2, h3⟩
  · refine .inl ⟨?_, h2⟩
    unfold Lib.cut
    rw [Lib.index_one, h1, if_neg (by omega)]
  · refine .inr ⟨a, r, h1, h2, ?_⟩
    unfold Lib.cut
    rw [Lib.index_one, h3, if_pos (by omega), Int.toNat_natCast]
    have e1 : R.take a.length = a := by rw [h1, List.take_left]
    have e2 : R.drop (a.length + ([10] : List UInt8).length) = r := by
      rw [h1, ← List.drop_drop, List.drop_left]
      rfl
    rw [e1, e2]
theorem lnB_len : ∀ L : List Pn, L.length ≤ (lnB L).length
  | [] => Nat.zero_le _
  | p :: L => by
    rw [lnB_cons, List.length_append, List.length_cons, List.length_cons]
    have := lnB_len L
    omega
theorem stk_of {a r : List UInt8} (ha : ∀ b ∈ a, b ≠ 10) (hp : ParR (bl a) none) : Stk (a ++ 10 :: r) := fun p r' h1 h2 h => by
  obtain ⟨e, -⟩ := cut10 ha (line_no p) h
  exact hp p h1 h2 (ba_ext (by rw [bl_list, e]))

/-- What Read keeps. -/
structure RdL (S : List UInt8) (L : List Pn) (R : List UInt8) : Prop where
  ok : ∀ p ∈ L, mayP p = true ∧ NumOk p
  eq : S = lnB L ++ R
theorem RdL.len {S : List UInt8} {L : List Pn} {R : List UInt8} (h : RdL S L R) : L.length ≤ S.length ∧ R.length ≤ S.length := by
  have := congrArg List.length h.eq
  rw [List.length_append] at this
  have := lnB_len L
  omega
theorem RdL.push {S : List UInt8} {L : List Pn} {a r : List UInt8} (h : RdL S L (a ++ 10 :: r)) {p : Pn} (hp : ParR (bl a) (some p)) : RdL S (L ++ [p]) r := by
  refine ⟨fun q hq => ?_, ?_⟩
  · rcases List.mem_append.1 hq with hq | hq
    · exact h.ok q hq
    · rw [List.mem_singleton] at hq
      subst hq
      exact ⟨hp.1, hp.2.1⟩
  · have e : (lineB p).toList = a := by rw [hp.2.2, bl_list]
    rw [h.eq, lnB_app, lnB_cons, lnB_nil, e]
    simp
/-- The library's Cut at a byte 10. -/
theorem cut_any (R : List UInt8) (hR : R.length ≤ 900000) (w : World) (hy : Yv w) : Calls Tryd.prog 38 #[.string (bl R), .string ⟨#[10]⟩] w fun e w' => e = .returned (.tuple #[.string (bl (Lib.cut R [10]).1), .string (bl (Lib.cut R [10]).2.1), .bool (Lib.cut R [10]).2.2]) ∧ Calm w w' := by
  obtain ⟨m, hm⟩ := hy.errs.2.2
  refine (Any.strings_Cut Tryd.lays145 (bl R) ⟨#[10]⟩ m w (by rw [bl_size]; omega) hm).mono ?_
  rintro e w' ⟨rfl, n, rfl⟩
  rw [bl_data]
  exact ⟨rfl, (Touch.refl (fun _ => False) w).drewN n⟩

set_option maxRecDepth 100000 in
set_option maxHeartbeats 8000000 in
theorem readR_any (S : List UInt8) (hs : S.length ≤ 900000) (w : World) (hy : Yv w) : Calls Tryd.prog 17 #[.string (bl S)] w fun e w' => ∃ L r, RdR S L r ∧ RetRd w e w' L r (.int .i64 (if r = [] then 0 else 280)) := by
  have CC := hide (fun R (hR : R.length ≤ 900000) W (hW : Calm w W) => cut_any R hR W (hy.calm hW))
  have CR := hide (fun t (ht : t.size ≤ 900000) W (hW : Calm w W) => read_any t ht W (hy.calm hW))
  have H0 : Hid (RdL S [] S) := hide ⟨fun p hp => (nomatch hp), rfl⟩
  have hi9 : (Tryd.prog.info? 29).map (·.size) = some 9 := by kernel_rfl
  clear hy
  unfold RetRd
  go_enter Tryd.func17, Tryd.ntmps17
  go_wp2_with fail
  go_loopw [0, 5] (fun s0 s5 wr => ∃ (L : List Pn) (R : List UInt8) (a : Option Addr) (c : Nat), s0 = .string (bl R) ∧ s5 = .slice a L.length c ∧ Hid (RdL S L R) ∧ encP.Own 29 wr w.heap.size (.slice a L.length c) L ∧ Calm w wr) (fun s0 _ _ => match s0 with
    | .string t => t.size
    | _ => 0)
  case atStart => exact ⟨[], S, none, 0, rfl, rfl, H0, Rc.Own.nil _ _ _, Touch.refl _ _⟩
  case round =>
    obtain ⟨L, R, a, c, rfl, rfl, HR, OW, TE⟩ := hrel
    clear H0
    obtain ⟨hL, hRl⟩ := HR.out.len
    cases hR0 : R with
    | nil =>
      have HF : Hid (RdR S L []) := hide ⟨HR.out.ok, by have h := HR.out.eq; rw [hR0] at h; exact h, Stk.nil⟩
      have HO := hide OW
      have HT := hide TE
      have e : bl [] = ⟨#[]⟩ := rfl
      rw [e]
      clear CC CR HR OW TE hR0 hRl
      go_wp2_with fail
      go_ret3
      exact ⟨L, [], HF.out, L, a, c, by rw [if_pos rfl], by rw [if_pos rfl]; rfl, HO.out, HT.out⟩
    | cons b0 R0 =>
      have hRn : R ≠ [] := by rw [hR0]; simp
      rw [← hR0]
      clear hR0
      have hne := bl_ne hRn
      have C1 := hide (CC.out R (by omega) wr TE)
      have HS : Hid (bl R = bl R) := hide rfl
      have HO := hide OW
      have HTE := hide TE
      clear CC OW TE HS
      rcases ct_cases R with ⟨h1, h2⟩ | ⟨a', r', h1, h2, h3⟩
      · rw [h1] at C1
        have HF : Hid (RdR S L R) := hide ⟨HR.out.ok, HR.out.eq, Stk.none10 h2⟩
        have hRz : (bl R).size ≤ 900000 := by rw [bl_size]; omega
        have HRn := hide hRn
        clear h1 h2 HR hRn
        go_wp2_with fail
        refine C1.out.mono ?_
        rintro e w1 ⟨rfl, T1⟩
        have HTa := hide T1
        have HT1 := hide (HTE.out.tr T1)
        have C2 := hide (CR.out (bl R) hRz w1 HT1.out)
        clear T1 C1 CR hne
        go_wp2_with fail
        refine C2.out.mono ?_
        rintro e w2 ⟨⟨o, -, rfl⟩, T2⟩
        have HT2 := hide (HT1.out.tr T2)
        generalize o.getD pn0 = P at *
        generalize o.isSome = bo at *
        have Z0 := hide (al_new w2 (.cells (pnc pn0) 29))
        have Z1 := hide (setRow_heap _ _ _ (pnc P) _ _ Z0.out)
        have Z2 : Hid (Touch (fun _ => False) w2 ((w2.alloc (.cells (pnc pn0) 29)).setRow w2.heap.size (pnc P))) := hide (((Touch.refl (fun _ => False) w2).alloc _).trans (S' := fun g => g = w2.heap.size) ⟨rfl, rfl, rfl, by simp, fun j _ hj => setRow_other _ _ j _ hj⟩ (fun g hg e => by omega))
        have hq1 : Hid ((pnc P).all (·.oneCell') = true) := hide (by simp [Value.oneCell'])
        have HT3 := hide (HT2.out.tr Z2.out)
        go_upto_region 5 with (refine wpList_store_rowTo rfl 29 (.tmp 9) (.tmp 22) rfl rfl w2.heap.size (pnc P) rfl rfl 29 _ Z0.out hi9 rfl hq1.out ?_)
        have HO3 := hide (Rc.Own.calm HO.out ((HTa.out.tr T2).tr Z2.out))
        generalize (w2.alloc (.cells (pnc pn0) 29)).setRow w2.heap.size (pnc P) = w3 at *
        clear Z0 Z2 hq1 hi9 T2 HTa HO C2
        generalize w2.heap.size = E at *
        clear Z1
        go_wp2_with fail
        go_ret3
        exact ⟨L, R, HF.out, [], none, 0, by rw [if_neg HRn.out], by rw [if_neg HRn.out]; rfl, Rc.Own.nil _ _ _, HT3.out⟩
      · rw [h3] at C1
        have hlen : a'.length + 1 + r'.length = R.length := by rw [h1]; simp; omega
        have haz : (bl a').size ≤ 900000 := by rw [bl_size]; omega
        have HSt : Hid (ParR (bl a') none → RdR S L R) := hide fun h => ⟨HR.out.ok, HR.out.eq, by rw [h1]; exact stk_of h2 h⟩
        have HPu : Hid (∀ p, ParR (bl a') (some p) → RdL S (L ++ [p]) r') := hide fun p h => by
          have k := HR.out
          rw [h1] at k
          exact k.push h
        have HRn := hide hRn
        have HZ : Hid ((bl R).size = R.length ∧ (bl r').size = r'.length) := hide ⟨bl_size _, bl_size _⟩
        clear h1 h2 h3 HR hRn
        go_wp2_with fail
        refine C1.out.mono ?_
        rintro e w1 ⟨rfl, T1⟩
        have HTa := hide T1
        have HT1 := hide (HTE.out.tr T1)
        have C2 := hide (CR.out (bl a') haz w1 HT1.out)
        clear T1 C1 CR hne
        generalize bl a' = la at *
        generalize hbR : bl R = tR at *
        generalize hbr : bl r' = tr at *
        have HB := hide (And.intro hbR hbr)
        clear hbR hbr
        go_wp2_with fail
        refine C2.out.mono ?_
        rintro e w2 ⟨⟨o, ho, rfl⟩, T2⟩
        have HT2 := hide (HT1.out.tr T2)
        have HO' := hide ho
        clear ho
        generalize hP : o.getD pn0 = P at *
        have HP := hide hP
        clear hP
        have Z0 := hide (al_new w2 (.cells (pnc pn0) 29))
        have Z1 := hide (setRow_heap _ _ _ (pnc P) _ _ Z0.out)
        have Z2 : Hid (Touch (fun _ => False) w2 ((w2.alloc (.cells (pnc pn0) 29)).setRow w2.heap.size (pnc P))) := hide (((Touch.refl (fun _ => False) w2).alloc _).trans (S' := fun g => g = w2.heap.size) ⟨rfl, rfl, rfl, by simp, fun j _ hj => setRow_other _ _ j _ hj⟩ (fun g hg e => by omega))
        have hq1 : Hid ((pnc P).all (·.oneCell') = true) := hide (by simp [Value.oneCell'])
        have HT3 := hide (HT2.out.tr Z2.out)
        go_upto_region 5 with (refine wpList_store_rowTo rfl 29 (.tmp 9) (.tmp 22) rfl rfl w2.heap.size (pnc P) rfl rfl 29 _ Z0.out hi9 rfl hq1.out ?_)
        have HO3 := hide (Rc.Own.calm HO.out ((HTa.out.tr T2).tr Z2.out))
        generalize (w2.alloc (.cells (pnc pn0) 29)).setRow w2.heap.size (pnc P) = w3 at *
        clear Z0 Z2 hq1 hi9 T2 HTa HO C2
        generalize w2.heap.size = E at *
        cases o with
        | none =>
          have HF := hide (HSt.out HO'.out)
          clear Z1 HSt HPu
          go_wp2_with fail
          go_ret3
          exact ⟨L, R, HF.out, [], none, 0, by rw [if_neg HRn.out], by rw [if_neg HRn.out]; rfl, Rc.Own.nil _ _ _, HT3.out⟩
        | some p =>
          obtain rfl : p = P := HP.out
          have HF := hide (HPu.out p HO'.out)
          obtain ⟨a4, p4, w4, hr, ow, t4⟩ := pn_app1 p HO3.out HT3.out.size (by omega)
          have e1 : (L ++ [p]).length = L.length + 1 := by simp
          have HT4 := hide (Rc.Own.fresh (w0 := w) HO3.out t4 (fun _ h => h) HT3.out (Nat.le_refl _))
          have HR4 := hide hr
          have HO4 := hide ow
          have E1 := hide e1
          obtain ⟨⟨c0, c1, c2, c3, c4⟩, c5, c6, c7, c8⟩ := pn_cells Z1.out
          clear Z1 HSt HPu HP HO' hr ow t4 e1 HO3
          go_wp2_with (at_builtin; refine Rc.wpList_appR rfl (.tmp 32) (.tmp 34) 22 22 rfl _ _ _ rfl rfl HR4.out ?_)
          go_roundw
          case rel => exact ⟨L ++ [p], r', a4, p4, by rw [HB.out.2], by rw [E1.out], HF, HO4.out, HT4.out⟩
          case measure =>
            have h1 := HZ.out
            have h2 := HB.out
            rw [← h2.1] at h1
            first
              | (show tr.size < (bl R).size; omega)
              | (show tr.size < tR.size; rw [← h2.1]; omega)

theorem readL_any (s : ByteArray) (hs : s.size ≤ 900000) (w : World) (hy : Yv w) : Calls Tryd.prog 17 #[.string s] w fun e w' => ∃ L r, RdR s.toList L r ∧ RetRd w e w' L r (.int .i64 (if r = [] then 0 else 280)) := by
  have h := readR_any s.toList (by rw [tl_len]; exact hs) w hy
  rw [bl_of] at h
  exact h

end Go.Proofs.YtamfcmmhmfhhkaaDoor
