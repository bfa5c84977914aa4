/- The law's RouteEach: the walk. -/
import Derived.Test.YtapnjofplilefaaZU
import Derived.Test.YtapnjofplilefaaZT
import Derived.Deep.CutRange
namespace Go.Proofs.Ytapnjofplilefaa
open Go.RowKit

section
variable {Pk : World → Nat → (Nat → Prop) → Cf → Nat → List Int → Int → Prop}

theorem newE_one {c : Cf} {wr : Int} (h : newE c wr = 0) : newE c 1 = 0 := by
  rcases newE_cases c wr with ⟨e, -⟩ | ⟨e, -⟩ | ⟨-, h1, h2, h3⟩
  · rw [e] at h; cases h
  · rw [e] at h; cases h
  · unfold newE
    rw [if_neg (by simp [h1]), if_neg (by omega)]

set_option maxRecDepth 100000 in
set_option maxHeartbeats 8000000 in
theorem each15_walk (I : Rpi Pk) (c : Cf) (wr : Int) (N : List It) (no : Option Addr) (nc : Nat) (w : World) (hN : encI.Mem w no N) : Calls Try.prog 4 #[cfv c, .int .i64 wr, .slice no N.length nc] w fun e w' => e = .returned (.bool true) ∧ Calm w w' := by
  have KI : Hid (∀ j, j < N.length → ∃ g off, no = some ⟨g, off, none⟩ ∧ ∀ W, Calm w W →
    W.cell? ⟨g, off + j * 5, none⟩ = some (.int .i64 (N.getD j it0).ki) ∧ W.cell? ⟨g, off + j * 5 + 1, none⟩ = some (.string (N.getD j it0).ke) ∧ W.cell? ⟨g, off + j * 5 + 2, none⟩ = some (.int .i64 (N.getD j it0).tm) ∧ W.cell? ⟨g, off + j * 5 + 3, none⟩ = some (.int .i64 (N.getD j it0).va) ∧ W.cell? ⟨g, off + j * 5 + 4, none⟩ = some (.int .i64 (N.getD j it0).sr)) := hide fun j hj => items_W (F := fun _ => False) hN (fun _ _ _ h => h) j hj
  have KN := fun w => hide (known15_any I w)
  have A0 := hide (al_new w (.cells (cfc c) 24))
  have T0 := hide ((Touch.refl (fun _ => False) w).alloc (.cells (cfc c) 24))
  clear hN
  generalize hn : N.length = n at *
  have HN := hide hn
  clear hn
  by_cases hk : 1000 < n
  · have hkz : 1000 < (n : Int) := by omega
    clear KI A0
    go_enter Try.func4, Try.ntmps4
    go_wp2_with fail
    refine (KN _).out.mono ?_
    rintro e w1 ⟨rfl, T1⟩
    have T1 := hide (T0.out.tr T1)
    clear KN T0
    go_wp2_with fail
    go_ret
    exact ⟨rfl, T1.out⟩
  have hkz : ¬ 1000 < (n : Int) := by omega
  obtain ⟨⟨c0, c1, c2, c3, c4, c5, c6⟩, c7, c8, c9⟩ := cf_cells A0.out
  by_cases hz : newE c wr = 0
  · obtain ⟨p, g, rfl, SI⟩ := Sit.new hz
    have S0 := hide SI
    have HSO := hide (new_so hz)
    have CA := fun w => hide (I.new_yes c p w hz)
    have CB := fun w => hide (I.new_yes c 1 w (newE_one hz))
    have S1 : Hid (∀ L, Sit c p g L → Sit c 1 g L) := hide fun L h => ⟨h.gr, ⟨h.may.g1, h.may.g2, by omega, h.may.g1⟩, h.so⟩
    have PP : Hid (1 ≤ p ∧ p ≤ 32768) := hide ⟨SI.may.p1, SI.p_le⟩
    clear hz SI
    go_enter Try.func4, Try.ntmps4
    go_wp2_with fail
    generalize w.alloc (.cells (cfc c) 24) = w1 at *
    generalize hB : w.heap.size = B at *
    have HB := hide hB
    clear hB
    refine (CA _).out.mono ?_
    rintro e w2 ⟨q, rfl, P2, T2⟩
    clear c0 c1 c2 c3 c4 c5 c6 c7 c8 c9
    obtain ⟨⟨c0, c1, c2, c3, c4, c5, c6⟩, c7, c8, c9⟩ := cf_cells (T2.at A0.out)
    have P2 := hide P2
    have TT2 := hide T2
    clear CA T2
    go_wp2_with fail
    refine (CB _).out.mono ?_
    rintro e w3 ⟨q1, rfl, P3, T3⟩
    obtain ⟨L0, hL0⟩ : ∃ L0, L0 = List.replicate c.so.toNat minT := ⟨_, rfl⟩
    rw [← hL0] at S0 P2 P3
    have EA : Hid (Ea Pk w q q1 w3.heap.size c p L0 0 L0 0 w3) := hide (by
      have h1 := HB.out
      have h2 := T0.out.size
      refine ⟨_, _, I.calm P2.out T3, P3, fun k hk hg => ?_, fun k hk => ?_, fun k hk => ?_, Nat.le_refl _, T0.out.tr (TT2.out.tr T3)⟩
      · have := hk.2; have := hg.1; omega
      · have := hk.1; omega
      · have := hk.1; have := hk.2; have := TT2.out.size; exact ⟨by omega, by omega⟩)
    have M0 : Hid (-4611686018427387904 ≤ mkN L0) := hide (by rw [hL0, mkN_rep _ HSO.out]; exact Int.le_refl _)
    clear c0 c1 c2 c3 c4 c5 c6 c7 c8 c9 CB T3 P2 P3 TT2 A0 hL0 T0
    go_wp2_with fail
    go_loopw [11, 12, 13] (fun s11 s12 s13 wx => ∃ (i b : Nat) (L : List Int) (s last : Int), s11 = .int .i64 s ∧ s12 = .int .i64 last ∧ s13 = .int .i64 (i : Int) ∧ i ≤ n ∧ Hid (last ≤ mkN L) ∧ Hid (Sit c p g L) ∧ Hid (Ea Pk w q q1 b c p L s L s wx)) (fun _ _ s13 _ => n - (intOf s13).toNat)
    case atStart => exact ⟨0, _, L0, 0, _, rfl, rfl, rfl, by omega, M0, S0, EA⟩
    case round =>
      obtain ⟨i, b, L, s, last, rfl, rfl, rfl, hi, HM, HS, HE⟩ := hrel
      clear EA M0 S0
      by_cases hlt : i < n
      · have hltz : (i : Int) < (n : Int) := by omega
        have z0 : ¬ (n : Int) ≤ (i : Int) := by omega
        obtain ⟨gg, off, rfl, ci⟩ := KI.out i hlt
        have HE := hide (HE.out.up I)
        have CI := hide ci
        generalize N.getD i it0 = x at *
        clear ci KI KN
        cases hz : itemZ c x with
        | false =>
          as_aux_lemma =>
            have CW := hide (HE.out.water I)
            go_wp2_with fail
            refine CW.out.mono ?_
            rintro e v1 ⟨rfl, t1⟩
            have HE1 := hide (HE.out.still I t1)
            obtain ⟨i0, i1, i2, i3, i4⟩ := CI.out v1 HE1.out.calm
            have C1 := hide (HE1.out.item_no I HS.out x hz)
            clear CW HE t1
            go_wp2_with fail
            refine C1.out.mono ?_
            rintro e v2 ⟨a1, k1, rfl, E2⟩
            have HE2 := hide E2
            clear C1 HE1 E2 i0 i1 i2 i3 i4
            obtain ⟨i0, i1, i2, i3, i4⟩ := CI.out v2 HE2.out.calm
            have C2 := hide (HE2.out.item_no1 I (S1.out L HS.out) x hz)
            go_wp2_with fail
            refine C2.out.mono ?_
            rintro e v3 ⟨a2, k2, rfl, E3⟩
            have HE3 := hide E3
            clear C2 HE2 E3 i0 i1 i2 i3 i4
            have CW := hide (HE3.out.water I)
            go_wp2_with fail
            refine CW.out.mono ?_
            rintro e v4 ⟨rfl, t4⟩
            have HE4 := hide (HE3.out.still I t4)
            have CX := hide (HE4.out.water1 I)
            clear CW HE3 t4
            go_wp2_with fail
            refine CX.out.mono ?_
            rintro e v5 ⟨rfl, t5⟩
            have HE5 := hide (HE4.out.still I t5)
            have CQ := hide (HE5.out.seq I)
            clear CX HE4 t5
            go_wp2_with fail
            refine CQ.out.mono ?_
            rintro e v6 ⟨rfl, t6⟩
            have HE6 := hide (HE5.out.still I t6)
            have CW := hide (HE6.out.water I)
            clear CQ HE5 t6
            go_wp2_with fail
            refine CW.out.mono ?_
            rintro e v7 ⟨rfl, t7⟩
            have HE7 := hide (HE6.out.still I t7)
            clear CW HE6 t7
            go_wp2_with fail
            go_roundw
            case rel => exact ⟨i + 1, _, L, s, last, rfl, rfl, by go_num, by omega, HM, HS, HE7⟩
            case measure => simp [intOf]; omega
        | true =>
          rcases itemZ_k hz with hk | hk | hk
          ·
            as_aux_lemma =>
              obtain ⟨ki, ke, tm, va, sr⟩ := x
              have hk : ki = 1 := hk
              subst hk
              have HK : Hid (ke.size ≤ 256) := hide (itemZ_key hz)
              obtain ⟨K, hKK⟩ : ∃ K, K = wk p g (hsh ke % g) := ⟨_, rfl⟩
              have HKK := hide hKK
              have HW : Hid (K < p) := hide (hKK ▸ wk_lt HS.out.may (Nat.mod_lt _ (by have := HS.out.may.g1; omega)))
              have e1 : itemA p g L s ⟨1, ke, tm, va, sr⟩ = [⟨(K : Nat), 1, s, ke, tm, va⟩] := by rw [hKK]; rfl
              clear hKK
              have e2 : itemA 1 g L s ⟨1, ke, tm, va, sr⟩ = [⟨0, 1, s, ke, tm, va⟩] := by
                show [(⟨(wk 1 g (hsh ke % g) : Nat), 1, s, ke, tm, va⟩ : Sn)] = _
                rw [wk_one (Nat.mod_lt _ (by have := HS.out.may.g1; omega))]; rfl
              have eL : itemL L ⟨1, ke, tm, va, sr⟩ = L := rfl
              obtain ⟨m0, hm0⟩ : ∃ m0, mkN L = m0 := ⟨_, rfl⟩
              have HM0 := hide hm0
              have HM2 := hide hm0
              clear hm0

              have CW := HE.out.water I
              rw [HM0.out] at CW
              have CW := hide CW
              go_wp2_with fail
              refine CW.out.mono ?_
              rintro e v1 ⟨rfl, t1⟩
              have HE1 := hide (HE.out.still I t1)
              obtain ⟨i0, i1, i2, i3, i4⟩ := CI.out v1 HE1.out.calm
              have C1 := HE1.out.item I HS.out _ hz
              rw [e1, eL] at C1
              have C1 := hide C1
              clear CW HE t1
              go_wp2_with fail
              refine C1.out.mono ?_
              rintro e v2 ⟨a1, k1, rfl, O1, E2⟩
              have HE2 := hide E2
              have O1 := hide O1
              clear C1 HE1 E2 i0 i1 i2 i3 i4
              obtain ⟨i0, i1, i2, i3, i4⟩ := CI.out v2 HE2.out.calm
              have C2 := HE2.out.item1 I (S1.out L HS.out) _ hz O1.out
              rw [e2, eL] at C2
              have C2 := hide C2
              clear hz e1 e2
              go_wp2_with fail
              refine C2.out.mono ?_
              rintro e v3 ⟨a2, k2, rfl, O2, O1, E3⟩
              have HE3 := hide E3
              have HS2 : Hid (Sit c p g L) := hide (eL ▸ HS.out.next _)
              obtain ⟨ga, rfl, ca⟩ : ∃ ga, a1 = some ⟨ga, 0, none⟩ ∧ ∀ W, Calm v3 W → (W.cell? ⟨ga, 0, none⟩ = some (.int .i64 (K : Int)) ∧ W.cell? ⟨ga, 1, none⟩ = some (.int .i64 1) ∧ W.cell? ⟨ga, 2, none⟩ = some (.int .i64 s)) ∧ W.cell? ⟨ga, 3, none⟩ = some (.string ke) ∧ W.cell? ⟨ga, 4, none⟩ = some (.int .i64 tm) ∧ W.cell? ⟨ga, 5, none⟩ = some (.int .i64 va) := sn_one O1
              obtain ⟨gb, rfl, cb⟩ : ∃ gb, a2 = some ⟨gb, 0, none⟩ ∧ ∀ W, Calm v3 W → (W.cell? ⟨gb, 0, none⟩ = some (.int .i64 0) ∧ W.cell? ⟨gb, 1, none⟩ = some (.int .i64 1) ∧ W.cell? ⟨gb, 2, none⟩ = some (.int .i64 s)) ∧ W.cell? ⟨gb, 3, none⟩ = some (.string ke) ∧ W.cell? ⟨gb, 4, none⟩ = some (.int .i64 tm) ∧ W.cell? ⟨gb, 5, none⟩ = some (.int .i64 va) := sn_one O2
              have CA := hide ca
              have CB := hide cb
              clear ca cb
              clear C2 HE2 E3 O1 O2 eL i0 i1 i2 i3 i4
              have CW := HE3.out.water I
              rw [HM2.out] at CW
              have CW := hide CW
              go_wp2_with fail
              refine CW.out.mono ?_
              rintro e v4 ⟨rfl, t4⟩
              have HE4 := hide (HE3.out.still I t4)
              have T4 := hide t4
              have CX := HE4.out.water1 I
              rw [HM2.out] at CX
              have CX := hide CX
              clear CW HE3 t4
              go_wp2_with fail
              refine CX.out.mono ?_
              rintro e v5 ⟨rfl, t5⟩
              have HE5 := hide (HE4.out.still I t5)
              have T5 := hide (T4.out.tr t5)
              have CK := HE5.out.worker I HS2.out ke HK.out
              rw [← HKK.out] at CK
              have CK := hide CK
              obtain ⟨i0, i1, i2, i3, i4⟩ := CI.out v5 HE5.out.calm
              clear CX HE4 t5 T4
              go_wp2_with fail
              refine CK.out.mono ?_
              rintro e v6 ⟨rfl, t6⟩
              have HE6 := hide (HE5.out.still I t6)
              have T6 := hide (T5.out.tr t6)
              clear i0 i1 i2 i3 i4 CK HE5 t6 T5
              obtain ⟨i0, i1, i2, i3, i4⟩ := CI.out v6 HE6.out.calm
              have kp := HW.out
              have kz : ¬ (p : Int) ≤ (K : Int) := by have := HW.out; omega
              have kz2 : ¬ (K : Int) < 0 := by omega
              have iz : ¬ (n : Int) ≤ (i : Int) := by omega
              have iz2 : (i : Int) < (n : Int) := by omega
              have eN : wrap64 (s + 1) = nxt s := rfl
              go_wp2_with fail
              clear i0 i1 i2 i3 i4
              refine wp_region_held (S := Calm v6) (by kernel_rfl) ?_
              have hT0 : Calm v6 { v6 with drawn := v6.drawn + 1 } := (Touch.refl _ v6).drew
              refine wpAnyH_yield 0 148 (.slice (some ⟨ga, 0, none⟩) 1 k1) rfl rfl (by kernel_rfl) (by kernel_rfl) (by kernel_rfl) (fun _ _ _ h => h) (by kernel_rfl) (fun W hW => by kernel_rfl) (by assumption) rfl rfl ?_
              simp only [Act.put, List.setIfInBounds_toArray, List.set_cons_zero, List.set_cons_succ]
              refine wpAnyH_yield 1 149 (.int .i64 1) rfl rfl (by kernel_rfl) (by kernel_rfl) (by kernel_rfl) (fun _ _ _ h => h) (by kernel_rfl) (fun W hW => by go_simp) (by assumption) rfl rfl ?_
              simp only [Act.put, List.setIfInBounds_toArray, List.set_cons_zero, List.set_cons_succ]
              refine wpAnyH_yield 2 150 (.bool false) rfl rfl (by kernel_rfl) (by kernel_rfl) (by kernel_rfl) (fun _ _ _ h => h) (by kernel_rfl) (fun W hW => by go_simp) (by assumption) rfl rfl ?_
              simp only [Act.put, List.setIfInBounds_toArray, List.set_cons_zero, List.set_cons_succ]
              refine wpAnyH_yield 3 151 (.bool false) rfl rfl (by kernel_rfl) (by kernel_rfl) (by kernel_rfl) (fun _ _ _ h => h) (by kernel_rfl) (fun W hW => by kernel_rfl) (by assumption) rfl rfl ?_
              simp only [Act.put, List.setIfInBounds_toArray, List.set_cons_zero, List.set_cons_succ]
              refine wpAnyH_yield 4 152 (.int .i64 0) rfl rfl (by kernel_rfl) (by kernel_rfl) (by kernel_rfl) (fun _ _ _ h => h) (by kernel_rfl) (fun W hW => by kernel_rfl) (by assumption) rfl rfl ?_
              simp only [Act.put, List.setIfInBounds_toArray, List.set_cons_zero, List.set_cons_succ]
              refine wpAnyH_yield 5 153 (.bool false) rfl rfl (by kernel_rfl) (by kernel_rfl) (by kernel_rfl) (fun _ _ _ h => h) (by kernel_rfl) (fun W hW => by go_simp) (by assumption) rfl rfl ?_
              simp only [Act.put, List.setIfInBounds_toArray, List.set_cons_zero, List.set_cons_succ]
              refine wpAnyH_yield 6 154 (.bool false) rfl rfl (by kernel_rfl) (by kernel_rfl) (by kernel_rfl) (fun _ _ _ h => h) (by kernel_rfl) (fun W hW => by go_simp) (by assumption) rfl rfl ?_
              simp only [Act.put, List.setIfInBounds_toArray, List.set_cons_zero, List.set_cons_succ]
              refine wpAnyH_yield 7 155 (.bool false) rfl rfl (by kernel_rfl) (by kernel_rfl) (by kernel_rfl) (fun _ _ _ h => h) (by kernel_rfl) (fun W hW => by kernel_rfl) (by assumption) rfl rfl ?_
              simp only [Act.put, List.setIfInBounds_toArray, List.set_cons_zero, List.set_cons_succ]
              refine wpAnyH_yield 8 156 (.slice (some ⟨ga, 0, none⟩) 1 k1) rfl rfl (by kernel_rfl) (by kernel_rfl) (by kernel_rfl) (fun _ _ _ h => h) (by kernel_rfl) (fun W hW => by kernel_rfl) (by assumption) rfl rfl ?_
              simp only [Act.put, List.setIfInBounds_toArray, List.set_cons_zero, List.set_cons_succ]
              refine wpAnyH_yield 9 157 (.pointer (some ⟨ga, 0, none⟩)) rfl rfl (by kernel_rfl) (by kernel_rfl) (by kernel_rfl) (fun _ _ _ h => h) (by kernel_rfl) (fun W hW => by go_simp) (by assumption) rfl rfl ?_
              simp only [Act.put, List.setIfInBounds_toArray, List.set_cons_zero, List.set_cons_succ]
              refine wpAnyH_yield 10 158 (.pointer (some ⟨ga, 0, none⟩)) rfl rfl (by kernel_rfl) (by kernel_rfl) (by kernel_rfl) (fun _ _ _ h => h) (by kernel_rfl) (fun W hW => by go_simp) (by assumption) rfl rfl ?_
              simp only [Act.put, List.setIfInBounds_toArray, List.set_cons_zero, List.set_cons_succ]
              refine wpAnyH_yield 11 159 (.int .i64 (K : Int)) rfl rfl (by kernel_rfl) (by kernel_rfl) (by kernel_rfl) (fun _ _ _ h => h) (by kernel_rfl) (fun W hW => by obtain ⟨⟨l0, l1, l2⟩, l3, l4, l5⟩ := CA.out W (T6.out.tr hW); go_simp) (by assumption) rfl rfl ?_
              simp only [Act.put, List.setIfInBounds_toArray, List.set_cons_zero, List.set_cons_succ]
              refine wpAnyH_yield 12 160 (.int .i64 (K : Int)) rfl rfl (by kernel_rfl) (by kernel_rfl) (by kernel_rfl) (fun _ _ _ h => h) (by kernel_rfl) (fun W hW => by kernel_rfl) (by assumption) rfl rfl ?_
              simp only [Act.put, List.setIfInBounds_toArray, List.set_cons_zero, List.set_cons_succ]
              refine wpAnyH_yield 13 161 (.bool false) rfl rfl (by kernel_rfl) (by kernel_rfl) (by kernel_rfl) (fun _ _ _ h => h) (by kernel_rfl) (fun W hW => by go_simp) (by assumption) rfl rfl ?_
              simp only [Act.put, List.setIfInBounds_toArray, List.set_cons_zero, List.set_cons_succ]
              refine wpAnyH_yield 14 162 (.bool false) rfl rfl (by kernel_rfl) (by kernel_rfl) (by kernel_rfl) (fun _ _ _ h => h) (by kernel_rfl) (fun W hW => by go_simp) (by assumption) rfl rfl ?_
              simp only [Act.put, List.setIfInBounds_toArray, List.set_cons_zero, List.set_cons_succ]
              refine wpAnyH_yield 15 163 (.bool false) rfl rfl (by kernel_rfl) (by kernel_rfl) (by kernel_rfl) (fun _ _ _ h => h) (by kernel_rfl) (fun W hW => by kernel_rfl) (by assumption) rfl rfl ?_
              simp only [Act.put, List.setIfInBounds_toArray, List.set_cons_zero, List.set_cons_succ]
              refine wpAnyH_yield 16 164 (.int .i64 (K : Int)) rfl rfl (by kernel_rfl) (by kernel_rfl) (by kernel_rfl) (fun _ _ _ h => h) (by kernel_rfl) (fun W hW => by kernel_rfl) (by assumption) rfl rfl ?_
              simp only [Act.put, List.setIfInBounds_toArray, List.set_cons_zero, List.set_cons_succ]
              refine wpAnyH_yield 17 165 (.bool false) rfl rfl (by kernel_rfl) (by kernel_rfl) (by kernel_rfl) (fun _ _ _ h => h) (by kernel_rfl) (fun W hW => by go_simp) (by assumption) rfl rfl ?_
              simp only [Act.put, List.setIfInBounds_toArray, List.set_cons_zero, List.set_cons_succ]
              refine wpAnyH_yield 18 166 (.bool false) rfl rfl (by kernel_rfl) (by kernel_rfl) (by kernel_rfl) (fun _ _ _ h => h) (by kernel_rfl) (fun W hW => by go_simp) (by assumption) rfl rfl ?_
              simp only [Act.put, List.setIfInBounds_toArray, List.set_cons_zero, List.set_cons_succ]
              refine wpAnyH_yield 19 167 (.bool false) rfl rfl (by kernel_rfl) (by kernel_rfl) (by kernel_rfl) (fun _ _ _ h => h) (by kernel_rfl) (fun W hW => by kernel_rfl) (by assumption) rfl rfl ?_
              simp only [Act.put, List.setIfInBounds_toArray, List.set_cons_zero, List.set_cons_succ]
              refine wpAnyH_yield 20 168 (.int .i64 (K : Int)) rfl rfl (by kernel_rfl) (by kernel_rfl) (by kernel_rfl) (fun _ _ _ h => h) (by kernel_rfl) (fun W hW => by kernel_rfl) (by assumption) rfl rfl ?_
              simp only [Act.put, List.setIfInBounds_toArray, List.set_cons_zero, List.set_cons_succ]
              refine wpAnyH_yield 21 169 (.int .i64 (p : Int)) rfl rfl (by kernel_rfl) (by kernel_rfl) (by kernel_rfl) (fun _ _ _ h => h) (by kernel_rfl) (fun W hW => by kernel_rfl) (by assumption) rfl rfl ?_
              simp only [Act.put, List.setIfInBounds_toArray, List.set_cons_zero, List.set_cons_succ]
              refine wpAnyH_yield 22 170 (.bool false) rfl rfl (by kernel_rfl) (by kernel_rfl) (by kernel_rfl) (fun _ _ _ h => h) (by kernel_rfl) (fun W hW => by go_simp) (by assumption) rfl rfl ?_
              simp only [Act.put, List.setIfInBounds_toArray, List.set_cons_zero, List.set_cons_succ]
              refine wpAnyH_yield 23 171 (.bool false) rfl rfl (by kernel_rfl) (by kernel_rfl) (by kernel_rfl) (fun _ _ _ h => h) (by kernel_rfl) (fun W hW => by go_simp) (by assumption) rfl rfl ?_
              simp only [Act.put, List.setIfInBounds_toArray, List.set_cons_zero, List.set_cons_succ]
              refine wpAnyH_yield 24 172 (.bool false) rfl rfl (by kernel_rfl) (by kernel_rfl) (by kernel_rfl) (fun _ _ _ h => h) (by kernel_rfl) (fun W hW => by kernel_rfl) (by assumption) rfl rfl ?_
              simp only [Act.put, List.setIfInBounds_toArray, List.set_cons_zero, List.set_cons_succ]
              refine wpAnyH_yield 25 173 (.slice (some ⟨ga, 0, none⟩) 1 k1) rfl rfl (by kernel_rfl) (by kernel_rfl) (by kernel_rfl) (fun _ _ _ h => h) (by kernel_rfl) (fun W hW => by kernel_rfl) (by assumption) rfl rfl ?_
              simp only [Act.put, List.setIfInBounds_toArray, List.set_cons_zero, List.set_cons_succ]
              refine wpAnyH_yield 26 174 (.pointer (some ⟨ga, 0, none⟩)) rfl rfl (by kernel_rfl) (by kernel_rfl) (by kernel_rfl) (fun _ _ _ h => h) (by kernel_rfl) (fun W hW => by go_simp) (by assumption) rfl rfl ?_
              simp only [Act.put, List.setIfInBounds_toArray, List.set_cons_zero, List.set_cons_succ]
              refine wpAnyH_yield 27 175 (.pointer (some ⟨ga, 1, none⟩)) rfl rfl (by kernel_rfl) (by kernel_rfl) (by kernel_rfl) (fun _ _ _ h => h) (by kernel_rfl) (fun W hW => by go_simp) (by assumption) rfl rfl ?_
              simp only [Act.put, List.setIfInBounds_toArray, List.set_cons_zero, List.set_cons_succ]
              refine wpAnyH_yield 28 176 (.agg #[.int .i64 1, .int .i64 s, .string ke, .int .i64 tm, .int .i64 va]) rfl rfl (by kernel_rfl) (by kernel_rfl) (by kernel_rfl) (fun _ _ _ h => h) (by kernel_rfl) (fun W hW => by obtain ⟨⟨l0, l1, l2⟩, l3, l4, l5⟩ := CA.out W (T6.out.tr hW); go_simp) (by assumption) rfl rfl ?_
              simp only [Act.put, List.setIfInBounds_toArray, List.set_cons_zero, List.set_cons_succ]
              refine wpAnyH_yield 29 177 (.int .i64 s) rfl rfl (by kernel_rfl) (by kernel_rfl) (by kernel_rfl) (fun _ _ _ h => h) (by kernel_rfl) (fun W hW => by kernel_rfl) (by assumption) rfl rfl ?_
              simp only [Act.put, List.setIfInBounds_toArray, List.set_cons_zero, List.set_cons_succ]
              refine wpAnyH_yield 30 178 (.slice (some ⟨gg, off, none⟩) n nc) rfl rfl (by kernel_rfl) (by kernel_rfl) (by kernel_rfl) (fun _ _ _ h => h) (by kernel_rfl) (fun W hW => by kernel_rfl) (by assumption) rfl rfl ?_
              simp only [Act.put, List.setIfInBounds_toArray, List.set_cons_zero, List.set_cons_succ]
              refine wpAnyH_yield 31 179 (.int .i64 (i : Int)) rfl rfl (by kernel_rfl) (by kernel_rfl) (by kernel_rfl) (fun _ _ _ h => h) (by kernel_rfl) (fun W hW => by kernel_rfl) (by assumption) rfl rfl ?_
              simp only [Act.put, List.setIfInBounds_toArray, List.set_cons_zero, List.set_cons_succ]
              refine wpAnyH_yield 32 180 (.pointer (some ⟨gg, off + i * 5, none⟩)) rfl rfl (by kernel_rfl) (by kernel_rfl) (by kernel_rfl) (fun _ _ _ h => h) (by kernel_rfl) (fun W hW => by go_simp) (by assumption) rfl rfl ?_
              simp only [Act.put, List.setIfInBounds_toArray, List.set_cons_zero, List.set_cons_succ]
              refine wpAnyH_yield 33 181 (.pointer (some ⟨gg, off + i * 5 + 1, none⟩)) rfl rfl (by kernel_rfl) (by kernel_rfl) (by kernel_rfl) (fun _ _ _ h => h) (by kernel_rfl) (fun W hW => by go_simp) (by assumption) rfl rfl ?_
              simp only [Act.put, List.setIfInBounds_toArray, List.set_cons_zero, List.set_cons_succ]
              refine wpAnyH_yield 34 182 (.string ke) rfl rfl (by kernel_rfl) (by kernel_rfl) (by kernel_rfl) (fun _ _ _ h => h) (by kernel_rfl) (fun W hW => by obtain ⟨i0, i1, i2, i3, i4⟩ := CI.out W (HE6.out.calm.tr hW); go_simp) (by assumption) rfl rfl ?_
              simp only [Act.put, List.setIfInBounds_toArray, List.set_cons_zero, List.set_cons_succ]
              refine wpAnyH_yield 35 183 (.slice (some ⟨gg, off, none⟩) n nc) rfl rfl (by kernel_rfl) (by kernel_rfl) (by kernel_rfl) (fun _ _ _ h => h) (by kernel_rfl) (fun W hW => by kernel_rfl) (by assumption) rfl rfl ?_
              simp only [Act.put, List.setIfInBounds_toArray, List.set_cons_zero, List.set_cons_succ]
              refine wpAnyH_yield 36 184 (.int .i64 (i : Int)) rfl rfl (by kernel_rfl) (by kernel_rfl) (by kernel_rfl) (fun _ _ _ h => h) (by kernel_rfl) (fun W hW => by kernel_rfl) (by assumption) rfl rfl ?_
              simp only [Act.put, List.setIfInBounds_toArray, List.set_cons_zero, List.set_cons_succ]
              refine wpAnyH_yield 37 185 (.pointer (some ⟨gg, off + i * 5, none⟩)) rfl rfl (by kernel_rfl) (by kernel_rfl) (by kernel_rfl) (fun _ _ _ h => h) (by kernel_rfl) (fun W hW => by go_simp) (by assumption) rfl rfl ?_
              simp only [Act.put, List.setIfInBounds_toArray, List.set_cons_zero, List.set_cons_succ]
              refine wpAnyH_yield 38 186 (.pointer (some ⟨gg, off + i * 5 + 2, none⟩)) rfl rfl (by kernel_rfl) (by kernel_rfl) (by kernel_rfl) (fun _ _ _ h => h) (by kernel_rfl) (fun W hW => by go_simp) (by assumption) rfl rfl ?_
              simp only [Act.put, List.setIfInBounds_toArray, List.set_cons_zero, List.set_cons_succ]
              refine wpAnyH_yield 39 187 (.int .i64 tm) rfl rfl (by kernel_rfl) (by kernel_rfl) (by kernel_rfl) (fun _ _ _ h => h) (by kernel_rfl) (fun W hW => by obtain ⟨i0, i1, i2, i3, i4⟩ := CI.out W (HE6.out.calm.tr hW); go_simp) (by assumption) rfl rfl ?_
              simp only [Act.put, List.setIfInBounds_toArray, List.set_cons_zero, List.set_cons_succ]
              refine wpAnyH_yield 40 188 (.slice (some ⟨gg, off, none⟩) n nc) rfl rfl (by kernel_rfl) (by kernel_rfl) (by kernel_rfl) (fun _ _ _ h => h) (by kernel_rfl) (fun W hW => by kernel_rfl) (by assumption) rfl rfl ?_
              simp only [Act.put, List.setIfInBounds_toArray, List.set_cons_zero, List.set_cons_succ]
              refine wpAnyH_yield 41 189 (.int .i64 (i : Int)) rfl rfl (by kernel_rfl) (by kernel_rfl) (by kernel_rfl) (fun _ _ _ h => h) (by kernel_rfl) (fun W hW => by kernel_rfl) (by assumption) rfl rfl ?_
              simp only [Act.put, List.setIfInBounds_toArray, List.set_cons_zero, List.set_cons_succ]
              refine wpAnyH_yield 42 190 (.pointer (some ⟨gg, off + i * 5, none⟩)) rfl rfl (by kernel_rfl) (by kernel_rfl) (by kernel_rfl) (fun _ _ _ h => h) (by kernel_rfl) (fun W hW => by go_simp) (by assumption) rfl rfl ?_
              simp only [Act.put, List.setIfInBounds_toArray, List.set_cons_zero, List.set_cons_succ]
              refine wpAnyH_yield 43 191 (.pointer (some ⟨gg, off + i * 5 + 3, none⟩)) rfl rfl (by kernel_rfl) (by kernel_rfl) (by kernel_rfl) (fun _ _ _ h => h) (by kernel_rfl) (fun W hW => by go_simp) (by assumption) rfl rfl ?_
              simp only [Act.put, List.setIfInBounds_toArray, List.set_cons_zero, List.set_cons_succ]
              refine wpAnyH_yield 44 192 (.int .i64 va) rfl rfl (by kernel_rfl) (by kernel_rfl) (by kernel_rfl) (fun _ _ _ h => h) (by kernel_rfl) (fun W hW => by obtain ⟨i0, i1, i2, i3, i4⟩ := CI.out W (HE6.out.calm.tr hW); go_simp) (by assumption) rfl rfl ?_
              simp only [Act.put, List.setIfInBounds_toArray, List.set_cons_zero, List.set_cons_succ]
              refine wpAnyH_yield 45 193 (.agg #[.int .i64 1, .int .i64 s, .string ke, .int .i64 tm, .int .i64 va]) rfl rfl (by kernel_rfl) (by kernel_rfl) (by kernel_rfl) (fun _ _ _ h => h) (by kernel_rfl) (fun W hW => by go_simp) (by assumption) rfl rfl ?_
              simp only [Act.put, List.setIfInBounds_toArray, List.set_cons_zero, List.set_cons_succ]
              refine wpAnyH_yield 46 194 (.bool false) rfl rfl (by kernel_rfl) (by kernel_rfl) (by kernel_rfl) (fun _ _ _ h => h) (by kernel_rfl) (fun W hW => by go_simp) (by assumption) rfl rfl ?_
              simp only [Act.put, List.setIfInBounds_toArray, List.set_cons_zero, List.set_cons_succ]
              refine wpAnyH_yield 47 195 (.bool false) rfl rfl (by kernel_rfl) (by kernel_rfl) (by kernel_rfl) (fun _ _ _ h => h) (by kernel_rfl) (fun W hW => by go_simp) (by assumption) rfl rfl ?_
              simp only [Act.put, List.setIfInBounds_toArray, List.set_cons_zero, List.set_cons_succ]
              refine wpAnyH_done (by kernel_rfl) ?_ _
              have HEV := hide (HE6.out.still I hT0)
              have TV := hide (T6.out.tr hT0)
              clear hT0 HE6 T6 kz kz2 kp
              generalize ({ v6 with drawn := v6.drawn + 1 } : World) = vD at *
              as_aux_lemma =>
               go_wp2_with fail
               go_loopw [22] (fun s22 wy => s22 = .int .i64 0 ∧ wy = vD) (fun _ _ => 0)
               case atStart => exact ⟨rfl, rfl⟩
               case round =>
                obtain ⟨rfl, rfl⟩ := hrel
                obtain ⟨i0, i1, i2, i3, i4⟩ := CI.out _ HEV.out.calm
                obtain ⟨⟨l0, l1, l2⟩, l3, l4, l5⟩ := CA.out _ TV.out
                obtain ⟨⟨m1, m2, m3⟩, m4, m5, m6⟩ := CB.out _ TV.out
                go_wp2_with fail
                go_quiet (fail)
                have HEV := hide (HEV.out.still I ((Touch.refl (fun _ => False) wr).drewN nq))
                clear TV l0 l1 l2 l3 l4 l5 i0 i1 i2 i3 i4 m1 m2 m3 m4 m5 m6
                generalize wr.drewN nq = vE at *
                have CQ := hide (HEV.out.seq I)
                clear nq
                go_wp2_with fail
                refine CQ.out.mono ?_
                rintro e v8 ⟨rfl, t8⟩
                have HE8 := hide (HEV.out.still I t8)
                have CR := hide (HE8.out.seq1 I)
                clear CQ HEV t8
                go_wp2_with fail
                refine CR.out.mono ?_
                rintro e v9 ⟨rfl, t9⟩
                have HE9 := hide (HE8.out.still I t9)
                clear CR HE8 t9
                go_wp2_with fail
                go_roundw
                case rel => exact ⟨i + 1, _, L, _, last, rfl, rfl, by go_num, by omega, HM, HS2, HE9⟩
                case measure => simp [intOf]; omega
          · by_cases hm : mkN L = mkN (plM L x)
            ·
              as_aux_lemma =>
                obtain ⟨ki, ke, tm, va, sr⟩ := x
                have hk : ki = 2 := hk
                subst hk
                have HK : Hid (ke.size ≤ 256) := hide (itemZ_key hz)
                obtain ⟨K, hKK⟩ : ∃ K, K = wk p g (hsh ke % g) := ⟨_, rfl⟩
                have HKK := hide hKK
                clear hKK
                obtain ⟨L2, hL2⟩ : ∃ L2, L2 = plM L ⟨2, ke, tm, va, sr⟩ := ⟨_, rfl⟩
                have hup : mkN L ≤ mkN L2 := by rw [hL2]; exact mkN_up _ _
                have eL : itemL L ⟨2, ke, tm, va, sr⟩ = L2 := by rw [hL2]; rfl
                obtain ⟨m0, hm0⟩ : ∃ m0, mkN L = m0 := ⟨_, rfl⟩
                have hm : mkN L = mkN L2 := hL2 ▸ hm
                have HM0 := hide hm0
                have HM2 : Hid (mkN L2 = m0) := hide (by rw [← hm, hm0])
                have HML : Hid (last ≤ mkN L2) := hide (by have := HM.out; omega)
                have e1 : itemA p g L s ⟨2, ke, tm, va, sr⟩ = [] := by unfold itemA; rw [if_neg (show ¬ (2 : Int) = 1 by decide), if_pos rfl, if_pos (by rw [← hL2]; exact hm)]
                have e2 : itemA 1 g L s ⟨2, ke, tm, va, sr⟩ = [] := by unfold itemA; rw [if_neg (show ¬ (2 : Int) = 1 by decide), if_pos rfl, if_pos (by rw [← hL2]; exact hm)]
                clear hm0 hm hup hL2

                have CW := HE.out.water I
                rw [HM0.out] at CW
                have CW := hide CW
                go_wp2_with fail
                refine CW.out.mono ?_
                rintro e v1 ⟨rfl, t1⟩
                have HE1 := hide (HE.out.still I t1)
                obtain ⟨i0, i1, i2, i3, i4⟩ := CI.out v1 HE1.out.calm
                have C1 := HE1.out.item I HS.out _ hz
                rw [e1, eL] at C1
                have C1 := hide C1
                clear CW HE t1
                go_wp2_with fail
                refine C1.out.mono ?_
                rintro e v2 ⟨a1, k1, rfl, O1, E2⟩
                have HE2 := hide E2
                have O1 := hide O1
                clear C1 HE1 E2 i0 i1 i2 i3 i4
                obtain ⟨i0, i1, i2, i3, i4⟩ := CI.out v2 HE2.out.calm
                have C2 := HE2.out.item1 I (S1.out L HS.out) _ hz O1.out
                rw [e2, eL] at C2
                have C2 := hide C2
                clear hz e1 e2
                go_wp2_with fail
                refine C2.out.mono ?_
                rintro e v3 ⟨a2, k2, rfl, O2, O1, E3⟩
                have HE3 := hide E3
                have HS2 : Hid (Sit c p g L2) := hide (eL ▸ HS.out.next _)
                clear C2 HE2 E3 O1 O2 eL i0 i1 i2 i3 i4
                have CW := HE3.out.water I
                rw [HM2.out] at CW
                have CW := hide CW
                go_wp2_with fail
                refine CW.out.mono ?_
                rintro e v4 ⟨rfl, t4⟩
                have HE4 := hide (HE3.out.still I t4)
                have T4 := hide t4
                have CX := HE4.out.water1 I
                rw [HM2.out] at CX
                have CX := hide CX
                clear CW HE3 t4
                go_wp2_with fail
                refine CX.out.mono ?_
                rintro e v5 ⟨rfl, t5⟩
                have HE5 := hide (HE4.out.still I t5)
                have T5 := hide (T4.out.tr t5)
                have CK := HE5.out.worker I HS2.out ke HK.out
                rw [← HKK.out] at CK
                have CK := hide CK
                obtain ⟨i0, i1, i2, i3, i4⟩ := CI.out v5 HE5.out.calm
                clear CX HE4 t5 T4
                go_wp2_with fail
                refine CK.out.mono ?_
                rintro e v6 ⟨rfl, t6⟩
                have HE6 := hide (HE5.out.still I t6)
                have T6 := hide (T5.out.tr t6)
                clear i0 i1 i2 i3 i4 CK HE5 t6 T5
                obtain ⟨i0, i1, i2, i3, i4⟩ := CI.out v6 HE6.out.calm
                have CW := HE6.out.water I
                rw [HM2.out] at CW
                have CW := hide CW
                have eN : wrap64 (s + 1) = nxt s := rfl
                clear T6
                go_wp2_with fail
                refine CW.out.mono ?_
                rintro e v7 ⟨rfl, t7⟩
                have HE7 := hide (HE6.out.still I t7)
                clear CW HE6 t7 i0 i1 i2 i3 i4
                have CW := HE7.out.water I
                rw [HM2.out] at CW
                have CW := hide CW
                go_wp2_with fail
                refine CW.out.mono ?_
                rintro e vD ⟨rfl, t8⟩
                have HEV := hide (HE7.out.still I t8)
                clear CW HE7 t8
                go_wp2_with fail
                go_loopw [22] (fun s22 wy => s22 = .int .i64 0 ∧ wy = vD) (fun _ _ => 0)
                case atStart => exact ⟨rfl, rfl⟩
                case round =>
                  obtain ⟨rfl, rfl⟩ := hrel
                  obtain ⟨i0, i1, i2, i3, i4⟩ := CI.out _ HEV.out.calm
                  go_wp2_with fail
                  go_quiet (fail)
                  have HEV := hide (HEV.out.still I ((Touch.refl (fun _ => False) wr).drewN nq))
                  clear i0 i1 i2 i3 i4
                  generalize wr.drewN nq = vE at *
                  have CQ := hide (HEV.out.seq I)
                  clear nq
                  go_wp2_with fail
                  refine CQ.out.mono ?_
                  rintro e v8 ⟨rfl, t8⟩
                  have HE8 := hide (HEV.out.still I t8)
                  have CR := hide (HE8.out.seq1 I)
                  clear CQ HEV t8
                  go_wp2_with fail
                  refine CR.out.mono ?_
                  rintro e v9 ⟨rfl, t9⟩
                  have HE9 := hide (HE8.out.still I t9)
                  clear CR HE8 t9
                  go_wp2_with fail
                  go_roundw
                  case rel => exact ⟨i + 1, _, L2, _, last, rfl, rfl, by go_num, by omega, HML, HS2, HE9⟩
                  case measure => simp [intOf]; omega
            ·
              as_aux_lemma =>
                obtain ⟨ki, ke, tm, va, sr⟩ := x
                have hk : ki = 2 := hk
                subst hk
                have HK : Hid (ke.size ≤ 256) := hide (itemZ_key hz)
                obtain ⟨K, hKK⟩ : ∃ K, K = wk p g (hsh ke % g) := ⟨_, rfl⟩
                have HKK := hide hKK
                clear hKK
                obtain ⟨L2, hL2⟩ : ∃ L2, L2 = plM L ⟨2, ke, tm, va, sr⟩ := ⟨_, rfl⟩
                have hup : mkN L ≤ mkN L2 := by rw [hL2]; exact mkN_up _ _
                have eL : itemL L ⟨2, ke, tm, va, sr⟩ = L2 := by rw [hL2]; rfl
                obtain ⟨m0, hm0⟩ : ∃ m0, mkN L = m0 := ⟨_, rfl⟩
                obtain ⟨m2, hm2⟩ : ∃ m2, mkN L2 = m2 := ⟨_, rfl⟩
                have hm : ¬ mkN L = mkN L2 := hL2 ▸ hm
                have HM0 := hide hm0
                have HM2 := hide hm2
                have HLT : Hid (m0 < m2 ∧ last < m2) := hide (by have := HM.out; omega)
                have HML : Hid (m2 ≤ mkN L2) := hide (by omega)
                have e1 : itemA p g L s ⟨2, ke, tm, va, sr⟩ = allS p ⟨0, 2, s, ⟨#[]⟩, m2, 0⟩ := by unfold itemA; rw [if_neg (show ¬ (2 : Int) = 1 by decide), if_pos rfl, if_neg (by rw [← hL2]; exact hm), ← hL2, hm2]
                have e2 : itemA 1 g L s ⟨2, ke, tm, va, sr⟩ = [⟨0, 2, s, ⟨#[]⟩, m2, 0⟩] := by unfold itemA; rw [if_neg (show ¬ (2 : Int) = 1 by decide), if_pos rfl, if_neg (by rw [← hL2]; exact hm), ← hL2, hm2]; rfl
                clear hm0 hm hup hL2 hm2

                have CW := HE.out.water I
                rw [HM0.out] at CW
                have CW := hide CW
                go_wp2_with fail
                refine CW.out.mono ?_
                rintro e v1 ⟨rfl, t1⟩
                have HE1 := hide (HE.out.still I t1)
                obtain ⟨i0, i1, i2, i3, i4⟩ := CI.out v1 HE1.out.calm
                have C1 := HE1.out.item I HS.out _ hz
                rw [e1, eL, all_len] at C1
                have C1 := hide C1
                clear CW HE t1
                go_wp2_with fail
                refine C1.out.mono ?_
                rintro e v2 ⟨a1, k1, rfl, O1, E2⟩
                have HE2 := hide E2
                have O1 := hide O1
                clear C1 HE1 E2 i0 i1 i2 i3 i4
                obtain ⟨i0, i1, i2, i3, i4⟩ := CI.out v2 HE2.out.calm
                have C2 := HE2.out.item1 I (S1.out L HS.out) _ hz O1.out
                rw [e2, eL] at C2
                have C2 := hide C2
                clear hz e1 e2
                go_wp2_with fail
                refine C2.out.mono ?_
                rintro e v3 ⟨a2, k2, rfl, O2, O1, E3⟩
                have HE3 := hide E3
                have HS2 : Hid (Sit c p g L2) := hide (eL ▸ HS.out.next _)
                obtain ⟨ga, rfl, ca⟩ := all_W O1 PP.out.1
                obtain ⟨gb, rfl, cb⟩ := sn_one O2
                have CA := hide ca
                have CB := hide cb
                clear ca cb
                clear C2 HE2 E3 O1 O2 eL i0 i1 i2 i3 i4
                have CW := HE3.out.water I
                rw [HM2.out] at CW
                have CW := hide CW
                go_wp2_with fail
                refine CW.out.mono ?_
                rintro e v4 ⟨rfl, t4⟩
                have HE4 := hide (HE3.out.still I t4)
                have T4 := hide t4
                have CX := HE4.out.water1 I
                rw [HM2.out] at CX
                have CX := hide CX
                clear CW HE3 t4
                go_wp2_with fail
                refine CX.out.mono ?_
                rintro e v5 ⟨rfl, t5⟩
                have HE5 := hide (HE4.out.still I t5)
                have T5 := hide (T4.out.tr t5)
                have CK := HE5.out.worker I HS2.out ke HK.out
                rw [← HKK.out] at CK
                have CK := hide CK
                obtain ⟨i0, i1, i2, i3, i4⟩ := CI.out v5 HE5.out.calm
                clear CX HE4 t5 T4
                go_wp2_with fail
                refine CK.out.mono ?_
                rintro e v6 ⟨rfl, t6⟩
                have HE6 := hide (HE5.out.still I t6)
                have T6 := hide (T5.out.tr t6)
                clear i0 i1 i2 i3 i4 CK HE5 t6 T5
                obtain ⟨i0, i1, i2, i3, i4⟩ := CI.out v6 HE6.out.calm
                have CW := HE6.out.water I
                rw [HM2.out] at CW
                have CW := hide CW
                have eN : wrap64 (s + 1) = nxt s := rfl
                have pz : (0 : Int) < (p : Int) := by have := PP.out; omega
                have pz2 : 0 < p := PP.out.1
                obtain ⟨lt0, lt1⟩ := HLT.out
                have lt2 : ¬ m2 ≤ last := by omega
                have lt3 : ¬ m2 < m0 := by omega
                go_wp2_with fail
                refine CW.out.mono ?_
                rintro e v7 ⟨rfl, t7⟩
                have HE7 := hide (HE6.out.still I t7)
                have T7 := hide (T6.out.tr t7)
                clear CW HE6 T6 t7 i0 i1 i2 i3 i4
                have CW := HE7.out.water I
                rw [HM2.out] at CW
                have CW := hide CW
                go_wp2_with fail
                refine CW.out.mono ?_
                rintro e v8 ⟨rfl, t8⟩
                have HE8 := hide (HE7.out.still I t8)
                have T8 := hide (T7.out.tr t8)
                clear CW HE7 T7 t8
                have CW := HE8.out.water I
                rw [HM2.out] at CW
                have CW := hide CW
                go_wp2_with fail
                refine CW.out.mono ?_
                rintro e v9 ⟨rfl, t9⟩
                have HE9 := hide (HE8.out.still I t9)
                have T9 := hide (T8.out.tr t9)
                clear CW HE8 T8 t9
                have CW := HE9.out.water I
                rw [HM2.out] at CW
                have CW := hide CW
                go_wp2_with fail
                refine CW.out.mono ?_
                rintro e vD ⟨rfl, t10⟩
                have HEV := hide (HE9.out.still I t10)
                have TV := hide (T9.out.tr t10)
                clear CW HE9 T9 t10
                go_wp2_with fail
                go_loopw [22] (fun s22 wy => ∃ j : Nat, s22 = .int .i64 (j : Int) ∧ j ≤ p ∧ Calm vD wy) (fun s22 _ => p - (intOf s22).toNat)
                case atStart => exact ⟨0, rfl, by omega, Touch.refl _ _⟩
                case round =>
                  obtain ⟨j, rfl, hj, hC⟩ := hrel
                  have HC := hide hC
                  clear hC
                  by_cases hlj : j < p
                  · have hljz : (j : Int) < (p : Int) := by omega
                    have jz : ¬ (p : Int) ≤ (j : Int) := by omega
                    have jb : (j : Int) ≤ 32768 := by have := PP.out; omega
                    have HEA := hide ((HEV.out.still I HC.out).still I ((Touch.refl (fun _ => False) wr).alloc (.cells #[.int .i64 3, .int .i64 s, .string ⟨#[]⟩, .int .i64 0, .int .i64 0] 57)))
                    have TA := hide ((Touch.refl (fun _ => False) wr).alloc (.cells #[.int .i64 3, .int .i64 s, .string ⟨#[]⟩, .int .i64 0, .int .i64 0] 57))
                    have AN := hide (al_new wr (.cells #[.int .i64 3, .int .i64 s, .string ⟨#[]⟩, .int .i64 0, .int .i64 0] 57))
                    obtain ⟨i0, i1, i2, i3, i4⟩ := CI.out _ (HEV.out.calm.tr HC.out)
                    obtain ⟨i5, -⟩ := CI.out _ HEA.out.calm
                    go_wp2_with fail
                    clear i0 i1 i2 i3 i4 i5
                    generalize wr.alloc (.cells #[.int .i64 3, .int .i64 s, .string ⟨#[]⟩, .int .i64 0, .int .i64 0] 57) = va at *
                    generalize hDm : wr.heap.size = Dm at *
                    have HDm := hide hDm
                    clear hDm
                    have CW := HEA.out.water I
                    rw [HM2.out] at CW
                    have CW := hide CW
                    refine CW.out.mono ?_
                    rintro e vb ⟨rfl, tb⟩
                    have AB := tb.at AN.out
                    obtain ⟨d0, d1, d2, d3, d4⟩ := msg_cells AB
                    have f0 := hd_frozen AB 0
                    have f1 := hd_frozen AB 1
                    have f2 := hd_frozen AB 2
                    have f3 := hd_frozen AB 3
                    have f4 := hd_frozen AB 4
                    obtain ⟨AB2, TB2⟩ := msg_set AB 2 s ⟨#[]⟩ m2 0
                    have TA := hide ((TA.out.tr tb).trans TB2 fun k hk e => by have := HDm.out; omega)
                    have AN := hide AB2
                    clear AB TB2 AB2 tb CW HEA
                    go_wp2_with fail
                    clear d0 d1 d2 d3 d4 f0 f1 f2 f3 f4
                    generalize ((((vb.setCell ⟨Dm, 0, none⟩ (.int .i64 2)).setCell ⟨Dm, 1, none⟩ (.int .i64 s)).setCell ⟨Dm, 2, none⟩ (.string ⟨#[]⟩)).setCell ⟨Dm, 3, none⟩ (.int .i64 m2)).setCell ⟨Dm, 4, none⟩ (.int .i64 0) = vm at *
                    refine wp_region_held (S := Calm vm) (by kernel_rfl) ?_
                    have hT0 : Calm vm { vm with drawn := vm.drawn + 1 } := (Touch.refl _ vm).drew
                    refine wpAnyH_yield 0 263 (.slice (some ⟨ga, 0, none⟩) p k1) rfl rfl (by kernel_rfl) (by kernel_rfl) (by kernel_rfl) (fun _ _ _ h => h) (by kernel_rfl) (fun W hW => by kernel_rfl) (by assumption) rfl rfl ?_
                    simp only [Act.put, List.setIfInBounds_toArray, List.set_cons_zero, List.set_cons_succ]
                    refine wpAnyH_yield 1 264 (.int .i64 (j : Int)) rfl rfl (by kernel_rfl) (by kernel_rfl) (by kernel_rfl) (fun _ _ _ h => h) (by kernel_rfl) (fun W hW => by kernel_rfl) (by assumption) rfl rfl ?_
                    simp only [Act.put, List.setIfInBounds_toArray, List.set_cons_zero, List.set_cons_succ]
                    refine wpAnyH_yield 2 265 (.pointer (some ⟨ga, j * 6, none⟩)) rfl rfl (by kernel_rfl) (by kernel_rfl) (by kernel_rfl) (fun _ _ _ h => h) (by kernel_rfl) (fun W hW => by go_simp) (by assumption) rfl rfl ?_
                    simp only [Act.put, List.setIfInBounds_toArray, List.set_cons_zero, List.set_cons_succ]
                    refine wpAnyH_yield 3 266 (.pointer (some ⟨ga, j * 6, none⟩)) rfl rfl (by kernel_rfl) (by kernel_rfl) (by kernel_rfl) (fun _ _ _ h => h) (by kernel_rfl) (fun W hW => by go_simp) (by assumption) rfl rfl ?_
                    simp only [Act.put, List.setIfInBounds_toArray, List.set_cons_zero, List.set_cons_succ]
                    refine wpAnyH_yield 4 267 (.int .i64 (j : Int)) rfl rfl (by kernel_rfl) (by kernel_rfl) (by kernel_rfl) (fun _ _ _ h => h) (by kernel_rfl) (fun W hW => by obtain ⟨⟨l0, l1, l2⟩, l3, l4, l5⟩ := CA.out j hlj W (TV.out.tr (HC.out.tr (TA.out.tr hW))); go_simp) (by assumption) rfl rfl ?_
                    simp only [Act.put, List.setIfInBounds_toArray, List.set_cons_zero, List.set_cons_succ]
                    refine wpAnyH_yield 5 268 (.int .i64 (j : Int)) rfl rfl (by kernel_rfl) (by kernel_rfl) (by kernel_rfl) (fun _ _ _ h => h) (by kernel_rfl) (fun W hW => by kernel_rfl) (by assumption) rfl rfl ?_
                    simp only [Act.put, List.setIfInBounds_toArray, List.set_cons_zero, List.set_cons_succ]
                    refine wpAnyH_yield 6 269 (.bool false) rfl rfl (by kernel_rfl) (by kernel_rfl) (by kernel_rfl) (fun _ _ _ h => h) (by kernel_rfl) (fun W hW => by go_simp) (by assumption) rfl rfl ?_
                    simp only [Act.put, List.setIfInBounds_toArray, List.set_cons_zero, List.set_cons_succ]
                    refine wpAnyH_yield 7 270 (.bool false) rfl rfl (by kernel_rfl) (by kernel_rfl) (by kernel_rfl) (fun _ _ _ h => h) (by kernel_rfl) (fun W hW => by kernel_rfl) (by assumption) rfl rfl ?_
                    simp only [Act.put, List.setIfInBounds_toArray, List.set_cons_zero, List.set_cons_succ]
                    refine wpAnyH_yield 8 271 (.slice (some ⟨ga, 0, none⟩) p k1) rfl rfl (by kernel_rfl) (by kernel_rfl) (by kernel_rfl) (fun _ _ _ h => h) (by kernel_rfl) (fun W hW => by kernel_rfl) (by assumption) rfl rfl ?_
                    simp only [Act.put, List.setIfInBounds_toArray, List.set_cons_zero, List.set_cons_succ]
                    refine wpAnyH_yield 9 272 (.int .i64 (j : Int)) rfl rfl (by kernel_rfl) (by kernel_rfl) (by kernel_rfl) (fun _ _ _ h => h) (by kernel_rfl) (fun W hW => by kernel_rfl) (by assumption) rfl rfl ?_
                    simp only [Act.put, List.setIfInBounds_toArray, List.set_cons_zero, List.set_cons_succ]
                    refine wpAnyH_yield 10 273 (.pointer (some ⟨ga, j * 6, none⟩)) rfl rfl (by kernel_rfl) (by kernel_rfl) (by kernel_rfl) (fun _ _ _ h => h) (by kernel_rfl) (fun W hW => by go_simp) (by assumption) rfl rfl ?_
                    simp only [Act.put, List.setIfInBounds_toArray, List.set_cons_zero, List.set_cons_succ]
                    refine wpAnyH_yield 11 274 (.pointer (some ⟨ga, j * 6 + 1, none⟩)) rfl rfl (by kernel_rfl) (by kernel_rfl) (by kernel_rfl) (fun _ _ _ h => h) (by kernel_rfl) (fun W hW => by go_simp) (by assumption) rfl rfl ?_
                    simp only [Act.put, List.setIfInBounds_toArray, List.set_cons_zero, List.set_cons_succ]
                    refine wpAnyH_yield 12 275 (.agg #[.int .i64 2, .int .i64 s, .string ⟨#[]⟩, .int .i64 m2, .int .i64 0]) rfl rfl (by kernel_rfl) (by kernel_rfl) (by kernel_rfl) (fun _ _ _ h => h) (by kernel_rfl) (fun W hW => by obtain ⟨⟨l0, l1, l2⟩, l3, l4, l5⟩ := CA.out j hlj W (TV.out.tr (HC.out.tr (TA.out.tr hW))); go_simp) (by assumption) rfl rfl ?_
                    simp only [Act.put, List.setIfInBounds_toArray, List.set_cons_zero, List.set_cons_succ]
                    refine wpAnyH_yield 13 276 (.agg #[.int .i64 2, .int .i64 s, .string ⟨#[]⟩, .int .i64 m2, .int .i64 0]) rfl rfl (by kernel_rfl) (by kernel_rfl) (by kernel_rfl) (fun _ _ _ h => h) (by kernel_rfl) (fun W hW => by obtain ⟨d0, d1, d2, d3, d4⟩ := msg_cells (hW.at AN.out); go_simp) (by assumption) rfl rfl ?_
                    simp only [Act.put, List.setIfInBounds_toArray, List.set_cons_zero, List.set_cons_succ]
                    refine wpAnyH_yield 14 277 (.bool false) rfl rfl (by kernel_rfl) (by kernel_rfl) (by kernel_rfl) (fun _ _ _ h => h) (by kernel_rfl) (fun W hW => by go_simp) (by assumption) rfl rfl ?_
                    simp only [Act.put, List.setIfInBounds_toArray, List.set_cons_zero, List.set_cons_succ]
                    refine wpAnyH_yield 15 278 (.bool false) rfl rfl (by kernel_rfl) (by kernel_rfl) (by kernel_rfl) (fun _ _ _ h => h) (by kernel_rfl) (fun W hW => by go_simp) (by assumption) rfl rfl ?_
                    simp only [Act.put, List.setIfInBounds_toArray, List.set_cons_zero, List.set_cons_succ]
                    refine wpAnyH_done (by kernel_rfl) ?_ _
                    have HF := hide (HC.out.tr (TA.out.tr hT0))
                    clear hT0 TA AN HC
                    generalize ({ vm with drawn := vm.drawn + 1 } : World) = vn at *
                    go_wp2_with fail
                    go_roundw
                    case rel => exact ⟨j + 1, by go_num, by omega, HF.out⟩
                    case measure => simp [intOf]; omega
                  · have hljz : ¬ (j : Int) < (p : Int) := by omega
                    obtain rfl : j = p := by omega
                    have pz : (0 : Int) < (j : Int) := by have := PP.out; omega
                    have pz2 : 0 < j := PP.out.1
                    have pz3 : ¬ (j : Int) ≤ 0 := by omega
                    obtain ⟨i0, i1, i2, i3, i4⟩ := CI.out _ (HEV.out.calm.tr HC.out)
                    obtain ⟨⟨l0, l1, l2⟩, l3, l4, l5⟩ := CA.out 0 pz2 _ (TV.out.tr HC.out)
                    simp only [Nat.zero_mul, Nat.zero_add] at l0 l1 l2 l3 l4 l5
                    obtain ⟨⟨n1, n2, n3⟩, n4, n5, n6⟩ := CB.out _ (TV.out.tr HC.out)
                    go_wp2_with fail
                    go_quiet (fail)
                    have HEV := hide ((HEV.out.still I HC.out).still I ((Touch.refl (fun _ => False) wr).drewN nq))
                    clear TV HC l0 l1 l2 l3 l4 l5 i0 i1 i2 i3 i4 n1 n2 n3 n4 n5 n6
                    generalize wr.drewN nq = vE at *
                    have CQ := hide (HEV.out.seq I)
                    clear nq
                    go_wp2_with fail
                    refine CQ.out.mono ?_
                    rintro e v8 ⟨rfl, t8⟩
                    have HE8 := hide (HEV.out.still I t8)
                    have CR := hide (HE8.out.seq1 I)
                    clear CQ HEV t8
                    go_wp2_with fail
                    refine CR.out.mono ?_
                    rintro e v9 ⟨rfl, t9⟩
                    have HE9 := hide (HE8.out.still I t9)
                    clear CR HE8 t9
                    go_wp2_with fail
                    go_roundw
                    case rel => exact ⟨i + 1, _, L2, _, m2, rfl, rfl, by go_num, by omega, HML, HS2, HE9⟩
                    case measure => simp [intOf]; omega
          ·
            as_aux_lemma =>
              obtain ⟨ki, ke, tm, va, sr⟩ := x
              have hk : ki = 3 := hk
              subst hk
              have HK : Hid (ke.size ≤ 256) := hide (itemZ_key hz)
              obtain ⟨K, hKK⟩ : ∃ K, K = wk p g (hsh ke % g) := ⟨_, rfl⟩
              have HKK := hide hKK
              clear hKK
              have e1 : itemA p g L s ⟨3, ke, tm, va, sr⟩ = allS p ⟨0, 3, s, ⟨#[]⟩, 0, 0⟩ := rfl
              have e2 : itemA 1 g L s ⟨3, ke, tm, va, sr⟩ = [⟨0, 3, s, ⟨#[]⟩, 0, 0⟩] := rfl
              have eL : itemL L ⟨3, ke, tm, va, sr⟩ = L := rfl
              obtain ⟨m0, hm0⟩ : ∃ m0, mkN L = m0 := ⟨_, rfl⟩
              have HM0 := hide hm0
              have HM2 := hide hm0
              clear hm0

              have CW := HE.out.water I
              rw [HM0.out] at CW
              have CW := hide CW
              go_wp2_with fail
              refine CW.out.mono ?_
              rintro e v1 ⟨rfl, t1⟩
              have HE1 := hide (HE.out.still I t1)
              obtain ⟨i0, i1, i2, i3, i4⟩ := CI.out v1 HE1.out.calm
              have C1 := HE1.out.item I HS.out _ hz
              rw [e1, eL, all_len] at C1
              have C1 := hide C1
              clear CW HE t1
              go_wp2_with fail
              refine C1.out.mono ?_
              rintro e v2 ⟨a1, k1, rfl, O1, E2⟩
              have HE2 := hide E2
              have O1 := hide O1
              clear C1 HE1 E2 i0 i1 i2 i3 i4
              obtain ⟨i0, i1, i2, i3, i4⟩ := CI.out v2 HE2.out.calm
              have C2 := HE2.out.item1 I (S1.out L HS.out) _ hz O1.out
              rw [e2, eL] at C2
              have C2 := hide C2
              clear hz e1 e2
              go_wp2_with fail
              refine C2.out.mono ?_
              rintro e v3 ⟨a2, k2, rfl, O2, O1, E3⟩
              have HE3 := hide E3
              have HS2 : Hid (Sit c p g L) := hide (eL ▸ HS.out.next _)
              obtain ⟨ga, rfl, ca⟩ := all_W O1 PP.out.1
              obtain ⟨gb, rfl, cb⟩ := sn_one O2
              have CA := hide ca
              have CB := hide cb
              clear ca cb
              clear C2 HE2 E3 O1 O2 eL i0 i1 i2 i3 i4
              have CW := HE3.out.water I
              rw [HM2.out] at CW
              have CW := hide CW
              go_wp2_with fail
              refine CW.out.mono ?_
              rintro e v4 ⟨rfl, t4⟩
              have HE4 := hide (HE3.out.still I t4)
              have T4 := hide t4
              have CX := HE4.out.water1 I
              rw [HM2.out] at CX
              have CX := hide CX
              clear CW HE3 t4
              go_wp2_with fail
              refine CX.out.mono ?_
              rintro e v5 ⟨rfl, t5⟩
              have HE5 := hide (HE4.out.still I t5)
              have T5 := hide (T4.out.tr t5)
              have CK := HE5.out.worker I HS2.out ke HK.out
              rw [← HKK.out] at CK
              have CK := hide CK
              obtain ⟨i0, i1, i2, i3, i4⟩ := CI.out v5 HE5.out.calm
              clear CX HE4 t5 T4
              go_wp2_with fail
              refine CK.out.mono ?_
              rintro e v6 ⟨rfl, t6⟩
              have HE6 := hide (HE5.out.still I t6)
              have T6 := hide (T5.out.tr t6)
              clear i0 i1 i2 i3 i4 CK HE5 t6 T5
              obtain ⟨i0, i1, i2, i3, i4⟩ := CI.out v6 HE6.out.calm
              have eN : wrap64 (s + 1) = nxt s := rfl
              go_wp2_with fail
              have HEV := HE6
              have TV := T6
              generalize v6 = vD at *
              go_wp2_with fail
              go_loopw [22] (fun s22 wy => ∃ j : Nat, s22 = .int .i64 (j : Int) ∧ j ≤ p ∧ Calm vD wy) (fun s22 _ => p - (intOf s22).toNat)
              case atStart => exact ⟨0, rfl, by omega, Touch.refl _ _⟩
              case round =>
                obtain ⟨j, rfl, hj, hC⟩ := hrel
                have HC := hide hC
                clear hC
                by_cases hlj : j < p
                · have hljz : (j : Int) < (p : Int) := by omega
                  have jz : ¬ (p : Int) ≤ (j : Int) := by omega
                  have jb : (j : Int) ≤ 32768 := by have := PP.out; omega
                  have HEA := hide ((HEV.out.still I HC.out).still I ((Touch.refl (fun _ => False) wr).alloc (.cells #[.int .i64 3, .int .i64 s, .string ⟨#[]⟩, .int .i64 0, .int .i64 0] 57)))
                  have TA := hide ((Touch.refl (fun _ => False) wr).alloc (.cells #[.int .i64 3, .int .i64 s, .string ⟨#[]⟩, .int .i64 0, .int .i64 0] 57))
                  have AN := hide (al_new wr (.cells #[.int .i64 3, .int .i64 s, .string ⟨#[]⟩, .int .i64 0, .int .i64 0] 57))
                  obtain ⟨i0, i1, i2, i3, i4⟩ := CI.out _ (HEV.out.calm.tr HC.out)
                  obtain ⟨i5, -⟩ := CI.out _ HEA.out.calm
                  go_wp2_with fail
                  clear i0 i1 i2 i3 i4 i5
                  generalize wr.alloc (.cells #[.int .i64 3, .int .i64 s, .string ⟨#[]⟩, .int .i64 0, .int .i64 0] 57) = va at *
                  generalize hDm : wr.heap.size = Dm at *
                  have HDm := hide hDm
                  clear hDm
                  have HEA := HEA
                  clear HEA
                  generalize va = vm at *
                  refine wp_region_held (S := Calm vm) (by kernel_rfl) ?_
                  have hT0 : Calm vm { vm with drawn := vm.drawn + 1 } := (Touch.refl _ vm).drew
                  refine wpAnyH_yield 0 263 (.slice (some ⟨ga, 0, none⟩) p k1) rfl rfl (by kernel_rfl) (by kernel_rfl) (by kernel_rfl) (fun _ _ _ h => h) (by kernel_rfl) (fun W hW => by kernel_rfl) (by assumption) rfl rfl ?_
                  simp only [Act.put, List.setIfInBounds_toArray, List.set_cons_zero, List.set_cons_succ]
                  refine wpAnyH_yield 1 264 (.int .i64 (j : Int)) rfl rfl (by kernel_rfl) (by kernel_rfl) (by kernel_rfl) (fun _ _ _ h => h) (by kernel_rfl) (fun W hW => by kernel_rfl) (by assumption) rfl rfl ?_
                  simp only [Act.put, List.setIfInBounds_toArray, List.set_cons_zero, List.set_cons_succ]
                  refine wpAnyH_yield 2 265 (.pointer (some ⟨ga, j * 6, none⟩)) rfl rfl (by kernel_rfl) (by kernel_rfl) (by kernel_rfl) (fun _ _ _ h => h) (by kernel_rfl) (fun W hW => by go_simp) (by assumption) rfl rfl ?_
                  simp only [Act.put, List.setIfInBounds_toArray, List.set_cons_zero, List.set_cons_succ]
                  refine wpAnyH_yield 3 266 (.pointer (some ⟨ga, j * 6, none⟩)) rfl rfl (by kernel_rfl) (by kernel_rfl) (by kernel_rfl) (fun _ _ _ h => h) (by kernel_rfl) (fun W hW => by go_simp) (by assumption) rfl rfl ?_
                  simp only [Act.put, List.setIfInBounds_toArray, List.set_cons_zero, List.set_cons_succ]
                  refine wpAnyH_yield 4 267 (.int .i64 (j : Int)) rfl rfl (by kernel_rfl) (by kernel_rfl) (by kernel_rfl) (fun _ _ _ h => h) (by kernel_rfl) (fun W hW => by obtain ⟨⟨l0, l1, l2⟩, l3, l4, l5⟩ := CA.out j hlj W (TV.out.tr (HC.out.tr (TA.out.tr hW))); go_simp) (by assumption) rfl rfl ?_
                  simp only [Act.put, List.setIfInBounds_toArray, List.set_cons_zero, List.set_cons_succ]
                  refine wpAnyH_yield 5 268 (.int .i64 (j : Int)) rfl rfl (by kernel_rfl) (by kernel_rfl) (by kernel_rfl) (fun _ _ _ h => h) (by kernel_rfl) (fun W hW => by kernel_rfl) (by assumption) rfl rfl ?_
                  simp only [Act.put, List.setIfInBounds_toArray, List.set_cons_zero, List.set_cons_succ]
                  refine wpAnyH_yield 6 269 (.bool false) rfl rfl (by kernel_rfl) (by kernel_rfl) (by kernel_rfl) (fun _ _ _ h => h) (by kernel_rfl) (fun W hW => by go_simp) (by assumption) rfl rfl ?_
                  simp only [Act.put, List.setIfInBounds_toArray, List.set_cons_zero, List.set_cons_succ]
                  refine wpAnyH_yield 7 270 (.bool false) rfl rfl (by kernel_rfl) (by kernel_rfl) (by kernel_rfl) (fun _ _ _ h => h) (by kernel_rfl) (fun W hW => by kernel_rfl) (by assumption) rfl rfl ?_
                  simp only [Act.put, List.setIfInBounds_toArray, List.set_cons_zero, List.set_cons_succ]
                  refine wpAnyH_yield 8 271 (.slice (some ⟨ga, 0, none⟩) p k1) rfl rfl (by kernel_rfl) (by kernel_rfl) (by kernel_rfl) (fun _ _ _ h => h) (by kernel_rfl) (fun W hW => by kernel_rfl) (by assumption) rfl rfl ?_
                  simp only [Act.put, List.setIfInBounds_toArray, List.set_cons_zero, List.set_cons_succ]
                  refine wpAnyH_yield 9 272 (.int .i64 (j : Int)) rfl rfl (by kernel_rfl) (by kernel_rfl) (by kernel_rfl) (fun _ _ _ h => h) (by kernel_rfl) (fun W hW => by kernel_rfl) (by assumption) rfl rfl ?_
                  simp only [Act.put, List.setIfInBounds_toArray, List.set_cons_zero, List.set_cons_succ]
                  refine wpAnyH_yield 10 273 (.pointer (some ⟨ga, j * 6, none⟩)) rfl rfl (by kernel_rfl) (by kernel_rfl) (by kernel_rfl) (fun _ _ _ h => h) (by kernel_rfl) (fun W hW => by go_simp) (by assumption) rfl rfl ?_
                  simp only [Act.put, List.setIfInBounds_toArray, List.set_cons_zero, List.set_cons_succ]
                  refine wpAnyH_yield 11 274 (.pointer (some ⟨ga, j * 6 + 1, none⟩)) rfl rfl (by kernel_rfl) (by kernel_rfl) (by kernel_rfl) (fun _ _ _ h => h) (by kernel_rfl) (fun W hW => by go_simp) (by assumption) rfl rfl ?_
                  simp only [Act.put, List.setIfInBounds_toArray, List.set_cons_zero, List.set_cons_succ]
                  refine wpAnyH_yield 12 275 (.agg #[.int .i64 3, .int .i64 s, .string ⟨#[]⟩, .int .i64 0, .int .i64 0]) rfl rfl (by kernel_rfl) (by kernel_rfl) (by kernel_rfl) (fun _ _ _ h => h) (by kernel_rfl) (fun W hW => by obtain ⟨⟨l0, l1, l2⟩, l3, l4, l5⟩ := CA.out j hlj W (TV.out.tr (HC.out.tr (TA.out.tr hW))); go_simp) (by assumption) rfl rfl ?_
                  simp only [Act.put, List.setIfInBounds_toArray, List.set_cons_zero, List.set_cons_succ]
                  refine wpAnyH_yield 13 276 (.agg #[.int .i64 3, .int .i64 s, .string ⟨#[]⟩, .int .i64 0, .int .i64 0]) rfl rfl (by kernel_rfl) (by kernel_rfl) (by kernel_rfl) (fun _ _ _ h => h) (by kernel_rfl) (fun W hW => by obtain ⟨d0, d1, d2, d3, d4⟩ := msg_cells (hW.at AN.out); go_simp) (by assumption) rfl rfl ?_
                  simp only [Act.put, List.setIfInBounds_toArray, List.set_cons_zero, List.set_cons_succ]
                  refine wpAnyH_yield 14 277 (.bool false) rfl rfl (by kernel_rfl) (by kernel_rfl) (by kernel_rfl) (fun _ _ _ h => h) (by kernel_rfl) (fun W hW => by go_simp) (by assumption) rfl rfl ?_
                  simp only [Act.put, List.setIfInBounds_toArray, List.set_cons_zero, List.set_cons_succ]
                  refine wpAnyH_yield 15 278 (.bool false) rfl rfl (by kernel_rfl) (by kernel_rfl) (by kernel_rfl) (fun _ _ _ h => h) (by kernel_rfl) (fun W hW => by go_simp) (by assumption) rfl rfl ?_
                  simp only [Act.put, List.setIfInBounds_toArray, List.set_cons_zero, List.set_cons_succ]
                  refine wpAnyH_done (by kernel_rfl) ?_ _
                  have HF := hide (HC.out.tr (TA.out.tr hT0))
                  clear hT0 TA AN HC
                  generalize ({ vm with drawn := vm.drawn + 1 } : World) = vn at *
                  go_wp2_with fail
                  go_roundw
                  case rel => exact ⟨j + 1, by go_num, by omega, HF.out⟩
                  case measure => simp [intOf]; omega
                · have hljz : ¬ (j : Int) < (p : Int) := by omega
                  obtain rfl : j = p := by omega
                  have pz : (0 : Int) < (j : Int) := by have := PP.out; omega
                  have pz2 : 0 < j := PP.out.1
                  have pz3 : ¬ (j : Int) ≤ 0 := by omega
                  obtain ⟨i0, i1, i2, i3, i4⟩ := CI.out _ (HEV.out.calm.tr HC.out)
                  obtain ⟨⟨l0, l1, l2⟩, l3, l4, l5⟩ := CA.out 0 pz2 _ (TV.out.tr HC.out)
                  simp only [Nat.zero_mul, Nat.zero_add] at l0 l1 l2 l3 l4 l5
                  obtain ⟨⟨n1, n2, n3⟩, n4, n5, n6⟩ := CB.out _ (TV.out.tr HC.out)
                  go_wp2_with fail
                  go_quiet (fail)
                  have HEV := hide ((HEV.out.still I HC.out).still I ((Touch.refl (fun _ => False) wr).drewN nq))
                  clear TV HC l0 l1 l2 l3 l4 l5 i0 i1 i2 i3 i4 n1 n2 n3 n4 n5 n6
                  generalize wr.drewN nq = vE at *
                  have CQ := hide (HEV.out.seq I)
                  clear nq
                  go_wp2_with fail
                  refine CQ.out.mono ?_
                  rintro e v8 ⟨rfl, t8⟩
                  have HE8 := hide (HEV.out.still I t8)
                  have CR := hide (HE8.out.seq1 I)
                  clear CQ HEV t8
                  go_wp2_with fail
                  refine CR.out.mono ?_
                  rintro e v9 ⟨rfl, t9⟩
                  have HE9 := hide (HE8.out.still I t9)
                  clear CR HE8 t9
                  go_wp2_with fail
                  go_roundw
                  case rel => exact ⟨i + 1, _, L, _, last, rfl, rfl, by go_num, by omega, HM, HS2, HE9⟩
                  case measure => simp [intOf]; omega
      · have hltz : ¬ (i : Int) < (n : Int) := by omega
        obtain rfl : i = n := by omega
        have HC := hide HE.out.calm
        clear HE HM HS KI
        go_wp2_with fail
        refine (KN _).out.mono ?_
        rintro e w4 ⟨rfl, T4⟩
        have T4 := hide (HC.out.tr T4)
        clear KN HC
        go_wp2_with fail
        go_ret
        exact ⟨rfl, T4.out⟩
  · by_cases hz1 : newE c 1 = 0
    · have CA := fun w => hide (I.new_no c wr w hz)
      generalize newE c wr = E at *
      have e1 : ((E : Int) == 0) = false := by simp; omega
      have e2 : ¬ (E : Int) = 0 := by omega
      have CB := fun w => hide (I.new_yes c 1 w hz1)
      clear hz hz1 KI
      go_enter Try.func4, Try.ntmps4
      go_wp2_with fail
      generalize w.alloc (.cells (cfc c) 24) = w1 at *
      generalize hB : w.heap.size = B at *
      clear hB
      refine (CA _).out.mono ?_
      rintro e w2 ⟨rfl, T2⟩
      clear c0 c1 c2 c3 c4 c5 c6 c7 c8 c9
      obtain ⟨⟨c0, c1, c2, c3, c4, c5, c6⟩, c7, c8, c9⟩ := cf_cells (T2.at A0.out)
      have T2 := hide (T0.out.tr T2)
      clear CA
      go_wp2_with fail
      refine (CB _).out.mono ?_
      rintro e w3 ⟨q1, rfl, -, T3⟩
      have T3 := hide (T2.out.tr T3)
      clear c0 c1 c2 c3 c4 c5 c6 c7 c8 c9 CB T2
      go_wp2_with fail
      refine (KN _).out.mono ?_
      rintro e w4 ⟨rfl, T4⟩
      have T4 := hide (T3.out.tr T4)
      clear KN T3
      go_wp2_with fail
      go_ret
      exact ⟨by
        have h1 : ((E : Int) != 0) = true := by simp; omega
        show Ending.returned (Value.bool ((E : Int) != 0)) = _
        simp [h1], T4.out⟩
    · have CA := fun w => hide (I.new_no c wr w hz)
      generalize newE c wr = E at *
      have e1 : ((E : Int) == 0) = false := by simp; omega
      have e2 : ¬ (E : Int) = 0 := by omega
      have CB := fun w => hide (I.new_no c 1 w hz1)
      generalize newE c 1 = E1 at *
      have e3 : ((E1 : Int) == 0) = false := by simp; omega
      have e4 : ¬ (E1 : Int) = 0 := by omega
      clear hz hz1 KI
      go_enter Try.func4, Try.ntmps4
      go_wp2_with fail
      generalize w.alloc (.cells (cfc c) 24) = w1 at *
      generalize hB : w.heap.size = B at *
      clear hB
      refine (CA _).out.mono ?_
      rintro e w2 ⟨rfl, T2⟩
      clear c0 c1 c2 c3 c4 c5 c6 c7 c8 c9
      obtain ⟨⟨c0, c1, c2, c3, c4, c5, c6⟩, c7, c8, c9⟩ := cf_cells (T2.at A0.out)
      have T2 := hide (T0.out.tr T2)
      clear CA
      go_wp2_with fail
      refine (CB _).out.mono ?_
      rintro e w3 ⟨rfl, T3⟩
      have T3 := hide (T2.out.tr T3)
      clear c0 c1 c2 c3 c4 c5 c6 c7 c8 c9 CB T2
      go_wp2_with fail
      refine (KN _).out.mono ?_
      rintro e w4 ⟨rfl, T4⟩
      have T4 := hide (T3.out.tr T4)
      clear KN T3
      go_wp2_with fail
      go_ret
      exact ⟨by
        have h1 : ((E : Int) != 0) = true := by simp; omega
        have h2 : ((E1 : Int) != 0) = true := by simp; omega
        show Ending.returned (Value.bool ((E : Int) != 0 && (E1 : Int) != 0)) = _
        simp [h1, h2], T4.out⟩
end

end Go.Proofs.Ytapnjofplilefaa
