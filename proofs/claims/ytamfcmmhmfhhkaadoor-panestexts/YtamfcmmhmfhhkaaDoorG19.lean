/- parts: what stands between blanks (the document's). Number: a number of decimal digits (the document's; the walk). Key: a quoted key read (the document's; the walk). -/
import Derived.Test.YtamfcmmhmfhhkaaDoorG9
import Derived.Test.YtamfcmmhmfhhkaaDoorG17
import Derived.Test.YtamfcmmhmfhhkaaDoorG10
import Derived.Test.YtamfcmmhmfhhkaaDoorG18
namespace Go.Proofs.YtamfcmmhmfhhkaaDoor
open Go.RowKit

set_option maxRecDepth 100000 in
set_option maxHeartbeats 2000000 in
theorem rparts_any (s : ByteArray) (hs : s.size ≤ 900000) (w : World) : Calls Tryd.prog 36 #[.string s] w fun e w' => RetZ w e w' (ptB s) := by
  have LA : Hid (∀ i (h : i < s.size), s.toList.drop i = s[i] :: s.toList.drop (i + 1)) := hide (tl_at s)
  have ND : Hid (s.toList.drop s.size = []) := hide (by rw [ByteArray.toList_eq]; exact List.drop_of_length_le (Nat.le_of_eq Array.length_toList))
  have PN : Hid (∀ i (h : i < s.size) (c : ByteArray), (c ++ s.extract i (i + 1)).toList = c.toList ++ [s[i]'h]) := hide fun i h c => pc_next h c
  have D0 : Hid (([] : List ByteArray).map (·.toList) ++ ptL (⟨#[]⟩ : ByteArray).toList (s.toList.drop 0) = ptB s) := hide (by rw [nilB]; rfl)
  have O0 : Hid (encZ.Own 9 (w.alloc (.cells #[.string ⟨#[]⟩] 9)) w.heap.size (.slice (some ⟨w.heap.size, 0, none⟩) 1 1) [⟨#[]⟩]) := hide ⟨rfl, .inr ⟨w.heap.size, 1, #[.string ⟨#[]⟩], rfl, Nat.le_refl _, al_new w _, Nat.le_refl _, by decide, rfl, rfl⟩⟩
  have T0 := hide ((Touch.refl (fun _ => False) w).alloc (.cells #[.string ⟨#[]⟩] 9))
  have ES : Hid (∀ (i : Nat), i < s.size → (s.extract i (i + 1)).size = 1) := hide fun i hi => by rw [ByteArray.size_extract]; omega
  generalize ptB s = X at *
  go_enter Tryd.func36, Tryd.ntmps36
  go_wp2_with fail
  go_loopw [3, 4] (fun s3 s4 wr => ∃ (i n : Nat) (A : List ByteArray) (c : ByteArray) (ao : Option Addr) (cap : Nat), s3 = .slice ao n cap ∧ n = (A ++ [c]).length ∧ s4 = .int .i64 (i : Int) ∧ i ≤ s.size ∧ n ≤ i + 1 ∧ c.size ≤ i ∧ Hid (A.map (·.toList) ++ ptL c.toList (s.toList.drop i) = X) ∧ encZ.Own 9 wr w.heap.size (.slice ao n cap) (A ++ [c]) ∧ Calm w wr) (fun _ s4 _ => s.size - (intOf s4).toNat)
  case atStart => exact ⟨0, 1, [], ⟨#[]⟩, _, 1, rfl, rfl, rfl, by omega, by omega, by show 0 ≤ 0; omega, D0, O0.out, T0.out⟩
  case round =>
    obtain ⟨i, n, A, c, ao, cap, rfl, hn, rfl, hi, hni, hci, HD, OA, TL⟩ := hrel
    by_cases hlt : i < s.size
    · have hltz : (i : Int) < (s.size : Int) := by omega
      have HD2 := HD.out
      rw [LA.out i hlt, ptL_cons] at HD2
      have HP := hide (PN.out i hlt c)
      have HE := hide (ES.out i hlt)
      obtain ⟨b, hb⟩ : ∃ b : Nat, (s[i]'hlt).toNat = b := ⟨_, rfl⟩
      rw [hb] at HD2
      by_cases h32 : b = 32
      · have h32z : (b : Int) = 32 := by omega
        rw [if_pos h32] at HD2
        have HD3 : Hid ((A ++ [c]).map (·.toList) ++ ptL (⟨#[]⟩ : ByteArray).toList (s.toList.drop (i + 1)) = X) := hide (by
          rw [← HD2, List.map_append, List.append_assoc, nilB]; rfl)
        rw [hn] at OA
        obtain ⟨a2, p2, w4, hrun, ow, t2⟩ := st_app (⟨#[]⟩ : ByteArray) OA TL.size (by omega)
        have T4 : Hid (Calm w w4) := hide (Rc.Own.fresh (w0 := w) OA t2 (fun _ h => h) TL (Nat.le_refl _))
        have e2 : ((A ++ [c]) ++ [(⟨#[]⟩ : ByteArray)]).length = n + 1 := by rw [List.length_append, ← hn]; rfl
        rw [e2] at ow
        rw [← hn] at hrun
        have OW := hide ow
        have E2 := hide e2
        have HRUN := hide hrun
        clear HD HD2 OA TL t2 ow hrun e2 hn LA ND PN D0 O0 T0 HP HE ES
        go_wp2_with (at_builtin; refine Rc.wpList_appR rfl (.tmp 16) (.tmp 17) 66 66 rfl _ _ _ rfl rfl HRUN.out ?_)
        go_roundw
        case rel => exact ⟨i + 1, n + 1, A ++ [c], ⟨#[]⟩, a2, p2, rfl, E2.out.symm, by go_num, by omega, by omega, by show 0 ≤ _; omega, HD3, OW.out, T4.out⟩
        case measure => simp [intOf]; omega
      · have h32z : ¬ (b : Int) = 32 := by omega
        rw [if_neg h32] at HD2
        obtain ⟨d, hd⟩ : ∃ d, d = c ++ s.extract i (i + 1) := ⟨_, rfl⟩
        have HD3 : Hid (A.map (·.toList) ++ ptL d.toList (s.toList.drop (i + 1)) = X) := hide (by rw [hd, HP.out]; exact HD2)
        obtain ⟨g, rfl, hg, hc, hf, hset⟩ := st_last OA
        have hds : d.size = c.size + 1 := by rw [hd, ByteArray.size_append, HE.out]
        have GJ : Hid (binOp .add 9 (.string c) (.string (s.extract i (i + 1))) = pure (.string d)) := hide (by rw [hd]; exact st_join _ _ _ (by rw [HE.out]; omega))
        have e1 : (A ++ [c]).length = A.length + 1 := by rw [List.length_append]; rfl
        have hnA : (n : Int) - 1 = (A.length : Int) := by omega
        have E1 : Hid ((A ++ [d]).length = n) := hide (by rw [hn, e1, List.length_append]; rfl)
        have HT := hide TL
        have HG := hide hg
        have HW : Hid (∀ W, Calm wr W → W.cell? ⟨g, A.length, none⟩ = some (.string c) ∧ W.frozen? ⟨g, A.length, none⟩ = false ∧ encZ.Own 9 (W.setCell ⟨g, A.length, none⟩ (.string d)) w.heap.size (.slice (some ⟨g, 0, none⟩) n cap) (A ++ [d])) := hide fun W hW => by
          obtain ⟨g', e, -, q1, q2, q3⟩ := st_last (Rc.Own.calm OA hW)
          injection e with e
          injection e with e
          subst e
          exact ⟨q1, q2, q3 d⟩
        have hiz : (i : Int) + 1 ≤ (s.size : Int) := by omega
        have hnz : (A.length : Int) < (n : Int) := by omega
        clear HD HD2 OA TL hn LA ND PN D0 O0 T0 HP HE ES hc hf hset hd hg e1
        obtain ⟨m, hm⟩ : ∃ m, m = A.length := ⟨_, rfl⟩
        rw [← hm] at HW hnA hnz
        have Hm := hide hm
        clear hm
        go_wp2_with fail
        refine wp_region_z 17 (Calm wr) (by kernel_rfl) ?_
        have hT0 : Calm wr { wr with drawn := wr.drawn + 1 } := (Touch.refl _ wr).drew
        have gj := GJ.out
        have q1 : IntKind.i64.wrap (m : Int) = (m : Int) := by rw [IntKind.wrap_i64]; omega
        have q2 : IntKind.i64.wrap ((i : Int) + 1) = (i : Int) + 1 := by rw [IntKind.wrap_i64]; omega
        have q3 : (0 : Int) ≤ (i : Int) + 1 := by omega
        have q4 : (i : Int) ≤ (i : Int) + 1 := by omega
        refine wpAnyZ_yield 0 19 (.slice (some ⟨g, 0, none⟩) n cap) [17] rfl rfl (by kernel_rfl) (by kernel_rfl) (by kernel_rfl) (by kernel_rfl) (by kernel_rfl) (fun _ _ _ h => h) (by kernel_rfl) (fun W hW => by kernel_rfl) (by assumption) rfl rfl ?_
        simp only [Act.put, List.setIfInBounds_toArray, List.set_cons_zero, List.set_cons_succ]
        refine wpAnyZ_yield 1 20 (.slice (some ⟨g, 0, none⟩) n cap) [17] rfl rfl (by kernel_rfl) (by kernel_rfl) (by kernel_rfl) (by kernel_rfl) (by kernel_rfl) (fun _ _ _ h => h) (by kernel_rfl) (fun W hW => by kernel_rfl) (by assumption) rfl rfl ?_
        simp only [Act.put, List.setIfInBounds_toArray, List.set_cons_zero, List.set_cons_succ]
        refine wpAnyZ_yield 2 21 (.int .i64 (n : Int)) [17] rfl rfl (by kernel_rfl) (by kernel_rfl) (by kernel_rfl) (by kernel_rfl) (by kernel_rfl) (fun _ _ _ h => h) (by kernel_rfl) (fun W hW => by go_simp) (by assumption) rfl rfl ?_
        simp only [Act.put, List.setIfInBounds_toArray, List.set_cons_zero, List.set_cons_succ]
        refine wpAnyZ_yield 3 22 (.int .i64 (m : Int)) [17] rfl rfl (by kernel_rfl) (by kernel_rfl) (by kernel_rfl) (by kernel_rfl) (by kernel_rfl) (fun _ _ _ h => h) (by kernel_rfl) (fun W hW => by go_simp) (by assumption) rfl rfl ?_
        simp only [Act.put, List.setIfInBounds_toArray, List.set_cons_zero, List.set_cons_succ]
        refine wpAnyZ_yield 4 23 (.slice (some ⟨g, 0, none⟩) n cap) [17] rfl rfl (by kernel_rfl) (by kernel_rfl) (by kernel_rfl) (by kernel_rfl) (by kernel_rfl) (fun _ _ _ h => h) (by kernel_rfl) (fun W hW => by kernel_rfl) (by assumption) rfl rfl ?_
        simp only [Act.put, List.setIfInBounds_toArray, List.set_cons_zero, List.set_cons_succ]
        refine wpAnyZ_yield 5 24 (.slice (some ⟨g, 0, none⟩) n cap) [17] rfl rfl (by kernel_rfl) (by kernel_rfl) (by kernel_rfl) (by kernel_rfl) (by kernel_rfl) (fun _ _ _ h => h) (by kernel_rfl) (fun W hW => by kernel_rfl) (by assumption) rfl rfl ?_
        simp only [Act.put, List.setIfInBounds_toArray, List.set_cons_zero, List.set_cons_succ]
        refine wpAnyZ_yield 6 25 (.int .i64 (n : Int)) [17] rfl rfl (by kernel_rfl) (by kernel_rfl) (by kernel_rfl) (by kernel_rfl) (by kernel_rfl) (fun _ _ _ h => h) (by kernel_rfl) (fun W hW => by go_simp) (by assumption) rfl rfl ?_
        simp only [Act.put, List.setIfInBounds_toArray, List.set_cons_zero, List.set_cons_succ]
        refine wpAnyZ_yield 7 26 (.int .i64 (m : Int)) [17] rfl rfl (by kernel_rfl) (by kernel_rfl) (by kernel_rfl) (by kernel_rfl) (by kernel_rfl) (fun _ _ _ h => h) (by kernel_rfl) (fun W hW => by go_simp) (by assumption) rfl rfl ?_
        simp only [Act.put, List.setIfInBounds_toArray, List.set_cons_zero, List.set_cons_succ]
        refine wpAnyZ_yield 8 27 (.pointer (some ⟨g, m, none⟩)) [17] rfl rfl (by kernel_rfl) (by kernel_rfl) (by kernel_rfl) (by kernel_rfl) (by kernel_rfl) (fun _ _ _ h => h) (by kernel_rfl) (fun W hW => by go_simp) (by assumption) rfl rfl ?_
        simp only [Act.put, List.setIfInBounds_toArray, List.set_cons_zero, List.set_cons_succ]
        refine wpAnyZ_yield 9 28 (.string c) [17] rfl rfl (by kernel_rfl) (by kernel_rfl) (by kernel_rfl) (by kernel_rfl) (by kernel_rfl) (fun _ _ _ h => h) (by kernel_rfl) (fun W hW => by obtain ⟨q, -, -⟩ := HW.out W hW; go_simp) (by assumption) rfl rfl ?_
        simp only [Act.put, List.setIfInBounds_toArray, List.set_cons_zero, List.set_cons_succ]
        refine wpAnyZ_yield 10 29 (.string s) [17] rfl rfl (by kernel_rfl) (by kernel_rfl) (by kernel_rfl) (by kernel_rfl) (by kernel_rfl) (fun _ _ _ h => h) (by kernel_rfl) (fun W hW => by kernel_rfl) (by assumption) rfl rfl ?_
        simp only [Act.put, List.setIfInBounds_toArray, List.set_cons_zero, List.set_cons_succ]
        refine wpAnyZ_yield 11 30 (.int .i64 (i : Int)) [17] rfl rfl (by kernel_rfl) (by kernel_rfl) (by kernel_rfl) (by kernel_rfl) (by kernel_rfl) (fun _ _ _ h => h) (by kernel_rfl) (fun W hW => by kernel_rfl) (by assumption) rfl rfl ?_
        simp only [Act.put, List.setIfInBounds_toArray, List.set_cons_zero, List.set_cons_succ]
        refine wpAnyZ_yield 12 31 (.int .i64 (i : Int)) [17] rfl rfl (by kernel_rfl) (by kernel_rfl) (by kernel_rfl) (by kernel_rfl) (by kernel_rfl) (fun _ _ _ h => h) (by kernel_rfl) (fun W hW => by kernel_rfl) (by assumption) rfl rfl ?_
        simp only [Act.put, List.setIfInBounds_toArray, List.set_cons_zero, List.set_cons_succ]
        refine wpAnyZ_yield 13 32 (.int .i64 ((i : Int) + 1)) [17] rfl rfl (by kernel_rfl) (by kernel_rfl) (by kernel_rfl) (by kernel_rfl) (by kernel_rfl) (fun _ _ _ h => h) (by kernel_rfl) (fun W hW => by go_simp) (by assumption) rfl rfl ?_
        simp only [Act.put, List.setIfInBounds_toArray, List.set_cons_zero, List.set_cons_succ]
        refine wpAnyZ_yield 14 33 (.string (s.extract i (i + 1))) [17] rfl rfl (by kernel_rfl) (by kernel_rfl) (by kernel_rfl) (by kernel_rfl) (by kernel_rfl) (fun _ _ _ h => h) (by kernel_rfl) (fun W hW => by go_simp) (by assumption) rfl rfl ?_
        simp only [Act.put, List.setIfInBounds_toArray, List.set_cons_zero, List.set_cons_succ]
        refine wpAnyZ_yield 15 34 (.string d) [17] rfl rfl (by kernel_rfl) (by kernel_rfl) (by kernel_rfl) (by kernel_rfl) (by kernel_rfl) (fun _ _ _ h => h) (by kernel_rfl) (fun W hW => by go_simp) (by assumption) rfl rfl ?_
        simp only [Act.put, List.setIfInBounds_toArray, List.set_cons_zero, List.set_cons_succ]
        refine wpAnyZ_yield 16 35 (.pointer (some ⟨g, m, none⟩)) [17] rfl rfl (by kernel_rfl) (by kernel_rfl) (by kernel_rfl) (by kernel_rfl) (by kernel_rfl) (fun _ _ _ h => h) (by kernel_rfl) (fun W hW => by go_simp) (by assumption) rfl rfl ?_
        simp only [Act.put, List.setIfInBounds_toArray, List.set_cons_zero, List.set_cons_succ]
        generalize ({ wr with drawn := wr.drawn + 1 } : World) = wD at *
        refine wpAnyZ_end rfl (by kernel_rfl) (by kernel_rfl) (by kernel_rfl) ?_
        obtain ⟨k1, k2, k3⟩ := HW.out _ hT0
        have K3 := hide k3
        have HT3 := hide ((HT.out.tr hT0).setCell (p := ⟨g, m, none⟩) (fun h => by have := HG.out; simp only at h; omega) (.string d))
        clear k3 hT0 HW GJ gj
        unfold Oper.wp
        go_simp
        go_wp2_with fail
        go_roundw
        case rel => exact ⟨i + 1, n, A, d, _, cap, rfl, E1.out.symm, by go_num, by omega, by omega, by omega, HD3, K3.out, HT3.out⟩
        case measure => simp [intOf]; omega
    · have hltz : ¬ (i : Int) < (s.size : Int) := by omega
      obtain rfl : i = s.size := by omega
      have HD2 := HD.out
      rw [ND.out] at HD2
      have HF : Hid (RetZ w (.returned (.slice ao n cap)) wr X) := hide ⟨ao, cap, A ++ [c], by rw [hn], by rw [← hn]; exact OA, by rw [← HD2, List.map_append]; rfl, TL⟩
      clear HD HD2 OA TL hn LA ND PN D0 O0 T0 ES
      go_wp2_with fail
      go_ret
      exact HF.out

end Go.Proofs.YtamfcmmhmfhhkaaDoor

namespace Go.Proofs.YtamfcmmhmfhhkaaDoor
open Go.RowKit

set_option maxRecDepth 100000 in
set_option maxHeartbeats 2000000 in
theorem number_any (s : ByteArray) (hs : s.size ≤ 900000) (w : World) : Calls Tryd.prog 37 #[.string s] w fun e w' => e = .returned (numR s) ∧ Calm w w' := by
  by_cases h0 : s.size = 0
  · have e := size_zero h0
    have HR : Hid (numR s = .tuple #[.int .i64 0, .bool false]) := hide (numR_no fun x hx h => by have := (num_facts hx h).1; omega)
    subst e
    generalize numR ⟨#[]⟩ = R at *
    go_enter Tryd.func37, Tryd.ntmps37
    go_wp2_with fail
    go_ret2
    exact ⟨by rw [HR.out]; rfl, Touch.refl _ _⟩
  have hpos : 0 < s.size := by omega
  have FA := first_at hpos
  have NF : Hid (∀ x, I64n x → intB x = s → _) := hide fun x hx h => num_facts hx h
  have RN : Hid ((∀ x, I64n x → intB x ≠ s) → numR s = .tuple #[.int .i64 0, .bool false]) := hide numR_no
  have RY : Hid (∀ x, I64n x → intB x = s → numR s = .tuple #[.int .i64 x, .bool true]) := hide fun x => numR_yes
  have GN : Hid (∀ f i, f ≤ i → ∀ h : i < s.size, dgV s f (i + 1) = dgV s f i * 10 + ((s[i]'h).toNat - 48)) := hide fun f i hf h => dgV_next hf h
  have GZ : Hid (∀ f, dgV s f f = 0) := hide (dgV_zero s)
  have CD : Hid (∀ x, I64n x → ∀ W, _) := hide fun x (hx : I64n x) W => digitsI_any x hx.1 hx.2 W
  have hF : numF s = if negS s then 1 else 0 := rfl
  have hne : s.toList.isEmpty = false := by
    rw [List.isEmpty_eq_false_iff]
    intro h
    have := tl_len s
    rw [h] at this
    simp at this
    omega
  generalize numR s = R at *
  generalize dgV s = g at *
  generalize numF s = f0 at *
  generalize hb0 : ((s[0]'hpos).toNat : Int) = b0 at *
  by_cases hneg : b0 = 45
  · rw [if_pos (FA.2 hneg)] at hF
    subst hF
    clear FA
    have hx : Hid (∀ n : Nat, ∀ y, I64n y → n = y.natAbs → ((1 : Nat) = 1 ↔ y < 0) → IntKind.i64.wrap (-(IntKind.i64.wrap (n : Int))) = y) := hide fun n y h1 h2 h3 => wrap_back1 h1 h2 (h3.1 rfl)
    by_cases hf : s.size = 1
    · try exact absurd hf h0
      all_goals
        have hfz : ((s.size : Int) == 1) = true := by rw [beq_iff_eq]; omega
        have HR := hide (RN.out fun x hx h => by have := (NF.out x hx h).1; omega)
        clear NF RN RY GN GZ CD hx
        go_enter Tryd.func37, Tryd.ntmps37
        go_wp2_with fail
        go_ret2
        exact ⟨by rw [HR.out]; rfl, Touch.refl _ _⟩
    have hfz : ((s.size : Int) == 1) = false := by rw [beq_eq_false_iff_ne]; omega
    by_cases h20 : 20 < s.size
    · have h20z : (20 : Int) < (s.size : Int) := by omega
      have HR := hide (RN.out fun x hx h => by have := (NF.out x hx h).2.1; omega)
      clear NF RN RY GN GZ CD hx
      go_enter Tryd.func37, Tryd.ntmps37
      go_wp2_with fail
      go_ret2
      exact ⟨by rw [HR.out]; rfl, Touch.refl _ _⟩
    have h20z : ¬ (20 : Int) < (s.size : Int) := by omega
    go_enter Tryd.func37, Tryd.ntmps37
    go_wp2_with fail
    go_loopw [4, 6] (fun s4 s6 wr => ∃ i n : Nat, s4 = .int .u64 (n : Int) ∧ s6 = .int .i64 (i : Int) ∧ 1 ≤ i ∧ i ≤ s.size ∧ n ≤ 9223372036854775809 ∧ Hid (g 1 i = n) ∧ wr = w) (fun _ s6 _ => s.size - (intOf s6).toNat)
    case atStart => exact ⟨1, 0, rfl, rfl, by omega, by omega, by omega, hide (GZ.out _), rfl⟩
    case round =>
      obtain ⟨i, n, rfl, rfl, hi1, hi, hn, HG, rfl⟩ := hrel
      by_cases hlt : i < s.size
      · have hltz : (i : Int) < (s.size : Int) := by omega
        have GI := GN.out 1 i hi1 hlt
        have NI : Hid (∀ x, I64n x → intB x = s → 48 ≤ (s[i]'hlt).toNat ∧ (s[i]'hlt).toNat ≤ 57 ∧ n ≤ 922337203685477580) := hide fun x h1 h2 => by
          have h := (NF.out x h1 h2).2.2.1 i hi1 hlt
          rw [HG.out] at h
          exact h
        obtain ⟨b, hb⟩ : ∃ b : Nat, (s[i]'hlt).toNat = b := ⟨_, rfl⟩
        have hb255 : b < 256 := by rw [← hb]; exact (s[i]'hlt).toNat_lt
        rw [hb] at GI NI
        rw [HG.out] at GI
        have GH := hide GI
        clear GI NF GN GZ CD RY hx HG
        by_cases h1 : b < 48
        · have h1z : (b : Int) < 48 := by omega
          have HR := hide (RN.out fun x hx h => by have := (NI.out x hx h).1; omega)
          clear RN NI GH
          go_wp2_with fail
          go_ret2
          exact ⟨by rw [HR.out]; rfl, Touch.refl _ _⟩
        · have h1z : ¬ (b : Int) < 48 := by omega
          by_cases h2 : 57 < b
          · have h2z : (57 : Int) < (b : Int) := by omega
            have HR := hide (RN.out fun x hx h => by have := (NI.out x hx h).2.1; omega)
            clear RN NI GH
            go_wp2_with fail
            go_ret2
            exact ⟨by rw [HR.out]; rfl, Touch.refl _ _⟩
          · have h2z : ¬ (57 : Int) < (b : Int) := by omega
            by_cases h3 : 922337203685477580 < n
            · have h3z : (922337203685477580 : Int) < (n : Int) := by omega
              have HR := hide (RN.out fun x hx h => by have := (NI.out x hx h).2.2; omega)
              clear RN NI GH
              go_wp2_with fail
              go_ret2
              exact ⟨by rw [HR.out]; rfl, Touch.refl _ _⟩
            · have h3z : ¬ (922337203685477580 : Int) < (n : Int) := by omega
              obtain ⟨d, hd⟩ : ∃ d, d = b - 48 := ⟨_, rfl⟩
              obtain ⟨y, hy⟩ : ∃ y, y = n * 10 + d := ⟨_, rfl⟩
              have HY : Hid (g 1 (i + 1) = y) := hide (by rw [GH.out, hy, hd])
              have hyb : y ≤ 9223372036854775809 := by omega
              have q1 : IntKind.u64.wrap ((n : Int) * 10) = (n : Int) * 10 := by rw [IntKind.wrap_u64]; omega
              have q2 : IntKind.u8.wrap ((b : Int) - 48) = (d : Int) := by rw [IntKind.wrap_u8]; omega
              have q3 : (n : Int) * 10 + (d : Int) = (y : Int) := by omega
              have q4 : IntKind.u64.wrap (y : Int) = (y : Int) := by rw [IntKind.wrap_u64]; omega
              have q5 : IntKind.u64.wrap (d : Int) = (d : Int) := by rw [IntKind.wrap_u64]; omega
              clear GH NI RN hy hd
              go_wp2_with fail
              go_roundw
              case rel => exact ⟨i + 1, y, by go_num, by go_num, by omega, by omega, hyb, HY, trivial⟩
              case measure => simp [intOf]; omega
      · have hltz : ¬ (i : Int) < (s.size : Int) := by omega
        obtain rfl : i = s.size := by omega
        have HX : Hid (∀ y, I64n y → intB y = s → IntKind.i64.wrap (-(IntKind.i64.wrap (n : Int))) = y) := hide fun y h1 h2 => hx.out n y h1 (by rw [← (NF.out y h1 h2).2.2.2.1, HG.out]) (NF.out y h1 h2).2.2.2.2
        have XI := (i64n_in (n : Int)).2
        obtain ⟨X, hX⟩ : ∃ X, X = IntKind.i64.wrap (n : Int) := ⟨_, rfl⟩
        rw [← hX] at HX XI
        obtain ⟨Z, hZ⟩ : ∃ Z, IntKind.i64.wrap (-X) = Z := ⟨_, rfl⟩
        rw [hZ] at HX XI
        have q7 : IntKind.i64.wrap (n : Int) = X := hX.symm
        clear hX
        have CX := hide (CD.out _ XI)
        have RYz := hide (RY.out _ XI)
        have RNz := hide (fun (h : intB Z ≠ s) => RN.out fun y h1 h2 => h (by rw [HX.out y h1 h2, h2]))
        clear NF RN RY GN GZ CD hx HG HX XI
        obtain ⟨t, ht⟩ : ∃ t, intB Z = t := ⟨_, rfl⟩
        rw [ht] at CX RYz RNz
        clear ht
        have GS := binOp_string_neq 9 t s
        by_cases he : t = s
        · have HR := hide (RYz.out he)
          have htb : (t.toList == s.toList) = true := by rw [he]; simp
          rw [htb] at GS
          clear RYz RNz htb he
          go_wp2_with fail
          refine (CX.out _).mono ?_
          rintro r w5 ⟨rfl, T5⟩
          have HT5 := hide T5
          clear T5
          go_wp2_with fail
          go_ret2
          exact ⟨by rw [HR.out]; rfl, HT5.out⟩
        · have HR := hide (RNz.out he)
          have htb : (t.toList == s.toList) = false := by
            rw [beq_eq_false_iff_ne]
            intro h
            rw [ByteArray.toList_eq, ByteArray.toList_eq] at h
            exact he (ByteArray.ext (Array.toList_inj.1 h))
          rw [htb] at GS
          clear RYz RNz htb he
          go_wp2_with fail
          refine (CX.out _).mono ?_
          rintro r w5 ⟨rfl, T5⟩
          have HT5 := hide T5
          clear T5
          go_wp2_with fail
          go_ret2
          exact ⟨by rw [HR.out]; rfl, HT5.out⟩
  · rw [if_neg (fun h => hneg (FA.1 h))] at hF
    subst hF
    clear FA
    have hx : Hid (∀ n : Nat, ∀ y, I64n y → n = y.natAbs → ((0 : Nat) = 1 ↔ y < 0) → IntKind.i64.wrap (n : Int) = y) := hide fun n y h1 h2 h3 => wrap_back0 h1 h2 (fun h => absurd (h3.2 h) (by decide))
    by_cases hf : s.size = 0
    · try exact absurd hf h0
      all_goals
        have hfz : ((s.size : Int) == 0) = true := by rw [beq_iff_eq]; omega
        have HR := hide (RN.out fun x hx h => by have := (NF.out x hx h).1; omega)
        clear NF RN RY GN GZ CD hx
        go_enter Tryd.func37, Tryd.ntmps37
        go_wp2_with fail
        go_ret2
        exact ⟨by rw [HR.out]; rfl, Touch.refl _ _⟩
    have hfz : ((s.size : Int) == 0) = false := by rw [beq_eq_false_iff_ne]; omega
    by_cases h20 : 20 < s.size
    · have h20z : (20 : Int) < (s.size : Int) := by omega
      have HR := hide (RN.out fun x hx h => by have := (NF.out x hx h).2.1; omega)
      clear NF RN RY GN GZ CD hx
      go_enter Tryd.func37, Tryd.ntmps37
      go_wp2_with fail
      go_ret2
      exact ⟨by rw [HR.out]; rfl, Touch.refl _ _⟩
    have h20z : ¬ (20 : Int) < (s.size : Int) := by omega
    go_enter Tryd.func37, Tryd.ntmps37
    go_wp2_with fail
    go_loopw [4, 6] (fun s4 s6 wr => ∃ i n : Nat, s4 = .int .u64 (n : Int) ∧ s6 = .int .i64 (i : Int) ∧ 0 ≤ i ∧ i ≤ s.size ∧ n ≤ 9223372036854775809 ∧ Hid (g 0 i = n) ∧ wr = w) (fun _ s6 _ => s.size - (intOf s6).toNat)
    case atStart => exact ⟨0, 0, rfl, rfl, by omega, by omega, by omega, hide (GZ.out _), rfl⟩
    case round =>
      obtain ⟨i, n, rfl, rfl, hi1, hi, hn, HG, rfl⟩ := hrel
      by_cases hlt : i < s.size
      · have hltz : (i : Int) < (s.size : Int) := by omega
        have GI := GN.out 0 i hi1 hlt
        have NI : Hid (∀ x, I64n x → intB x = s → 48 ≤ (s[i]'hlt).toNat ∧ (s[i]'hlt).toNat ≤ 57 ∧ n ≤ 922337203685477580) := hide fun x h1 h2 => by
          have h := (NF.out x h1 h2).2.2.1 i hi1 hlt
          rw [HG.out] at h
          exact h
        obtain ⟨b, hb⟩ : ∃ b : Nat, (s[i]'hlt).toNat = b := ⟨_, rfl⟩
        have hb255 : b < 256 := by rw [← hb]; exact (s[i]'hlt).toNat_lt
        rw [hb] at GI NI
        rw [HG.out] at GI
        have GH := hide GI
        clear GI NF GN GZ CD RY hx HG
        by_cases h1 : b < 48
        · have h1z : (b : Int) < 48 := by omega
          have HR := hide (RN.out fun x hx h => by have := (NI.out x hx h).1; omega)
          clear RN NI GH
          go_wp2_with fail
          go_ret2
          exact ⟨by rw [HR.out]; rfl, Touch.refl _ _⟩
        · have h1z : ¬ (b : Int) < 48 := by omega
          by_cases h2 : 57 < b
          · have h2z : (57 : Int) < (b : Int) := by omega
            have HR := hide (RN.out fun x hx h => by have := (NI.out x hx h).2.1; omega)
            clear RN NI GH
            go_wp2_with fail
            go_ret2
            exact ⟨by rw [HR.out]; rfl, Touch.refl _ _⟩
          · have h2z : ¬ (57 : Int) < (b : Int) := by omega
            by_cases h3 : 922337203685477580 < n
            · have h3z : (922337203685477580 : Int) < (n : Int) := by omega
              have HR := hide (RN.out fun x hx h => by have := (NI.out x hx h).2.2; omega)
              clear RN NI GH
              go_wp2_with fail
              go_ret2
              exact ⟨by rw [HR.out]; rfl, Touch.refl _ _⟩
            · have h3z : ¬ (922337203685477580 : Int) < (n : Int) := by omega
              obtain ⟨d, hd⟩ : ∃ d, d = b - 48 := ⟨_, rfl⟩
              obtain ⟨y, hy⟩ : ∃ y, y = n * 10 + d := ⟨_, rfl⟩
              have HY : Hid (g 0 (i + 1) = y) := hide (by rw [GH.out, hy, hd])
              have hyb : y ≤ 9223372036854775809 := by omega
              have q1 : IntKind.u64.wrap ((n : Int) * 10) = (n : Int) * 10 := by rw [IntKind.wrap_u64]; omega
              have q2 : IntKind.u8.wrap ((b : Int) - 48) = (d : Int) := by rw [IntKind.wrap_u8]; omega
              have q3 : (n : Int) * 10 + (d : Int) = (y : Int) := by omega
              have q4 : IntKind.u64.wrap (y : Int) = (y : Int) := by rw [IntKind.wrap_u64]; omega
              have q5 : IntKind.u64.wrap (d : Int) = (d : Int) := by rw [IntKind.wrap_u64]; omega
              clear GH NI RN hy hd
              go_wp2_with fail
              go_roundw
              case rel => exact ⟨i + 1, y, by go_num, by go_num, by omega, by omega, hyb, HY, trivial⟩
              case measure => simp [intOf]; omega
      · have hltz : ¬ (i : Int) < (s.size : Int) := by omega
        obtain rfl : i = s.size := by omega
        have HX : Hid (∀ y, I64n y → intB y = s → IntKind.i64.wrap (n : Int) = y) := hide fun y h1 h2 => hx.out n y h1 (by rw [← (NF.out y h1 h2).2.2.2.1, HG.out]) (NF.out y h1 h2).2.2.2.2
        have XI := (i64n_in (n : Int)).1
        obtain ⟨X, hX⟩ : ∃ X, X = IntKind.i64.wrap (n : Int) := ⟨_, rfl⟩
        rw [← hX] at HX XI
        obtain ⟨Z, hZ⟩ : ∃ Z, X = Z := ⟨_, rfl⟩
        rw [hZ] at HX XI
        have q7 : IntKind.i64.wrap (n : Int) = X := hX.symm
        clear hX
        have CX := hide (CD.out _ XI)
        have RYz := hide (RY.out _ XI)
        have RNz := hide (fun (h : intB Z ≠ s) => RN.out fun y h1 h2 => h (by rw [HX.out y h1 h2, h2]))
        clear NF RN RY GN GZ CD hx HG HX XI
        obtain ⟨t, ht⟩ : ∃ t, intB Z = t := ⟨_, rfl⟩
        rw [ht] at CX RYz RNz
        clear ht
        have GS := binOp_string_neq 9 t s
        by_cases he : t = s
        · have HR := hide (RYz.out he)
          have htb : (t.toList == s.toList) = true := by rw [he]; simp
          rw [htb] at GS
          clear RYz RNz htb he
          go_wp2_with fail
          refine (CX.out _).mono ?_
          rintro r w5 ⟨rfl, T5⟩
          have HT5 := hide T5
          clear T5
          go_wp2_with fail
          go_ret2
          exact ⟨by rw [HR.out]; rfl, HT5.out⟩
        · have HR := hide (RNz.out he)
          have htb : (t.toList == s.toList) = false := by
            rw [beq_eq_false_iff_ne]
            intro h
            rw [ByteArray.toList_eq, ByteArray.toList_eq] at h
            exact he (ByteArray.ext (Array.toList_inj.1 h))
          rw [htb] at GS
          clear RYz RNz htb he
          go_wp2_with fail
          refine (CX.out _).mono ?_
          rintro r w5 ⟨rfl, T5⟩
          have HT5 := hide T5
          clear T5
          go_wp2_with fail
          go_ret2
          exact ⟨by rw [HR.out]; rfl, HT5.out⟩

end Go.Proofs.YtamfcmmhmfhhkaaDoor

namespace Go.Proofs.YtamfcmmhmfhhkaaDoor
open Go.RowKit

set_option maxRecDepth 100000 in
set_option maxHeartbeats 4000000 in
theorem key_any (s : ByteArray) (hs : s.size ≤ 900000) (w : World) : Calls Tryd.prog 35 #[.string s] w fun e w' => ∃ k n, e = .returned (.tuple #[.string k, .int .i64 ((n : Nat) : Int)]) ∧ KeyR s k n ∧ Calm w w' := by
  by_cases h0 : s.size = 0
  · have e := size_zero h0
    have HR : Hid (KeyR s ⟨#[]⟩ 0) := hide (KeyR.none (KI.past (KI.start s) (by omega)))
    subst e
    go_enter Tryd.func35, Tryd.ntmps35
    go_wp2_with fail
    go_ret2
    exact ⟨_, 0, rfl, HR.out, Touch.refl _ _⟩
  have hpos : 0 < s.size := by omega
  have hne : s.toList.isEmpty = false := by
    rw [List.isEmpty_eq_false_iff]
    intro h
    have := tl_len s
    rw [h] at this
    simp at this
    omega
  obtain ⟨b0, hb0⟩ : ∃ b0 : Nat, (s[0]'hpos).toNat = b0 := ⟨_, rfl⟩
  by_cases h34 : b0 = 34
  case neg =>
    have h34z : ((b0 : Int) != 34) = true := by rw [bne_iff_ne]; omega
    have HR : Hid (KeyR s ⟨#[]⟩ 0) := hide (KeyR.none fun k r e => by
      obtain ⟨_, h⟩ := KI.first e
      exact h34 (hb0.symm.trans h))
    clear h34
    go_enter Tryd.func35, Tryd.ntmps35
    go_wp2_with fail
    go_ret2
    exact ⟨_, 0, rfl, HR.out, Touch.refl _ _⟩
  have h34z : ((b0 : Int) != 34) = false := by rw [bne_eq_false_iff_eq]; omega
  have K0 := hide (KI.start s)
  clear h34
  go_enter Tryd.func35, Tryd.ntmps35
  go_wp2_with fail
  go_loopw [4, 5] (fun s4 s5 wr => ∃ (i : Nat) (A : List Int) (a : Option Addr) (c : Nat), s5 = .int .i64 (i : Int) ∧ 1 ≤ i ∧ i ≤ s.size ∧ s4 = .slice a A.length c ∧ A.length ≤ i ∧ Hid (KI s i A) ∧ encB.Own 5 wr w.heap.size (.slice a A.length c) A ∧ Calm w wr) (fun _ s5 _ => s.size - (intOf s5).toNat)
  case atStart => exact ⟨1, [], none, 0, rfl, by omega, by omega, rfl, by simp, K0, Rc.Own.nil _ _ _, Touch.refl _ _⟩
  case round =>
    obtain ⟨i, A, a, c, rfl, hi1, hi, rfl, hAi, HK, OW, TE⟩ := hrel
    clear K0 hb0 h34z hne
    by_cases hlt : i < s.size
    case neg =>
      have hltz : ¬ (i : Int) < (s.size : Int) := by omega
      have hlez : (s.size : Int) ≤ (i : Int) := by omega
      have HR : Hid (KeyR s ⟨#[]⟩ 0) := hide (KeyR.none (KI.past HK.out (by omega)))
      have HT := hide TE
      have HO := hide OW
      clear HK TE OW
      go_wp2_with fail
      refine wp_region_held (S := Calm wr) (by kernel_rfl) ?_
      have hT0 : Calm wr { wr with drawn := wr.drawn + 1 } := (Touch.refl _ wr).drew
      refine wpAnyH_yield 0 74 (.int .i64 (i : Int)) rfl rfl (by kernel_rfl) (by kernel_rfl) (by kernel_rfl) (fun _ _ _ h => h) (by kernel_rfl) (fun W hW => by kernel_rfl) (by assumption) rfl rfl ?_
      simp only [Act.put, List.setIfInBounds_toArray, List.set_cons_zero, List.set_cons_succ]
      refine wpAnyH_yield 1 75 (.string s) rfl rfl (by kernel_rfl) (by kernel_rfl) (by kernel_rfl) (fun _ _ _ h => h) (by kernel_rfl) (fun W hW => by kernel_rfl) (by assumption) rfl rfl ?_
      simp only [Act.put, List.setIfInBounds_toArray, List.set_cons_zero, List.set_cons_succ]
      refine wpAnyH_yield 2 76 (.int .i64 (s.size : Int)) rfl rfl (by kernel_rfl) (by kernel_rfl) (by kernel_rfl) (fun _ _ _ h => h) (by kernel_rfl) (fun W hW => by go_simp) (by assumption) rfl rfl ?_
      simp only [Act.put, List.setIfInBounds_toArray, List.set_cons_zero, List.set_cons_succ]
      refine wpAnyH_yield 3 77 (.bool true) rfl rfl (by kernel_rfl) (by kernel_rfl) (by kernel_rfl) (fun _ _ _ h => h) (by kernel_rfl) (fun W hW => by go_simp) (by assumption) rfl rfl ?_
      simp only [Act.put, List.setIfInBounds_toArray, List.set_cons_zero, List.set_cons_succ]
      refine wpAnyH_yield 4 78 (.bool true) rfl rfl (by kernel_rfl) (by kernel_rfl) (by kernel_rfl) (fun _ _ _ h => h) (by kernel_rfl) (fun W hW => by kernel_rfl) (by assumption) rfl rfl ?_
      simp only [Act.put, List.setIfInBounds_toArray, List.set_cons_zero, List.set_cons_succ]
      refine wpAnyH_skip 5 79 rfl rfl (by kernel_rfl) (by kernel_rfl) (by kernel_rfl) (fun _ _ _ h => h) (by kernel_rfl) (by assumption) rfl rfl ?_
      simp only [Act.put, List.setIfInBounds_toArray, List.set_cons_zero, List.set_cons_succ]
      refine wpAnyH_skip 6 80 rfl rfl (by kernel_rfl) (by kernel_rfl) (by kernel_rfl) (fun _ _ _ h => h) (by kernel_rfl) (by assumption) rfl rfl ?_
      simp only [Act.put, List.setIfInBounds_toArray, List.set_cons_zero, List.set_cons_succ]
      refine wpAnyH_skip 7 81 rfl rfl (by kernel_rfl) (by kernel_rfl) (by kernel_rfl) (fun _ _ _ h => h) (by kernel_rfl) (by assumption) rfl rfl ?_
      simp only [Act.put, List.setIfInBounds_toArray, List.set_cons_zero, List.set_cons_succ]
      refine wpAnyH_skip 8 82 rfl rfl (by kernel_rfl) (by kernel_rfl) (by kernel_rfl) (fun _ _ _ h => h) (by kernel_rfl) (by assumption) rfl rfl ?_
      simp only [Act.put, List.setIfInBounds_toArray, List.set_cons_zero, List.set_cons_succ]
      refine wpAnyH_skip 9 83 rfl rfl (by kernel_rfl) (by kernel_rfl) (by kernel_rfl) (fun _ _ _ h => h) (by kernel_rfl) (by assumption) rfl rfl ?_
      simp only [Act.put, List.setIfInBounds_toArray, List.set_cons_zero, List.set_cons_succ]
      refine wpAnyH_skip 10 84 rfl rfl (by kernel_rfl) (by kernel_rfl) (by kernel_rfl) (fun _ _ _ h => h) (by kernel_rfl) (by assumption) rfl rfl ?_
      simp only [Act.put, List.setIfInBounds_toArray, List.set_cons_zero, List.set_cons_succ]
      refine wpAnyH_skip 11 85 rfl rfl (by kernel_rfl) (by kernel_rfl) (by kernel_rfl) (fun _ _ _ h => h) (by kernel_rfl) (by assumption) rfl rfl ?_
      simp only [Act.put, List.setIfInBounds_toArray, List.set_cons_zero, List.set_cons_succ]
      refine wpAnyH_skip 12 86 rfl rfl (by kernel_rfl) (by kernel_rfl) (by kernel_rfl) (fun _ _ _ h => h) (by kernel_rfl) (by assumption) rfl rfl ?_
      simp only [Act.put, List.setIfInBounds_toArray, List.set_cons_zero, List.set_cons_succ]
      refine wpAnyH_yield 13 87 (.bool true) rfl rfl (by kernel_rfl) (by kernel_rfl) (by kernel_rfl) (fun _ _ _ h => h) (by kernel_rfl) (fun W hW => by go_simp) (by assumption) rfl rfl ?_
      simp only [Act.put, List.setIfInBounds_toArray, List.set_cons_zero, List.set_cons_succ]
      refine wpAnyH_done (by kernel_rfl) ?_ _
      have HT3 := hide (HT.out.tr hT0)
      clear hT0 HT HO
      go_wp2_with fail
      go_ret2
      exact ⟨_, 0, rfl, HR.out, HT3.out⟩
    have hltz : (i : Int) < (s.size : Int) := by omega
    obtain ⟨b, hb⟩ : ∃ b : Nat, (s[i]'hlt).toNat = b := ⟨_, rfl⟩
    have hb255 : b < 256 := by rw [← hb]; exact (s[i]'hlt).toNat_lt
    by_cases h34 : b = 34
    · have h34z : ((b : Int) != 34) = false := by rw [bne_eq_false_iff_eq]; omega
      have CV : Hid (∀ W, Calm wr W → (convert 55 9 (.slice a A.length c)).run Tryd.prog W = .ok (.string (strOfNums A)) W) := hide fun W hW => by
        have ow := Rc.Own.calm OW hW
        by_cases hA : A = []
        · rw [hA] at ow ⊢
          exact conv_none ow
        · exact conv_own ow hA
      have KS : Hid (strOfNums (quoA (strOfNums A)) = s.extract 0 (i + 1) → KeyR s (strOfNums A) (i + 1)) := hide (KeyR.some HK.out hlt (hb.trans h34) hAi)
      have KO : Hid (strOfNums (quoA (strOfNums A)) ≠ s.extract 0 (i + 1) → KeyR s ⟨#[]⟩ 0) := hide (KeyR.other HK.out hlt (hb.trans h34))
      have CQ := hide (fun W => quote_any (strOfNums A) (by rw [strOfNums_size]; omega) W)
      have HT := hide TE
      clear HK TE OW h34
      generalize strOfNums A = k at *
      generalize strOfNums (quoA k) = qs at *
      generalize hA : A.length = la at *
      clear hA
      have hlez : ¬ (s.size : Int) ≤ (i : Int) := by omega
      have q2 : IntKind.i64.wrap ((i : Int) + 1) = (i : Int) + 1 := by rw [IntKind.wrap_i64]; omega
      have q3 : (0 : Int) ≤ (i : Int) + 1 := by omega
      have q4 : (i : Int) + 1 ≤ (s.size : Int) := by omega
      have GS := binOp_string_neq 9 qs (s.extract 0 (i + 1))
      obtain ⟨eb, heb⟩ : ∃ eb, (qs.toList == (s.extract 0 (i + 1)).toList) = eb := ⟨_, rfl⟩
      rw [heb] at GS
      go_wp2_with fail
      refine wp_region_held (S := Calm wr) (by kernel_rfl) ?_
      have hT0 : Calm wr { wr with drawn := wr.drawn + 1 } := (Touch.refl _ wr).drew
      refine wpAnyH_yield 0 74 (.int .i64 (i : Int)) rfl rfl (by kernel_rfl) (by kernel_rfl) (by kernel_rfl) (fun _ _ _ h => h) (by kernel_rfl) (fun W hW => by kernel_rfl) (by assumption) rfl rfl ?_
      simp only [Act.put, List.setIfInBounds_toArray, List.set_cons_zero, List.set_cons_succ]
      refine wpAnyH_yield 1 75 (.string s) rfl rfl (by kernel_rfl) (by kernel_rfl) (by kernel_rfl) (fun _ _ _ h => h) (by kernel_rfl) (fun W hW => by kernel_rfl) (by assumption) rfl rfl ?_
      simp only [Act.put, List.setIfInBounds_toArray, List.set_cons_zero, List.set_cons_succ]
      refine wpAnyH_yield 2 76 (.int .i64 (s.size : Int)) rfl rfl (by kernel_rfl) (by kernel_rfl) (by kernel_rfl) (fun _ _ _ h => h) (by kernel_rfl) (fun W hW => by go_simp) (by assumption) rfl rfl ?_
      simp only [Act.put, List.setIfInBounds_toArray, List.set_cons_zero, List.set_cons_succ]
      refine wpAnyH_yield 3 77 (.bool false) rfl rfl (by kernel_rfl) (by kernel_rfl) (by kernel_rfl) (fun _ _ _ h => h) (by kernel_rfl) (fun W hW => by go_simp) (by assumption) rfl rfl ?_
      simp only [Act.put, List.setIfInBounds_toArray, List.set_cons_zero, List.set_cons_succ]
      refine wpAnyH_yield 4 78 (.bool false) rfl rfl (by kernel_rfl) (by kernel_rfl) (by kernel_rfl) (fun _ _ _ h => h) (by kernel_rfl) (fun W hW => by kernel_rfl) (by assumption) rfl rfl ?_
      simp only [Act.put, List.setIfInBounds_toArray, List.set_cons_zero, List.set_cons_succ]
      refine wpAnyH_yield 5 79 (.slice a la c) rfl rfl (by kernel_rfl) (by kernel_rfl) (by kernel_rfl) (fun _ _ _ h => h) (by kernel_rfl) (fun W hW => by kernel_rfl) (by assumption) rfl rfl ?_
      simp only [Act.put, List.setIfInBounds_toArray, List.set_cons_zero, List.set_cons_succ]
      refine wpAnyH_yield 6 80 (.string k) rfl rfl (by kernel_rfl) (by kernel_rfl) (by kernel_rfl) (fun _ _ _ h => h) (by kernel_rfl) (fun W hW => by have q := CV.out W hW; go_simp) (by assumption) rfl rfl ?_
      simp only [Act.put, List.setIfInBounds_toArray, List.set_cons_zero, List.set_cons_succ]
      refine wpAnyH_yield 8 82 (.string s) rfl rfl (by kernel_rfl) (by kernel_rfl) (by kernel_rfl) (fun _ _ _ h => h) (by kernel_rfl) (fun W hW => by kernel_rfl) (by assumption) rfl rfl ?_
      simp only [Act.put, List.setIfInBounds_toArray, List.set_cons_zero, List.set_cons_succ]
      refine wpAnyH_yield 9 83 (.int .i64 (i : Int)) rfl rfl (by kernel_rfl) (by kernel_rfl) (by kernel_rfl) (fun _ _ _ h => h) (by kernel_rfl) (fun W hW => by kernel_rfl) (by assumption) rfl rfl ?_
      simp only [Act.put, List.setIfInBounds_toArray, List.set_cons_zero, List.set_cons_succ]
      refine wpAnyH_yield 10 84 (.int .i64 ((i : Int) + 1)) rfl rfl (by kernel_rfl) (by kernel_rfl) (by kernel_rfl) (fun _ _ _ h => h) (by kernel_rfl) (fun W hW => by go_simp) (by assumption) rfl rfl ?_
      simp only [Act.put, List.setIfInBounds_toArray, List.set_cons_zero, List.set_cons_succ]
      refine wpAnyH_yield 11 85 (.string (s.extract 0 (i + 1))) rfl rfl (by kernel_rfl) (by kernel_rfl) (by kernel_rfl) (fun _ _ _ h => h) (by kernel_rfl) (fun W hW => by go_simp) (by assumption) rfl rfl ?_
      simp only [Act.put, List.setIfInBounds_toArray, List.set_cons_zero, List.set_cons_succ]
      refine wpAnyH_enter 7 81 26 #[.string k] rfl rfl (by kernel_rfl) (by kernel_rfl) (by kernel_rfl) ?_
      refine (CQ.out _).mono ?_
      rintro r w5 ⟨rfl, T5⟩
      have h5 : Calm wr w5 := hT0.tr T5
      refine ⟨_, rfl, h5, ?_⟩
      simp only [Act.put, List.setIfInBounds_toArray, List.set_cons_zero, List.set_cons_succ]
      refine wpAnyH_yield 12 86 (.bool (!eb)) rfl rfl (by kernel_rfl) (by kernel_rfl) (by kernel_rfl) (fun _ _ _ h => h) (by kernel_rfl) (fun W hW => by go_simp) (by assumption) rfl rfl ?_
      simp only [Act.put, List.setIfInBounds_toArray, List.set_cons_zero, List.set_cons_succ]
      refine wpAnyH_yield 13 87 (.bool (!eb)) rfl rfl (by kernel_rfl) (by kernel_rfl) (by kernel_rfl) (fun _ _ _ h => h) (by kernel_rfl) (fun W hW => by go_simp) (by assumption) rfl rfl ?_
      simp only [Act.put, List.setIfInBounds_toArray, List.set_cons_zero, List.set_cons_succ]
      refine wpAnyH_done (by kernel_rfl) ?_ _
      have HT3 := hide (HT.out.tr h5)
      have cv := CV.out _ h5
      clear hT0 HT h5 T5 CV CQ GS
      cases eb with
      | true =>
        have HR := hide (KS.out (ba_ext (by simpa using heb)))
        clear KS KO heb
        go_wp2_with fail
        go_ret2
        exact ⟨k, i + 1, rfl, HR.out, HT3.out⟩
      | false =>
        have HR := hide (KO.out (fun h => by rw [h] at heb; simp at heb))
        clear KS KO heb cv
        go_wp2_with fail
        go_ret2
        exact ⟨_, 0, rfl, HR.out, HT3.out⟩
    · have h34z : ((b : Int) != 34) = true := by rw [bne_iff_ne]; omega
      by_cases h92 : b = 92
      · have h92z : ((b : Int) != 92) = false := by rw [bne_eq_false_iff_eq]; omega
        have ES := hide (KI.esc HK.out hlt (hb.trans h92))
        have HT := hide TE
        have HO := hide OW
        clear HK TE OW h34 h92
        by_cases h4 : i + 4 ≤ s.size
        case neg =>
          have h4z : (s.size : Int) < (i : Int) + 4 := by omega
          have HR : Hid (KeyR s ⟨#[]⟩ 0) := hide (KeyR.none fun k r e => h4 (ES.out k r e).1)
          clear ES HO
          go_wp2_with fail
          go_ret2
          exact ⟨_, 0, rfl, HR.out, HT.out⟩
        have h4z : ¬ (s.size : Int) < (i : Int) + 4 := by omega
        obtain ⟨b2, hb2⟩ : ∃ b2 : Nat, (s[i + 2]'(by omega)).toNat = b2 := ⟨_, rfl⟩
        obtain ⟨b3, hb3⟩ : ∃ b3 : Nat, (s[i + 3]'(by omega)).toNat = b3 := ⟨_, rfl⟩
        have E2 : Hid (∀ k r, s.toList = qk k ++ r → 0 ≤ digX (b2 : Int) ∧ 0 ≤ digX (b3 : Int) ∧ ∃ j, j ≤ k.size ∧ i + 4 = (quoL k j).length ∧ A ++ [16 * digX (b2 : Int) + digX (b3 : Int)] = (bsL k).take j) := hide fun k r e => by
          obtain ⟨_, q1, q2, q3⟩ := ES.out k r e
          rw [hb2] at q1 q3
          rw [hb3] at q2 q3
          exact ⟨q1, q2, q3⟩
        obtain ⟨m2, hm2⟩ : ∃ m, m = i + 2 := ⟨_, rfl⟩
        obtain ⟨m3, hm3⟩ : ∃ m, m = i + 3 := ⟨_, rfl⟩
        have hlt2 : m2 < s.size := by omega
        have hlt3 : m3 < s.size := by omega
        have hc2 : (s[m2]'hlt2).toNat = b2 := by subst hm2; exact hb2
        have hc3 : (s[m3]'hlt3).toNat = b3 := by subst hm3; exact hb3
        have qm2 : (i : Int) + 2 = (m2 : Int) := by omega
        have qm3 : (i : Int) + 3 = (m3 : Int) := by omega
        have hlt2z : (m2 : Int) < (s.size : Int) := by omega
        have hlt3z : (m3 : Int) < (s.size : Int) := by omega
        have C2 := hide (fun W => digit_any (b2 : Int) W)
        have C3 := hide (fun W => digit_any (b3 : Int) W)
        have x1 := digX_lo (b2 : Int)
        have x2 := digX_lo (b3 : Int)
        clear hb2 hb3 hm2 hm3 ES
        generalize digX (b2 : Int) = x at *
        generalize digX (b3 : Int) = y at *
        by_cases hx0 : 0 ≤ x
        case neg =>
          have hx0z : x < 0 := by omega
          have HR : Hid (KeyR s ⟨#[]⟩ 0) := hide (KeyR.none fun k r e => hx0 (E2.out k r e).1)
          clear E2 HO C3 hx0
          go_wp2_with fail
          refine (C2.out _).mono ?_
          rintro r w5 ⟨rfl, hq5⟩
          subst hq5
          go_wp2_with fail
          go_ret2
          exact ⟨_, 0, rfl, HR.out, HT.out⟩
        by_cases hy0 : 0 ≤ y
        case neg =>
          have hx0z : ¬ x < 0 := by omega
          have hy0z : y < 0 := by omega
          have HR : Hid (KeyR s ⟨#[]⟩ 0) := hide (KeyR.none fun k r e => hy0 (E2.out k r e).2.1)
          clear E2 HO hx0 hy0
          go_wp2_with fail
          refine (C2.out _).mono ?_
          rintro r w5 ⟨rfl, hq5⟩
          subst hq5
          go_wp2_with fail
          refine (C3.out _).mono ?_
          rintro r w5 ⟨rfl, hq5⟩
          subst hq5
          go_wp2_with fail
          go_ret2
          exact ⟨_, 0, rfl, HR.out, HT.out⟩
        have hx0z : ¬ x < 0 := by omega
        have hy0z : ¬ y < 0 := by omega
        obtain ⟨v, hv⟩ : ∃ v, v = 16 * x + y := ⟨_, rfl⟩
        have HK2 : Hid (KI s (i + 4) (A ++ [v])) := hide fun k r e => by
          obtain ⟨_, _, q⟩ := E2.out k r e
          rw [hv]
          exact q
        have q1 : IntKind.i64.wrap (16 * x) = 16 * x := by rw [IntKind.wrap_i64]; omega
        have q2 : 16 * x + y = v := hv.symm
        have q3 : IntKind.i64.wrap v = v := by rw [IntKind.wrap_i64]; omega
        have q4 : IntKind.u8.wrap v = v := by rw [IntKind.wrap_u8]; omega
        have qa : IntKind.i64.wrap (m2 : Int) = (m2 : Int) := by rw [IntKind.wrap_i64]; omega
        have qb : IntKind.i64.wrap (m3 : Int) = (m3 : Int) := by rw [IntKind.wrap_i64]; omega
        have e1 : (A ++ [v]).length = A.length + 1 := len_snoc _ _
        have E1 := hide e1
        have AP : Hid (∀ W, Calm wr W → ∃ a4 c4 w4, (Builtin.append_ #[55, 55] 55 #[.slice a A.length c, .slice (some ⟨W.heap.size, 0, none⟩) 1 1]).run Tryd.prog (W.alloc (.cells #[.int .u8 v] 5)) = .ok (.slice a4 (A.length + 1) c4) w4 ∧ encB.Own 5 w4 w.heap.size (.slice a4 (A.length + 1) c4) (A ++ [v]) ∧ Touch (fun d => (Value.slice a A.length c).ownBlock = some d) W w4) := hide fun W hW => by
          have o := Rc.Own.calm HO.out hW
          obtain ⟨a4, c4, w4, hr, ow, t2⟩ := by_app v o (HT.out.tr hW).size (by omega)
          rw [e1] at ow
          exact ⟨a4, c4, w4, hr, ow, t2⟩
        have FR : Hid (∀ W, Touch (fun d => (Value.slice a A.length c).ownBlock = some d) wr W → Calm w W) := hide fun W hW => Rc.Own.fresh (w0 := w) HO.out hW (fun _ h => h) HT.out (Nat.le_refl _)
        clear E2 HO HT e1 hv
        generalize hA : A.length = la at *
        have HA := hide hA
        clear hA
        go_wp2_with fail
        refine (C2.out _).mono ?_
        rintro r w5 ⟨rfl, hq5⟩
        subst hq5
        go_wp2_with fail
        refine (C3.out _).mono ?_
        rintro r w5 ⟨rfl, hq5⟩
        subst hq5
        go_wp2_with fail
        refine wp_region_held (S := Touch (fun d => (Value.slice a la c).ownBlock = some d) w5) (by kernel_rfl) ?_
        have hT0 : Touch (fun d => (Value.slice a la c).ownBlock = some d) w5 { w5 with drawn := w5.drawn + 1 } := (Touch.refl _ w5).drew
        have hC0 : Calm w5 { w5 with drawn := w5.drawn + 1 } := (Touch.refl _ w5).drew
        refine wpAnyH_yield 0 56 (.slice a la c) rfl rfl (by kernel_rfl) (by kernel_rfl) (by kernel_rfl) (fun _ _ _ h => h) (by kernel_rfl) (fun W hW => by kernel_rfl) (by assumption) rfl rfl ?_
        simp only [Act.put, List.setIfInBounds_toArray, List.set_cons_zero, List.set_cons_succ]
        refine wpAnyH_yield 1 57 (.string s) rfl rfl (by kernel_rfl) (by kernel_rfl) (by kernel_rfl) (fun _ _ _ h => h) (by kernel_rfl) (fun W hW => by kernel_rfl) (by assumption) rfl rfl ?_
        simp only [Act.put, List.setIfInBounds_toArray, List.set_cons_zero, List.set_cons_succ]
        refine wpAnyH_yield 2 58 (.int .i64 (i : Int)) rfl rfl (by kernel_rfl) (by kernel_rfl) (by kernel_rfl) (fun _ _ _ h => h) (by kernel_rfl) (fun W hW => by kernel_rfl) (by assumption) rfl rfl ?_
        simp only [Act.put, List.setIfInBounds_toArray, List.set_cons_zero, List.set_cons_succ]
        refine wpAnyH_yield 3 59 (.int .i64 (m2 : Int)) rfl rfl (by kernel_rfl) (by kernel_rfl) (by kernel_rfl) (fun _ _ _ h => h) (by kernel_rfl) (fun W hW => by go_simp) (by assumption) rfl rfl ?_
        simp only [Act.put, List.setIfInBounds_toArray, List.set_cons_zero, List.set_cons_succ]
        refine wpAnyH_yield 4 60 (.int .u8 (b2 : Int)) rfl rfl (by kernel_rfl) (by kernel_rfl) (by kernel_rfl) (fun _ _ _ h => h) (by kernel_rfl) (fun W hW => by go_simp) (by assumption) rfl rfl ?_
        simp only [Act.put, List.setIfInBounds_toArray, List.set_cons_zero, List.set_cons_succ]
        refine wpAnyH_yield 7 63 (.string s) rfl rfl (by kernel_rfl) (by kernel_rfl) (by kernel_rfl) (fun _ _ _ h => h) (by kernel_rfl) (fun W hW => by kernel_rfl) (by assumption) rfl rfl ?_
        simp only [Act.put, List.setIfInBounds_toArray, List.set_cons_zero, List.set_cons_succ]
        refine wpAnyH_yield 8 64 (.int .i64 (i : Int)) rfl rfl (by kernel_rfl) (by kernel_rfl) (by kernel_rfl) (fun _ _ _ h => h) (by kernel_rfl) (fun W hW => by kernel_rfl) (by assumption) rfl rfl ?_
        simp only [Act.put, List.setIfInBounds_toArray, List.set_cons_zero, List.set_cons_succ]
        refine wpAnyH_yield 9 65 (.int .i64 (m3 : Int)) rfl rfl (by kernel_rfl) (by kernel_rfl) (by kernel_rfl) (fun _ _ _ h => h) (by kernel_rfl) (fun W hW => by go_simp) (by assumption) rfl rfl ?_
        simp only [Act.put, List.setIfInBounds_toArray, List.set_cons_zero, List.set_cons_succ]
        refine wpAnyH_yield 10 66 (.int .u8 (b3 : Int)) rfl rfl (by kernel_rfl) (by kernel_rfl) (by kernel_rfl) (fun _ _ _ h => h) (by kernel_rfl) (fun W hW => by go_simp) (by assumption) rfl rfl ?_
        simp only [Act.put, List.setIfInBounds_toArray, List.set_cons_zero, List.set_cons_succ]
        refine wpAnyH_enter 5 61 54 #[.int .u8 (b2 : Int)] rfl rfl (by kernel_rfl) (by kernel_rfl) (by kernel_rfl) ?_
        refine (C2.out _).mono ?_
        rintro r wa ⟨rfl, hq6⟩
        subst hq6
        refine ⟨_, rfl, hT0, ?_⟩
        simp only [Act.put, List.setIfInBounds_toArray, List.set_cons_zero, List.set_cons_succ]
        refine wpAnyH_yield 6 62 (.int .i64 (16 * x)) rfl rfl (by kernel_rfl) (by kernel_rfl) (by kernel_rfl) (fun _ _ _ h => h) (by kernel_rfl) (fun W hW => by go_simp) (by assumption) rfl rfl ?_
        simp only [Act.put, List.setIfInBounds_toArray, List.set_cons_zero, List.set_cons_succ]
        refine wpAnyH_enter 11 67 54 #[.int .u8 (b3 : Int)] rfl rfl (by kernel_rfl) (by kernel_rfl) (by kernel_rfl) ?_
        refine (C3.out _).mono ?_
        rintro r wa ⟨rfl, hq6⟩
        subst hq6
        refine ⟨_, rfl, hT0, ?_⟩
        simp only [Act.put, List.setIfInBounds_toArray, List.set_cons_zero, List.set_cons_succ]
        refine wpAnyH_yield 12 68 (.int .i64 v) rfl rfl (by kernel_rfl) (by kernel_rfl) (by kernel_rfl) (fun _ _ _ h => h) (by kernel_rfl) (fun W hW => by go_simp) (by assumption) rfl rfl ?_
        simp only [Act.put, List.setIfInBounds_toArray, List.set_cons_zero, List.set_cons_succ]
        refine wpAnyH_yield 13 69 (.int .u8 v) rfl rfl (by kernel_rfl) (by kernel_rfl) (by kernel_rfl) (fun _ _ _ h => h) (by kernel_rfl) (fun W hW => by go_simp) (by assumption) rfl rfl ?_
        simp only [Act.put, List.setIfInBounds_toArray, List.set_cons_zero, List.set_cons_succ]
        generalize ({ w5 with drawn := w5.drawn + 1 } : World) = wD at *
        obtain ⟨a4, c4, w4, hr, ow, t2⟩ := AP.out wD hC0
        have h4' : Touch (fun d => (Value.slice a la c).ownBlock = some d) w5 w4 := hT0.trans t2 (fun _ _ h => h)
        refine wpAnyH_value 14 70 (.slice (some ⟨wD.heap.size, 0, none⟩) 1 1) (w' := wD.alloc (.cells #[.int .u8 v] 5)) rfl rfl (by kernel_rfl) (by kernel_rfl) (by go_simp) (hT0.alloc _) ?_
        simp only [Act.put, List.setIfInBounds_toArray, List.set_cons_zero, List.set_cons_succ]
        refine wpAnyH_value 15 71 (.slice a4 (la + 1) c4) (w' := w4) rfl rfl (by kernel_rfl) (by kernel_rfl) (exec_apk (.tmp 56) (.tmp 70) 55 55 rfl _ _ _ rfl rfl hr) h4' ?_
        simp only [Act.put, List.setIfInBounds_toArray, List.set_cons_zero, List.set_cons_succ]
        have HT4 := hide (FR.out _ h4')
        have HO := hide ow
        clear hT0 hC0 hr ow t2 AP FR C2 C3
        refine wpAnyH_yield 16 4 (.slice a4 (la + 1) c4) rfl rfl (by kernel_rfl) (by kernel_rfl) (by kernel_rfl) (fun _ _ _ h => h) (by kernel_rfl) (fun W hW => by kernel_rfl) (by assumption) rfl rfl ?_
        simp only [Act.put, List.setIfInBounds_toArray, List.set_cons_zero, List.set_cons_succ]
        refine wpAnyH_done (by kernel_rfl) ?_ _
        clear h4'
        go_wp2_with fail
        go_roundw
        case rel => exact ⟨i + 4, A ++ [v], a4, c4, by go_num, by omega, by omega, by rw [E1.out], by rw [E1.out]; omega, HK2, by rw [E1.out]; exact HO.out, HT4.out⟩
        case measure => simp [intOf]; omega
      · have h92z : ((b : Int) != 92) = true := by rw [bne_iff_ne]; omega
        have HK2 : Hid (KI s (i + 1) (A ++ [(b : Int)])) := hide (KI.plain HK.out hlt hb h34 h92)
        obtain ⟨a4, c4, w4, hr, ow, t2⟩ := by_app (b : Int) OW TE.size (by omega)
        have HT := hide (Rc.Own.fresh (w0 := w) OW t2 (fun _ h => h) TE (Nat.le_refl _))
        have e1 : (A ++ [(b : Int)]).length = A.length + 1 := len_snoc _ _
        have E1 := hide e1
        have HR := hide hr
        have HO := hide ow
        clear HK TE OW h34 h92 hr ow t2 e1
        generalize hA : A.length = la at *
        have HA := hide hA
        clear hA
        go_wp2_with (at_builtin; refine Rc.wpList_appR rfl (.tmp 27) (.tmp 31) 55 55 rfl _ _ _ rfl rfl HR.out ?_)
        go_roundw
        case rel => exact ⟨i + 1, A ++ [(b : Int)], a4, c4, by go_num, by omega, by omega, by rw [E1.out], by rw [E1.out]; omega, HK2, HO.out, HT.out⟩
        case measure => simp [intOf]; omega

end Go.Proofs.YtamfcmmhmfhhkaaDoor
