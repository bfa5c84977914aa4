/- Parse: a pane out of a line (the document's; the walk). Read: panes out of lines (the document's; the walk). PanesTexts, walked over what the program is to answer. -/
import Derived.Test.YtamfcmmhmfhhkaaDoorG11
import Derived.Test.YtamfcmmhmfhhkaaDoorG19
import Derived.Test.YtamfcmmhmfhhkaaDoorG18
import Derived.Test.YtamfcmmhmfhhkaaDoorG16
import Derived.Deep.CutRange
import Derived.Test.YtamfcmmhmfhhkaaDoorG6
namespace Go.Proofs.YtamfcmmhmfhhkaaDoor
open Go.RowKit

set_option maxRecDepth 100000 in
set_option maxHeartbeats 4000000 in
theorem rparse_any (s : ByteArray) (hs : s.size ≤ 900000) (w : World) : Calls Tryd.prog 16 #[.string s] w fun e w' => ∃ o, ParR s o ∧ e = .returned (parV o) ∧ Calm w w' := by
  have CK := hide (fun W => key_any s hs W)
  have CP : Hid (∀ n, n < s.size → ∀ W, _) := hide fun n (_ : n < s.size) W => rparts_any (s.extract n s.size) (by rw [ByteArray.size_extract]; omega) W
  have CN : Hid (∀ t : ByteArray, t.size ≤ 900000 → ∀ W, _) := hide fun t ht W => number_any t ht W
  have hi9 : (Tryd.prog.info? 29).map (·.size) = some 9 := by kernel_rfl
  have h1z : Hid ((pnc pn0).all (·.oneCell') = true) := hide (by simp [Value.oneCell'])
  have A0 := hide (al_new w (.cells (pnc pn0) 29))
  have T0 := hide ((Touch.refl (fun _ => False) w).alloc (.cells (pnc pn0) 29))
  have S0 := hide (al_size w (.cells (pnc pn0) 29))
  have HZ : Hid (∀ (W : World) (D : Nat), w.heap.size ≤ D → Calm w W → W.heap[D]? = some (.cells (pnc pn0) 29 (0, 0)) → ∀ cs, (W.setRow D cs).heap[D]? = some (.cells cs 29 (0, 0)) ∧ Calm w (W.setRow D cs)) := hide fun W D hD hW hg cs =>
    ⟨setRow_heap _ _ _ _ _ _ hg, hW.trans (S' := fun g => g = D) ⟨rfl, rfl, rfl, by simp, fun j _ hj => setRow_other _ _ j _ hj⟩ (fun g hg e => by omega)⟩
  have HE : Hid (∀ k n, KeyR s k n → n = 0 ∨ s.size ≤ n → ParR s none) := hide fun k n => par_early
  have HS : Hid (∀ (k : ByteArray) (n : Nat) (L : List ByteArray), KeyR s k n → n ≠ 0 → L.map (·.toList) = ptB (s.extract n s.size) → L.length ≠ 9 ∨ (L.getD 0 ⟨#[]⟩).toList ≠ [] → ParR s none) := hide fun k n L => par_short
  go_enter Tryd.func16, Tryd.ntmps16
  go_wp2_with fail
  refine (CK.out _).mono ?_
  rintro e w1 ⟨k, n, rfl, hk, T1⟩
  have AD := hide (T1.at A0.out)
  have TL := hide (T0.out.tr T1)
  have HK := hide hk
  clear T1 A0 T0 S0 CK hk
  generalize hD : w.heap.size = D at *
  have HD := hide hD
  clear hD
  by_cases hn0 : n = 0
  · have hn0z : ((n : Int) == 0) = true := by rw [beq_iff_eq]; omega
    have HP := hide (HE.out _ _ HK.out (.inl hn0))
    have hw := hide (HZ.out w1 D (by omega) TL.out AD.out (pnc pn0))
    clear HE HS CP CN hn0
    go_wp2_with (refine wpList_store_rowTo rfl 29 (.tmp 2) (.tmp 27) rfl rfl D (pnc pn0) rfl rfl 29 _ AD.out hi9 rfl h1z.out ?_)
    refine bodyPost_ret (results_cell_one rfl _ _ _ _ _ _ _ rfl hw.out.1 Tryd.underlying29 rfl (by kernel_rfl) _ rfl) rfl ?_
    exact ⟨none, HP.out, rfl, hw.out.2⟩
  have hn0z : ((n : Int) == 0) = false := by rw [beq_eq_false_iff_ne]; omega
  by_cases hns : s.size ≤ n
  · have hnsz : (s.size : Int) ≤ (n : Int) := by omega
    have HP := hide (HE.out _ _ HK.out (.inr hns))
    have hw := hide (HZ.out w1 D (by omega) TL.out AD.out (pnc pn0))
    clear HE HS CP CN hns
    go_wp2_with (refine wpList_store_rowTo rfl 29 (.tmp 2) (.tmp 27) rfl rfl D (pnc pn0) rfl rfl 29 _ AD.out hi9 rfl h1z.out ?_)
    refine bodyPost_ret (results_cell_one rfl _ _ _ _ _ _ _ rfl hw.out.1 Tryd.underlying29 rfl (by kernel_rfl) _ rfl) rfl ?_
    exact ⟨none, HP.out, rfl, hw.out.2⟩
  have hnsz : ¬ (s.size : Int) ≤ (n : Int) := by omega
  have hnsz2 : (n : Int) ≤ (s.size : Int) := by omega
  have CPn := hide (CP.out n (by omega))
  clear HE CP
  go_wp2_with fail
  refine (CPn.out _).mono ?_
  rintro e w2 ⟨lo, cap, L, rfl, ow, hL, T2⟩
  have AM : Hid (∀ j, j < L.length → ∃ g off, lo = some ⟨g, off, none⟩ ∧ ∀ W, Calm w2 W → W.cell? ⟨g, off + j, none⟩ = some (.string (L.getD j ⟨#[]⟩))) := hide fun j hj => by
    have hm := (Rc.Own.mem ow).2.1
    obtain ⟨g, off, e, -⟩ := st_at hm j hj
    refine ⟨g, off, e, fun W hW => ?_⟩
    obtain ⟨g', off', e', h⟩ := st_at (Rc.Mem.calm hm hW) j hj
    rw [e] at e'
    injection e' with e'
    injection e' with e1 e2
    subst e1 e2
    exact h
  have HL := hide hL
  have AD2 := hide (T2.at AD.out)
  have TL2 := hide (TL.out.tr T2)
  have SH := hide (HS.out k n L HK.out hn0 hL)
  have PI := hide (par_iff HK.out hn0 hL)
  have PZ := hide (pc_size hL (by rw [ByteArray.size_extract]; omega))
  clear ow hL T2 AD TL CPn HS HK
  by_cases h9 : L.length = 9
  case neg =>
    have h9z : ((L.length : Int) != 9) = true := by rw [bne_iff_ne]; omega
    have HP := hide (SH.out (.inl h9))
    have hw := hide (HZ.out w2 D (by omega) TL2.out AD2.out (pnc pn0))
    clear SH PI PZ AM CN h9
    generalize L.length = ll at *
    go_wp2_with (refine wpList_store_rowTo rfl 29 (.tmp 2) (.tmp 41) rfl rfl D (pnc pn0) rfl rfl 29 _ AD2.out hi9 rfl h1z.out ?_)
    refine bodyPost_ret (results_cell_one rfl _ _ _ _ _ _ _ rfl hw.out.1 Tryd.underlying29 rfl (by kernel_rfl) _ rfl) rfl ?_
    exact ⟨none, HP.out, rfl, hw.out.2⟩
  rw [h9] at AM ⊢
  obtain ⟨g, off, hlo, ck0⟩ := AM.out 0 (by omega)
  subst hlo
  have AC : Hid (∀ j, j < 9 → ∀ W, Calm w2 W → W.cell? ⟨g, off + j, none⟩ = some (.string (L.getD j ⟨#[]⟩))) := hide fun j hj W hW => by
    obtain ⟨g', off', e, h⟩ := AM.out j hj
    injection e with e
    injection e with e1 e2
    subst e1 e2
    exact h W hW
  have ck := ck0 w2 (Touch.refl _ _)
  rw [Nat.add_zero] at ck
  clear ck0 AM
  obtain ⟨l0, hl0⟩ : ∃ l0, L.getD 0 ⟨#[]⟩ = l0 := ⟨_, rfl⟩
  rw [hl0] at SH ck
  have GS := binOp_string_neq 9 l0 ⟨#[]⟩
  rw [nilB] at GS
  by_cases he : l0.toList = []
  case neg =>
    have heb : (l0.toList == ([] : List UInt8)) = false := by rw [beq_eq_false_iff_ne]; exact he
    rw [heb] at GS
    have HP := hide (SH.out (.inr he))
    have hw := hide (HZ.out w2 D (by omega) TL2.out AD2.out (pnc pn0))
    clear SH PI PZ AC CN he heb h9
    go_wp2_with (refine wpList_store_rowTo rfl 29 (.tmp 2) (.tmp 41) rfl rfl D (pnc pn0) rfl rfl 29 _ AD2.out hi9 rfl h1z.out ?_)
    refine bodyPost_ret (results_cell_one rfl _ _ _ _ _ _ _ rfl hw.out.1 Tryd.underlying29 rfl (by kernel_rfl) _ rfl) rfl ?_
    exact ⟨none, HP.out, rfl, hw.out.2⟩
  have heb : (l0.toList == ([] : List UInt8)) = true := by rw [he]; rfl
  rw [heb] at GS
  clear SH heb
  have A1 := hide (al_new w2 (.cells (pnc ⟨k, 0, 0, 0, 0, tl0⟩) 29))
  have AD3 := hide (al_old AD2.out (.cells (pnc ⟨k, 0, 0, 0, 0, tl0⟩) 29))
  have TP := hide ((Touch.refl (fun _ => False) w2).alloc (.cells (pnc ⟨k, 0, 0, 0, 0, tl0⟩) 29))
  have HDP := hide (lt_of_heap AD2.out)
  have AC1 := hide (AC.out 1 (by omega))
  have PNN := hide (fun j (hj : j < 7) => par_num PI.out h9 (j := j) hj)
  have PNO := hide (par_no PI.out h9)
  have PYS := hide (par_yes PI.out h9 (by rw [hl0]; exact he))
  have KD0 : Hid (kdN (L.getD 1 ⟨#[]⟩) 0 = 0) := hide rfl
  have KDS : Hid (∀ m, kdN (L.getD 1 ⟨#[]⟩) (m + 1) = if nameB ((m : Int) + 1) = L.getD 1 ⟨#[]⟩ then (m : Int) + 1 else kdN (L.getD 1 ⟨#[]⟩) m) := hide fun _ => rfl
  have PQ : Hid (parQ k L = ⟨k, ynF L 0, ynF L 1, kdN (L.getD 1 ⟨#[]⟩) 3, ynF L 2, ⟨ynF L 3, ynF L 4, ynF L 5, ynF L 6⟩⟩) := hide rfl
  have YN : Hid (∀ j, ynF L j = (numP (L.getD (2 + j) ⟨#[]⟩)).getD 0) := hide fun _ => rfl
  have YU : Hid (∀ i, upG (yF L i) i (ynF L i) = yF L (i + 1)) := hide (yF_next L)
  have YZ : Hid (yF L 0 = fun _ => 0) := hide (yF_zero L)
  have Y7 : Hid (∀ j, j < 7 → yF L 7 j = ynF L j) := hide fun j hj => by unfold yF; rw [if_pos hj]
  clear AD2 PI HL h9 he hl0
  generalize parQ k L = q at *
  generalize yF L = yy at *
  generalize ynF L = yn at *
  obtain ⟨lf, hl'⟩ : ∃ lf : Nat → ByteArray, ∀ j, L.getD j (⟨#[]⟩ : ByteArray) = lf j := ⟨fun j => L.getD j ⟨#[]⟩, fun _ => rfl⟩
  simp only [hl'] at AC PZ AC1 PNN PYS KD0 KDS PQ YN
  clear hl'
  generalize hl1 : lf 1 = l1 at *
  generalize hkd : kdN l1 = kd at *
  clear hkd hl1
  go_wp2_with fail
  generalize w2.alloc (.cells (pnc ⟨k, 0, 0, 0, 0, tl0⟩) 29) = w3 at *
  generalize hP : w2.heap.size = P at *
  have HP := hide hP
  clear hP ck GS
  go_loopw [8] (fun s8 wr => ∃ m : Nat, s8 = .int .i64 ((m : Int) + 1) ∧ m ≤ 3 ∧ wr.heap[P]? = some (.cells (pnc ⟨k, 0, 0, kd m, 0, tl0⟩) 29 (0, 0)) ∧ wr.heap[D]? = some (.cells (pnc pn0) 29 (0, 0)) ∧ Calm w2 wr) (fun s8 _ => 4 - (intOf s8).toNat)
  case atStart => exact ⟨0, rfl, by omega, by rw [KD0.out]; exact A1.out, AD3.out, TP.out⟩
  case round =>
    obtain ⟨m, rfl, hm, BP, BD, TE⟩ := hrel
    clear A1 AD3 TP
    by_cases hlt : m < 3
    · have hltz : (m : Int) + 1 ≤ 3 := by omega
      have KS := hide (KDS.out m)
      obtain ⟨nb, hnb⟩ : ∃ nb, nameB ((m : Int) + 1) = nb := ⟨_, rfl⟩
      have C1 := hide (fun W => name_any ((m : Int) + 1) W)
      rw [hnb] at KS C1
      have GS1 := binOp_string_eql 9 nb l1
      obtain ⟨eb, heb⟩ : ∃ eb, (nb.toList == l1.toList) = eb := ⟨_, rfl⟩
      rw [heb] at GS1
      have HBP := hide BP
      have HBD := hide BD
      have HT := hide TE
      clear BP BD TE hnb AC PZ PNN PNO PYS KD0 KDS PQ YN YU YZ Y7 CN HZ
      generalize kd m = d0 at *
      generalize hd1 : kd (m + 1) = d1 at *
      have HD1 := hide hd1
      clear hd1
      go_wp2_with fail
      refine wp_region_held (S := Calm w2) (by kernel_rfl) ?_
      have hT0 : Calm w2 { wr with drawn := wr.drawn + 1 } := HT.out.drew
      have hW0 : Calm wr { wr with drawn := wr.drawn + 1 } := (Touch.refl (fun _ => False) wr).drew
      refine wpAnyH_yield 0 48 (.int .i64 ((m : Int) + 1)) rfl rfl (by kernel_rfl) (by kernel_rfl) (by kernel_rfl) (fun _ _ _ h => h) (by kernel_rfl) (fun W hW => by kernel_rfl) (by assumption) rfl rfl ?_
      simp only [Act.put, List.setIfInBounds_toArray, List.set_cons_zero, List.set_cons_succ]
      refine wpAnyH_yield 2 50 (.slice (some ⟨g, off, none⟩) 9 cap) rfl rfl (by kernel_rfl) (by kernel_rfl) (by kernel_rfl) (fun _ _ _ h => h) (by kernel_rfl) (fun W hW => by kernel_rfl) (by assumption) rfl rfl ?_
      simp only [Act.put, List.setIfInBounds_toArray, List.set_cons_zero, List.set_cons_succ]
      refine wpAnyH_yield 3 51 (.pointer (some ⟨g, off + 1, none⟩)) rfl rfl (by kernel_rfl) (by kernel_rfl) (by kernel_rfl) (fun _ _ _ h => h) (by kernel_rfl) (fun W hW => by go_simp) (by assumption) rfl rfl ?_
      simp only [Act.put, List.setIfInBounds_toArray, List.set_cons_zero, List.set_cons_succ]
      refine wpAnyH_yield 4 52 (.string l1) rfl rfl (by kernel_rfl) (by kernel_rfl) (by kernel_rfl) (fun _ _ _ h => h) (by kernel_rfl) (fun W hW => by have q := AC1.out W hW; go_simp) (by assumption) rfl rfl ?_
      simp only [Act.put, List.setIfInBounds_toArray, List.set_cons_zero, List.set_cons_succ]
      refine wpAnyH_enter 1 49 27 #[.int .i64 ((m : Int) + 1)] rfl rfl (by kernel_rfl) (by kernel_rfl) (by kernel_rfl) ?_
      refine (C1.out _).mono ?_
      rintro r w5 ⟨rfl, hq5⟩
      subst hq5
      refine ⟨_, rfl, hT0, ?_⟩
      simp only [Act.put, List.setIfInBounds_toArray, List.set_cons_zero, List.set_cons_succ]
      refine wpAnyH_yield 5 53 (.bool eb) rfl rfl (by kernel_rfl) (by kernel_rfl) (by kernel_rfl) (fun _ _ _ h => h) (by kernel_rfl) (fun W hW => by go_simp) (by assumption) rfl rfl ?_
      simp only [Act.put, List.setIfInBounds_toArray, List.set_cons_zero, List.set_cons_succ]
      refine wpAnyH_done (by kernel_rfl) ?_ _
      have BP := hW0.at HBP.out
      have BD := hW0.at HBD.out
      clear hW0 HBP HBD HT GS1 C1
      generalize ({ wr with drawn := wr.drawn + 1 } : World) = wD at *
      have HT := hide hT0
      have HBD := hide BD
      clear hT0 BD
      cases eb with
      | true =>
        have KS2 := hide (KS.out.trans (if_pos (ba_ext (by simpa using heb))))
        have E4 := hide (pn_set (x := ⟨k, 0, 0, d0, 0, tl0⟩) ⟨k, 0, 0, (m : Int) + 1, 0, tl0⟩ 3 (.int .i64 ((m : Int) + 1)) BP rfl)
        have T4 := hide (HT.out.setCell (p := ⟨P, 3, none⟩) (fun h => by have := HP.out; simp only at h; omega) (.int .i64 ((m : Int) + 1)))
        have E5 : Hid ((wD.setCell ⟨P, 3, none⟩ (.int .i64 ((m : Int) + 1))).heap[D]? = some (.cells (pnc pn0) 29 (0, 0))) := hide (((Touch.refl (fun g => g = P) wD).setCell (p := ⟨P, 3, none⟩) (fun _ => rfl) (.int .i64 ((m : Int) + 1))).heap HBD.out (fun e => by have := HDP.out; omega))
        obtain ⟨⟨c0, c1, c2, c3, c4⟩, c5, c6, c7, c8⟩ := pn_cells BP
        have f3 : wD.frozen? ⟨P, 3, none⟩ = false := by simp [World.frozen?, BP]
        clear KS heb BP c0 c1 c2 c4 c5 c6 c7 c8
        go_wp2_with fail
        go_roundw
        case rel => exact ⟨m + 1, by go_num, by omega, by rw [HD1.out, KS2.out]; exact E4.out, E5.out, T4.out⟩
        case measure => simp [intOf]; omega
      | false =>
        have KS2 := hide (KS.out.trans (if_neg (fun e => by rw [e] at heb; simp at heb)))
        have HBP := hide BP
        clear KS heb BP
        go_wp2_with fail
        go_roundw
        case rel => exact ⟨m + 1, by go_num, by omega, by rw [HD1.out, KS2.out]; exact HBP.out, HBD.out, HT.out⟩
        case measure => simp [intOf]; omega
    · have hltz : ¬ (m : Int) + 1 ≤ 3 := by omega
      obtain rfl : m = 3 := by omega
      obtain ⟨w4, hw4⟩ : ∃ x, x = wr := ⟨_, rfl⟩
      subst hw4
      have XA := hide (al_new w4 (.cells (f7c fun _ => 0) 68))
      have XT := hide (TE.alloc (.cells (f7c fun _ => 0) 68))
      have XP := hide (al_old BP (.cells (f7c fun _ => 0) 68))
      have XD := hide (al_old BD (.cells (f7c fun _ => 0) 68))
      have HX0 : Hid (w2.heap.size ≤ w4.heap.size ∧ P < w4.heap.size) := hide ⟨TE.size, lt_of_heap BP⟩
      clear BP BD TE KD0 KDS AC1
      generalize kd 3 = d at *
      go_wp2_with fail
      generalize w4.alloc (.cells (f7c fun _ => 0) 68) = w5 at *
      generalize hX : w4.heap.size = X at *
      have HX := hide hX
      clear hX
      go_loopw [10] (fun s10 wr => ∃ i : Nat, s10 = .int .i64 (i : Int) ∧ i ≤ 7 ∧ (∀ j, j < i → numP (lf (2 + j)) = some (yn j)) ∧ wr.heap[X]? = some (.cells (f7c (yy i)) 68 (0, 0)) ∧ wr.heap[P]? = some (.cells (pnc ⟨k, 0, 0, d, 0, tl0⟩) 29 (0, 0)) ∧ wr.heap[D]? = some (.cells (pnc pn0) 29 (0, 0)) ∧ Calm w2 wr) (fun s10 _ => 7 - (intOf s10).toNat)
      case atStart => exact ⟨0, rfl, by omega, fun j hj => by omega, by rw [YZ.out]; exact XA.out, XP.out, XD.out, XT.out⟩
      case round =>
        obtain ⟨i, rfl, hi, hok, BX, BP, BD, TE⟩ := hrel
        clear XA XP XD XT hlt hltz hm
        by_cases hlt : i < 7
        · have hltz : (i : Int) < 7 := by omega
          obtain ⟨m, hmm⟩ : ∃ m, m = 2 + i := ⟨_, rfl⟩
          have qm : 2 + (i : Int) = (m : Int) := by omega
          have qm9 : (m : Int) < 9 := by omega
          have cm := AC.out m (by omega) wr TE
          have C1 := hide (CN.out (lf m) (PZ.out m))
          have PN1 : Hid (numP (lf m) = none → ParR s none) := hide (by rw [hmm]; exact PNN.out i hlt)
          have YN1 : Hid (yn i = (numP (lf m)).getD 0) := hide (by rw [hmm]; exact YN.out i)
          have OK1 : Hid (∀ x, numP (lf m) = some x → ∀ j, j < i + 1 → numP (lf (2 + j)) = some (yn j)) := hide fun x hx j hj => by
            by_cases e : j = i
            · rw [e, ← hmm, hx, YN1.out, hx]
              rfl
            · exact hok j (by omega)
          have YU1 := hide (YU.out i)
          have HBX := hide BX
          have HBP := hide BP
          have HBD := hide BD
          have HT := hide TE
          clear BX BP BD TE hok AC PZ PNN PNO PYS PQ YN YU YZ Y7 CN hmm
          generalize lf m = t at *
          have NR : Hid (∀ o, numP t = o → numR t = (match o with | some x => .tuple #[.int .i64 x, .bool true] | none => .tuple #[.int .i64 0, .bool false])) := hide fun o h => by cases o <;> (unfold numR; rw [h])
          cases hnp : numP t with
          | none =>
            have HP1 := hide (PN1.out hnp)
            have nr := NR.out _ hnp
            rw [nr] at C1
            clear NR nr PN1 YN1 OK1 YU1 hnp
            go_wp2_with fail
            refine (C1.out _).mono ?_
            rintro r w6 ⟨rfl, T6⟩
            have AD6 := hide (T6.at HBD.out)
            have hw := hide (HZ.out w6 D (by have := HD.out; omega) ((TL2.out.tr HT.out).tr T6) AD6.out (pnc pn0))
            clear T6 cm HBX HBP HBD HT C1
            go_wp2_with (refine wpList_store_rowTo rfl 29 (.tmp 2) (.tmp 71) rfl rfl D (pnc pn0) rfl rfl 29 _ AD6.out hi9 rfl h1z.out ?_)
            refine bodyPost_ret (results_cell_one rfl _ _ _ _ _ _ _ rfl hw.out.1 Tryd.underlying29 rfl (by kernel_rfl) _ rfl) rfl ?_
            exact ⟨none, HP1.out, rfl, hw.out.2⟩
          | some x =>
            have nr := NR.out _ hnp
            rw [nr] at C1
            have OK2 := hide (OK1.out x hnp)
            have YX : Hid (yn i = x) := hide (by rw [YN1.out, hnp]; rfl)
            clear NR nr PN1 YN1 OK1 hnp
            generalize yy i = f at *
            generalize hf1 : yy (i + 1) = f1 at *
            have HF1 := hide hf1
            clear hf1
            have UP : Hid (upG f i x = f1) := hide (by rw [← YX.out]; exact YU1.out)
            clear YU1
            go_wp2_with fail
            refine (C1.out _).mono ?_
            rintro r w6 ⟨rfl, T6⟩
            have BX := T6.at HBX.out
            have E4 : Hid ((w6.setCell ⟨X, i, none⟩ (.int .i64 x)).heap[X]? = some (.cells (f7c f1) 68 (0, 0))) := hide (by
              rw [← UP.out, ← f7c_up f i x hlt]
              exact heap_setCell_row (i := i) BX (.int .i64 x))
            have TX : Touch (fun g => g = X) w6 (w6.setCell ⟨X, i, none⟩ (.int .i64 x)) := (Touch.refl (fun g => g = X) w6).setCell (p := ⟨X, i, none⟩) (fun _ => rfl) (.int .i64 x)
            have E5 := hide (TX.heap (T6.at HBP.out) (fun e => by have := HX.out; have := HX0.out.2; omega))
            have E6 := hide (TX.heap (T6.at HBD.out) (fun e => by have := HX.out; have := HX0.out.2; have := HDP.out; omega))
            have T7 := hide ((HT.out.tr T6).setCell (p := ⟨X, i, none⟩) (fun h => by have := HX.out; have := HX0.out.1; simp only at h; omega) (.int .i64 x))
            have hcell := f7_cells BX i hlt
            have hfr : w6.frozen? ⟨X, i, none⟩ = false := by simp [World.frozen?, BX]
            clear T6 cm HBX HBP HBD HT C1 BX TX
            go_wp2_with fail
            go_roundw
            case rel => exact ⟨i + 1, by go_num, by omega, OK2.out, by rw [HF1.out]; exact E4.out, E5.out, E6.out, T7.out⟩
            case measure => simp [intOf]; omega
        · have hltz : ¬ (i : Int) < 7 := by omega
          obtain rfl : i = 7 := by omega
          have PY := hide (PYS.out hok)
          have q0 := Y7.out 0 (by omega)
          have q1 := Y7.out 1 (by omega)
          have q2 := Y7.out 2 (by omega)
          have q3 := Y7.out 3 (by omega)
          have q4 := Y7.out 4 (by omega)
          have q5 := Y7.out 5 (by omega)
          have q6 := Y7.out 6 (by omega)
          have HBX := hide BX
          have HBP := hide BP
          have HBD := hide BD
          have HT := hide TE
          clear PYS BX BP BD TE hok AC PZ PNN YN YU YZ Y7 CN
          generalize yy 7 = f at *
          rw [← q0, ← q1, ← q2, ← q3, ← q4, ← q5, ← q6] at PQ
          clear q0 q1 q2 q3 q4 q5 q6
          have FX : Hid (∀ W, Touch (fun d => d = P) wr W → (W.cell? ⟨X, 0, none⟩ = some (.int .i64 (f 0)) ∧ W.cell? ⟨X, 1, none⟩ = some (.int .i64 (f 1)) ∧ W.cell? ⟨X, 2, none⟩ = some (.int .i64 (f 2)) ∧ W.cell? ⟨X, 3, none⟩ = some (.int .i64 (f 3))) ∧ W.cell? ⟨X, 4, none⟩ = some (.int .i64 (f 4)) ∧ W.cell? ⟨X, 5, none⟩ = some (.int .i64 (f 5)) ∧ W.cell? ⟨X, 6, none⟩ = some (.int .i64 (f 6))) := hide fun W hW => by
            have h := hW.heap HBX.out (fun e => by have := HX.out; have := HX0.out.2; omega)
            exact ⟨⟨f7_cells h 0 (by omega), f7_cells h 1 (by omega), f7_cells h 2 (by omega), f7_cells h 3 (by omega)⟩, f7_cells h 4 (by omega), f7_cells h 5 (by omega), f7_cells h 6 (by omega)⟩
          generalize f 0 = y0 at *
          generalize f 1 = y1 at *
          generalize f 2 = y2 at *
          generalize f 3 = y3 at *
          generalize f 4 = y4 at *
          generalize f 5 = y5 at *
          generalize f 6 = y6 at *
          go_wp2_with fail
          refine wp_region_held (S := Touch (fun d => d = P) wr) (by kernel_rfl) ?_
          have h0 : Touch (fun d => d = P) wr { wr with drawn := wr.drawn + 1 } := (Touch.refl _ wr).drew
          have B0 : ({ wr with drawn := wr.drawn + 1 } : World).heap[P]? = some (.cells (pnc ⟨k, 0, 0, d, 0, tl0⟩) 29 (0, 0)) := ((Touch.refl (fun _ => False) wr).drew).at HBP.out
          generalize ({ wr with drawn := wr.drawn + 1 } : World) = wD at *
          refine wpAnyH_yield 0 75 (.pointer (some ⟨X, 0, none⟩)) rfl rfl (by kernel_rfl) (by kernel_rfl) (by kernel_rfl) (fun _ _ _ h => h) (by kernel_rfl) (fun W hW => by go_simp) (by assumption) rfl rfl ?_
          simp only [Act.put, List.setIfInBounds_toArray, List.set_cons_zero, List.set_cons_succ]
          refine wpAnyH_yield 1 76 (.int .i64 y0) rfl rfl (by kernel_rfl) (by kernel_rfl) (by kernel_rfl) (fun _ _ _ h => h) (by kernel_rfl) (fun W hW => by obtain ⟨⟨q0, q1, q2, q3⟩, q4, q5, q6⟩ := FX.out W hW; go_simp) (by assumption) rfl rfl ?_
          simp only [Act.put, List.setIfInBounds_toArray, List.set_cons_zero, List.set_cons_succ]
          refine wpAnyH_yield 2 77 (.pointer (some ⟨X, 1, none⟩)) rfl rfl (by kernel_rfl) (by kernel_rfl) (by kernel_rfl) (fun _ _ _ h => h) (by kernel_rfl) (fun W hW => by go_simp) (by assumption) rfl rfl ?_
          simp only [Act.put, List.setIfInBounds_toArray, List.set_cons_zero, List.set_cons_succ]
          refine wpAnyH_yield 3 78 (.int .i64 y1) rfl rfl (by kernel_rfl) (by kernel_rfl) (by kernel_rfl) (fun _ _ _ h => h) (by kernel_rfl) (fun W hW => by obtain ⟨⟨q0, q1, q2, q3⟩, q4, q5, q6⟩ := FX.out W hW; go_simp) (by assumption) rfl rfl ?_
          simp only [Act.put, List.setIfInBounds_toArray, List.set_cons_zero, List.set_cons_succ]
          refine wpAnyH_yield 4 79 (.pointer (some ⟨X, 2, none⟩)) rfl rfl (by kernel_rfl) (by kernel_rfl) (by kernel_rfl) (fun _ _ _ h => h) (by kernel_rfl) (fun W hW => by go_simp) (by assumption) rfl rfl ?_
          simp only [Act.put, List.setIfInBounds_toArray, List.set_cons_zero, List.set_cons_succ]
          refine wpAnyH_yield 5 80 (.int .i64 y2) rfl rfl (by kernel_rfl) (by kernel_rfl) (by kernel_rfl) (fun _ _ _ h => h) (by kernel_rfl) (fun W hW => by obtain ⟨⟨q0, q1, q2, q3⟩, q4, q5, q6⟩ := FX.out W hW; go_simp) (by assumption) rfl rfl ?_
          simp only [Act.put, List.setIfInBounds_toArray, List.set_cons_zero, List.set_cons_succ]
          refine wpAnyH_yield 6 81 (.pointer (some ⟨X, 3, none⟩)) rfl rfl (by kernel_rfl) (by kernel_rfl) (by kernel_rfl) (fun _ _ _ h => h) (by kernel_rfl) (fun W hW => by go_simp) (by assumption) rfl rfl ?_
          simp only [Act.put, List.setIfInBounds_toArray, List.set_cons_zero, List.set_cons_succ]
          refine wpAnyH_yield 7 82 (.int .i64 y3) rfl rfl (by kernel_rfl) (by kernel_rfl) (by kernel_rfl) (fun _ _ _ h => h) (by kernel_rfl) (fun W hW => by obtain ⟨⟨q0, q1, q2, q3⟩, q4, q5, q6⟩ := FX.out W hW; go_simp) (by assumption) rfl rfl ?_
          simp only [Act.put, List.setIfInBounds_toArray, List.set_cons_zero, List.set_cons_succ]
          refine wpAnyH_yield 8 83 (.pointer (some ⟨X, 4, none⟩)) rfl rfl (by kernel_rfl) (by kernel_rfl) (by kernel_rfl) (fun _ _ _ h => h) (by kernel_rfl) (fun W hW => by go_simp) (by assumption) rfl rfl ?_
          simp only [Act.put, List.setIfInBounds_toArray, List.set_cons_zero, List.set_cons_succ]
          refine wpAnyH_yield 9 84 (.int .i64 y4) rfl rfl (by kernel_rfl) (by kernel_rfl) (by kernel_rfl) (fun _ _ _ h => h) (by kernel_rfl) (fun W hW => by obtain ⟨⟨q0, q1, q2, q3⟩, q4, q5, q6⟩ := FX.out W hW; go_simp) (by assumption) rfl rfl ?_
          simp only [Act.put, List.setIfInBounds_toArray, List.set_cons_zero, List.set_cons_succ]
          refine wpAnyH_yield 10 85 (.pointer (some ⟨X, 5, none⟩)) rfl rfl (by kernel_rfl) (by kernel_rfl) (by kernel_rfl) (fun _ _ _ h => h) (by kernel_rfl) (fun W hW => by go_simp) (by assumption) rfl rfl ?_
          simp only [Act.put, List.setIfInBounds_toArray, List.set_cons_zero, List.set_cons_succ]
          refine wpAnyH_yield 11 86 (.int .i64 y5) rfl rfl (by kernel_rfl) (by kernel_rfl) (by kernel_rfl) (fun _ _ _ h => h) (by kernel_rfl) (fun W hW => by obtain ⟨⟨q0, q1, q2, q3⟩, q4, q5, q6⟩ := FX.out W hW; go_simp) (by assumption) rfl rfl ?_
          simp only [Act.put, List.setIfInBounds_toArray, List.set_cons_zero, List.set_cons_succ]
          refine wpAnyH_yield 12 87 (.pointer (some ⟨X, 6, none⟩)) rfl rfl (by kernel_rfl) (by kernel_rfl) (by kernel_rfl) (fun _ _ _ h => h) (by kernel_rfl) (fun W hW => by go_simp) (by assumption) rfl rfl ?_
          simp only [Act.put, List.setIfInBounds_toArray, List.set_cons_zero, List.set_cons_succ]
          refine wpAnyH_yield 13 88 (.int .i64 y6) rfl rfl (by kernel_rfl) (by kernel_rfl) (by kernel_rfl) (fun _ _ _ h => h) (by kernel_rfl) (fun W hW => by obtain ⟨⟨q0, q1, q2, q3⟩, q4, q5, q6⟩ := FX.out W hW; go_simp) (by assumption) rfl rfl ?_
          simp only [Act.put, List.setIfInBounds_toArray, List.set_cons_zero, List.set_cons_succ]
          refine wpAnyH_yield 14 89 (.pointer (some ⟨P, 1, none⟩)) rfl rfl (by kernel_rfl) (by kernel_rfl) (by kernel_rfl) (fun _ _ _ h => h) (by kernel_rfl) (fun W hW => by go_simp) (by assumption) rfl rfl ?_
          simp only [Act.put, List.setIfInBounds_toArray, List.set_cons_zero, List.set_cons_succ]
          refine wpAnyH_yield 15 90 (.pointer (some ⟨P, 1, none⟩)) rfl rfl (by kernel_rfl) (by kernel_rfl) (by kernel_rfl) (fun _ _ _ h => h) (by kernel_rfl) (fun W hW => by go_simp) (by assumption) rfl rfl ?_
          simp only [Act.put, List.setIfInBounds_toArray, List.set_cons_zero, List.set_cons_succ]
          obtain ⟨⟨c0, c1, c2, c3, c4⟩, c5, c6, c7, c8⟩ := pn_cells B0
          have f1 : (wD).frozen? ⟨P, 1, none⟩ = false := by simp [World.frozen?, B0]
          have h1 := h0.setCell (p := ⟨P, 1, none⟩) (fun _ => rfl) (.int .i64 y0)
          have B1 := pn_set (x := ⟨k, 0, 0, d, 0, tl0⟩) ⟨k, y0, 0, d, 0, tl0⟩ 1 (.int .i64 y0) B0 rfl
          refine wpAnyH_do 16 ((wD).setCell ⟨P, 1, none⟩ (.int .i64 y0)) rfl (by kernel_rfl) (by kernel_rfl) (fun K hK => by unfold Oper.wp; go_simp; exact hK) h1 ?_
          clear c0 c1 c2 c3 c4 c5 c6 c7 c8 f1 h0 B0
          generalize (wD).setCell ⟨P, 1, none⟩ (.int .i64 y0) = w10 at *
          refine wpAnyH_yield 17 91 (.pointer (some ⟨P, 1, none⟩)) rfl rfl (by kernel_rfl) (by kernel_rfl) (by kernel_rfl) (fun _ _ _ h => h) (by kernel_rfl) (fun W hW => by go_simp) (by assumption) rfl rfl ?_
          simp only [Act.put, List.setIfInBounds_toArray, List.set_cons_zero, List.set_cons_succ]
          refine wpAnyH_yield 18 92 (.pointer (some ⟨P, 2, none⟩)) rfl rfl (by kernel_rfl) (by kernel_rfl) (by kernel_rfl) (fun _ _ _ h => h) (by kernel_rfl) (fun W hW => by go_simp) (by assumption) rfl rfl ?_
          simp only [Act.put, List.setIfInBounds_toArray, List.set_cons_zero, List.set_cons_succ]
          obtain ⟨⟨c0, c1, c2, c3, c4⟩, c5, c6, c7, c8⟩ := pn_cells B1
          have f2 : (w10).frozen? ⟨P, 2, none⟩ = false := by simp [World.frozen?, B1]
          have h2 := h1.setCell (p := ⟨P, 2, none⟩) (fun _ => rfl) (.int .i64 y1)
          have B2 := pn_set (x := ⟨k, y0, 0, d, 0, tl0⟩) ⟨k, y0, y1, d, 0, tl0⟩ 2 (.int .i64 y1) B1 rfl
          refine wpAnyH_do 19 ((w10).setCell ⟨P, 2, none⟩ (.int .i64 y1)) rfl (by kernel_rfl) (by kernel_rfl) (fun K hK => by unfold Oper.wp; go_simp; exact hK) h2 ?_
          clear c0 c1 c2 c3 c4 c5 c6 c7 c8 f2 h1 B1
          generalize (w10).setCell ⟨P, 2, none⟩ (.int .i64 y1) = w11 at *
          refine wpAnyH_yield 20 93 (.pointer (some ⟨P, 4, none⟩)) rfl rfl (by kernel_rfl) (by kernel_rfl) (by kernel_rfl) (fun _ _ _ h => h) (by kernel_rfl) (fun W hW => by go_simp) (by assumption) rfl rfl ?_
          simp only [Act.put, List.setIfInBounds_toArray, List.set_cons_zero, List.set_cons_succ]
          obtain ⟨⟨c0, c1, c2, c3, c4⟩, c5, c6, c7, c8⟩ := pn_cells B2
          have f4 : (w11).frozen? ⟨P, 4, none⟩ = false := by simp [World.frozen?, B2]
          have h3 := h2.setCell (p := ⟨P, 4, none⟩) (fun _ => rfl) (.int .i64 y2)
          have B3 := pn_set (x := ⟨k, y0, y1, d, 0, tl0⟩) ⟨k, y0, y1, d, y2, tl0⟩ 4 (.int .i64 y2) B2 rfl
          refine wpAnyH_do 21 ((w11).setCell ⟨P, 4, none⟩ (.int .i64 y2)) rfl (by kernel_rfl) (by kernel_rfl) (fun K hK => by unfold Oper.wp; go_simp; exact hK) h3 ?_
          clear c0 c1 c2 c3 c4 c5 c6 c7 c8 f4 h2 B2
          generalize (w11).setCell ⟨P, 4, none⟩ (.int .i64 y2) = w12 at *
          refine wpAnyH_yield 22 94 (.pointer (some ⟨P, 5, none⟩)) rfl rfl (by kernel_rfl) (by kernel_rfl) (by kernel_rfl) (fun _ _ _ h => h) (by kernel_rfl) (fun W hW => by go_simp) (by assumption) rfl rfl ?_
          simp only [Act.put, List.setIfInBounds_toArray, List.set_cons_zero, List.set_cons_succ]
          refine wpAnyH_yield 23 95 (.pointer (some ⟨P, 5, none⟩)) rfl rfl (by kernel_rfl) (by kernel_rfl) (by kernel_rfl) (fun _ _ _ h => h) (by kernel_rfl) (fun W hW => by go_simp) (by assumption) rfl rfl ?_
          simp only [Act.put, List.setIfInBounds_toArray, List.set_cons_zero, List.set_cons_succ]
          obtain ⟨⟨c0, c1, c2, c3, c4⟩, c5, c6, c7, c8⟩ := pn_cells B3
          have f5 : (w12).frozen? ⟨P, 5, none⟩ = false := by simp [World.frozen?, B3]
          have h4 := h3.setCell (p := ⟨P, 5, none⟩) (fun _ => rfl) (.int .i64 y3)
          have B4 := pn_set (x := ⟨k, y0, y1, d, y2, tl0⟩) ⟨k, y0, y1, d, y2, ⟨y3, 0, 0, 0⟩⟩ 5 (.int .i64 y3) B3 rfl
          refine wpAnyH_do 24 ((w12).setCell ⟨P, 5, none⟩ (.int .i64 y3)) rfl (by kernel_rfl) (by kernel_rfl) (fun K hK => by unfold Oper.wp; go_simp; exact hK) h4 ?_
          clear c0 c1 c2 c3 c4 c5 c6 c7 c8 f5 h3 B3
          generalize (w12).setCell ⟨P, 5, none⟩ (.int .i64 y3) = w13 at *
          refine wpAnyH_yield 25 96 (.pointer (some ⟨P, 5, none⟩)) rfl rfl (by kernel_rfl) (by kernel_rfl) (by kernel_rfl) (fun _ _ _ h => h) (by kernel_rfl) (fun W hW => by go_simp) (by assumption) rfl rfl ?_
          simp only [Act.put, List.setIfInBounds_toArray, List.set_cons_zero, List.set_cons_succ]
          refine wpAnyH_yield 26 97 (.pointer (some ⟨P, 6, none⟩)) rfl rfl (by kernel_rfl) (by kernel_rfl) (by kernel_rfl) (fun _ _ _ h => h) (by kernel_rfl) (fun W hW => by go_simp) (by assumption) rfl rfl ?_
          simp only [Act.put, List.setIfInBounds_toArray, List.set_cons_zero, List.set_cons_succ]
          obtain ⟨⟨c0, c1, c2, c3, c4⟩, c5, c6, c7, c8⟩ := pn_cells B4
          have f6 : (w13).frozen? ⟨P, 6, none⟩ = false := by simp [World.frozen?, B4]
          have h5 := h4.setCell (p := ⟨P, 6, none⟩) (fun _ => rfl) (.int .i64 y4)
          have B5 := pn_set (x := ⟨k, y0, y1, d, y2, ⟨y3, 0, 0, 0⟩⟩) ⟨k, y0, y1, d, y2, ⟨y3, y4, 0, 0⟩⟩ 6 (.int .i64 y4) B4 rfl
          refine wpAnyH_do 27 ((w13).setCell ⟨P, 6, none⟩ (.int .i64 y4)) rfl (by kernel_rfl) (by kernel_rfl) (fun K hK => by unfold Oper.wp; go_simp; exact hK) h5 ?_
          clear c0 c1 c2 c3 c4 c5 c6 c7 c8 f6 h4 B4
          generalize (w13).setCell ⟨P, 6, none⟩ (.int .i64 y4) = w14 at *
          refine wpAnyH_yield 28 98 (.pointer (some ⟨P, 5, none⟩)) rfl rfl (by kernel_rfl) (by kernel_rfl) (by kernel_rfl) (fun _ _ _ h => h) (by kernel_rfl) (fun W hW => by go_simp) (by assumption) rfl rfl ?_
          simp only [Act.put, List.setIfInBounds_toArray, List.set_cons_zero, List.set_cons_succ]
          refine wpAnyH_yield 29 99 (.pointer (some ⟨P, 7, none⟩)) rfl rfl (by kernel_rfl) (by kernel_rfl) (by kernel_rfl) (fun _ _ _ h => h) (by kernel_rfl) (fun W hW => by go_simp) (by assumption) rfl rfl ?_
          simp only [Act.put, List.setIfInBounds_toArray, List.set_cons_zero, List.set_cons_succ]
          obtain ⟨⟨c0, c1, c2, c3, c4⟩, c5, c6, c7, c8⟩ := pn_cells B5
          have f7 : (w14).frozen? ⟨P, 7, none⟩ = false := by simp [World.frozen?, B5]
          have h6 := h5.setCell (p := ⟨P, 7, none⟩) (fun _ => rfl) (.int .i64 y5)
          have B6 := pn_set (x := ⟨k, y0, y1, d, y2, ⟨y3, y4, 0, 0⟩⟩) ⟨k, y0, y1, d, y2, ⟨y3, y4, y5, 0⟩⟩ 7 (.int .i64 y5) B5 rfl
          refine wpAnyH_do 30 ((w14).setCell ⟨P, 7, none⟩ (.int .i64 y5)) rfl (by kernel_rfl) (by kernel_rfl) (fun K hK => by unfold Oper.wp; go_simp; exact hK) h6 ?_
          clear c0 c1 c2 c3 c4 c5 c6 c7 c8 f7 h5 B5
          generalize (w14).setCell ⟨P, 7, none⟩ (.int .i64 y5) = w15 at *
          refine wpAnyH_yield 31 100 (.pointer (some ⟨P, 5, none⟩)) rfl rfl (by kernel_rfl) (by kernel_rfl) (by kernel_rfl) (fun _ _ _ h => h) (by kernel_rfl) (fun W hW => by go_simp) (by assumption) rfl rfl ?_
          simp only [Act.put, List.setIfInBounds_toArray, List.set_cons_zero, List.set_cons_succ]
          refine wpAnyH_yield 32 101 (.pointer (some ⟨P, 8, none⟩)) rfl rfl (by kernel_rfl) (by kernel_rfl) (by kernel_rfl) (fun _ _ _ h => h) (by kernel_rfl) (fun W hW => by go_simp) (by assumption) rfl rfl ?_
          simp only [Act.put, List.setIfInBounds_toArray, List.set_cons_zero, List.set_cons_succ]
          obtain ⟨⟨c0, c1, c2, c3, c4⟩, c5, c6, c7, c8⟩ := pn_cells B6
          have f8 : (w15).frozen? ⟨P, 8, none⟩ = false := by simp [World.frozen?, B6]
          have h7 := h6.setCell (p := ⟨P, 8, none⟩) (fun _ => rfl) (.int .i64 y6)
          have B7 := pn_set (x := ⟨k, y0, y1, d, y2, ⟨y3, y4, y5, 0⟩⟩) ⟨k, y0, y1, d, y2, ⟨y3, y4, y5, y6⟩⟩ 8 (.int .i64 y6) B6 rfl
          refine wpAnyH_do 33 ((w15).setCell ⟨P, 8, none⟩ (.int .i64 y6)) rfl (by kernel_rfl) (by kernel_rfl) (fun K hK => by unfold Oper.wp; go_simp; exact hK) h7 ?_
          clear c0 c1 c2 c3 c4 c5 c6 c7 c8 f8 h6 B6
          generalize (w15).setCell ⟨P, 8, none⟩ (.int .i64 y6) = w16 at *
          refine wpAnyH_done (by kernel_rfl) ?_ _
          have BQ := B7
          have HTQ : Hid (Calm w2 w16) := hide (HT.out.trans h7 (fun g hg e => by have := HP.out; omega))
          have BD6 := hide (h7.heap HBD.out (fun e => by have := HDP.out; omega))
          have CM := hide (may_any ⟨k, y0, y1, d, y2, ⟨y3, y4, y5, y6⟩⟩ w16)
          rw [PQ.out] at PNO PY
          clear h7 B7 FX HBX HBP HBD HT PQ
          obtain ⟨⟨c0, c1, c2, c3, c4⟩, c5, c6, c7, c8⟩ := pn_cells BQ
          go_wp2_with fail
          refine CM.out.mono ?_
          rintro r w17 ⟨rfl, T17⟩
          have T18 := hide ((TL2.out.tr HTQ.out).tr T17)
          have BD7 := hide (T17.at BD6.out)
          have BQ7 := T17.at BQ
          obtain ⟨q, hq⟩ : ∃ q : Pn, q = ⟨k, y0, y1, d, y2, ⟨y3, y4, y5, y6⟩⟩ := ⟨_, rfl⟩
          rw [← hq] at PNO PY BQ7 ⊢
          clear c0 c1 c2 c3 c4 c5 c6 c7 c8 BQ BD6 HTQ CM T17 hq
          cases hmy : mayP q with
          | false =>
            have HP1 := hide (PNO.out hmy)
            have hw := hide (HZ.out w17 D (by have := HD.out; omega) T18.out BD7.out (pnc pn0))
            clear PNO PY hmy BQ7
            go_wp2_with (refine wpList_store_rowTo rfl 29 (.tmp 2) (.tmp 106) rfl rfl D (pnc pn0) rfl rfl 29 _ BD7.out hi9 rfl h1z.out ?_)
            refine bodyPost_ret (results_cell_one rfl _ _ _ _ _ _ _ rfl hw.out.1 Tryd.underlying29 rfl (by kernel_rfl) _ rfl) rfl ?_
            exact ⟨none, HP1.out, rfl, hw.out.2⟩
          | true =>
            have HP1 := hide (PY.out hmy)
            have hw := hide (HZ.out w17 D (by have := HD.out; omega) T18.out BD7.out (pnc q))
            have hq1 : Hid ((pnc q).all (·.oneCell') = true) := hide (by simp [Value.oneCell'])
            clear PNO PY hmy
            obtain ⟨⟨c0, c1, c2, c3, c4⟩, c5, c6, c7, c8⟩ := pn_cells BQ7
            go_wp2_with (refine wpList_store_rowTo rfl 29 (.tmp 2) (.tmp 107) rfl rfl D (pnc q) rfl rfl 29 _ BD7.out hi9 rfl hq1.out ?_)
            refine bodyPost_ret (results_cell_one rfl _ _ _ _ _ _ _ rfl hw.out.1 Tryd.underlying29 rfl (by kernel_rfl) _ rfl) rfl ?_
            exact ⟨some q, HP1.out, rfl, hw.out.2⟩
end Go.Proofs.YtamfcmmhmfhhkaaDoor

namespace Go.Proofs.YtamfcmmhmfhhkaaDoor
open Go.RowKit

set_option maxRecDepth 100000 in
set_option maxHeartbeats 4000000 in
theorem rread_any (s : ByteArray) (hs : s.size ≤ 900000) (w : World) : Calls Tryd.prog 18 #[.string s] w fun e w' => ∃ L r, RdR s.toList L r ∧ RetRd w e w' L r (.bool (decide (r = []))) := by
  have CP : Hid (∀ f t W, _) := hide fun f t W => rparse_any (s.extract f t) (by rw [ByteArray.size_extract]; omega) W
  have hi9 : (Tryd.prog.info? 29).map (·.size) = some 9 := by kernel_rfl
  have HZ : Hid (∀ (W : World), Calm w W → ∀ q, (W.alloc (.cells (pnc pn0) 29)).heap[W.heap.size]? = some (.cells (pnc pn0) 29 (0, 0)) ∧ ((W.alloc (.cells (pnc pn0) 29)).setRow W.heap.size (pnc q)).heap[W.heap.size]? = some (.cells (pnc q) 29 (0, 0)) ∧ Touch (fun _ => False) W ((W.alloc (.cells (pnc pn0) 29)).setRow W.heap.size (pnc q))) := hide fun W hW q =>
    ⟨al_new _ _, setRow_heap _ _ _ _ _ _ (al_new _ _), ((Touch.refl (fun _ => False) W).alloc _).trans (S' := fun g => g = W.heap.size) ⟨rfl, rfl, rfl, by simp, fun j _ hj => setRow_other _ _ j _ hj⟩ (fun g hg e => by omega)⟩
  have NY : Hid (∀ f t p, f ≤ t → ∀ ht : t < s.size, (s[t]'ht).toNat = 10 → ParR (s.extract f t) (some p) → s.toList.drop f = (lineB p).toList ++ 10 :: s.toList.drop (t + 1)) := hide fun f t p a b c d => nx_yes a b c d
  have NN : Hid (∀ f t, f ≤ t → ∀ ht : t < s.size, (s[t]'ht).toNat = 10 → (∀ b ∈ (s.extract f t).toList, b ≠ 10) → ParR (s.extract f t) none → Stk (s.toList.drop f)) := hide fun f t a b c d e => nx_no a b c d e
  have NE : Hid (∀ f, (∀ b ∈ (s.extract f s.size).toList, b ≠ 10) → Stk (s.toList.drop f)) := hide fun f a => nx_end a
  have NB : Hid (∀ f t, f ≤ t → ∀ ht : t < s.size, (s[t]'ht).toNat ≠ 10 → (∀ b ∈ (s.extract f t).toList, b ≠ 10) → ∀ b ∈ (s.extract f (t + 1)).toList, b ≠ 10) := hide fun f t a b c d => nx_byte a b c d
  have ND : Hid (∀ f, f < s.size → s.toList.drop f ≠ []) := hide fun f hf h => by
    have := congrArg List.length h
    rw [List.length_drop, tl_len] at this
    simp at this; omega
  have NZ : Hid (s.toList.drop s.size = []) := hide (List.drop_of_length_le (by rw [tl_len]; omega))
  have N0 : Hid (∀ f, ∀ b ∈ (s.extract f f).toList, b ≠ 10) := hide fun f b hb => by
    rw [ex_toList, Nat.sub_self, List.take_zero] at hb
    cases hb
  go_enter Tryd.func18, Tryd.ntmps18
  go_wp2_with fail
  go_loopw [5, 6] (fun s5 s6 wr => ∃ (f : Nat) (O : List Pn) (a : Option Addr) (k : Nat), s6 = .int .i64 (f : Int) ∧ f ≤ s.size ∧ s5 = .slice a O.length k ∧ O.length ≤ f ∧ (∀ p ∈ O, mayP p = true ∧ NumOk p) ∧ s.toList = lnB O ++ s.toList.drop f ∧ encP.Own 29 wr w.heap.size (.slice a O.length k) O ∧ Calm w wr) (fun _ s6 _ => s.size - (intOf s6).toNat)
  case atStart => exact ⟨0, [], none, 0, rfl, by omega, rfl, Nat.le_refl _, fun p hp => by simp at hp, by simp [lnB_nil], Rc.Own.nil _ _ _, Touch.refl _ _⟩
  case round =>
    obtain ⟨f, O, a, k, rfl, hf, rfl, hO, hok, heq, OW, TE⟩ := hrel
    by_cases hlt : f < s.size
    · have hltz : (f : Int) < (s.size : Int) := by omega
      have HOK := hide hok
      have HEQ := hide heq
      have HOW := hide OW
      have HT := hide TE
      have ND1 := hide (ND.out f hlt)
      have NF := hide (N0.out f)
      clear hok heq OW TE ND NZ N0
      obtain ⟨w0, hw0⟩ : ∃ x, x = wr := ⟨_, rfl⟩
      subst hw0
      go_wp2_with fail
      go_loopw [7] (fun s7 wr => ∃ t : Nat, s7 = .int .i64 (t : Int) ∧ f ≤ t ∧ t ≤ s.size ∧ (∀ b ∈ (s.extract f t).toList, b ≠ 10) ∧ wr = w0) (fun s7 _ => s.size - (intOf s7).toNat)
      case atStart => exact ⟨f, rfl, by omega, by omega, NF.out, rfl⟩
      case round =>
        obtain ⟨t, rfl, hft, hts, hno, rfl⟩ := hrel
        by_cases hlt2 : t < s.size
        · have hltz2 : (t : Int) < (s.size : Int) := by omega
          obtain ⟨b, hb⟩ : ∃ b : Nat, (s[t]'hlt2).toNat = b := ⟨_, rfl⟩
          by_cases h10 : b = 10
          · have h10z : ((b : Int) != 10) = false := by rw [bne_eq_false_iff_eq]; omega
            have CPn := hide (CP.out f t)
            have PY := hide (fun p => NY.out f t p hft hlt2 (by omega))
            have PN := hide (NN.out f t hft hlt2 (by omega) hno)
            have hftz : (f : Int) ≤ (t : Int) := by omega
            have htsz : (t : Int) ≤ (s.size : Int) := by omega
            have htez : ((t : Int) == (s.size : Int)) = false := by rw [beq_eq_false_iff_ne]; omega
            clear NY NN NE NB CP hno NF
            go_wp2_with fail
            refine (CPn.out _).mono ?_
            rintro e w4 ⟨o, hp, rfl, T4⟩
            rw [parV_eq]
            have TE4 := hide (HT.out.tr T4)
            have ZQ := HZ.out w4 TE4.out (o.getD pn0)
            have Z0 := hide ZQ.1
            have Z1 := hide ZQ.2.1
            have Z2 := hide (TE4.out.tr ZQ.2.2)
            have OW4 := hide (Rc.Own.calm HOW.out (T4.trans ZQ.2.2 fun _ _ h => h))
            have hq1 : Hid ((pnc (o.getD pn0)).all (·.oneCell') = true) := hide (by simp [Value.oneCell'])
            clear T4 ZQ HZ HT HOW CPn
            cases o with
            | none =>
              have HST := hide (PN.out hp)
              clear PY PN hp
              go_wp2_with (refine wpList_store_rowTo rfl 29 (.tmp 8) (.tmp 33) rfl rfl w4.heap.size _ rfl rfl 29 _ Z0.out hi9 rfl hq1.out ?_)
              go_ret3
              exact ⟨O, s.toList.drop f, ⟨HOK.out, HEQ.out, HST.out⟩, by rw [decide_eq_false ND1.out]; exact RetRd.no ND1.out Z2.out⟩
            | some p =>
              have hy := PY.out p hp
              have HNX : Hid (s.toList = lnB (O ++ [p]) ++ s.toList.drop (t + 1)) := hide (HEQ.out.trans (by rw [hy, lnB_app, lnB_cons, lnB_nil]; simp))
              have HOK2 : Hid (∀ x ∈ O ++ [p], mayP x = true ∧ NumOk x) := hide fun x hx => by
                rcases List.mem_append.1 hx with hx | hx
                · exact HOK.out x hx
                · rw [List.mem_singleton] at hx; subst hx; exact ⟨hp.1, hp.2.1⟩
              clear PY PN hp hy HEQ HOK ND1
              simp only [Option.getD_some, Option.isSome_some] at Z1 Z2 OW4 hq1 ⊢
              go_upto_region 8 with (refine wpList_store_rowTo rfl 29 (.tmp 8) (.tmp 33) rfl rfl w4.heap.size _ rfl rfl 29 _ Z0.out hi9 rfl hq1.out ?_)
              generalize (w4.alloc (.cells (pnc pn0) 29)).setRow w4.heap.size (pnc p) = w5 at *
              generalize w4.heap.size = D at *
              obtain ⟨a5, p5, w6, hr, ow, t2⟩ := pn_app1 p OW4.out Z2.out.size (by omega)
              have T6 := hide (Rc.Own.fresh (w0 := w) OW4.out t2 (fun _ h => h) Z2.out (Nat.le_refl _))
              have e1 : (O ++ [p]).length = O.length + 1 := by simp
              have HR := hide hr
              have HO := hide ow
              obtain ⟨⟨c0, c1, c2, c3, c4⟩, c5, c6, c7, c8⟩ := pn_cells Z1.out
              clear hr ow t2 Z0 Z1 Z2 OW4 hq1
              go_wp2_with (at_builtin; refine Rc.wpList_appR rfl (.tmp 45) (.tmp 47) 22 22 rfl _ _ _ rfl rfl HR.out ?_)
              go_roundw
              case rel => exact ⟨t + 1, O ++ [p], a5, p5, by go_num, by omega, by rw [e1], by omega, HOK2.out, HNX.out, HO.out, T6.out⟩
              case measure => simp [intOf]; omega
          · have h10z : ((b : Int) != 10) = true := by rw [bne_iff_ne]; omega
            have NB1 := hide (NB.out f t hft hlt2 (by omega) hno)
            clear NY NN NE NB CP hno
            go_wp2_with fail
            go_roundw
            case rel => exact ⟨t + 1, by go_num, by omega, by omega, NB1.out, trivial⟩
            case measure => simp [intOf]; omega
        · have hltz2 : ¬ (t : Int) < (s.size : Int) := by omega
          obtain rfl : t = s.size := by omega
          have CPn := hide (CP.out f s.size)
          have PN := hide (NE.out f hno)
          have hftz : (f : Int) ≤ (s.size : Int) := by omega
          have htez : ((s.size : Int) == (s.size : Int)) = true := by rw [beq_iff_eq]
          clear NY NN NE NB CP hno NF
          go_wp2_with fail
          refine (CPn.out _).mono ?_
          rintro e w4 ⟨o, hp, rfl, T4⟩
          rw [parV_eq]
          have TE4 := hide (HT.out.tr T4)
          have ZQ := HZ.out w4 TE4.out (o.getD pn0)
          have Z0 := hide ZQ.1
          have Z1 := hide ZQ.2.1
          have Z2 := hide (TE4.out.tr ZQ.2.2)
          have hq1 : Hid ((pnc (o.getD pn0)).all (·.oneCell') = true) := hide (by simp [Value.oneCell'])
          have HRT : Hid (∃ L r, RdR s.toList L r ∧ RetRd w (.returned (.tuple #[.slice none 0 0, .int .i64 (O.length : Int), .bool false])) ((w4.alloc (.cells (pnc pn0) 29)).setRow w4.heap.size (pnc (o.getD pn0))) L r (.bool (decide (r = [])))) := hide
            ⟨O, s.toList.drop f, ⟨HOK.out, HEQ.out, PN.out⟩, by rw [decide_eq_false ND1.out]; exact RetRd.no ND1.out Z2.out⟩
          clear T4 ZQ HZ HT HOW CPn hp
          generalize o.getD pn0 = q at *
          generalize o.isSome = b at *
          cases b with
          | false =>
            go_wp2_with (refine wpList_store_rowTo rfl 29 (.tmp 8) (.tmp 33) rfl rfl w4.heap.size _ rfl rfl 29 _ Z0.out hi9 rfl hq1.out ?_)
            go_ret3
            exact HRT.out
          | true =>
            go_wp2_with (refine wpList_store_rowTo rfl 29 (.tmp 8) (.tmp 33) rfl rfl w4.heap.size _ rfl rfl 29 _ Z0.out hi9 rfl hq1.out ?_)
            go_ret3
            exact HRT.out
    · have hltz : ¬ (f : Int) < (s.size : Int) := by omega
      obtain rfl : f = s.size := by omega
      have HF : Hid (RdR s.toList O []) := hide ⟨hok, by have := NZ.out; rw [this] at heq; exact heq, Stk.nil⟩
      have HOW := hide OW
      have HT := hide TE
      clear CP HZ NY NN NE NB ND NZ N0 hok heq OW TE
      go_wp2_with fail
      go_ret3
      exact ⟨O, [], HF.out, O, a, k, rfl, rfl, HOW.out, HT.out⟩
end Go.Proofs.YtamfcmmhmfhhkaaDoor

namespace Go.Proofs.YtamfcmmhmfhhkaaDoor
open Go.RowKit

/-- A row made later lies apart from a row made ahead. -/
theorem own_later {w1 w2 : World} {base : Nat} {v v' : Value} {L M : List Pn} (h : encP.Own 29 w1 base v L) (h' : encP.Own 29 w2 w1.heap.size v' M) {g : Nat} (hg : v'.ownBlock = some g) : ¬ v.ownBlock = some g := fun e => by
  obtain ⟨-, cur, hc⟩ := Rc.own_block h e
  have h1 := lt_of_heap hc
  have h2 := (Rc.own_block h' hg).1
  omega
theorem lnB_ge : ∀ L : List Pn, L.length ≤ (lnB L).length
  | [] => Nat.zero_le _
  | p :: L => by
    rw [lnB_cons, List.length_append, List.length_cons, List.length_cons]
    have := lnB_ge L
    omega
theorem RdR.le {s : List UInt8} {L : List Pn} {r : List UInt8} (h : RdR s L r) : L.length ≤ s.length := by
  rw [h.eq, List.length_append]
  have := lnB_ge L
  omega
theorem parV_of (o : Option Pn) : parV o = .tuple #[pnv (o.getD pn0), .bool o.isSome] := by cases o <;> rfl

set_option maxRecDepth 100000 in
set_option maxHeartbeats 8000000 in
theorem texts18_walk (I : Ppt) (s : ByteArray) (w : World) (hY : Yv w) : Calls Tryd.prog 4 #[.string s] w fun e w' => e = .returned (.bool true) ∧ Calm w w' := by
  have CK := hide (fun W (h : Calm w W) => known18_any I.toPpk W (hY.calm h))
  have hi9 : (Tryd.prog.info? 29).map (·.size) = some 9 := by kernel_rfl
  by_cases hs : s.size ≤ 20000
  case neg =>
    have hsz : (20000 : Int) < (s.size : Int) := by omega
    clear I
    go_enter Tryd.func4, Tryd.ntmps4
    go_wp2_with fail
    refine (CK.out _ (Touch.refl _ _)).mono ?_
    rintro e w1 ⟨rfl, T1⟩
    have HT := hide T1
    clear T1 CK
    go_wp2_with fail
    go_ret
    exact ⟨rfl, HT.out⟩
  have hsz : ¬ (20000 : Int) < (s.size : Int) := by omega
  have CP := hide (fun W (h : Calm w W) => I.parse s W (by omega) (hY.calm h))
  have CQ := hide (fun W => rparse_any s (by omega) W)
  have CR := hide (fun W (h : Calm w W) => I.read s W (by omega) (hY.calm h))
  have CS := hide (fun W => rread_any s (by omega) W)
  have HZ : Hid (∀ (W : World), ∀ q, (W.alloc (.cells (pnc pn0) 29)).heap[W.heap.size]? = some (.cells (pnc pn0) 29 (0, 0)) ∧ ((W.alloc (.cells (pnc pn0) 29)).setRow W.heap.size (pnc q)).heap[W.heap.size]? = some (.cells (pnc q) 29 (0, 0)) ∧ Touch (fun _ => False) W ((W.alloc (.cells (pnc pn0) 29)).setRow W.heap.size (pnc q))) := hide fun W q =>
    ⟨al_new _ _, setRow_heap _ _ _ _ _ _ (al_new _ _), ((Touch.refl (fun _ => False) W).alloc _).trans (S' := fun g => g = W.heap.size) ⟨rfl, rfl, rfl, by simp, fun j _ hj => setRow_other _ _ j _ hj⟩ (fun g hg e => by omega)⟩
  have hq1 : Hid (∀ q : Pn, (pnc q).all (·.oneCell') = true) := hide (fun q => by simp [Value.oneCell'])
  go_enter Tryd.func4, Tryd.ntmps4
  go_wp2_with fail
  refine (CP.out _ (Touch.refl _ _)).mono ?_
  rintro e w1 ⟨o, hp, rfl, T1⟩
  have HP := hide hp
  have HT1 := hide T1
  have Z1 := HZ.out w1 (o.getD pn0)
  have Za := hide Z1.1
  have Zb := hide Z1.2.1
  have HT2 := hide (T1.tr Z1.2.2)
  have q1 := hq1.out (o.getD pn0)
  clear CP hp T1 Z1
  obtain ⟨ec, hec⟩ : ∃ ec : Int, ec = if o.isSome = true then 0 else 280 := ⟨_, rfl⟩
  have HEC : Hid (o.isSome = true ∧ ec = 0 ∨ o.isSome = false ∧ ec = 280) := hide (by
    rw [hec]; cases o with
    | none => exact .inr ⟨rfl, rfl⟩
    | some _ => exact .inl ⟨rfl, rfl⟩)
  unfold parE
  rw [← hec]
  clear hec
  go_upto_region 4 with (refine wpList_store_rowTo rfl 29 (.tmp 3) (.tmp 23) rfl rfl w1.heap.size _ rfl rfl 29 _ Za.out hi9 rfl q1 ?_)
  generalize (w1.alloc (.cells (pnc pn0) 29)).setRow w1.heap.size (pnc (o.getD pn0)) = w2 at *
  generalize w1.heap.size = D at *
  clear Za HT1
  go_wp2_with fail
  refine (CQ.out _).mono ?_
  rintro e w3 ⟨o', hp', rfl, T3⟩
  obtain rfl := ParR.one HP.out hp'
  have Z3 := HZ.out w3 (o.getD pn0)
  have Za := hide Z3.1
  have Zc := hide Z3.2.1
  have HT4 := hide ((HT2.out.tr T3).tr Z3.2.2)
  have Zb4 := hide ((T3.trans Z3.2.2 fun _ _ h => h).at Zb.out)
  clear CQ hp' T3 Z3 HT2 HZ HP hq1 Zb
  rw [parV_of]
  generalize o.getD pn0 = q at *
  generalize o.isSome = ok at *
  go_upto_region 5 with (refine wpList_store_rowTo rfl 29 (.tmp 5) (.tmp 28) rfl rfl w3.heap.size _ rfl rfl 29 _ Za.out hi9 rfl q1 ?_)
  generalize (w3.alloc (.cells (pnc pn0) 29)).setRow w3.heap.size (pnc q) = w4 at *
  generalize w3.heap.size = E at *
  clear Za q1 o
  go_wp2_with fail
  refine (CR.out _ HT4.out).mono ?_
  rintro e w5 ⟨L, r, hr, Z, a5, c5, hZ, rfl, O5, T5⟩
  have HR := hide hr
  have HZ := hide hZ
  obtain ⟨er, her⟩ : ∃ er : Int, er = if r = [] then 0 else 280 := ⟨_, rfl⟩
  rw [← her]
  have HH := hide her
  clear her
  have HO5 := hide O5
  have HT5 := hide T5
  clear hr hZ O5 T5
  go_wp2_with fail
  refine (CR.out _ (HT4.out.tr HT5.out)).mono ?_
  rintro e w6 ⟨L6, r6, hr6, Z6, a6, c6, hZ6, rfl, O6, T6⟩
  obtain ⟨rfl, rfl⟩ := RdR.one HR.out hr6
  obtain rfl : Z6 = Z := by rw [hZ6, HZ.out]
  rw [← HH.out]
  have HO6 := hide O6
  have HT6 := hide T6
  clear hr6 hZ6 O6 T6 CR
  go_wp2_with fail
  refine (CS.out _).mono ?_
  rintro e w7 ⟨L7, r7, hr7, Z7, a7, c7, hZ7, rfl, O7, T7⟩
  obtain ⟨rfl, rfl⟩ := RdR.one HR.out hr7
  obtain rfl : Z7 = Z6 := by rw [hZ7, HZ.out]
  have HO7 := hide O7
  have HT7 := hide T7
  have HLn : Hid (Z7.length ≤ 1000000) := hide (by
    rw [hZ7]
    have h1 := RdR.le hr7
    rw [tl_len] at h1
    split <;> first | omega | exact Nat.zero_le _)
  clear hr7 hZ7 O7 T7 CS HR
  obtain ⟨rb, hrb⟩ : ∃ rb : Bool, rb = true ∧ r = [] ∨ rb = false ∧ r ≠ [] := by
    by_cases h : r = []
    · exact ⟨true, .inl ⟨rfl, h⟩⟩
    · exact ⟨false, .inr ⟨rfl, h⟩⟩
  have HER : Hid (rb = true ∧ er = 0 ∨ rb = false ∧ er = 280) := hide (by
    rcases hrb with ⟨h1, h2⟩ | ⟨h1, h2⟩
    · exact .inl ⟨h1, by rw [HH.out, if_pos h2]⟩
    · exact .inr ⟨h1, by rw [HH.out, if_neg h2]⟩)
  have hdb : ∀ (i : Decidable (r = [])), @decide _ i = rb := fun i => by
    rcases hrb with ⟨h1, h2⟩ | ⟨h1, h2⟩
    · rw [h1]; exact decide_eq_true h2
    · rw [h1]; exact decide_eq_false h2
  rw [hdb]
  clear hdb hrb HH
  have M5 : Hid (encP.Mem w7 a5 Z7) := hide (Rc.Mem.calm (Rc.Own.mem HO5.out).2.1 (HT6.out.tr HT7.out))
  have M7 : Hid (encP.Mem w7 a7 Z7) := hide ((Rc.Own.mem HO7.out).2.1)
  have CE := hide (sameP_any Z7 Z7 a5 a7 c5 c7 w7 M5.out M7.out (by have := HLn.out; omega) (by have := HLn.out; omega))
  rw [decide_eq_true (rfl : Z7 = Z7)] at CE
  have Zb7 := hide ((HT5.out.tr (HT6.out.tr HT7.out)).at Zb4.out)
  have Zc7 := hide ((HT5.out.tr (HT6.out.tr HT7.out)).at Zc.out)
  have OA := hide (Rc.Own.calm HO5.out (HT6.out.tr HT7.out))
  have OB := hide (Rc.Own.calm HO6.out HT7.out)
  have AB := hide (fun g hg => own_later HO5.out HO6.out (g := g) hg)
  have AC := hide (fun g hg => own_later (Rc.Own.calm HO5.out HT6.out) HO7.out (g := g) hg)
  have HB : Hid (w4.heap.size ≤ w7.heap.size ∧ w.heap.size ≤ w4.heap.size) := hide ⟨(HT5.out.tr (HT6.out.tr HT7.out)).size, HT4.out.size⟩
  have TW := hide (HT4.out.tr (HT5.out.tr (HT6.out.tr HT7.out)))
  obtain ⟨k, x0, x1, x2, x3, ⟨x4, x5, x6, x7⟩⟩ := q
  obtain ⟨⟨c0, c1, c2, c3, c4⟩, c5', c6', c7', c8⟩ := pn_cells Zb7.out
  obtain ⟨⟨d0, d1, d2, d3, d4⟩, d5, d6, d7, d8⟩ := pn_cells Zc7.out
  clear M5 M7 Zb4 Zc Zb7 Zc7 HO6 HT4 HT5 HT6 HT7 HZ
  rcases HEC.out with ⟨rfl, rfl⟩ | ⟨rfl, rfl⟩ <;> rcases HER.out with ⟨rfl, rfl⟩ | ⟨rfl, rfl⟩
  all_goals (go_wp2_with fail)
  all_goals
    refine CE.out.mono ?_
    rintro e w8 ⟨rfl, T8⟩
    have OA8 := Rc.Own.calm OA.out T8
    have S8 := T8.size
    have HB1 := HB.out
    have CSp := hide (spoiltP_any a5 c5 Z7 _ w8 OA8 (by omega) HLn.out)
    have HT8 := hide T8
    have HOA8 := hide OA8
    clear T8 OA8 OA CE S8 HB1 c0 c1 c2 c3 c4 c5' c6' c7' c8 d0 d1 d2 d3 d4 d5 d6 d7 d8
    go_wp2_with fail
    refine CSp.out.mono ?_
    rintro e w9 ⟨rfl, T9⟩
    have OB9 := Rc.Own.touch (Rc.Own.calm OB.out HT8.out) T9 (fun g hg => AB.out g hg)
    have OC9 := Rc.Own.touch (Rc.Own.calm HO7.out HT8.out) T9 (fun g hg => AC.out g hg)
    have CE2 := hide (sameP_any Z7 Z7 a6 a7 c6 c7 w9 (Rc.Own.mem OB9).2.1 (Rc.Own.mem OC9).2.1 (by have := HLn.out; omega) (by have := HLn.out; omega))
    rw [decide_eq_true (rfl : Z7 = Z7)] at CE2
    have TW9 := hide ((TW.out.tr HT8.out).trans T9 (fun g hg e => by have := (Rc.own_block HOA8.out e).1; have := HB.out; omega))
    clear T9 OB9 OC9 OB HO7 AB AC HOA8 HT8 TW CSp
    go_wp2_with fail
    refine CE2.out.mono ?_
    rintro e w10 ⟨rfl, T10⟩
    have TW10 := hide (TW9.out.tr T10)
    clear T10 TW9 CE2
    go_wp2_with fail
    refine (CK.out _ TW10.out).mono ?_
    rintro e w11 ⟨rfl, T11⟩
    have TW11 := hide (TW10.out.tr T11)
    clear T11 TW10 CK
    go_wp2_with fail
    go_ret
    exact ⟨rfl, TW11.out⟩

end Go.Proofs.YtamfcmmhmfhhkaaDoor
