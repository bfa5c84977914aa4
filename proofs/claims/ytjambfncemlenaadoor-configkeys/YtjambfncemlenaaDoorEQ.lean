/- Keys' states (the program's keyInOrder, Key). -/
import Derived.Test.YtjambfncemlenaaDoorEP
import Derived.Test.YtjambfncemlenaaDoorYS
import Derived.BigQuiet
import Derived.Deep.QuietTactic
namespace Go.Proofs.YtjambfncemlenaaDoor
open Go.RowKit

set_option maxRecDepth 100000 in
set_option maxHeartbeats 2000000 in
theorem keyInOrder_any (ki : Int) (k : Ks) (wo : Option Addr) (cap : Nat) (w : World) (hs : encW.Sl w wo cap k.wi) (hl : k.wi.length ≤ 140737488355328) : Calls Tryd.prog 48 #[.int .i64 ki, .agg (ksc k wo cap)] w fun e w' => e = .returned (.bool (keyP ki k)) ∧ Calm w w' := by
  have CK := fun W => hide (isKey_any k.ke W)
  have CC := fun W => hide (isCount_any k.dr W)
  have CW : Hid (∀ x W, Calls Tryd.prog 69 #[wnv x] W fun e w' => e = .returned (.bool (winB x)) ∧ Calm W w') := hide windowInOrder_any
  have CB : Hid (∀ x y W, Calls Tryd.prog 70 #[.int .i64 ki, spv x.sp, spv y.sp] W fun e w' => e = .returned (.bool (behB ki x y)) ∧ Calm W w') := hide fun x y W => isBehind_any ki x y W
  have AT : Hid (∀ j, j < k.wi.length → ∃ g off, wo = some ⟨g, off, none⟩ ∧ ∀ W, Calm w W → wcell W g (off + j * 9) (k.wi.getD j wn0)) := hide fun j hj => by
    obtain ⟨g, off, e, -⟩ := wn_at hs.mem j hj
    refine ⟨g, off, e, fun W hW => ?_⟩
    obtain ⟨g', off', e', h⟩ := wn_at (Rc.Mem.calm hs.mem hW) j hj
    rw [e] at e'
    injection e' with e'
    injection e' with e1 e2
    subst e1 e2
    exact h
  have hcp : Hid (k.wi.length ≤ cap) := hide hs.cap
  have A0 := hide (al_new w (.cells (ksc k wo cap) 55))
  have T0 := hide ((Touch.refl (fun _ => False) w).alloc (.cells (ksc k wo cap) 55))
  have HP : Hid (keyP ki k = (decide (k.ke.size ≤ 256) && (inB k.dr 0 9007199254740992 && (List.range k.wi.length).all fun i => keyPt ki k.wi i))) := hide rfl
  clear hs
  generalize keyP ki k = R at *
  generalize decide (k.ke.size ≤ 256) = b0 at *
  generalize inB k.dr 0 9007199254740992 = b1 at *
  generalize hL : k.wi = L at *
  generalize hn : L.length = n at *
  go_enter Tryd.func48, Tryd.ntmps48
  go_wp2_with fail
  refine (CK _).out.mono ?_
  rintro e w1 ⟨rfl, hw1⟩
  subst hw1
  cases b0 with
  | false =>
    have HR : Hid (R = false) := hide (by rw [HP.out]; rfl)
    clear HP
    go_wp2_with fail
    go_ret
    exact ⟨by rw [HR.out]; rfl, T0.out⟩
  | true =>
    go_wp2_with fail
    refine (CC _).out.mono ?_
    rintro e w1 ⟨rfl, hw1⟩
    subst hw1
    cases b1 with
    | false =>
      have HR : Hid (R = false) := hide (by rw [HP.out]; rfl)
      clear HP
      go_wp2_with fail
      go_ret
      exact ⟨by rw [HR.out]; rfl, T0.out⟩
    | true =>
      have HR : Hid (R = (List.range n).all fun i => keyPt ki L i) := hide (by rw [HP.out]; rfl)
      clear HP CK CC
      go_wp2_with fail
      generalize w.alloc (.cells (ksc k wo cap) 55) = w0 at *
      generalize w.heap.size = A at *
      go_loopw [20] (fun s wr => ∃ i : Nat, s = .int .i64 (i : Int) ∧ i ≤ n ∧ ((List.range i).all fun j => keyPt ki L j) = true ∧ Calm w0 wr) (fun s _ => n - (intOf s).toNat)
      case atStart => exact ⟨0, rfl, by omega, rfl, Touch.refl _ _⟩
      case round =>
        obtain ⟨i, rfl, hi, hall, TL⟩ := hrel
        by_cases hlt : i < n
        · have hltz : (i : Int) < (n : Int) := by omega
          obtain ⟨g, off, rfl, AT1⟩ := AT.out i hlt
          have AT2 : Hid (∀ j, j < n → ∀ W, Calm w W → wcell W g (off + j * 9) (L.getD j wn0)) := hide fun j hj => by
            obtain ⟨g', off', e', h⟩ := AT.out j hj
            injection e' with e'
            injection e' with e1 e2
            subst e1 e2
            exact h
          obtain ⟨⟨c0, c1, c2⟩, ⟨c3, c4, c5, c6⟩, c7, c8⟩ := AT1 wr (T0.out.tr TL)
          have NX : Hid (∀ b, keyPt ki L i = b → ((List.range (i + 1)).all fun j => keyPt ki L j) = b) := hide fun b hb => by rw [all_range_succ, hall, hb]; rfl
          have NF : Hid (keyPt ki L i = false → R = false) := hide fun h => by rw [HR.out]; exact all_range_false hlt h
          have KP : Hid (keyPt ki L i = (winB (L.getD i wn0) && (i == 0 || behB ki (L.getD (i - 1) wn0) (L.getD i wn0)))) := hide rfl
          have HTL := hide TL
          generalize hy : L.getD i wn0 = y at *
          have HY := hide hy
          clear hall TL AT1 hy HR
          go_wp2_with fail
          refine (CW.out y _).mono ?_
          rintro e w2 ⟨rfl, T2⟩
          have D2 := hide (T2.at (al_new wr (.cells (wnc y) 92)))
          have TT2 := hide ((HTL.out.alloc (.cells (wnc y) 92)).tr T2)
          have K2 := hide ((TT2.out).at A0.out)
          clear T2 HTL c0 c1 c2 c3 c4 c5 c6 c7 c8
          cases hwb : winB y with
          | false =>
            have HF : Hid (R = false) := hide (NF.out (by rw [KP.out, hwb]; rfl))
            clear NF KP NX
            go_wp2_with fail
            go_ret
            exact ⟨by rw [HF.out]; rfl, T0.out.tr TT2.out⟩
          | true =>
            have KP2 : Hid (keyPt ki L i = (i == 0 || behB ki (L.getD (i - 1) wn0) y)) := hide (by rw [KP.out, hwb]; rfl)
            clear KP hwb
            go_wp2_with fail
            by_cases h0 : i = 0
            · subst h0
              have HX := hide (NX.out true (by rw [KP2.out]; rfl))
              have d0 : decide ((0 : Int) < ((0 : Nat) : Int)) = false := by decide
              clear NX NF KP2
              go_quiet (fail)
              rename_i nq
              go_wp2_with fail
              go_roundw
              case rel => exact ⟨1, by go_num, by omega, HX.out, TT2.out.drewQ nq⟩
              case measure => simp [intOf]; omega
            · obtain ⟨j, rfl⟩ : ∃ j, i = j + 1 := ⟨i - 1, by omega⟩
              have KP3 : Hid (keyPt ki L (j + 1) = behB ki (L.getD j wn0) y) := hide (by rw [KP2.out]; rfl)
              have hw := AT2.out j (by omega)
              generalize L.getD j wn0 = x at *
              have CX : Hid (∀ W, Calm w2 W → wcell W g (off + j * 9) x) := hide fun W hW => hw W ((T0.out.tr TT2.out).tr hW)
              have CD : Hid (∀ W, Calm w2 W → W.heap[wr.heap.size]? = some (.cells (wnc y) 92 (0, 0)) ∧ W.heap[A]? = some (.cells (ksc k (some ⟨g, off, none⟩) cap) 55 (0, 0))) := hide fun W hW => ⟨hW.at D2.out, hW.at K2.out⟩
              have CBx := hide (CB.out x y)
              generalize wr.heap.size = D at *
              have ej : wrap64 ((((j + 1 : Nat)) : Int) - 1) = (j : Int) := by rw [wr_in _ (by omega)]; omega
              have hjz : (j : Int) < (n : Int) := by omega
              have hjp : (0 : Int) < (((j + 1 : Nat)) : Int) := by omega
              clear hw KP2 h0 AT2 K2 D2 CB CW AT
              have ewj : IntKind.i64.wrap (j : Int) = (j : Int) := by rw [IntKind.wrap_i64]; omega
              have hkn : k.wi.length = n := by rw [hL, hn]
              have hcp2 := hcp.out
              refine wp_region_held (S := Calm w2) (by kernel_rfl) ?_
              have hT0 : Calm w2 { w2 with drawn := w2.drawn + 1 } := (Touch.refl _ w2).drew
              refine wpAnyH_yield 0 28 (.int .i64 (((j + 1 : Nat)) : Int)) rfl rfl (by kernel_rfl) (by kernel_rfl) (by kernel_rfl) (fun _ _ _ h => h) (by kernel_rfl) (fun W hW => by kernel_rfl) (by assumption) rfl rfl ?_
              simp only [Act.put, List.setIfInBounds_toArray, List.set_cons_zero, List.set_cons_succ]
              refine wpAnyH_yield 1 29 (.bool true) rfl rfl (by kernel_rfl) (by kernel_rfl) (by kernel_rfl) (fun _ _ _ h => h) (by kernel_rfl) (fun W hW => by go_simp) (by assumption) rfl rfl ?_
              simp only [Act.put, List.setIfInBounds_toArray, List.set_cons_zero, List.set_cons_succ]
              refine wpAnyH_yield 2 30 (.bool true) rfl rfl (by kernel_rfl) (by kernel_rfl) (by kernel_rfl) (fun _ _ _ h => h) (by kernel_rfl) (fun W hW => by kernel_rfl) (by assumption) rfl rfl ?_
              simp only [Act.put, List.setIfInBounds_toArray, List.set_cons_zero, List.set_cons_succ]
              refine wpAnyH_yield 3 31 (.int .i64 ki) rfl rfl (by kernel_rfl) (by kernel_rfl) (by kernel_rfl) (fun _ _ _ h => h) (by kernel_rfl) (fun W hW => by kernel_rfl) (by assumption) rfl rfl ?_
              simp only [Act.put, List.setIfInBounds_toArray, List.set_cons_zero, List.set_cons_succ]
              refine wpAnyH_yield 4 32 (.pointer (some ⟨A, 2, none⟩)) rfl rfl (by kernel_rfl) (by kernel_rfl) (by kernel_rfl) (fun _ _ _ h => h) (by kernel_rfl) (fun W hW => by go_simp) (by assumption) rfl rfl ?_
              simp only [Act.put, List.setIfInBounds_toArray, List.set_cons_zero, List.set_cons_succ]
              refine wpAnyH_yield 5 33 (.slice (some ⟨g, off, none⟩) n cap) rfl rfl (by kernel_rfl) (by kernel_rfl) (by kernel_rfl) (fun _ _ _ h => h) (by kernel_rfl) (fun W hW => by obtain ⟨-, -, q⟩ := ks_cells (CD.out W hW).2; rw [hkn] at q; go_simp) (by assumption) rfl rfl ?_
              simp only [Act.put, List.setIfInBounds_toArray, List.set_cons_zero, List.set_cons_succ]
              refine wpAnyH_yield 6 34 (.int .i64 (((j + 1 : Nat)) : Int)) rfl rfl (by kernel_rfl) (by kernel_rfl) (by kernel_rfl) (fun _ _ _ h => h) (by kernel_rfl) (fun W hW => by kernel_rfl) (by assumption) rfl rfl ?_
              simp only [Act.put, List.setIfInBounds_toArray, List.set_cons_zero, List.set_cons_succ]
              refine wpAnyH_yield 7 35 (.int .i64 (j : Int)) rfl rfl (by kernel_rfl) (by kernel_rfl) (by kernel_rfl) (fun _ _ _ h => h) (by kernel_rfl) (fun W hW => by go_simp) (by assumption) rfl rfl ?_
              simp only [Act.put, List.setIfInBounds_toArray, List.set_cons_zero, List.set_cons_succ]
              refine wpAnyH_yield 8 36 (.pointer (some ⟨g, off + j * 9, none⟩)) rfl rfl (by kernel_rfl) (by kernel_rfl) (by kernel_rfl) (fun _ _ _ h => h) (by kernel_rfl) (fun W hW => by go_simp) (by assumption) rfl rfl ?_
              simp only [Act.put, List.setIfInBounds_toArray, List.set_cons_zero, List.set_cons_succ]
              refine wpAnyH_yield 9 37 (.pointer (some ⟨g, off + j * 9, none⟩)) rfl rfl (by kernel_rfl) (by kernel_rfl) (by kernel_rfl) (fun _ _ _ h => h) (by kernel_rfl) (fun W hW => by go_simp) (by assumption) rfl rfl ?_
              simp only [Act.put, List.setIfInBounds_toArray, List.set_cons_zero, List.set_cons_succ]
              refine wpAnyH_yield 10 38 (spv x.sp) rfl rfl (by kernel_rfl) (by kernel_rfl) (by kernel_rfl) (fun _ _ _ h => h) (by kernel_rfl) (fun W hW => by obtain ⟨⟨q0, q1, -⟩, -⟩ := CX.out W hW; go_simp) (by assumption) rfl rfl ?_
              simp only [Act.put, List.setIfInBounds_toArray, List.set_cons_zero, List.set_cons_succ]
              refine wpAnyH_yield 11 39 (.pointer (some ⟨D, 0, none⟩)) rfl rfl (by kernel_rfl) (by kernel_rfl) (by kernel_rfl) (fun _ _ _ h => h) (by kernel_rfl) (fun W hW => by go_simp) (by assumption) rfl rfl ?_
              simp only [Act.put, List.setIfInBounds_toArray, List.set_cons_zero, List.set_cons_succ]
              refine wpAnyH_yield 12 40 (spv y.sp) rfl rfl (by kernel_rfl) (by kernel_rfl) (by kernel_rfl) (fun _ _ _ h => h) (by kernel_rfl) (fun W hW => by obtain ⟨⟨q0, q1, -⟩, -⟩ := wn_cells (CD.out W hW).1; go_simp) (by assumption) rfl rfl ?_
              simp only [Act.put, List.setIfInBounds_toArray, List.set_cons_zero, List.set_cons_succ]
              refine wpAnyH_enter 13 41 70 #[.int .i64 ki, spv x.sp, spv y.sp] rfl rfl (by kernel_rfl) (by kernel_rfl) (by kernel_rfl) ?_
              refine (CBx.out _).mono ?_
              rintro rr w3 ⟨rfl, T3⟩
              have h3 := hT0.tr T3
              refine ⟨_, rfl, h3, ?_⟩
              simp only [Act.put, List.setIfInBounds_toArray, List.set_cons_zero, List.set_cons_succ]
              have TT3 := TT2.out.tr h3
              generalize hbb : behB ki x y = bb at *
              cases bb with
              | true =>
                refine wpAnyH_yield 14 42 (.bool false) rfl rfl (by kernel_rfl) (by kernel_rfl) (by kernel_rfl) (fun _ _ _ h => h) (by kernel_rfl) (fun W hW => by go_simp) (by assumption) rfl rfl ?_
                simp only [Act.put, List.setIfInBounds_toArray, List.set_cons_zero, List.set_cons_succ]
                refine wpAnyH_yield 15 43 (.bool false) rfl rfl (by kernel_rfl) (by kernel_rfl) (by kernel_rfl) (fun _ _ _ h => h) (by kernel_rfl) (fun W hW => by go_simp) (by assumption) rfl rfl ?_
                simp only [Act.put, List.setIfInBounds_toArray, List.set_cons_zero, List.set_cons_succ]
                refine wpAnyH_done (by kernel_rfl) ?_ _
                have HX := hide (NX.out true (by rw [KP3.out]))
                have HT := hide TT3
                clear NX NF KP3 TT3 h3 hT0 T3 CD CX CBx hbb
                go_wp2_with fail
                go_roundw
                case rel => exact ⟨j + 1 + 1, by go_num, by omega, HX.out, HT.out⟩
                case measure => simp [intOf]; omega
              | false =>
                refine wpAnyH_yield 14 42 (.bool true) rfl rfl (by kernel_rfl) (by kernel_rfl) (by kernel_rfl) (fun _ _ _ h => h) (by kernel_rfl) (fun W hW => by go_simp) (by assumption) rfl rfl ?_
                simp only [Act.put, List.setIfInBounds_toArray, List.set_cons_zero, List.set_cons_succ]
                refine wpAnyH_yield 15 43 (.bool true) rfl rfl (by kernel_rfl) (by kernel_rfl) (by kernel_rfl) (fun _ _ _ h => h) (by kernel_rfl) (fun W hW => by go_simp) (by assumption) rfl rfl ?_
                simp only [Act.put, List.setIfInBounds_toArray, List.set_cons_zero, List.set_cons_succ]
                refine wpAnyH_done (by kernel_rfl) ?_ _
                have HX := hide (NF.out (by rw [KP3.out]))
                have HT := hide TT3
                clear NX NF KP3 TT3 h3 hT0 T3 CD CX CBx hbb
                go_wp2_with fail
                go_ret
                exact ⟨by rw [HX.out]; rfl, T0.out.tr HT.out⟩
        · have hltz : ¬ (i : Int) < (n : Int) := by omega
          obtain rfl : i = n := by omega
          have HF : Hid (R = true) := hide (by rw [HR.out]; exact hall)
          have HTL := hide TL
          clear hall TL HR
          go_wp2_with fail
          go_ret
          exact ⟨by rw [HF.out]; rfl, T0.out.tr HTL.out⟩

/-- What Key answers. -/
def keyN (c : Cf) (k : Ks) : Int := if wrongN c ≠ 0 then 4 else if keyB c k then 0 else 6

set_option maxRecDepth 100000 in
set_option maxHeartbeats 1000000 in
theorem key_any (c : Cf) (k : Ks) (wo : Option Addr) (cap : Nat) (w : World) (hs : encW.Sl w wo cap k.wi) (hl : k.wi.length ≤ 140737488355328) : Calls Tryd.prog 22 #[cfv c, .agg (ksc k wo cap)] w fun e w' => e = .returned (.int .i64 (keyN c k)) ∧ Calm w w' := by
  have CK : Hid (∀ W, Calls Tryd.prog 11 #[cfv c] W fun e w' => e = .returned (.int .i64 (if wrongN c = 0 then 0 else 4)) ∧ Calm W w') := hide fun W => by
    have := check_any c W
    rw [ch_job] at this
    exact this
  have CM : Hid (∀ W, Calm w W → Calls Tryd.prog 48 #[.int .i64 c.ki, .agg (ksc k wo cap)] W fun e w' => e = .returned (.bool (keyB c k)) ∧ Calm W w') := hide fun W hW => by
    have := keyInOrder_any c.ki k wo cap W (Rc.Sl.calm hs hW) hl
    rw [key_link] at this
    exact this
  have A0 := hide (al_old (al_new w (.cells (cfc c) 24)) (.cells (ksc k wo cap) 55))
  have A1 := al_new (w.alloc (.cells (cfc c) 24)) (.cells (ksc k wo cap) 55)
  rw [al_size] at A1
  replace A1 := hide A1
  have T0 := hide (((Touch.refl (fun _ => False) w).alloc (.cells (cfc c) 24)).alloc (.cells (ksc k wo cap) 55))
  have hN : keyN c k = if wrongN c ≠ 0 then 4 else if keyB c k then 0 else 6 := rfl
  generalize keyN c k = N at *
  generalize keyB c k = B at *
  clear hs hl
  by_cases hw : wrongN c = 0
  · rw [if_neg (fun h => h hw)] at hN
    have HN := hide hN
    simp only [if_pos hw] at CK
    clear hN hw
    go_enter Tryd.func22, Tryd.ntmps22
    go_wp2_with fail
    generalize (w.alloc (.cells (cfc c) 24)).alloc (.cells (ksc k wo cap) 55) = w0 at *
    refine (CK.out _).mono ?_
    rintro e w1 ⟨rfl, T1⟩
    obtain ⟨⟨g0, g1, g2, g3, g4, g5, g6⟩, g7, g8, g9⟩ := cf_cells (T1.at A0.out)
    obtain ⟨c0, c1, c2⟩ := ks_cells (T1.at A1.out)
    have TT1 := hide (T0.out.tr T1)
    clear CK A0 A1 T0 T1
    go_wp2_with fail
    refine (CM.out _ TT1.out).mono ?_
    rintro e w2 ⟨rfl, T2⟩
    have TT2 := hide (TT1.out.tr T2)
    clear T2 TT1 CM
    cases B with
    | true =>
      go_wp2_with fail
      go_ret
      exact ⟨by rw [HN.out]; rfl, TT2.out⟩
    | false =>
      go_wp2_with fail
      go_ret
      exact ⟨by rw [HN.out]; rfl, TT2.out⟩
  · rw [if_pos hw] at hN
    have HN := hide hN
    simp only [if_neg hw] at CK
    clear hN hw
    go_enter Tryd.func22, Tryd.ntmps22
    go_wp2_with fail
    generalize (w.alloc (.cells (cfc c) 24)).alloc (.cells (ksc k wo cap) 55) = w0 at *
    refine (CK.out _).mono ?_
    rintro e w1 ⟨rfl, T1⟩
    have TT1 := hide (T0.out.tr T1)
    clear CK A0 A1 T0 T1
    go_wp2_with fail
    go_ret
    exact ⟨by rw [HN.out]; rfl, TT1.out⟩

end Go.Proofs.YtjambfncemlenaaDoor
