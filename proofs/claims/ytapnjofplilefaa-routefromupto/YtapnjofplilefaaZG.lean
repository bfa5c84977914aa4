/- The document's router: From. -/
import Derived.Test.YtapnjofplilefaaZG0
import Derived.RegionTactic
import Derived.BigRegion
namespace Go.Proofs.Ytapnjofplilefaa
open Go.RowKit
set_option maxRecDepth 100000 in
theorem rfromZ_new (c : Cf) (wk : Int) (M : List Int) (mo : Option Addr) (mc : Nat) (s : Int) (w : World) (h : newE c wk ≠ 0) : Calls Try.prog 7 #[cfv c, .int .i64 wk, .slice mo M.length mc, .int .i64 s] w fun e w' => e = .returned (.tuple #[.pointer none, .int .i64 (newE c wk : Nat)]) ∧ Calm w w' := by
  have CN := fun w => hide (rnewZ_no c wk w h)
  generalize newE c wk = E at *
  have hE : ((E : Int) == 0) = false := by simp; omega
  have hE2 : ¬ (E : Int) = 0 := by omega
  generalize M.length = n at *
  have T0 := hide ((Touch.refl (fun _ => False) w).alloc (.cells (cfc c) 24))
  have A0 := al_new w (.cells (cfc c) 24)
  obtain ⟨⟨c0, c1, c2, c3, c4, c5, c6⟩, c7, c8, c9⟩ := cf_cells A0
  clear A0 h
  go_enter Try.func7, Try.ntmps7
  go_wp2_with fail
  refine (CN _).out.mono ?_
  rintro e w1 ⟨rfl, T1⟩
  have HT := hide (T0.out.tr T1)
  clear CN T0 T1 c0 c1 c2 c3 c4 c5 c6 c7 c8 c9
  go_wp2_with fail
  go_ret2
  exact ⟨rfl, HT.out⟩

set_option maxRecDepth 100000 in
set_option maxHeartbeats 1000000 in
theorem rfromZ_arg (c : Cf) (wk : Int) (M : List Int) (mo : Option Addr) (mc : Nat) (s : Int) (w : World) (h : newE c wk = 0) (hb : (M.length : Int) ≠ c.so ∨ s < 0 ∨ 4611686018427387904 < s) : Calls Try.prog 7 #[cfv c, .int .i64 wk, .slice mo M.length mc, .int .i64 s] w fun e w' => e = .returned (.tuple #[.pointer none, .int .i64 2]) ∧ Calm w w' := by
  have CN := fun w => hide (rnewZ_yes c wk w h)
  generalize M.length = n at *
  have T0 := hide ((Touch.refl (fun _ => False) w).alloc (.cells (cfc c) 24))
  have A0 := al_new w (.cells (cfc c) 24)
  have HA := hide A0
  obtain ⟨⟨c0, c1, c2, c3, c4, c5, c6⟩, c7, c8, c9⟩ := cf_cells A0
  clear A0 h
  by_cases h1 : (n : Int) = c.so
  · have e1 : ((n : Int) == c.so) = true := by simp [h1]
    by_cases h2 : s < 0
    · go_enter Try.func7, Try.ntmps7
      go_wp2_with fail
      refine (CN _).out.mono ?_
      rintro e w1 ⟨q, rfl, -, -, T1⟩
      have HT := hide (T0.out.tr T1)
      have A1 := T1.at HA.out
      clear CN T0 T1 c0 c1 c2 c3 c4 c5 c6 c7 c8 c9
      obtain ⟨⟨-, c1, -⟩, -⟩ := cf_cells A1
      clear A1
      go_wp2_with fail
      go_ret2
      exact ⟨rfl, HT.out⟩
    · have h3 : 4611686018427387904 < s := by omega
      go_enter Try.func7, Try.ntmps7
      go_wp2_with fail
      refine (CN _).out.mono ?_
      rintro e w1 ⟨q, rfl, -, -, T1⟩
      have HT := hide (T0.out.tr T1)
      have A1 := T1.at HA.out
      clear CN T0 T1 c0 c1 c2 c3 c4 c5 c6 c7 c8 c9
      obtain ⟨⟨-, c1, -⟩, -⟩ := cf_cells A1
      clear A1
      go_wp2_with fail
      go_ret2
      exact ⟨rfl, HT.out⟩
  · have e1 : ((n : Int) == c.so) = false := by simp [h1]
    go_enter Try.func7, Try.ntmps7
    go_wp2_with fail
    refine (CN _).out.mono ?_
    rintro e w1 ⟨q, rfl, -, -, T1⟩
    have HT := hide (T0.out.tr T1)
    have A1 := T1.at HA.out
    clear CN T0 T1 c0 c1 c2 c3 c4 c5 c6 c7 c8 c9
    obtain ⟨⟨-, c1, -⟩, -⟩ := cf_cells A1
    clear A1
    go_wp2_with fail
    go_ret2
    exact ⟨rfl, HT.out⟩

theorem half_set (M : List Int) (n i : Nat) (hn : M.length = n) (hi : i < n) : (M.take i ++ List.replicate (n - i) minT).set i (M.getD i 0) = M.take (i + 1) ++ List.replicate (n - (i + 1)) minT := by
  have h1 : (M.take i).length = i := by simp; omega
  rw [List.set_append_right _ _ (by omega), h1, Nat.sub_self, show n - i = (n - (i + 1)) + 1 by omega, List.replicate_succ, List.set_cons_zero, List.take_succ_eq_append_getElem (by omega), List.append_assoc]
  congr 1
  rw [List.getD_eq_getElem?_getD, List.getElem?_eq_getElem (by omega)]
  rfl

set_option maxRecDepth 100000 in
set_option maxHeartbeats 2000000 in
theorem rfromZ_run (c : Cf) (wk : Int) (M : List Int) (mo : Option Addr) (mc : Nat) (s : Int) (w : World) (h : newE c wk = 0) (h1 : (M.length : Int) = c.so) (h2 : ¬ s < 0) (h3 : ¬ 4611686018427387904 < s) (hM : encJ.Mem w mo M) : Calls Try.prog 7 #[cfv c, .int .i64 wk, .slice mo M.length mc, .int .i64 s] w fun e w' =>
    (((List.range M.length).all fun i => timZ (M.getD i 0)) = false ∧ e = .returned (.tuple #[.pointer none, .int .i64 2]) ∧ Calm w w') ∨
    (((List.range M.length).all fun i => timZ (M.getD i 0)) = true ∧ ∃ q, e = .returned (.tuple #[rp q, .int .i64 0]) ∧ w.heap.size ≤ q ∧ Rr w' q (fun g => w.heap.size ≤ g ∧ g < w'.heap.size) c wk M s ∧ Calm w w') := by
  have CN := fun w => hide (rnewZ_yes c wk w h)
  have CT := hide rtimeZ_any
  have hto : c.so.toNat = M.length := by omega
  rw [hto] at CN
  have AM : Hid (∀ j, j < M.length → ∃ g off, mo = some ⟨g, off, none⟩ ∧ ∀ W, Calm w W → W.cell? ⟨g, off + j, none⟩ = some (.int .i64 (M.getD j 0))) := hide fun j hj => ints_W hM j hj
  have T0 := hide ((Touch.refl (fun _ => False) w).alloc (.cells (cfc c) 24))
  have A0 := al_new w (.cells (cfc c) 24)
  have HA := hide A0
  obtain ⟨⟨c0, c1, c2, c3, c4, c5, c6⟩, c7, c8, c9⟩ := cf_cells A0
  obtain ⟨R, hR⟩ : ∃ R, R = ((List.range M.length).all fun i => timZ (M.getD i 0)) := ⟨_, rfl⟩
  simp only [← hR]
  have HR := hide hR
  clear A0 h hto hR hM
  generalize hn : M.length = n at *
  have HN := hide hn
  clear hn
  have e1 : ((n : Int) == c.so) = true := by simp [h1]
  go_enter Try.func7, Try.ntmps7
  go_wp2_with fail
  refine (CN _).out.mono ?_
  rintro e w1 ⟨q, rfl, hq, RR, T1⟩
  have HT := hide (T0.out.tr T1)
  have A1 := T1.at HA.out
  have hsz := al_size w (.cells (cfc c) 24)
  have HQ : Hid (w.heap.size ≤ q) := hide (by omega)
  obtain ⟨F, hF, hF2⟩ : ∃ F : Nat → Prop, (∀ g, F g → w.heap.size ≤ g) ∧ Rr w1 q F c wk (List.replicate n minT) 0 := ⟨_, fun g hg => by have := hg.1; omega, RR⟩
  have HF := hide hF
  have HRR := hide hF2
  clear CN T0 T1 c0 c1 c2 c3 c4 c5 c6 c7 c8 c9 HA RR hF hF2 hq hsz
  obtain ⟨⟨-, c1, -⟩, -⟩ := cf_cells A1
  clear A1
  go_wp2_with fail
  clear c1
  go_loopw [12] (fun s12 wr => ∃ i : Nat, s12 = .int .i64 (i : Int) ∧ i ≤ n ∧ Hid (((List.range i).all fun i => timZ (M.getD i 0)) = true) ∧ Rr wr q F c wk (M.take i ++ List.replicate (n - i) minT) 0 ∧ Calm w wr) (fun s12 _ => n - (intOf s12).toNat)
  case atStart => exact ⟨0, rfl, by omega, hide rfl, by simpa using HRR.out, HT.out⟩
  case round =>
    obtain ⟨i, rfl, hi, HB, RR, TE⟩ := hrel
    by_cases hlt : i < n
    · have hltz : (i : Int) < (n : Int) := by omega
      have z0 : ¬ (n : Int) ≤ (i : Int) := by omega
      obtain ⟨g, off, rfl, cm⟩ := AM.out i hlt
      have hln : (M.take i ++ List.replicate (n - i) minT).length = n := by simp; have := HN.out; omega
      obtain ⟨b, lc, fb, -, hc, hs⟩ := RR.place i (by rw [hln]; exact hlt)
      rw [hln] at hc
      have CM := hide cm
      have HC := hide hc
      have hs1 := hs
      have HS : Hid (∀ W, Calm wr W → Rr (W.setCell ⟨b, i, none⟩ (.int .i64 (M.getD i 0))) q F c wk (M.take (i + 1) ++ List.replicate (n - (i + 1)) minT) 0 ∧ Calm w (W.setCell ⟨b, i, none⟩ (.int .i64 (M.getD i 0)))) := hide fun W hW => by
        obtain ⟨h1, h2⟩ := hs W (M.getD i 0) hW
        rw [half_set M n i HN.out hlt] at h1
        exact ⟨h1, TE.trans h2 (fun k hk hf => by have := HF.out k hf; omega)⟩
      have NX : Hid (timZ (M.getD i 0) = true → ((List.range (i + 1)).all fun i => timZ (M.getD i 0)) = true) := hide fun e => by rw [rngK_succ, HB.out, e]; rfl
      have NO : Hid (timZ (M.getD i 0) = false → R = false) := hide fun e => by rw [HR.out]; exact rngK_false (f := fun i => timZ (M.getD i 0)) hlt e
      have cw := cm wr TE
      have C1 := hide (CT.out (M.getD i 0))
      have TE' := hide TE
      clear RR hc hs hs1 hln HB cm TE
      generalize M.getD i 0 = t at *
      cases ht : timZ t with
      | false =>
        rw [ht] at C1
        have R0 := hide (NO.out ht)
        clear HS NX NO ht HC
        go_wp2_with fail
        refine (C1.out _).mono ?_
        rintro e w3 ⟨rfl, rfl⟩
        go_wp2_with fail
        go_ret2
        exact .inl ⟨R0.out, rfl, TE'.out⟩
      | true =>
        rw [ht] at C1
        have N1 := hide (NX.out ht)
        clear NX NO ht
        go_wp2_with fail
        refine (C1.out _).mono ?_
        rintro e w3 ⟨rfl, rfl⟩
        obtain ⟨k1, k2, k3⟩ := HC.out _ (Touch.refl (fun _ => False) w3)
        clear C1
        go_wp2_with fail
        go_region
        obtain ⟨q1, q2⟩ := HS.out w3 (Touch.refl _ _)
        have Q1 := hide (q1.calm ((Touch.refl (fun _ => False) _).drew))
        have Q2 := hide q2.drew
        clear q1 q2 HS HC k1 k2 k3
        go_wp2_with fail
        have n64 : n ≤ 64 := by have := HRR.out.len; simpa using this
        have zw : wrap64 ((i : Int) + 1) = ((i + 1 : Nat) : Int) := by unfold wrap64; omega
        go_roundw
        case rel => exact ⟨i + 1, by first | rw [zw] | go_num, by omega, N1, Q1.out, Q2.out⟩
        case measure => first | (rw [zw]; simp [intOf]; omega) | (simp [intOf]; omega)
    · have hltz : ¬ (i : Int) < (n : Int) := by omega
      obtain rfl : i = n := by omega
      have hM : M.take i ++ List.replicate (i - i) minT = M := by rw [Nat.sub_self, ← HN.out]; simp
      rw [hM] at RR
      obtain ⟨hc, hs⟩ := RR.count
      obtain ⟨k1, k2⟩ := hc wr (Touch.refl _ _)
      obtain ⟨R1, T1⟩ := hs wr s (Touch.refl _ _)
      have T2 : Calm w (wr.setCell ⟨q, 12, none⟩ (.int .i64 s)) := TE.trans T1 (fun k hk hf => by have := HF.out k hf; omega)
      have FIN : Hid (R = true ∧ ∃ q', (Value.tuple #[rp q, .int .i64 0] = .tuple #[rp q', .int .i64 0]) ∧ w.heap.size ≤ q' ∧ Rr (wr.setCell ⟨q, 12, none⟩ (.int .i64 s)) q' (fun g => w.heap.size ≤ g ∧ g < (wr.setCell ⟨q, 12, none⟩ (.int .i64 s)).heap.size) c wk M s ∧ Calm w (wr.setCell ⟨q, 12, none⟩ (.int .i64 s))) := hide ⟨by rw [HR.out]; exact HB.out, q, rfl, HQ.out, ⟨by
        obtain ⟨lo, lc, e1, e2, e3⟩ := R1.ex
        exact ⟨lo, lc, e1, e2, fun g hg => ⟨HF.out g (e3 g hg), R1.lt g (e3 g hg)⟩⟩, ⟨HQ.out, R1.lt _ R1.at_⟩, fun g hg => hg.2, R1.ne, R1.len⟩, T2⟩
      clear RR hc hs R1 T1 T2 hM HB TE HRR
      go_wp2_with fail
      go_ret2
      obtain ⟨f1, q', f2, f3, f4, f5⟩ := FIN.out
      exact .inr ⟨f1, q', by rw [← f2]; rfl, f3, f4, f5⟩

theorem rfromZ_any (c : Cf) (wk : Int) (M : List Int) (mo : Option Addr) (mc : Nat) (s : Int) (w : World) (hM : encJ.Mem w mo M) : Calls Try.prog 7 #[cfv c, .int .i64 wk, .slice mo M.length mc, .int .i64 s] w fun e w' =>
    (fromE c wk M s ≠ 0 ∧ e = .returned (.tuple #[.pointer none, .int .i64 (fromE c wk M s : Nat)]) ∧ Calm w w') ∨
    (fromE c wk M s = 0 ∧ ∃ q, e = .returned (.tuple #[rp q, .int .i64 0]) ∧ w.heap.size ≤ q ∧ Rr w' q (fun g => w.heap.size ≤ g ∧ g < w'.heap.size) c wk M s ∧ Calm w w') := by
  by_cases h : newE c wk = 0
  · by_cases hb : (M.length : Int) ≠ c.so ∨ s < 0 ∨ 4611686018427387904 < s
    · have e : fromE c wk M s = 2 := by unfold fromE; rw [if_neg (by simp [h]), if_pos (.inl hb)]
      rw [e]
      exact (rfromZ_arg c wk M mo mc s w h hb).mono fun e w' h => .inl ⟨by decide, h.1, h.2⟩
    · refine (rfromZ_run c wk M mo mc s w h (by omega) (by omega) (by omega) hM).mono fun e w' h2 => ?_
      rcases h2 with ⟨h2, h3, h4⟩ | ⟨h2, h3⟩
      · have e : fromE c wk M s = 2 := by unfold fromE; rw [if_neg (by simp [h]), if_pos (.inr h2)]
        rw [e]
        exact .inl ⟨by decide, h3, h4⟩
      · have e : fromE c wk M s = 0 := by unfold fromE; rw [if_neg (by simp [h]), if_neg (by rw [h2]; simpa using hb)]
        rw [e]
        exact .inr ⟨rfl, h3⟩
  · have e : fromE c wk M s = newE c wk := by unfold fromE; rw [if_pos h]
    rw [e]
    exact (rfromZ_new c wk M mo mc s w h).mono fun e w' h2 => .inl ⟨h, h2.1, h2.2⟩

end Go.Proofs.Ytapnjofplilefaa
