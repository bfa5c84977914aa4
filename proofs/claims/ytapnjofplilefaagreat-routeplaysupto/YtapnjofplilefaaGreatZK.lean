/- The law's items: several, by the document's router. -/
import Derived.Test.YtapnjofplilefaaGreatZH
import Derived.Test.YtapnjofplilefaaGreatZ1
namespace Go.Proofs.YtapnjofplilefaaGreat
open Go.RowKit

set_option maxRecDepth 100000 in
set_option maxHeartbeats 4000000 in
theorem ritems_any {w : World} {q : Nat} {F : Nat → Prop} {c : Cf} {p g : Nat} {s : Int} {L : List Int} (h : Rr w q F c p L s) (hS : Sit c p g L) (M : List It) (mo : Option Addr) (mc : Nat) (hM : encI.Mem w mo M) (hF : ∀ a, mo = some a → M ≠ [] → ¬ F a.block) (hl : M.length ≤ 10000000) : Calls Tryz.prog 20 #[rp q, .slice mo M.length mc] w fun e w' => ∃ a k, e = .returned (.tuple #[.slice a (goA p g L s (taken c M)).length k, .int .i64 ((taken c M).length : Nat), .int .i64 (itemsE c M : Nat)]) ∧ encSn.Own 65 w' w.heap.size (.slice a (goA p g L s (taken c M)).length k) (goA p g L s (taken c M)) ∧ Rr w' q F c p (goL L (taken c M)) (goS s (taken c M)) ∧ Touch F w w' := by
  have LT := hide h.lt
  have KI : Hid (∀ j, j < M.length → ∃ g off, mo = some ⟨g, off, none⟩ ∧ ∀ W, Touch F w W →
    W.cell? ⟨g, off + j * 5, none⟩ = some (.int .i64 (M.getD j it0).ki) ∧ W.cell? ⟨g, off + j * 5 + 1, none⟩ = some (.string (M.getD j it0).ke) ∧ W.cell? ⟨g, off + j * 5 + 2, none⟩ = some (.int .i64 (M.getD j it0).tm) ∧ W.cell? ⟨g, off + j * 5 + 3, none⟩ = some (.int .i64 (M.getD j it0).va) ∧ W.cell? ⟨g, off + j * 5 + 4, none⟩ = some (.int .i64 (M.getD j it0).sr)) := hide fun j hj => items_W hM hF j hj
  obtain ⟨A, hA⟩ : ∃ A, A = goA p g L s (taken c M) := ⟨_, rfl⟩
  obtain ⟨T, hT⟩ : ∃ T : Nat, T = (taken c M).length := ⟨_, rfl⟩
  obtain ⟨E, hE⟩ : ∃ E : Nat, E = itemsE c M := ⟨_, rfl⟩
  obtain ⟨L9, hL9⟩ : ∃ L9, L9 = goL L (taken c M) := ⟨_, rfl⟩
  obtain ⟨s9, hs9⟩ : ∃ s9, s9 = goS s (taken c M) := ⟨_, rfl⟩
  simp only [← hA, ← hT, ← hE, ← hL9, ← hs9]
  have HA := hide hA
  have HT := hide hT
  have HE := hide hE
  have HL9 := hide hL9
  have HS9 := hide hs9
  have H0 := hide h
  clear hA hT hE hL9 hs9 hM hF h
  obtain ⟨n, hn⟩ : ∃ n, n = M.length := ⟨_, rfl⟩
  rw [← hn] at KI hl ⊢
  have HN := hide hn
  clear hn
  go_enter Tryz.func20, Tryz.ntmps20
  go_wp2_with fail
  go_loopw [7, 8] (fun s7 s8 wr => ∃ (i : Nat) (a : Option Addr) (m k : Nat), s8 = .int .i64 (i : Int) ∧ i ≤ n ∧ s7 = .slice a m k ∧ Hid (m = (goA p g L s (M.take i)).length ∧ (∀ j, j < i → itemZ c (M.getD j it0) = true)) ∧ Hid (encSn.Own 65 wr w.heap.size (.slice a m k) (goA p g L s (M.take i))) ∧ Hid (Rr wr q F c p (goL L (M.take i)) (goS s (M.take i))) ∧ Hid (Touch F w wr)) (fun _ s8 _ => n - (intOf s8).toNat)
  case atStart => exact ⟨0, none, 0, 0, rfl, by omega, rfl, hide ⟨rfl, fun j hj => absurd hj (by omega)⟩, hide (Rc.Own.nil _ _ _), hide H0.out, hide (Touch.refl _ _)⟩
  case round =>
    obtain ⟨i, a, m, k, rfl, hi, rfl, HM, HO, HR, HT2⟩ := hrel
    by_cases hlt : i < n
    · have hltz : (i : Int) < (n : Int) := by omega
      have z0 : ¬ (n : Int) ≤ (i : Int) := by omega
      obtain ⟨gg, off, rfl, ci⟩ := KI.out i hlt
      obtain ⟨i0, i1, i2, i3, i4⟩ := ci wr HT2.out
      have HiM : Hid (i < M.length) := hide (by have := HN.out; omega)
      cases hz : itemZ c (M.getD i it0) with
      | false =>
        have CC := hide (ritemR_no (M.getD i it0) HR.out hz)
        have F1 := hide (taken_stop c M i HiM.out HM.out.2 hz)
        have FIN : Hid (m = A.length ∧ i = T ∧ 5 = E ∧ encSn.Own 65 wr w.heap.size (.slice a m k) A ∧ Rr wr q F c p L9 s9) := hide (by
          obtain ⟨f1, f2⟩ := F1.out
          refine ⟨?_, ?_, ?_, ?_, ?_⟩
          · rw [HA.out, f1]; exact HM.out.1
          · rw [HT.out, f1, List.length_take]; have := HiM.out; omega
          · rw [HE.out, f2]
          · rw [HA.out, f1]; exact HO.out
          · rw [HL9.out, HS9.out, f1]; exact HR.out)
        have OL : Hid (∀ W, Calm wr W → encSn.Own 65 W w.heap.size (.slice a A.length k) A ∧ Rr W q F c p L9 s9 ∧ Touch F w W) := hide fun W hW => ⟨by rw [← FIN.out.1]; exact Rc.Own.calm FIN.out.2.2.2.1 hW, FIN.out.2.2.2.2.calm hW, Touch.trans HT2.out (hW.mono (S' := F) fun _ _ h => h.elim) fun _ _ h => h⟩
        generalize M.getD i it0 = x at *
        obtain ⟨ki, ke, tm, va, sr⟩ := x
        clear ci F1 HM HO HR HT2 hz H0 LT KI
        go_wp2_with fail
        refine CC.out.mono ?_
        rintro e w2 ⟨rfl, T2⟩
        have HF := hide (OL.out w2 T2)
        clear T2 i0 i1 i2 i3 i4 OL CC
        go_wp2_with fail
        go_ret3
        obtain ⟨f1, f2, f3, -⟩ := FIN.out
        obtain ⟨g1, g2, g3⟩ := HF.out
        exact ⟨a, k, by rw [← f2, ← f3, ← f1]; rfl, g1, g2, g3⟩
      | true =>
        have SI := hide (hS.go (M.take i))
        have CC := hide (ritemR_yes (M.getD i it0) HR.out SI.out hz)
        obtain ⟨B, hB⟩ : ∃ B, B = itemA p g (goL L (M.take i)) (goS s (M.take i)) (M.getD i it0) := ⟨_, rfl⟩
        have HB := hide hB
        simp only [← hB] at CC
        have HG : Hid (goA p g L s (M.take (i + 1)) = goA p g L s (M.take i) ++ B ∧ goL L (M.take (i + 1)) = itemL (goL L (M.take i)) (M.getD i it0) ∧ goS s (M.take (i + 1)) = nxt (goS s (M.take i)) ∧ (∀ j, j < i + 1 → itemZ c (M.getD j it0) = true)) := hide (by
          rw [take_snoc M i HiM.out, goA_snoc, goL_snoc, goS_snoc, hB]
          refine ⟨rfl, rfl, rfl, fun j hj => ?_⟩
          by_cases h : j < i
          · exact HM.out.2 j h
          · obtain rfl : j = i := by omega
            exact hz)
        have HBL : Hid (B.length ≤ 32768 ∧ (goA p g L s (M.take i)).length ≤ 10000000 * 32768) := hide (by
          refine ⟨by rw [hB]; exact itemA_len SI.out _ _, ?_⟩
          have h1 := goA_len (M.take i) s hS
          have h2 : (M.take i).length ≤ 10000000 := by rw [List.length_take]; omega
          have := Nat.mul_le_mul_right 32768 h2
          omega)
        clear hB
        generalize hx : M.getD i it0 = x at *
        obtain ⟨ki, ke, tm, va, sr⟩ := x
        have OM : Hid (m = (goA p g L s (M.take i)).length) := hide HM.out.1
        clear ci hz H0 KI HM SI hx
        generalize hA1 : goA p g L s (M.take i) = A1 at *
        have HA1 := hide hA1
        clear hA1
        go_wp2_with fail
        refine CC.out.mono ?_
        rintro e w2 ⟨a2, k2, rfl, O2, R2, T2⟩
        have O1 : encSn.Own 65 w2 w.heap.size (.slice a A1.length k) A1 := by
          rw [← OM.out]
          exact Rc.Own.touch HO.out T2 fun gb hg hf => by have := own_lt HO.out hg; have := LT.out gb hf; omega
        have T3 := Touch.trans HT2.out T2 fun _ _ h => h
        obtain ⟨a4, p4, w4, hr, ow, t4⟩ := sn_apps O1 O2 (by have := T3.size; omega) (by have := HBL.out; omega)
        rw [← OM.out] at hr
        have T5 : Touch F w w4 := Touch.trans T3 t4 fun gb hk hf => by have := own_lt O1 hf; omega
        have R5 := hide (R2.touch t4 fun gb hg hf => by have := own_lt O1 hf; have := LT.out gb hg; omega)
        have HRN := hide hr
        have HOW := hide ow
        have HT5 := hide T5
        clear O1 O2 R2 T2 T3 hr ow t4 T5 HO HR HT2 CC i0 i1 i2 i3 i4
        go_wp2_with (at_builtin; refine Rc.wpList_appR rfl (.tmp 31) (.tmp 32) 55 55 rfl _ _ _ rfl rfl HRN.out ?_)
        go_roundw
        case rel =>
          obtain ⟨g1, g2, g3, g4⟩ := HG.out
          exact ⟨i + 1, a4, _, p4, by go_num, by omega, rfl, hide ⟨by rw [g1, List.length_append], g4⟩, hide (by rw [g1, ← List.length_append]; exact HOW.out), hide (by rw [g2, g3]; exact R5.out), hide HT5.out⟩
        case measure => simp [intOf]; omega
    · have hltz : ¬ (i : Int) < (n : Int) := by omega
      obtain rfl : i = n := by omega
      have FIN : Hid (m = A.length ∧ i = T ∧ 0 = E ∧ encSn.Own 65 wr w.heap.size (.slice a A.length k) A ∧ Rr wr q F c p L9 s9 ∧ Touch F w wr) := hide (by
        obtain ⟨f1, f2⟩ := taken_all c M (fun j hj => HM.out.2 j (by have := HN.out; omega))
        have hT : M.take i = M := by rw [HN.out]; exact List.take_length
        have e1 := HM.out.1
        have o1 := HO.out
        have r1 := HR.out
        rw [hT] at e1 o1 r1
        rw [HA.out, HT.out, HE.out, HL9.out, HS9.out, f1]
        exact ⟨e1, HN.out, f2.symm, by rw [← e1]; exact o1, r1, HT2.out⟩)
      clear HM HO HR HT2 H0 LT KI
      go_wp2_with fail
      go_ret3
      obtain ⟨f1, f2, f3, f4, f5, f6⟩ := FIN.out
      exact ⟨a, k, by rw [← f2, ← f3, ← f1]; rfl, f4, f5, f6⟩

end Go.Proofs.YtapnjofplilefaaGreat
