/- digits: a number from 0 on in decimal digits (the document's). Digits: a number in decimal digits (the document's). Quote: a key quoted (the document's; the walk). -/
import Derived.Test.YtamfcmmhmfhhkaaDoorG5
import Derived.Test.YtamfcmmhmfhhkaaDoorG16
import Derived.Lib.ItoaNum
import Derived.Laws.BytesArg
import Derived.Laws.BytesString
import Derived.Test.YtamfcmmhmfhhkaaDoorG6
import Derived.Great.BuildSlice
namespace Go.Proofs.YtamfcmmhmfhhkaaDoor
open Go.RowKit

set_option maxRecDepth 100000 in
set_option maxHeartbeats 2000000 in
theorem digits_any (u : Nat) : ∀ (_ : u < 18446744073709551616) (w : World), Calls Tryd.prog 43 #[.int .u64 (u : Int)] w fun e w' => e = .returned (.string (decB u)) ∧ Calm w w' := by
  induction u using Nat.strongRecOn with
  | _ u ih =>
  intro h w
  by_cases h1 : u < 10
  · have z1 : (u : Int) < 10 := by omega
    have CV : Hid ((convert 55 9 (.slice (some ⟨w.heap.size, 0, none⟩) 1 1)).run Tryd.prog (w.alloc (.cells #[.int .u8 (48 + (u : Int))] 5)) = .ok (.string (decB u)) (w.alloc (.cells #[.int .u8 (48 + (u : Int))] 5))) := hide (by rw [decB_one h1]; exact conv_one _ (al_new _ _))
    have T0 := hide ((Touch.refl (fun _ => False) w).alloc (.cells #[.int .u8 (48 + (u : Int))] 5))
    have zw : IntKind.u64.wrap (48 + (u : Int)) = 48 + (u : Int) := by first | (rw [IntKind.wrap_u64]; omega) | (rw [IntKind.wrap_u8]; omega)
    have zw8 : IntKind.u8.wrap (48 + (u : Int)) = 48 + (u : Int) := by first | (rw [IntKind.wrap_u64]; omega) | (rw [IntKind.wrap_u8]; omega)
    clear ih
    go_enter Tryd.func43, Tryd.ntmps43
    have cv := CV.out
    go_wp2_with fail
    go_ret
    exact ⟨rfl, T0.out⟩
  · have z1 : ¬ (u : Int) < 10 := by omega
    have z2 : ((u / 10 : Nat) : Int) = (u : Int) / 10 := by omega
    have IH := hide (fun W => ih (u / 10) (by omega) (by omega) W)
    obtain ⟨x, hx⟩ : ∃ x : Nat, x = u % 10 := ⟨_, rfl⟩
    have hx10 : x < 10 := by omega
    have CV : Hid (∀ (W : World) (p : Nat), W.heap[p]? = some (.cells #[.int .u8 (48 + (x : Int))] 5 (0, 0)) → (convert 55 9 (.slice (some ⟨p, 0, none⟩) 1 1)).run Tryd.prog W = .ok (.string (strOfNums [48 + (x : Int)])) W) := hide fun W p hp => conv_one _ hp
    obtain ⟨D, hD⟩ : ∃ D, D = decB (u / 10) := ⟨_, rfl⟩
    obtain ⟨B, hB⟩ : ∃ B, B = strOfNums [48 + (x : Int)] := ⟨_, rfl⟩
    rw [← hB] at CV
    have HJ : Hid (D ++ B = decB u ∧ ¬ (9223372036854775807 : Int) < (D.size : Int) + (B.size : Int)) := hide ⟨by rw [hB, hx, hD, decB_more h1], by
      have h1 := decB_size (u := u / 10) (by omega)
      have h2 : B.size = 1 := by rw [hB, strOfNums_size]; rfl
      rw [hD]
      omega⟩
    have hxu : (x : Int) = (u : Int) % 10 := by omega
    rw [← hD] at IH
    clear hB hD
    generalize decB u = E at *
    clear ih
    go_enter Tryd.func43, Tryd.ntmps43
    go_wp2_with fail
    refine wp_region_held (S := Calm w) (by kernel_rfl) ?_
    have hT0 : Calm w { w with drawn := w.drawn + 1 } := (Touch.refl _ w).drew
    refine wpAnyH_yield 0 10 (.int .u64 (u : Int)) rfl rfl (by kernel_rfl) (by kernel_rfl) (by kernel_rfl) (fun _ _ _ h => h) (by kernel_rfl) (fun W hW => by kernel_rfl) (by assumption) rfl rfl ?_
    simp only [Act.put, List.setIfInBounds_toArray, List.set_cons_zero, List.set_cons_succ]
    refine wpAnyH_yield 1 11 (.int .u64 ((u / 10 : Nat) : Int)) rfl rfl (by kernel_rfl) (by kernel_rfl) (by kernel_rfl) (fun _ _ _ h => h) (by kernel_rfl) (fun W hW => by go_simp; first | done | (simp only [IntKind.wrap_u64]; omega) | (simp only [IntKind.wrap_u8]; omega)) (by assumption) rfl rfl ?_
    simp only [Act.put, List.setIfInBounds_toArray, List.set_cons_zero, List.set_cons_succ]
    refine wpAnyH_yield 3 13 (.int .u64 (u : Int)) rfl rfl (by kernel_rfl) (by kernel_rfl) (by kernel_rfl) (fun _ _ _ h => h) (by kernel_rfl) (fun W hW => by kernel_rfl) (by assumption) rfl rfl ?_
    simp only [Act.put, List.setIfInBounds_toArray, List.set_cons_zero, List.set_cons_succ]
    refine wpAnyH_yield 4 14 (.int .u64 (x : Int)) rfl rfl (by kernel_rfl) (by kernel_rfl) (by kernel_rfl) (fun _ _ _ h => h) (by kernel_rfl) (fun W hW => by go_simp; exact Int.tmod_eq_emod_of_nonneg (by omega)) (by assumption) rfl rfl ?_
    simp only [Act.put, List.setIfInBounds_toArray, List.set_cons_zero, List.set_cons_succ]
    refine wpAnyH_yield 5 15 (.int .u64 (48 + (x : Int))) rfl rfl (by kernel_rfl) (by kernel_rfl) (by kernel_rfl) (fun _ _ _ h => h) (by kernel_rfl) (fun W hW => by go_simp; first | done | (simp only [IntKind.wrap_u64]; omega) | (simp only [IntKind.wrap_u8]; omega)) (by assumption) rfl rfl ?_
    simp only [Act.put, List.setIfInBounds_toArray, List.set_cons_zero, List.set_cons_succ]
    refine wpAnyH_yield 6 16 (.int .u8 (48 + (x : Int))) rfl rfl (by kernel_rfl) (by kernel_rfl) (by kernel_rfl) (fun _ _ _ h => h) (by kernel_rfl) (fun W hW => by go_simp; first | done | (simp only [IntKind.wrap_u64]; omega) | (simp only [IntKind.wrap_u8]; omega)) (by assumption) rfl rfl ?_
    simp only [Act.put, List.setIfInBounds_toArray, List.set_cons_zero, List.set_cons_succ]
    clear hxu hx
    refine wpAnyH_all (rs := [2, 7]) (by kernel_rfl) (by simp) ?_
    intro j hj
    rcases (by simpa using hj : j = 2 ∨ j = 7) with rfl | rfl
    · refine wpOp_enter 2 12 43 #[.int .u64 ((u / 10 : Nat) : Int)] rfl rfl (by kernel_rfl) (by kernel_rfl) ?_
      refine (IH.out _).mono ?_
      rintro r wa ⟨rfl, Twa⟩
      have ha : Calm w wa := hT0.tr Twa
      refine ⟨_, rfl, ha, ?_⟩
      simp only [Act.put, List.setIfInBounds_toArray, List.set_cons_zero, List.set_cons_succ]
      refine wpAnyH_all (rs := [7]) (by kernel_rfl) (by simp) ?_
      intro j hj
      obtain rfl : j = 7 := by simpa using hj
      refine wpOp_value 7 17 (.slice (some ⟨(wa).heap.size, 0, none⟩) 1 1) (w' := (wa).alloc (.cells #[.int .u8 (48 + (x : Int))] 5)) rfl rfl (by kernel_rfl) (by go_simp) ?_
      refine ⟨ha.alloc _, ?_⟩
      simp only [Act.put, List.setIfInBounds_toArray, List.set_cons_zero, List.set_cons_succ]
      have A2 := al_new (wa) (.cells #[.int .u8 (48 + (x : Int))] 5)
      have hb : Calm w ((wa).alloc (.cells #[.int .u8 (48 + (x : Int))] 5)) := ha.alloc _
      generalize (wa).alloc (.cells #[.int .u8 (48 + (x : Int))] 5) = wb at *
      refine wpAnyH_all (rs := [8]) (by kernel_rfl) (by simp) ?_
      intro j hj
      obtain rfl : j = 8 := by simpa using hj
      refine wpOp_value 8 18 (.string B) (w' := wb) rfl rfl (by kernel_rfl) (by have q := CV.out _ _ A2; go_simp) ?_
      refine ⟨hb, ?_⟩
      simp only [Act.put, List.setIfInBounds_toArray, List.set_cons_zero, List.set_cons_succ]
      refine wpAnyH_yield 9 19 (.string E) rfl rfl (by kernel_rfl) (by kernel_rfl) (by kernel_rfl) (fun _ _ _ h => h) (by kernel_rfl) (fun W hW => by obtain ⟨q1, q2⟩ := HJ.out; go_simp; omega) (by assumption) rfl rfl ?_
      simp only [Act.put, List.setIfInBounds_toArray, List.set_cons_zero, List.set_cons_succ]
      refine wpAnyH_yield 10 2 (.string E) rfl rfl (by kernel_rfl) (by kernel_rfl) (by kernel_rfl) (fun _ _ _ h => h) (by kernel_rfl) (fun W hW => by kernel_rfl) (by assumption) rfl rfl ?_
      simp only [Act.put, List.setIfInBounds_toArray, List.set_cons_zero, List.set_cons_succ]
      refine wpAnyH_done (by kernel_rfl) ?_ _
      have HF := hide hb
      go_wp2_with fail
      go_ret
      exact ⟨rfl, HF.out⟩
    · refine wpOp_value 7 17 (.slice (some ⟨({ w with drawn := w.drawn + 1 } : World).heap.size, 0, none⟩) 1 1) (w' := ({ w with drawn := w.drawn + 1 } : World).alloc (.cells #[.int .u8 (48 + (x : Int))] 5)) rfl rfl (by kernel_rfl) (by go_simp) ?_
      refine ⟨hT0.alloc _, ?_⟩
      simp only [Act.put, List.setIfInBounds_toArray, List.set_cons_zero, List.set_cons_succ]
      have A2 := al_new ({ w with drawn := w.drawn + 1 } : World) (.cells #[.int .u8 (48 + (x : Int))] 5)
      have ha : Calm w (({ w with drawn := w.drawn + 1 } : World).alloc (.cells #[.int .u8 (48 + (x : Int))] 5)) := hT0.alloc _
      generalize ({ w with drawn := w.drawn + 1 } : World).alloc (.cells #[.int .u8 (48 + (x : Int))] 5) = wa at *
      refine wpAnyH_all (rs := [2, 8]) (by kernel_rfl) (by simp) ?_
      intro j hj
      rcases (by simpa using hj : j = 2 ∨ j = 8) with rfl | rfl
      · refine wpOp_enter 2 12 43 #[.int .u64 ((u / 10 : Nat) : Int)] rfl rfl (by kernel_rfl) (by kernel_rfl) ?_
        refine (IH.out _).mono ?_
        rintro r wb ⟨rfl, Twb⟩
        have hb : Calm w wb := ha.tr Twb
        refine ⟨_, rfl, hb, ?_⟩
        simp only [Act.put, List.setIfInBounds_toArray, List.set_cons_zero, List.set_cons_succ]
        have A3 := Twb.at A2
        refine wpAnyH_all (rs := [8]) (by kernel_rfl) (by simp) ?_
        intro j hj
        obtain rfl : j = 8 := by simpa using hj
        refine wpOp_value 8 18 (.string B) (w' := wb) rfl rfl (by kernel_rfl) (by have q := CV.out _ _ A3; go_simp) ?_
        refine ⟨hb, ?_⟩
        simp only [Act.put, List.setIfInBounds_toArray, List.set_cons_zero, List.set_cons_succ]
        refine wpAnyH_yield 9 19 (.string E) rfl rfl (by kernel_rfl) (by kernel_rfl) (by kernel_rfl) (fun _ _ _ h => h) (by kernel_rfl) (fun W hW => by obtain ⟨q1, q2⟩ := HJ.out; go_simp; omega) (by assumption) rfl rfl ?_
        simp only [Act.put, List.setIfInBounds_toArray, List.set_cons_zero, List.set_cons_succ]
        refine wpAnyH_yield 10 2 (.string E) rfl rfl (by kernel_rfl) (by kernel_rfl) (by kernel_rfl) (fun _ _ _ h => h) (by kernel_rfl) (fun W hW => by kernel_rfl) (by assumption) rfl rfl ?_
        simp only [Act.put, List.setIfInBounds_toArray, List.set_cons_zero, List.set_cons_succ]
        refine wpAnyH_done (by kernel_rfl) ?_ _
        have HF := hide hb
        go_wp2_with fail
        go_ret
        exact ⟨rfl, HF.out⟩
      · refine wpOp_value 8 18 (.string B) (w' := wa) rfl rfl (by kernel_rfl) (by have q := CV.out _ _ A2; go_simp) ?_
        refine ⟨ha, ?_⟩
        simp only [Act.put, List.setIfInBounds_toArray, List.set_cons_zero, List.set_cons_succ]
        refine wpAnyH_all (rs := [2]) (by kernel_rfl) (by simp) ?_
        intro j hj
        obtain rfl : j = 2 := by simpa using hj
        refine wpOp_enter 2 12 43 #[.int .u64 ((u / 10 : Nat) : Int)] rfl rfl (by kernel_rfl) (by kernel_rfl) ?_
        refine (IH.out _).mono ?_
        rintro r wb ⟨rfl, Twb⟩
        have hb : Calm w wb := ha.tr Twb
        refine ⟨_, rfl, hb, ?_⟩
        simp only [Act.put, List.setIfInBounds_toArray, List.set_cons_zero, List.set_cons_succ]
        refine wpAnyH_yield 9 19 (.string E) rfl rfl (by kernel_rfl) (by kernel_rfl) (by kernel_rfl) (fun _ _ _ h => h) (by kernel_rfl) (fun W hW => by obtain ⟨q1, q2⟩ := HJ.out; go_simp; omega) (by assumption) rfl rfl ?_
        simp only [Act.put, List.setIfInBounds_toArray, List.set_cons_zero, List.set_cons_succ]
        refine wpAnyH_yield 10 2 (.string E) rfl rfl (by kernel_rfl) (by kernel_rfl) (by kernel_rfl) (fun _ _ _ h => h) (by kernel_rfl) (fun W hW => by kernel_rfl) (by assumption) rfl rfl ?_
        simp only [Act.put, List.setIfInBounds_toArray, List.set_cons_zero, List.set_cons_succ]
        refine wpAnyH_done (by kernel_rfl) ?_ _
        have HF := hide hb
        go_wp2_with fail
        go_ret
        exact ⟨rfl, HF.out⟩

end Go.Proofs.YtamfcmmhmfhhkaaDoor

namespace Go.Proofs.YtamfcmmhmfhhkaaDoor
open Go.RowKit

set_option maxRecDepth 100000 in
set_option maxHeartbeats 1000000 in
theorem digitsI_any (n : Int) (h0 : -9223372036854775808 ≤ n) (h1 : n ≤ 9223372036854775807) (w : World) : Calls Tryd.prog 29 #[.int .i64 n] w fun e w' => e = .returned (.string (intB n)) ∧ Calm w w' := by
  by_cases h : 0 ≤ n
  · have C := hide (digits_any n.toNat (by omega) w)
    have e : ((n.toNat : Nat) : Int) = n := by omega
    rw [e, ← intB_pos h] at C
    have z1 : ¬ n < 0 := by omega
    have zw : IntKind.u64.wrap n = n := by rw [IntKind.wrap_u64]; omega
    generalize intB n = X at *
    clear e
    go_enter Tryd.func29, Tryd.ntmps29
    go_wp2_with fail
    refine C.out.mono ?_
    rintro r w1 ⟨rfl, T1⟩
    have HT := hide T1
    clear T1 C
    go_wp2_with fail
    go_ret
    exact ⟨rfl, HT.out⟩
  · have hn : n < 0 := by omega
    have C := hide (digits_any n.natAbs (by omega) w)
    have e : ((n.natAbs : Nat) : Int) = -(n + 1) + 1 := by omega
    rw [e] at C
    have za : IntKind.i64.wrap (n + 1) = n + 1 := by rw [IntKind.wrap_i64]; omega
    have zb : IntKind.i64.wrap (-(n + 1)) = -(n + 1) := by rw [IntKind.wrap_i64]; omega
    have zc : IntKind.u64.wrap (-(n + 1)) = -(n + 1) := by rw [IntKind.wrap_u64]; omega
    have zd : IntKind.u64.wrap (-(n + 1) + 1) = -(n + 1) + 1 := by rw [IntKind.wrap_u64]; omega
    have HJ : Hid ((⟨#[45]⟩ : ByteArray) ++ decB n.natAbs = intB n ∧ (⟨#[45]⟩ : ByteArray).size + (decB n.natAbs).size ≤ 1000000) := hide ⟨(intB_neg hn).symm, by
      have := decB_size (u := n.natAbs) (by omega)
      have e : (⟨#[45]⟩ : ByteArray).size = 1 := rfl
      omega⟩
    have G0 : Hid (binOp .add 9 (.string ⟨#[45]⟩) (.string (decB n.natAbs)) = pure (.string (intB n))) := hide (by rw [← HJ.out.1]; exact st_join _ _ _ HJ.out.2)
    generalize decB n.natAbs = D at *
    generalize intB n = X at *
    clear e HJ
    go_enter Tryd.func29, Tryd.ntmps29
    go_wp2_with fail
    refine C.out.mono ?_
    rintro r w1 ⟨rfl, T1⟩
    have HT := hide T1
    clear T1 C
    have g := G0.out
    go_wp2_with fail
    go_ret
    exact ⟨rfl, HT.out⟩

end Go.Proofs.YtamfcmmhmfhhkaaDoor

namespace Go.Proofs.YtamfcmmhmfhhkaaDoor
open Go.RowKit

set_option maxRecDepth 100000 in
set_option maxHeartbeats 4000000 in
theorem quote_any (s : ByteArray) (hs : s.size ≤ 1000000000) (w : World) : Calls Tryd.prog 26 #[.string s] w fun e w' => e = .returned (.string (strOfNums (quoA s))) ∧ Calm w w' := by
  have QS : Hid (∀ i (h : i < s.size), quoL s (i + 1) = quoL s i ++ escL ((s[i]'h).toNat : Int)) := hide fun i h => quoL_succ h
  have QL : Hid (∀ i, i ≤ s.size → (quoL s i).length ≤ 4 * i + 1) := hide quoL_len
  have Q0 : Hid (quoL s 0 = [34]) := hide (by simp [quoL])
  have QA : Hid (quoA s = quoL s s.size ++ [34]) := hide rfl
  have O0 := hide (Own.byte (w := w.alloc (.cells #[.int .u8 34] 5)) (base := w.heap.size) (Nat.le_refl _) (al_new w _))
  have T0 := hide ((Touch.refl (fun _ => False) w).alloc (.cells #[.int .u8 34] 5))
  generalize quoA s = Z at *
  generalize hq : quoL s = q at *
  clear hq
  go_enter Tryd.func26, Tryd.ntmps26
  go_wp2_with fail
  go_loopw [3, 4] (fun s3 s4 wr => ∃ (i : Nat) (a : Option Addr) (c : Nat), s4 = .int .i64 (i : Int) ∧ i ≤ s.size ∧ s3 = .slice a (q i).length c ∧ encB.Own 5 wr w.heap.size (.slice a (q i).length c) (q i) ∧ Calm w wr) (fun _ s4 _ => s.size - (intOf s4).toNat)
  case atStart => exact ⟨0, _, 1, rfl, by omega, by rw [Q0.out]; rfl, by rw [Q0.out]; exact O0.out, T0.out⟩
  case round =>
    obtain ⟨i, a, c, rfl, hi, rfl, OW, TE⟩ := hrel
    clear O0 T0 Q0
    by_cases hlt : i < s.size
    · have hltz : (i : Int) < (s.size : Int) := by omega
      have hs1 := QS.out i hlt
      have hl1 := QL.out i hi
      obtain ⟨b, hb⟩ : ∃ b : Nat, (s[i]'hlt).toNat = b := ⟨_, rfl⟩
      have hb255 : b < 256 := by rw [← hb]; exact (s[i]'hlt).toNat_lt
      rw [hb] at hs1
      have hsz := TE.size
      clear QS QL QA
      by_cases hp : 32 ≤ b ∧ b ≤ 126 ∧ b ≠ 34 ∧ b ≠ 92
      · obtain ⟨p1, p2, p3, p4⟩ := hp
        have hE : q (i + 1) = q i ++ [(b : Int)] := by rw [hs1]; unfold escL; rw [if_pos ⟨by omega, by omega, by omega, by omega⟩]
        obtain ⟨a4, c4, w4, hr, ow, t2⟩ := by_app (b : Int) OW hsz (by omega)
        rw [← hE] at ow
        have e1 : (q (i + 1)).length = (q i).length + 1 := by rw [hE]; simp
        rw [← e1] at hr
        have HR := hide hr
        have HO := hide ow
        have HT := hide (Rc.Own.fresh (w0 := w) OW t2 (fun _ h => h) TE (Nat.le_refl _))
        have z1 : (32 : Int) ≤ (b : Int) := by omega
        have z2 : (b : Int) ≤ 126 := by omega
        have z3 : ((b : Int) != 34) = true := by rw [bne_iff_ne]; omega
        have z4 : ((b : Int) != 92) = true := by rw [bne_iff_ne]; omega
        clear OW TE hr ow t2 hE e1 hs1 hl1 p1 p2 p3 p4
        go_wp2_with (at_builtin; refine Rc.wpList_appR rfl (.tmp 30) (.tmp 32) 55 55 rfl _ _ _ rfl rfl HR.out ?_)
        go_roundw
        case rel => exact ⟨i + 1, a4, c4, by go_num, by omega, rfl, HO.out, HT.out⟩
        case measure => simp [intOf]; omega
      · have hE : q (i + 1) = q i ++ [92, 120, hexB ((b : Int) / 16), hexB ((b : Int) % 16)] := by rw [hs1]; unfold escL; rw [if_neg (fun h => hp ⟨by omega, by omega, by omega, by omega⟩)]
        have C1 := hide (fun W => hex_any ((b : Int) / 16) (by omega) (by omega) W)
        have C2 := hide (fun W => hex_any ((b : Int) % 16) (by omega) (by omega) W)
        generalize hexB ((b : Int) / 16) = x at *
        generalize hexB ((b : Int) % 16) = y at *
        have HOW := hide OW
        have HTE := hide TE
        clear hs1 OW TE
        rcases (by omega : b < 32 ∨ (32 ≤ b ∧ 126 < b) ∨ b = 34 ∨ b = 92) with k | ⟨k, k2⟩ | k | k
        · have z1 : ¬ (32 : Int) ≤ (b : Int) := by omega
          clear hp
          obtain ⟨a4, c4, w6, hr, ow, t2⟩ := by_appN [92, 120, x, y] HOW.out hsz (by simp only [List.length_cons, List.length_nil]; omega)
          rw [← hE] at ow hr
          have hr' : (Builtin.append_ #[55, 55] 55 #[.slice a (q i).length c, .slice (some ⟨wr.heap.size, 0, none⟩) 4 4]).run Tryd.prog (wr.alloc (.cells #[.int .u8 92, .int .u8 120, .int .u8 x, .int .u8 y] 5)) = .ok (.slice a4 (q (i + 1)).length c4) w6 := hr
          have HR := hide hr'
          have HO := hide ow
          have HT := hide (Rc.Own.fresh (w0 := w) HOW.out t2 (fun _ h => h) HTE.out (Nat.le_refl _))
          have d1 : IntKind.u8.wrap (Int.tdiv (b : Int) 16) = (b : Int) / 16 := by rw [IntKind.wrap_u8, Int.tdiv_eq_ediv_of_nonneg (by omega)]; omega
          have d2 : Int.tmod (b : Int) 16 = (b : Int) % 16 := Int.tmod_eq_emod_of_nonneg (by omega)
          clear ow hr hr' t2 hE HOW HTE hl1
          go_wp2_with fail
          refine (C1.out _).mono ?_
          rintro r w5 ⟨rfl, hq5⟩
          subst hq5
          go_wp2_with fail
          refine (C2.out _).mono ?_
          rintro r w5 ⟨rfl, hq5⟩
          subst hq5
          go_wp2_with (at_builtin; refine Rc.wpList_appR rfl (.tmp 34) (.tmp 41) 55 55 rfl _ _ _ rfl rfl HR.out ?_)
          go_roundw
          case rel => exact ⟨i + 1, a4, c4, by go_num, by omega, rfl, HO.out, HT.out⟩
          case measure => simp [intOf]; omega
        · have z1 : (32 : Int) ≤ (b : Int) := by omega
          have z2 : ¬ (b : Int) ≤ 126 := by omega
          clear hp
          obtain ⟨a4, c4, w6, hr, ow, t2⟩ := by_appN [92, 120, x, y] HOW.out hsz (by simp only [List.length_cons, List.length_nil]; omega)
          rw [← hE] at ow hr
          have hr' : (Builtin.append_ #[55, 55] 55 #[.slice a (q i).length c, .slice (some ⟨wr.heap.size, 0, none⟩) 4 4]).run Tryd.prog (wr.alloc (.cells #[.int .u8 92, .int .u8 120, .int .u8 x, .int .u8 y] 5)) = .ok (.slice a4 (q (i + 1)).length c4) w6 := hr
          have HR := hide hr'
          have HO := hide ow
          have HT := hide (Rc.Own.fresh (w0 := w) HOW.out t2 (fun _ h => h) HTE.out (Nat.le_refl _))
          have d1 : IntKind.u8.wrap (Int.tdiv (b : Int) 16) = (b : Int) / 16 := by rw [IntKind.wrap_u8, Int.tdiv_eq_ediv_of_nonneg (by omega)]; omega
          have d2 : Int.tmod (b : Int) 16 = (b : Int) % 16 := Int.tmod_eq_emod_of_nonneg (by omega)
          clear ow hr hr' t2 hE HOW HTE hl1
          go_wp2_with fail
          refine (C1.out _).mono ?_
          rintro r w5 ⟨rfl, hq5⟩
          subst hq5
          go_wp2_with fail
          refine (C2.out _).mono ?_
          rintro r w5 ⟨rfl, hq5⟩
          subst hq5
          go_wp2_with (at_builtin; refine Rc.wpList_appR rfl (.tmp 34) (.tmp 41) 55 55 rfl _ _ _ rfl rfl HR.out ?_)
          go_roundw
          case rel => exact ⟨i + 1, a4, c4, by go_num, by omega, rfl, HO.out, HT.out⟩
          case measure => simp [intOf]; omega
        · have z1 : (32 : Int) ≤ (b : Int) := by omega
          have z2 : (b : Int) ≤ 126 := by omega
          have z3 : ((b : Int) != 34) = false := by rw [bne_eq_false_iff_eq]; omega
          clear hp k
          obtain ⟨a4, c4, w6, hr, ow, t2⟩ := by_appN [92, 120, x, y] HOW.out hsz (by simp only [List.length_cons, List.length_nil]; omega)
          rw [← hE] at ow hr
          have hr' : (Builtin.append_ #[55, 55] 55 #[.slice a (q i).length c, .slice (some ⟨wr.heap.size, 0, none⟩) 4 4]).run Tryd.prog (wr.alloc (.cells #[.int .u8 92, .int .u8 120, .int .u8 x, .int .u8 y] 5)) = .ok (.slice a4 (q (i + 1)).length c4) w6 := hr
          have HR := hide hr'
          have HO := hide ow
          have HT := hide (Rc.Own.fresh (w0 := w) HOW.out t2 (fun _ h => h) HTE.out (Nat.le_refl _))
          have d1 : IntKind.u8.wrap (Int.tdiv (b : Int) 16) = (b : Int) / 16 := by rw [IntKind.wrap_u8, Int.tdiv_eq_ediv_of_nonneg (by omega)]; omega
          have d2 : Int.tmod (b : Int) 16 = (b : Int) % 16 := Int.tmod_eq_emod_of_nonneg (by omega)
          clear ow hr hr' t2 hE HOW HTE hl1
          go_wp2_with fail
          refine (C1.out _).mono ?_
          rintro r w5 ⟨rfl, hq5⟩
          subst hq5
          go_wp2_with fail
          refine (C2.out _).mono ?_
          rintro r w5 ⟨rfl, hq5⟩
          subst hq5
          go_wp2_with (at_builtin; refine Rc.wpList_appR rfl (.tmp 34) (.tmp 41) 55 55 rfl _ _ _ rfl rfl HR.out ?_)
          go_roundw
          case rel => exact ⟨i + 1, a4, c4, by go_num, by omega, rfl, HO.out, HT.out⟩
          case measure => simp [intOf]; omega
        · have z1 : (32 : Int) ≤ (b : Int) := by omega
          have z2 : (b : Int) ≤ 126 := by omega
          have z3 : ((b : Int) != 34) = true := by rw [bne_iff_ne]; omega
          have z4 : ((b : Int) != 92) = false := by rw [bne_eq_false_iff_eq]; omega
          clear hp k
          obtain ⟨a4, c4, w6, hr, ow, t2⟩ := by_appN [92, 120, x, y] HOW.out hsz (by simp only [List.length_cons, List.length_nil]; omega)
          rw [← hE] at ow hr
          have hr' : (Builtin.append_ #[55, 55] 55 #[.slice a (q i).length c, .slice (some ⟨wr.heap.size, 0, none⟩) 4 4]).run Tryd.prog (wr.alloc (.cells #[.int .u8 92, .int .u8 120, .int .u8 x, .int .u8 y] 5)) = .ok (.slice a4 (q (i + 1)).length c4) w6 := hr
          have HR := hide hr'
          have HO := hide ow
          have HT := hide (Rc.Own.fresh (w0 := w) HOW.out t2 (fun _ h => h) HTE.out (Nat.le_refl _))
          have d1 : IntKind.u8.wrap (Int.tdiv (b : Int) 16) = (b : Int) / 16 := by rw [IntKind.wrap_u8, Int.tdiv_eq_ediv_of_nonneg (by omega)]; omega
          have d2 : Int.tmod (b : Int) 16 = (b : Int) % 16 := Int.tmod_eq_emod_of_nonneg (by omega)
          clear ow hr hr' t2 hE HOW HTE hl1
          go_wp2_with fail
          refine (C1.out _).mono ?_
          rintro r w5 ⟨rfl, hq5⟩
          subst hq5
          go_wp2_with fail
          refine (C2.out _).mono ?_
          rintro r w5 ⟨rfl, hq5⟩
          subst hq5
          go_wp2_with (at_builtin; refine Rc.wpList_appR rfl (.tmp 34) (.tmp 41) 55 55 rfl _ _ _ rfl rfl HR.out ?_)
          go_roundw
          case rel => exact ⟨i + 1, a4, c4, by go_num, by omega, rfl, HO.out, HT.out⟩
          case measure => simp [intOf]; omega
    · have hltz : ¬ (i : Int) < (s.size : Int) := by omega
      obtain rfl : i = s.size := by omega
      have hl1 := QL.out _ hi
      have hsz := TE.size
      obtain ⟨a4, c4, w4, hr, ow, t2⟩ := by_app 34 OW hsz (by omega)
      rw [← QA.out] at ow
      have e1 : Z.length = (q s.size).length + 1 := by rw [QA.out]; simp
      rw [← e1] at hr
      have hZ : Z ≠ [] := by rw [QA.out]; simp
      have HR := hide hr
      have cv := conv_own ow hZ
      have HT := hide (Rc.Own.fresh (w0 := w) OW t2 (fun _ h => h) TE (Nat.le_refl _))
      clear OW TE hr ow t2 e1 hl1 QA QL QS
      go_wp2_with (at_builtin; refine Rc.wpList_appR rfl (.tmp 43) (.tmp 44) 55 55 rfl _ _ _ rfl rfl HR.out ?_)
      go_ret
      exact ⟨rfl, HT.out⟩

end Go.Proofs.YtamfcmmhmfhhkaaDoor
