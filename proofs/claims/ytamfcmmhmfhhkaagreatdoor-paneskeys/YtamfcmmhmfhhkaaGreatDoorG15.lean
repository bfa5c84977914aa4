/- Begins (the document's). PanesKeys, walked over what the program is to answer. A pane's line behind a text (the program's write): notions, appends, the library's AppendInt. A pane's line behind a text (the program's write; the walk). -/
import Derived.Test.YtamfcmmhmfhhkaaGreatDoorG14
import Derived.Test.YtamfcmmhmfhhkaaGreatDoorG6
import Derived.Test.YtamfcmmhmfhhkaaGreatDoorG8
import Derived.Test.YtamfcmmhmfhhkaaGreatDoorG10
import Derived.Lib.BufferKept
import Derived.Test.YtamfcmmhmfhhkaaGreatDoorG5
import Derived.Great.BuildSlice
namespace Go.Proofs.YtamfcmmhmfhhkaaGreatDoor
open Go.RowKit

set_option maxRecDepth 100000 in
set_option maxHeartbeats 4000000 in
theorem rbegins_any (A B : List Pn) (ao bo : Option Addr) (ac bc : Nat) (w : World) (ha : encP.Mem w ao A) (hb : encP.Mem w bo B) (hl : A.length ≤ 1000000000) (hm : B.length ≤ 1000000000) : Calls Tryz.prog 12 #[.slice ao A.length ac, .slice bo B.length bc] w fun e w' => e = .returned (.bool (beginsP A B)) ∧ Calm w w' := by
  have CK := hide (rKeys_any A ao ac w ha hl)
  have CO : Hid (∀ key W, Calm w W → Calls Tryz.prog 15 #[.slice bo B.length bc, .string key] W fun e w' => RetP W e w' (ofP B key)) := hide fun key W hW => rof_any B key bo bc W (Rc.Mem.calm hb hW) (by omega)
  have LA : Hid (∀ k, (ofP A k).length ≤ 1000000000) := hide fun k => Nat.le_trans (ofP_le _ _) hl
  have LB : Hid (∀ k, (ofP B k).length ≤ 1000000000) := hide fun k => Nat.le_trans (ofP_le _ _) hm
  have hKl : (keysP A).length ≤ 1000000000 := by have := keysP_len A A.length (Nat.le_refl _); rw [List.take_length] at this; omega
  have HN : Hid (∀ j, j < (keysP A).length → okB A B ((keysP A).getD j ⟨#[]⟩) = false → beginsP A B = false) := hide fun j hj h => by
    unfold beginsP
    rw [List.all_eq_false]
    rw [List.getD_eq_getElem?_getD, List.getElem?_eq_getElem hj] at h
    exact ⟨_, List.getElem_mem hj, by simpa using h⟩
  have HE : Hid ((∀ j, j < (keysP A).length → okB A B ((keysP A).getD j ⟨#[]⟩) = true) → beginsP A B = true) := hide fun h => by
    unfold beginsP
    rw [List.all_eq_true]
    intro x hx
    obtain ⟨j, hj, rfl⟩ := List.getElem_of_mem hx
    have := h j hj
    rwa [List.getD_eq_getElem?_getD, List.getElem?_eq_getElem hj] at this
  unfold RetP at CO
  clear ha hb
  generalize beginsP A B = X at *
  generalize hK : keysP A = K at *
  go_enter Tryz.func12, Tryz.ntmps12
  go_wp2_with fail
  refine CK.out.mono ?_
  rintro e w1 ⟨a, c, P, rfl, hP, OP, IP, T1⟩
  have HT1 := hide T1
  have SX : Hid (∀ j, j < K.length → ∃ (g off : Nat) (o1 : Option Addr) (c1 : Nat), a = some ⟨g, off, none⟩ ∧ (∀ W, Calm w1 W → W.cell? ⟨g, off + j * 2, none⟩ = some (.string (K.getD j ⟨#[]⟩)) ∧ W.cell? ⟨g, off + j * 2 + 1, none⟩ = some (.slice o1 (ofP A (K.getD j ⟨#[]⟩)).length c1)) ∧ encP.Mem w1 o1 (ofP A (K.getD j ⟨#[]⟩))) := hide fun j hj => by
    obtain ⟨h1, h2, h3⟩ := IP j (by omega)
    obtain ⟨g, off, e1, k1⟩ := kp_W (Rc.Own.mem OP).2.1 j (by omega)
    rw [h1, h2] at k1
    exact ⟨g, off, _, _, e1, k1, (Rc.Own.mem h3).2.1⟩
  clear CK OP IP T1 hK hP
  generalize hnb : B.length = nb at *
  generalize hmk : K.length = m at *
  go_wp2_with fail
  go_loopw [6] (fun s6 wr => ∃ i : Nat, s6 = .int .i64 (i : Int) ∧ i ≤ m ∧ (∀ j, j < i → okB A B (K.getD j ⟨#[]⟩) = true) ∧ Calm w1 wr) (fun s6 _ => m - (intOf s6).toNat)
  case atStart => exact ⟨0, rfl, by omega, fun j hj => by omega, Touch.refl _ _⟩
  case round =>
    obtain ⟨i, rfl, hi, hA, hC⟩ := hrel
    by_cases hlt : i < m
    · have hltz : (i : Int) < (m : Int) := by omega
      obtain ⟨g, off, o1, c1, rfl, hK, hM⟩ := SX.out i hlt
      have KK := hide hK
      have HM := hide hM
      have HC := hide hC
      have C1 := hide (fun W hW => CO.out (K.getD i ⟨#[]⟩) W hW)
      have HN1 := hide (HN.out i hlt)
      have HA1 : Hid (okB A B (K.getD i ⟨#[]⟩) = true → ∀ j, j < i + 1 → okB A B (K.getD j ⟨#[]⟩) = true) := hide fun h j hj => by
        rcases Nat.lt_or_ge j i with h3 | h3
        · exact hA j h3
        · obtain rfl : j = i := by omega
          exact h
      generalize K.getD i ⟨#[]⟩ = key at *
      have hla := LA.out key
      have hlb := LB.out key
      have OK0 : Hid (okB A B key = (decide ((ofP A key).length ≤ (ofP B key).length) && decide (ofP A key = (ofP B key).take (ofP A key).length))) := hide rfl
      generalize okB A B key = ok at *
      generalize ofP A key = z at *
      generalize ofP B key = y at *
      obtain ⟨q0, q1⟩ := hK wr hC
      clear SX hK hM hC CO HN HE LA LB hA
      go_wp2_with fail
      refine (C1.out _ (HT1.out.tr HC.out)).mono ?_
      rintro e w5 ⟨a2, c2, rfl, O2, T5⟩
      obtain ⟨i0, hi0, -, -, -⟩ := Rc.info_parts infoPane
      have H5 := hide (HC.out.tr T5)
      by_cases hyz : y.length < z.length
      · have hyzz : (y.length : Int) < (z.length : Int) := by omega
        have hX := HN1.out (by rw [OK0.out, decide_eq_false (by omega)]; rfl)
        subst hX
        obtain ⟨-, q2⟩ := KK.out w5 H5.out
        clear O2 T5 HC C1 HA1 OK0 HM q0 q1 hi0 HN1
        go_wp2_with fail
        refine wp_region_held (S := Calm w1) (by kernel_rfl) ?_
        have hT0 : Calm w1 { w5 with drawn := w5.drawn + 1 } := H5.out.drew
        refine wpAnyH_yield 0 30 (.slice a2 y.length c2) rfl rfl (by kernel_rfl) (by kernel_rfl) (by kernel_rfl) (fun _ _ _ h => h) (by kernel_rfl) (fun W hW => by kernel_rfl) (by assumption) rfl rfl ?_
        simp only [Act.put, List.setIfInBounds_toArray, List.set_cons_zero, List.set_cons_succ]
        refine wpAnyH_yield 1 31 (.int .i64 (y.length : Int)) rfl rfl (by kernel_rfl) (by kernel_rfl) (by kernel_rfl) (fun _ _ _ h => h) (by kernel_rfl) (fun W hW => by go_simp) (by assumption) rfl rfl ?_
        simp only [Act.put, List.setIfInBounds_toArray, List.set_cons_zero, List.set_cons_succ]
        refine wpAnyH_yield 2 32 (.int .i64 (z.length : Int)) rfl rfl (by kernel_rfl) (by kernel_rfl) (by kernel_rfl) (fun _ _ _ h => h) (by kernel_rfl) (fun W hW => by kernel_rfl) (by assumption) rfl rfl ?_
        simp only [Act.put, List.setIfInBounds_toArray, List.set_cons_zero, List.set_cons_succ]
        refine wpAnyH_yield 3 33 (.bool true) rfl rfl (by kernel_rfl) (by kernel_rfl) (by kernel_rfl) (fun _ _ _ h => h) (by kernel_rfl) (fun W hW => by go_simp) (by assumption) rfl rfl ?_
        simp only [Act.put, List.setIfInBounds_toArray, List.set_cons_zero, List.set_cons_succ]
        refine wpAnyH_yield 4 34 (.bool true) rfl rfl (by kernel_rfl) (by kernel_rfl) (by kernel_rfl) (fun _ _ _ h => h) (by kernel_rfl) (fun W hW => by kernel_rfl) (by assumption) rfl rfl ?_
        simp only [Act.put, List.setIfInBounds_toArray, List.set_cons_zero, List.set_cons_succ]
        refine wpAnyH_skip 5 35 rfl rfl (by kernel_rfl) (by kernel_rfl) (by kernel_rfl) (fun _ _ _ h => h) (by kernel_rfl) (by assumption) rfl rfl ?_
        simp only [Act.put, List.setIfInBounds_toArray, List.set_cons_zero, List.set_cons_succ]
        refine wpAnyH_skip 6 36 rfl rfl (by kernel_rfl) (by kernel_rfl) (by kernel_rfl) (fun _ _ _ h => h) (by kernel_rfl) (by assumption) rfl rfl ?_
        simp only [Act.put, List.setIfInBounds_toArray, List.set_cons_zero, List.set_cons_succ]
        refine wpAnyH_skip 7 37 rfl rfl (by kernel_rfl) (by kernel_rfl) (by kernel_rfl) (fun _ _ _ h => h) (by kernel_rfl) (by assumption) rfl rfl ?_
        simp only [Act.put, List.setIfInBounds_toArray, List.set_cons_zero, List.set_cons_succ]
        refine wpAnyH_skip 8 38 rfl rfl (by kernel_rfl) (by kernel_rfl) (by kernel_rfl) (fun _ _ _ h => h) (by kernel_rfl) (by assumption) rfl rfl ?_
        simp only [Act.put, List.setIfInBounds_toArray, List.set_cons_zero, List.set_cons_succ]
        refine wpAnyH_skip 9 39 rfl rfl (by kernel_rfl) (by kernel_rfl) (by kernel_rfl) (fun _ _ _ h => h) (by kernel_rfl) (by assumption) rfl rfl ?_
        simp only [Act.put, List.setIfInBounds_toArray, List.set_cons_zero, List.set_cons_succ]
        refine wpAnyH_skip 10 40 rfl rfl (by kernel_rfl) (by kernel_rfl) (by kernel_rfl) (fun _ _ _ h => h) (by kernel_rfl) (by assumption) rfl rfl ?_
        simp only [Act.put, List.setIfInBounds_toArray, List.set_cons_zero, List.set_cons_succ]
        refine wpAnyH_skip 11 41 rfl rfl (by kernel_rfl) (by kernel_rfl) (by kernel_rfl) (fun _ _ _ h => h) (by kernel_rfl) (by assumption) rfl rfl ?_
        simp only [Act.put, List.setIfInBounds_toArray, List.set_cons_zero, List.set_cons_succ]
        refine wpAnyH_skip 12 42 rfl rfl (by kernel_rfl) (by kernel_rfl) (by kernel_rfl) (fun _ _ _ h => h) (by kernel_rfl) (by assumption) rfl rfl ?_
        simp only [Act.put, List.setIfInBounds_toArray, List.set_cons_zero, List.set_cons_succ]
        refine wpAnyH_skip 13 43 rfl rfl (by kernel_rfl) (by kernel_rfl) (by kernel_rfl) (fun _ _ _ h => h) (by kernel_rfl) (by assumption) rfl rfl ?_
        simp only [Act.put, List.setIfInBounds_toArray, List.set_cons_zero, List.set_cons_succ]
        refine wpAnyH_skip 14 44 rfl rfl (by kernel_rfl) (by kernel_rfl) (by kernel_rfl) (fun _ _ _ h => h) (by kernel_rfl) (by assumption) rfl rfl ?_
        simp only [Act.put, List.setIfInBounds_toArray, List.set_cons_zero, List.set_cons_succ]
        refine wpAnyH_yield 15 45 (.bool true) rfl rfl (by kernel_rfl) (by kernel_rfl) (by kernel_rfl) (fun _ _ _ h => h) (by kernel_rfl) (fun W hW => by kernel_rfl) (by assumption) rfl rfl ?_
        simp only [Act.put, List.setIfInBounds_toArray, List.set_cons_zero, List.set_cons_succ]
        refine wpAnyH_done (by kernel_rfl) ?_ _
        have H6 := hide (HT1.out.tr hT0)
        clear hT0 H5 KK
        go_wp2_with fail
        go_ret
        exact ⟨rfl, H6.out⟩
      · have hyzz : ¬ (y.length : Int) < (z.length : Int) := by omega
        obtain ⟨so, sc, hsl, m1, n1⟩ := Rc.Sl.to Tryz.underlying22 elemPane hi0 (k := z.length) (Rc.Own.sl O2) (by omega)
        have ht : (y.take z.length).length = z.length := by rw [List.length_take]; omega
        have OK1 : Hid (ok = decide (z = y.take z.length)) := hide (by rw [OK0.out, decide_eq_true (by omega), Bool.true_and])
        have CS : Hid (∀ W, Calm w5 W → Calls Tryz.prog 14 #[.slice o1 z.length c1, .slice so z.length sc] W fun e w' => e = .returned (.bool ok) ∧ Calm W w') := hide fun W hW => by
          have := sameP_any z (y.take z.length) o1 so c1 sc W (Rc.Mem.calm HM.out (H5.out.tr hW)) (Rc.Mem.calm m1 hW) (by omega) (by omega)
          rwa [ht, ← OK1.out] at this
        have HSL := hide hsl
        have S5 : Hid (∀ W, Calm w5 W → Calm w1 W) := hide fun W hW => H5.out.tr hW
        obtain ⟨-, q2⟩ := KK.out w5 H5.out
        clear O2 T5 HC C1 OK0 HM q0 q1 hi0 hsl m1 n1 ht OK1
        go_wp2_with fail
        refine wp_region_held (S := Calm w5) (by kernel_rfl) ?_
        have hT0 : Calm w5 { w5 with drawn := w5.drawn + 1 } := (Touch.refl _ w5).drew
        refine wpAnyH_yield 0 30 (.slice a2 y.length c2) rfl rfl (by kernel_rfl) (by kernel_rfl) (by kernel_rfl) (fun _ _ _ h => h) (by kernel_rfl) (fun W hW => by kernel_rfl) (by assumption) rfl rfl ?_
        simp only [Act.put, List.setIfInBounds_toArray, List.set_cons_zero, List.set_cons_succ]
        refine wpAnyH_yield 1 31 (.int .i64 (y.length : Int)) rfl rfl (by kernel_rfl) (by kernel_rfl) (by kernel_rfl) (fun _ _ _ h => h) (by kernel_rfl) (fun W hW => by go_simp) (by assumption) rfl rfl ?_
        simp only [Act.put, List.setIfInBounds_toArray, List.set_cons_zero, List.set_cons_succ]
        refine wpAnyH_yield 2 32 (.int .i64 (z.length : Int)) rfl rfl (by kernel_rfl) (by kernel_rfl) (by kernel_rfl) (fun _ _ _ h => h) (by kernel_rfl) (fun W hW => by kernel_rfl) (by assumption) rfl rfl ?_
        simp only [Act.put, List.setIfInBounds_toArray, List.set_cons_zero, List.set_cons_succ]
        refine wpAnyH_yield 3 33 (.bool false) rfl rfl (by kernel_rfl) (by kernel_rfl) (by kernel_rfl) (fun _ _ _ h => h) (by kernel_rfl) (fun W hW => by go_simp) (by assumption) rfl rfl ?_
        simp only [Act.put, List.setIfInBounds_toArray, List.set_cons_zero, List.set_cons_succ]
        refine wpAnyH_yield 4 34 (.bool false) rfl rfl (by kernel_rfl) (by kernel_rfl) (by kernel_rfl) (fun _ _ _ h => h) (by kernel_rfl) (fun W hW => by kernel_rfl) (by assumption) rfl rfl ?_
        simp only [Act.put, List.setIfInBounds_toArray, List.set_cons_zero, List.set_cons_succ]
        refine wpAnyH_yield 5 35 (.slice (some ⟨g, off, none⟩) m c) rfl rfl (by kernel_rfl) (by kernel_rfl) (by kernel_rfl) (fun _ _ _ h => h) (by kernel_rfl) (fun W hW => by kernel_rfl) (by assumption) rfl rfl ?_
        simp only [Act.put, List.setIfInBounds_toArray, List.set_cons_zero, List.set_cons_succ]
        refine wpAnyH_yield 6 36 (.int .i64 (i : Int)) rfl rfl (by kernel_rfl) (by kernel_rfl) (by kernel_rfl) (fun _ _ _ h => h) (by kernel_rfl) (fun W hW => by kernel_rfl) (by assumption) rfl rfl ?_
        simp only [Act.put, List.setIfInBounds_toArray, List.set_cons_zero, List.set_cons_succ]
        refine wpAnyH_yield 7 37 (.pointer (some ⟨g, off + i * 2, none⟩)) rfl rfl (by kernel_rfl) (by kernel_rfl) (by kernel_rfl) (fun _ _ _ h => h) (by kernel_rfl) (fun W hW => by go_simp) (by assumption) rfl rfl ?_
        simp only [Act.put, List.setIfInBounds_toArray, List.set_cons_zero, List.set_cons_succ]
        refine wpAnyH_yield 8 38 (.pointer (some ⟨g, off + i * 2 + 1, none⟩)) rfl rfl (by kernel_rfl) (by kernel_rfl) (by kernel_rfl) (fun _ _ _ h => h) (by kernel_rfl) (fun W hW => by go_simp) (by assumption) rfl rfl ?_
        simp only [Act.put, List.setIfInBounds_toArray, List.set_cons_zero, List.set_cons_succ]
        refine wpAnyH_yield 9 39 (.slice o1 z.length c1) rfl rfl (by kernel_rfl) (by kernel_rfl) (by kernel_rfl) (fun _ _ _ h => h) (by kernel_rfl) (fun W hW => by obtain ⟨-, q⟩ := KK.out W (S5.out W hW); go_simp) (by assumption) rfl rfl ?_
        simp only [Act.put, List.setIfInBounds_toArray, List.set_cons_zero, List.set_cons_succ]
        refine wpAnyH_yield 10 40 (.slice a2 y.length c2) rfl rfl (by kernel_rfl) (by kernel_rfl) (by kernel_rfl) (fun _ _ _ h => h) (by kernel_rfl) (fun W hW => by kernel_rfl) (by assumption) rfl rfl ?_
        simp only [Act.put, List.setIfInBounds_toArray, List.set_cons_zero, List.set_cons_succ]
        refine wpAnyH_yield 11 41 (.int .i64 (z.length : Int)) rfl rfl (by kernel_rfl) (by kernel_rfl) (by kernel_rfl) (fun _ _ _ h => h) (by kernel_rfl) (fun W hW => by kernel_rfl) (by assumption) rfl rfl ?_
        simp only [Act.put, List.setIfInBounds_toArray, List.set_cons_zero, List.set_cons_succ]
        refine wpAnyH_yield 12 42 (.slice so z.length sc) rfl rfl (by kernel_rfl) (by kernel_rfl) (by kernel_rfl) (fun _ _ _ h => h) (by kernel_rfl) (fun W hW => by have q := HSL.out W; go_simp) (by assumption) rfl rfl ?_
        simp only [Act.put, List.setIfInBounds_toArray, List.set_cons_zero, List.set_cons_succ]
        refine wpAnyH_enter 13 43 14 #[.slice o1 z.length c1, .slice so z.length sc] rfl rfl (by kernel_rfl) (by kernel_rfl) (by kernel_rfl) ?_
        refine (CS.out _ hT0).mono ?_
        rintro r w6 ⟨rfl, T6⟩
        have h6 : Calm w5 w6 := hT0.tr T6
        refine ⟨_, rfl, h6, ?_⟩
        simp only [Act.put, List.setIfInBounds_toArray, List.set_cons_zero, List.set_cons_succ]
        refine wpAnyH_yield 14 44 (.bool (!ok)) rfl rfl (by kernel_rfl) (by kernel_rfl) (by kernel_rfl) (fun _ _ _ h => h) (by kernel_rfl) (fun W hW => by go_simp) (by assumption) rfl rfl ?_
        simp only [Act.put, List.setIfInBounds_toArray, List.set_cons_zero, List.set_cons_succ]
        refine wpAnyH_yield 15 45 (.bool (!ok)) rfl rfl (by kernel_rfl) (by kernel_rfl) (by kernel_rfl) (fun _ _ _ h => h) (by kernel_rfl) (fun W hW => by kernel_rfl) (by assumption) rfl rfl ?_
        simp only [Act.put, List.setIfInBounds_toArray, List.set_cons_zero, List.set_cons_succ]
        refine wpAnyH_done (by kernel_rfl) ?_ _
        have H6 := hide (H5.out.tr h6)
        clear hT0 T6 h6 H5 KK CS HSL S5
        cases ok with
        | false =>
          have hX := HN1.out rfl
          subst hX
          have H7 := hide (HT1.out.tr H6.out)
          go_wp2_with fail
          go_ret
          exact ⟨rfl, H7.out⟩
        | true =>
          have HA2 := hide (HA1.out rfl)
          clear HN1 HA1
          go_wp2_with fail
          go_roundw
          case rel => exact ⟨i + 1, by go_num, by omega, HA2.out, H6.out⟩
          case measure => simp [intOf]; omega
    · have hltz : ¬ (i : Int) < (m : Int) := by omega
      obtain rfl : i = m := by omega
      have hX := HE.out hA
      subst hX
      have HC := hide (HT1.out.tr hC)
      clear SX hC CO HN HE
      go_wp2_with fail
      go_ret
      exact ⟨rfl, HC.out⟩

end Go.Proofs.YtamfcmmhmfhhkaaGreatDoor

namespace Go.Proofs.YtamfcmmhmfhhkaaGreatDoor
open Go.RowKit

theorem Touch.next {S : Nat → Prop} {a b c : World} (h : Touch S a b) (t : Calm b c) : Touch S a c := Touch.trans h t fun _ _ h => h.elim
/-- The blocks from a to b. -/
abbrev Rg (a b : Nat) : Nat → Prop := fun g => a ≤ g ∧ g < b
set_option maxRecDepth 100000 in
set_option maxHeartbeats 16000000 in
theorem keys18_walk (I : Ppl) (L M : List Pn) (ao bo : Option Addr) (ac bc : Nat) (key : ByteArray) (w : World) (hs : encP.Sl w ao ac L) (ht : encP.Sl w bo bc M) (hY : Yv w) (hK : KeyB L) : Calls Tryz.prog 3 #[.slice ao L.length ac, .slice bo M.length bc, .string key] w fun e w' => e = .returned (.bool true) ∧ Calm w w' := by
  have CK := hide (fun W (h : Calm w W) => known18_any I.toPpk W (hY.calm h))
  have HKB := hide hK
  clear hK
  by_cases hn : L.length ≤ 200
  case neg =>
    generalize L.length = n at *
    generalize M.length = m at *
    have hnz : (200 : Int) < (n : Int) := by omega
    clear I hs ht
    go_enter Tryz.func3, Tryz.ntmps3
    go_wp2_with fail
    refine (CK.out _ (Touch.refl _ _)).mono ?_
    rintro e w1 ⟨rfl, T1⟩
    have HT := hide T1
    clear T1 CK
    go_wp2_with fail
    go_ret
    exact ⟨rfl, HT.out⟩
  by_cases hm : M.length ≤ 200
  case neg =>
    generalize L.length = n at *
    generalize M.length = m at *
    have hnz : ¬ (200 : Int) < (n : Int) := by omega
    have hmz : (200 : Int) < (m : Int) := by omega
    clear I hs ht
    go_enter Tryz.func3, Tryz.ntmps3
    go_wp2_with fail
    refine (CK.out _ (Touch.refl _ _)).mono ?_
    rintro e w1 ⟨rfl, T1⟩
    have HT := hide T1
    clear T1 CK
    go_wp2_with fail
    go_ret
    exact ⟨rfl, HT.out⟩
  have hnz : ¬ (200 : Int) < (L.length : Int) := by omega
  have hmz : ¬ (200 : Int) < (M.length : Int) := by omega
  have HS := hide hs
  have HTs := hide ht
  have HI := hide I
  clear I hs ht
  go_enter Tryz.func3, Tryz.ntmps3
  go_wp2_with fail
  refine (lentP_any ao ac L w HS.out (by omega)).mono ?_
  rintro e w1 ⟨g1, c1, rfl, l1, T1⟩
  have l1 := hide l1
  have T1 := hide T1
  go_wp2_with fail
  refine (lentP_any bo bc M w1 (Rc.Sl.calm HTs.out T1.out) (by omega)).mono ?_
  rintro e w2 ⟨g2, c2, rfl, l2, T2⟩
  have l2 := hide l2
  have T2 := hide T2
  have m1 := hide (l1.out.calm T2.out)
  go_wp2_with fail
  refine (HI.out.keys L _ _ w2 m1.out.sl (by omega) HKB.out).mono ?_
  rintro e w3 ⟨aA, cA, PA, rfl, lA, OA, KA, apA, T3⟩
  rw [lA] at OA ⊢
  have lA := hide lA
  have OA := hide OA
  have KA := hide KA
  have apA := hide apA
  have T3 := hide T3
  go_wp2_with fail
  refine (HI.out.keys L _ _ w3 (m1.out.calm T3.out).sl (by omega) HKB.out).mono ?_
  rintro e w4 ⟨aB, cB, PB, rfl, lB, OB, KB, -, T4⟩
  rw [lB] at OB ⊢
  have lB := hide lB
  have OB := hide OB
  have KB := hide KB
  have T4 := hide T4
  have m4 := hide ((m1.out.calm T3.out).calm T4.out)
  go_wp2_with fail
  refine (HI.out.last L _ _ w4 m4.out.sl (by omega) HKB.out).mono ?_
  rintro e w5 ⟨aC, cC, rfl, OC, T5⟩
  have OC := hide OC
  have T5 := hide T5
  have m5 := hide (m4.out.calm T5.out)
  go_wp2_with fail
  refine (HI.out.last L _ _ w5 m5.out.sl (by omega) HKB.out).mono ?_
  rintro e w6 ⟨aD, cD, rfl, OD, T6⟩
  have OD := hide OD
  have T6 := hide T6
  have m6 := hide (m5.out.calm T6.out)
  go_wp2_with fail
  refine (HI.out.of L key _ _ w6 m6.out.sl (by omega) HKB.out).mono ?_
  rintro e w7 ⟨aE, cE, rfl, OE, T7⟩
  have OE := hide OE
  have T7 := hide T7
  have m7 := hide (m6.out.calm T7.out)
  go_wp2_with fail
  refine (HI.out.of L key _ _ w7 m7.out.sl (by omega) HKB.out).mono ?_
  rintro e w8 ⟨aF, cF, rfl, OF, T8⟩
  have OF := hide OF
  have T8 := hide T8
  have W8 := hide (((((((T1.out.tr T2.out).tr T3.out).tr T4.out).tr T5.out).tr T6.out).tr T7.out).tr T8.out)
  go_wp2_with fail
  refine (rKeys_any L ao ac w8 (Rc.Sl.calm HS.out W8.out).mem (by omega)).mono ?_
  rintro e w9 ⟨aG, cG, PG, rfl, lG, OG, KG, T9⟩
  have lG := hide lG
  have OG := hide OG
  have KG := hide KG
  have T9 := hide T9
  have W9 := hide (W8.out.tr T9.out)
  go_wp2_with fail
  refine (rlast_any L ao ac w9 (Rc.Sl.calm HS.out W9.out).mem (by omega)).mono ?_
  rintro e w10 ⟨aH, cH, rfl, OH, T10⟩
  have OH := hide OH
  have T10 := hide T10
  have W10 := hide (W9.out.tr T10.out)
  go_wp2_with fail
  refine (rbegins_any L M ao bo ac bc w10 (Rc.Sl.calm HS.out W10.out).mem (Rc.Sl.calm HTs.out W10.out).mem (by omega) (by omega)).mono ?_
  rintro e w11 ⟨rfl, T11⟩
  have T11 := hide T11
  have W11 := hide (W10.out.tr T11.out)
  go_wp2_with fail
  refine (rbegins_any M L bo ao bc ac w11 (Rc.Sl.calm HTs.out W11.out).mem (Rc.Sl.calm HS.out W11.out).mem (by omega) (by omega)).mono ?_
  rintro e w12 ⟨rfl, T12⟩
  have T12 := hide T12
  have W12 := hide (W11.out.tr T12.out)
  have l12 := hide ((m7.out.calm T8.out).calm (((T9.out.tr T10.out).tr T11.out).tr T12.out))
  have o12 := hide (((((((l2.out.calm T3.out).calm T4.out).calm T5.out).calm T6.out).calm T7.out).calm T8.out).calm (((T9.out.tr T10.out).tr T11.out).tr T12.out))
  clear m4 m5 m6 m7 W8 W9 W10 W11 l1 l2
  have z2 := (T1.out.tr T2.out).size
  have z3 := T3.out.size
  have z4 := T4.out.size
  have z5 := T5.out.size
  have z6 := T6.out.size
  have z7 := T7.out.size
  have z8 := T8.out.size
  have e10 := ((T11.out).tr T12.out)
  have e9 := (T10.out).tr e10
  have e8 := (T9.out).tr e9
  have e7 := (T8.out).tr e8
  have e6 := (T7.out).tr e7
  have e5 := (T6.out).tr e6
  have e4 := (T5.out).tr e5
  have e3 := (T4.out).tr e4
  have e2 := (T3.out).tr e3
  have z12 := e8.size
  have hPl : (lastP L).length ≤ 1000000 := by
    have := lastP_len L
    omega
  have hKl : (keysP L).length ≤ 200 := by
    have := keysP_len L L.length (Nat.le_refl _)
    rw [List.take_length] at this; omega
  have hOl : (ofP L key).length ≤ 1000000 := by have := ofP_le L key; omega
  obtain ⟨F, hF⟩ : ∃ F : Nat → Prop, ∀ g, F g ↔ Rg w2.heap.size w3.heap.size g ∨ Rg w4.heap.size w5.heap.size g ∨ Rg w6.heap.size w7.heap.size g := ⟨_, fun _ => Iff.rfl⟩
  have TF : ∀ (v W : World), Calm v w12 → Touch F w12 W → Touch F v W := fun v W h hW => Touch.trans (h.mono fun _ _ h => h.elim) hW fun _ _ h => h
  have CW : Hid (∀ W, Touch F w12 W → Calm w W) := hide fun W hW => W12.out.trans hW fun g hg e => by
    have := (hF g).1 e; unfold Rg at this; omega
  have CW2 : Hid (∀ W, Touch F w12 W → Calm w2 W) := hide fun W hW => e2.trans hW fun g hg e => by
    have := (hF g).1 e; unfold Rg at this; omega
  have X1 : Hid (∀ W, Calm w12 W → Calls Tryz.prog 13 #[.slice aA (keysP L).length cA, .slice aG (keysP L).length cG] W fun e w' => e = .returned (.bool true) ∧ Calm W w') := hide fun W h => by
    have q1 := OA.out
    rw [← lA.out] at q1
    have q2 := OG.out
    rw [← lG.out] at q2
    have := twoKeys (c1 := cA) (c2 := cG) (Rc.Own.mem (Rc.Own.calm q1 (e3.tr h))).2.1 (Rc.Own.mem (Rc.Own.calm q2 (e9.tr h))).2.1 lA.out lG.out (KA.out.calm (e3.tr h)) (KG.out.calm (e9.tr h)) (by omega)
    rw [lA.out, lG.out] at this
    exact this
  have Y1 : Hid (∀ W, Touch F w12 W → Calls Tryz.prog 13 #[.slice aB (keysP L).length cB, .slice aG (keysP L).length cG] W fun e w' => e = .returned (.bool true) ∧ Calm W w') := hide fun W h => by
    have q1 := own_keep OB.out (TF _ W e4 h) fun g h1 h2 hg => by have := (hF g).1 hg; unfold Rg at this; omega
    rw [← lB.out] at q1
    have q2 := own_keep OG.out (TF _ W e9 h) fun g h1 h2 hg => by have := (hF g).1 hg; unfold Rg at this; omega
    rw [← lG.out] at q2
    have := twoKeys (c1 := cB) (c2 := cG) (Rc.Own.mem q1).2.1 (Rc.Own.mem q2).2.1 lB.out lG.out (KB.out.keep (TF _ W e4 h) fun g h1 h2 hg => by have := (hF g).1 hg; unfold Rg at this; omega) (KG.out.keep (TF _ W e9 h) fun g h1 h2 hg => by have := (hF g).1 hg; unfold Rg at this; omega) (by omega)
    rw [lB.out, lG.out] at this
    exact this
  have X2 : Hid (∀ W, Calm w12 W → Calls Tryz.prog 14 #[.slice aC (lastP L).length cC, .slice aH (lastP L).length cH] W fun e w' => e = .returned (.bool true) ∧ Calm W w') := hide fun W h => by
    have := sameP_any (lastP L) (lastP L) aC aH cC cH W (Rc.Mem.calm (Rc.Own.mem OC.out).2.1 (e5.tr h)) (Rc.Mem.calm (Rc.Own.mem OH.out).2.1 (e10.tr h)) (by omega) (by omega)
    rw [decide_eq_true rfl] at this
    exact this
  have Y2 : Hid (∀ W, Touch F w12 W → Calls Tryz.prog 14 #[.slice aD (lastP L).length cD, .slice aH (lastP L).length cH] W fun e w' => e = .returned (.bool true) ∧ Calm W w') := hide fun W h => by
    have q1 := own_keep OD.out (TF _ W e6 h) fun g h1 h2 hg => by have := (hF g).1 hg; unfold Rg at this; omega
    have q2 := own_keep OH.out (TF _ W e10 h) fun g h1 h2 hg => by have := (hF g).1 hg; have := T9.out.size; unfold Rg at *; omega
    have := sameP_any (lastP L) (lastP L) aD aH cD cH W (Rc.Own.mem q1).2.1 (Rc.Own.mem q2).2.1 (by omega) (by omega)
    rw [decide_eq_true rfl] at this
    exact this
  have X3 : Hid (∀ W, Calm w W → Calls Tryz.prog 15 #[.slice ao L.length ac, .string key] W fun e w' => RetP W e w' (ofP L key)) := hide fun W h => rof_any L key ao ac W (Rc.Sl.calm HS.out h).mem (by omega)
  have X4 : Hid (∀ W a c, Calm w12 W → encP.Mem W a (ofP L key) → Calls Tryz.prog 14 #[.slice aE (ofP L key).length cE, .slice a (ofP L key).length c] W fun e w' => e = .returned (.bool true) ∧ Calm W w') := hide fun W a c h hM => by
    have := sameP_any (ofP L key) (ofP L key) aE a cE c W (Rc.Mem.calm (Rc.Own.mem OE.out).2.1 (e7.tr h)) hM (by omega) (by omega)
    rw [decide_eq_true rfl] at this
    exact this
  have Y4 : Hid (∀ W a c, Touch F w12 W → encP.Mem W a (ofP L key) → Calls Tryz.prog 14 #[.slice aF (ofP L key).length cF, .slice a (ofP L key).length c] W fun e w' => e = .returned (.bool true) ∧ Calm W w') := hide fun W a c h hM => by
    have q1 := own_keep OF.out (TF _ W e8 h) fun g h1 h2 hg => by have := (hF g).1 hg; unfold Rg at this; omega
    have := sameP_any (ofP L key) (ofP L key) aF a cF c W (Rc.Own.mem q1).2.1 hM (by omega) (by omega)
    rw [decide_eq_true rfl] at this
    exact this
  have X5 : Hid (∀ W, Calm w12 W → Calls Tryz.prog 16 #[.slice (some ⟨g1, 0, none⟩) L.length c1, .slice (some ⟨g2, 0, none⟩) M.length c2] W fun e w' => e = .returned (.bool (beginsP L M)) ∧ Calm W w') := hide fun W h => HI.out.begins L M _ _ _ _ W (l12.out.calm h).sl (o12.out.calm h).sl (by omega) (by omega)
  have X6 : Hid (∀ W, Calm w12 W → Calls Tryz.prog 17 #[.slice (some ⟨g1, 0, none⟩) L.length c1, .slice (some ⟨g2, 0, none⟩) M.length c2] W fun e w' => e = .returned (.bool (beginsP L M && beginsP M L)) ∧ Calm W w') := hide fun W h => HI.out.alike L M _ _ _ _ W (l12.out.calm h).sl (o12.out.calm h).sl (by omega) (by omega)
  have X7 : Hid (∀ W, Calm w12 W → Calls Tryz.prog 18 #[.slice (some ⟨g1, 0, none⟩) L.length c1, .slice ao L.length ac] W fun e w' => e = .returned (.bool true) ∧ Calm W w') := hide fun W h => keptP_any _ g1 c1 ao ac L W (l12.out.calm h) (Rc.Sl.calm HS.out (W12.out.tr h)).mem (by omega)
  have X8 : Hid (∀ W, Calm w12 W → Calls Tryz.prog 18 #[.slice (some ⟨g2, 0, none⟩) M.length c2, .slice bo M.length bc] W fun e w' => e = .returned (.bool true) ∧ Calm W w') := hide fun W h => keptP_any _ g2 c2 bo bc M W (o12.out.calm h) (Rc.Sl.calm HTs.out (W12.out.tr h)).mem (by omega)
  have BA : Hid (∀ g, (Value.slice aA (keysP L).length cA).ownBlock = some g → Rg w2.heap.size w3.heap.size g) := hide fun g hg => own_bd OA.out hg
  have VA : Hid (encG.Own 32 w12 w2.heap.size (.slice aA (keysP L).length cA) PA) := hide (Rc.Own.calm OA.out e3)
  obtain ⟨R, hR⟩ : ∃ R : Nat → List Pn, ∀ j, R j = ofP L ((keysP L).getD j ⟨#[]⟩) := ⟨fun j => ofP L ((keysP L).getD j ⟨#[]⟩), fun _ => rfl⟩
  have VR : Hid (∀ j, j < (keysP L).length → (PA.getD j kp0).n = (R j).length ∧ (R j).length ≤ 1000000 ∧ encP.Own 40 w12 w2.heap.size (.slice (PA.getD j kp0).o (PA.getD j kp0).n (PA.getD j kp0).c) (R j)) := hide fun j hj => by
    obtain ⟨-, q2, q3⟩ := KA.out j (by rw [lA.out]; exact hj)
    rw [hR]
    have := ofP_le L ((keysP L).getD j ⟨#[]⟩)
    exact ⟨q2, by omega, Rc.Own.calm q3 e3⟩
  have BR : Hid (∀ j, j < (keysP L).length → ∀ g, (Value.slice (PA.getD j kp0).o (PA.getD j kp0).n (PA.getD j kp0).c).ownBlock = some g → Rg w2.heap.size w3.heap.size g) := hide fun j hj g hg => by
    obtain ⟨-, -, q3⟩ := KA.out j (by rw [lA.out]; exact hj)
    exact own_bd q3 hg
  have AP : Hid (∀ i j, i < j → j < (keysP L).length → ∀ g, (Value.slice (PA.getD i kp0).o (PA.getD i kp0).n (PA.getD i kp0).c).ownBlock = some g → ¬ (Value.slice (PA.getD j kp0).o (PA.getD j kp0).n (PA.getD j kp0).c).ownBlock = some g) := hide fun i j h1 h2 => apA.out i j h1 (by rw [lA.out]; exact h2)
  have VC : Hid (∀ W, Touch (Rg w2.heap.size w3.heap.size) w12 W → encP.Own 40 W w4.heap.size (.slice aC (lastP L).length cC) (lastP L)) := hide fun W hW => own_keep OC.out (Touch.trans (e5.mono fun _ _ h => h.elim) hW fun _ _ h => h) fun g h1 h2 hg => by unfold Rg at hg; omega
  have BC : Hid (∀ g, (Value.slice aC (lastP L).length cC).ownBlock = some g → Rg w4.heap.size w5.heap.size g) := hide fun g hg => own_bd OC.out hg
  have VE : Hid (∀ W, Touch (fun g => Rg w2.heap.size w3.heap.size g ∨ Rg w4.heap.size w5.heap.size g) w12 W → encP.Own 40 W w6.heap.size (.slice aE (ofP L key).length cE) (ofP L key)) := hide fun W hW => own_keep OE.out (Touch.trans (e7.mono fun _ _ h => h.elim) hW fun _ _ h => h) fun g h1 h2 hg => by unfold Rg at hg; omega
  have BE : Hid (∀ g, (Value.slice aE (ofP L key).length cE).ownBlock = some g → Rg w6.heap.size w7.heap.size g) := hide fun g hg => own_bd OE.out hg
  have LA : Hid (PA.length = (keysP L).length) := lA
  have ZZ : Hid (w.heap.size ≤ w2.heap.size ∧ w2.heap.size ≤ w3.heap.size ∧ w3.heap.size ≤ w4.heap.size ∧ w4.heap.size ≤ w5.heap.size ∧ w5.heap.size ≤ w6.heap.size ∧ w6.heap.size ≤ w7.heap.size ∧ w7.heap.size ≤ w12.heap.size) := hide ⟨z2, z3, z4, z5, z6, z7, by omega⟩
  have X9 : Hid (∀ W, Touch F w12 W → Calls Tryz.prog 18 #[.slice (some ⟨g1, 0, none⟩) L.length c1, .slice ao L.length ac] W fun e w' => e = .returned (.bool true) ∧ Calm W w') := hide fun W h => keptP_any _ g1 c1 ao ac L W (m1.out.calm (CW2.out W h)) (Rc.Sl.calm HS.out (CW.out W h)).mem (by omega)
  have HF := hide hF
  clear m1 OA OB OC OD OE OF OG OH KA KB KG lA lB lG apA T1 T2 T3 T4 T5 T6 T7 T8 T9 T10 T11 T12 e2 e3 e4 e5 e6 e7 e8 e9 e10 z2 z3 z4 z5 z6 z7 z8 z12 TF hF hR l12 o12 HI HS HTs W12 hnz hmz
  unfold RetP at X3
  generalize (keysP L).length = nk at *
  generalize ofP L key = Z at *
  generalize lastP L = Y at *
  generalize beginsP L M = bg at *
  generalize beginsP M L = bk at *
  generalize L.length = n at *
  generalize M.length = m at *
  generalize w2.heap.size = s2 at *
  generalize w3.heap.size = s3 at *
  generalize w4.heap.size = s4 at *
  generalize w5.heap.size = s5 at *
  generalize w6.heap.size = s6 at *
  generalize w7.heap.size = s7 at *
  cases bg <;> cases bk
  all_goals
    go_wp2_with fail
    refine (X1.out _ (Touch.refl _ _)).mono ?_
    rintro e v1 ⟨rfl, t1⟩
    have t1 := hide t1
    go_wp2_with fail
    refine (X2.out _ t1.out).mono ?_
    rintro e v2 ⟨rfl, t2⟩
    have t2 := hide (t1.out.tr t2)
    go_wp2_with fail
    refine (X3.out _ (CW.out _ (t2.out.mono fun _ _ h => h.elim))).mono ?_
    rintro e v3 ⟨a', c', rfl, ow3, t3⟩
    have t3 := hide (t2.out.tr t3)
    have m3 := hide (Rc.Own.mem ow3).2.1
    clear ow3
    go_wp2_with fail
    refine (X4.out _ _ _ t3.out m3.out).mono ?_
    rintro e v4 ⟨rfl, t4⟩
    have t4 := hide (t3.out.tr t4)
    go_wp2_with fail
    refine (X5.out _ t4.out).mono ?_
    rintro e v5 ⟨rfl, t5⟩
    have t5 := hide (t4.out.tr t5)
    go_wp2_with fail
    refine (X6.out _ t5.out).mono ?_
    rintro e v6 ⟨rfl, t6⟩
    have t6 := hide (t5.out.tr t6)
    go_wp2_with fail
    refine (X7.out _ t6.out).mono ?_
    rintro e v7 ⟨rfl, t7⟩
    have t7 := hide (t6.out.tr t7)
    go_wp2_with fail
    refine (X8.out _ t7.out).mono ?_
    rintro e v8 ⟨rfl, t8⟩
    have t8 := hide (t7.out.tr t8)
    clear t1 t2 t3 t4 t5 t6 t7 m3
    go_wp2_with fail
    go_loopw [19] (fun s wr => ∃ (i : Nat) (P : List Kp), s = .int .i64 (i : Int) ∧ i ≤ nk ∧ P.length = nk ∧ (∀ j, i ≤ j → P.getD j kp0 = PA.getD j kp0) ∧ encG.Own 32 wr s2 (.slice aA nk cA) P ∧ (∀ j, i ≤ j → j < nk → encP.Own 40 wr s2 (.slice (PA.getD j kp0).o (PA.getD j kp0).n (PA.getD j kp0).c) (R j)) ∧ Touch (Rg s2 s3) w12 wr) (fun s _ => nk - (intOf s).toNat)
    case atStart => exact ⟨0, PA, rfl, Nat.zero_le _, LA.out, fun _ _ => rfl, Rc.Own.calm VA.out t8.out, fun j _ hj => Rc.Own.calm (VR.out j hj).2.2 t8.out, t8.out.mono fun _ _ h => h.elim⟩
    case round =>
      obtain ⟨i, P, rfl, hi, hP, hE, OA, OR, TF⟩ := hrel
      by_cases hlt : i < nk
      · have hltz : (i : Int) < (nk : Int) := by omega
        obtain ⟨ga, go, hga, k0, k1⟩ := kp_at (Rc.Own.mem OA).2.1 i (by omega)
        obtain rfl : go = 0 := by
          obtain ⟨_, _, _, _, _, ha⟩ := Rc.Own.mem OA
          exact (ha _ hga).2.1
        subst hga
        rw [Nat.zero_add] at k0 k1
        rw [hE i (Nat.le_refl _)] at k0 k1
        obtain ⟨r1, r2, -⟩ := VR.out i hlt
        have hrow := OR i (Nat.le_refl _) hlt
        have hsz : s2 ≤ wr.heap.size := by have := TF.size; have := ZZ.out; omega
        have CS := spoiltP_any (PA.getD i kp0).o (PA.getD i kp0).c (R i) s2 wr (by rw [← r1]; exact hrow) hsz r2
        rw [← r1] at CS
        have HCS := hide CS
        have NX : Hid (∀ W, Touch (fun g => (Value.slice (PA.getD i kp0).o (PA.getD i kp0).n (PA.getD i kp0).c).ownBlock = some g) wr W → ((W.cell? ⟨ga, i * 2, none⟩ = some (.string (PA.getD i kp0).k) ∧ W.frozen? ⟨ga, i * 2, none⟩ = false) ∧ ∃ Q, Q.length = nk ∧ (∀ j, i + 1 ≤ j → Q.getD j kp0 = PA.getD j kp0) ∧ encG.Own 32 (W.setCell ⟨ga, i * 2, none⟩ (.string ⟨#[103, 111, 110, 101]⟩)) s2 (.slice (some ⟨ga, 0, none⟩) nk cA) Q ∧ (∀ j, i + 1 ≤ j → j < nk → encP.Own 40 (W.setCell ⟨ga, i * 2, none⟩ (.string ⟨#[103, 111, 110, 101]⟩)) s2 (.slice (PA.getD j kp0).o (PA.getD j kp0).n (PA.getD j kp0).c) (R j)) ∧ Touch (Rg s2 s3) w12 (W.setCell ⟨ga, i * 2, none⟩ (.string ⟨#[103, 111, 110, 101]⟩)))) := hide fun W hW => by
          have OA' := Rc.Own.touch OA hW (fun g hg e => own_notP hrow OA e hg)
          obtain ⟨gb, gf, e0, q0, q1⟩ := kp_at (Rc.Own.mem OA').2.1 i (by omega)
          injection e0 with e0
          injection e0 with e1 e2
          subst e1 e2
          rw [Nat.zero_add, hE i (Nat.le_refl _)] at q0
          obtain ⟨-, cur, hcur⟩ := Rc.own_block OA' (g := ga) rfl
          have TX : Touch (fun g => g = ga) W (W.setCell ⟨ga, i * 2, none⟩ (.string ⟨#[103, 111, 110, 101]⟩)) := (Touch.refl (fun g => g = ga) W).setCell (p := ⟨ga, i * 2, none⟩) (fun _ => rfl) _
          refine ⟨⟨q0, pn_frz hcur _⟩, P.set i { P.getD i kp0 with k := ⟨#[103, 111, 110, 101]⟩ }, by rw [List.length_set]; exact hP, fun j hj => ?_, own_setk OA' i (by omega) _, fun j hj hjn => ?_, ?_⟩
          · rw [← hE j (by omega)]; simp [List.getD_eq_getElem?_getD, List.getElem?_set_ne (show i ≠ j by omega)]
          · have o1 := Rc.Own.touch (OR j (by omega) hjn) hW (fun g hg e => AP.out i j (by omega) hjn g e hg)
            exact Rc.Own.touch o1 TX (fun g hg e => own_notP o1 OA' hg (by rw [e]; rfl))
          · have t1 := Touch.trans TF hW (fun g _ e => BR.out i hlt g e)
            exact Touch.trans t1 TX (fun g _ e => by rw [e]; exact BA.out ga rfl)
        generalize PA.getD i kp0 = p at *
        clear CS OA OR TF hE hrow hsz r1 r2 X1 Y1 X2 Y2 X3 X4 Y4 X5 X6 X7 X8 X9 CK VA VR BA BR AP VC BC VE BE
        go_wp2_with fail
        refine HCS.out.mono ?_
        rintro e w' ⟨rfl, T'⟩
        obtain ⟨⟨q0, qf⟩, hQ⟩ := NX.out w' T'
        have HQ := hide hQ
        clear hQ T' NX HCS k0 k1
        go_wp2_with fail
        go_roundw
        case rel =>
          obtain ⟨Q, h1, h2, h3, h4, h5⟩ := HQ.out
          exact ⟨i + 1, Q, by go_num, by omega, h1, h2, h3, h4, h5⟩
        case measure => simp [intOf]; omega
      · have hltz : ¬ (i : Int) < (nk : Int) := by omega
        have z := ZZ.out
        have CSc := hide (spoiltP_any aC cC Y s4 wr (VC.out wr TF) (by have := TF.size; omega) hPl)
        have HT := hide TF
        clear OA OR TF hE X1 X2 X4 X5 X6 X7 X8 VA VR BA BR AP VC
        go_wp2_with fail
        refine CSc.out.mono ?_
        rintro e u1 ⟨rfl, t1⟩
        have TF1 : Touch (fun g => Rg s2 s3 g ∨ Rg s4 s5 g) w12 u1 := Touch.trans (HT.out.mono fun _ _ h => .inl h) t1 (fun g _ e => .inr (BC.out g e))
        have CSe := hide (spoiltP_any aE cE Z s6 u1 (VE.out u1 TF1) (by have := TF1.size; omega) hOl)
        have HT1 := hide TF1
        clear t1 TF1 HT VE CSc BC
        go_wp2_with fail
        refine CSe.out.mono ?_
        rintro e u2 ⟨rfl, t2⟩
        have TF2 : Touch F w12 u2 := Touch.trans (HT1.out.mono fun g _ h => (HF.out g).2 (by rcases h with h | h; exact .inl h; exact .inr (.inl h))) t2 (fun g _ e => (HF.out g).2 (.inr (.inr (BE.out g e))))
        have HT2 := hide TF2
        clear t2 TF2 HT1 CSe BE HF z
        go_wp2_with fail
        refine (Y1.out _ HT2.out).mono ?_
        rintro e u3 ⟨rfl, t3⟩
        have HT3 := hide (Touch.next HT2.out t3)
        clear t3 HT2 Y1
        go_wp2_with fail
        refine (Y2.out _ HT3.out).mono ?_
        rintro e u4 ⟨rfl, t4⟩
        have HT4 := hide (Touch.next HT3.out t4)
        clear t4 HT3 Y2
        go_wp2_with fail
        refine (X3.out _ (CW.out _ HT4.out)).mono ?_
        rintro e u5 ⟨a', c', rfl, ow5, t5⟩
        have HT5 := hide (Touch.next HT4.out t5)
        have M5 := hide (Rc.Own.mem ow5).2.1
        clear t5 HT4 ow5 X3
        go_wp2_with fail
        refine (Y4.out _ _ _ HT5.out M5.out).mono ?_
        rintro e u6 ⟨rfl, t6⟩
        have HT6 := hide (Touch.next HT5.out t6)
        clear t6 HT5 M5 Y4
        go_wp2_with fail
        refine (X9.out _ HT6.out).mono ?_
        rintro e u7 ⟨rfl, t7⟩
        have HT7 := hide (Touch.next HT6.out t7)
        clear t7 HT6 X9
        go_wp2_with fail
        refine (CK.out _ (CW.out _ HT7.out)).mono ?_
        rintro e u8 ⟨rfl, t8⟩
        have HT8 := hide (CW.out _ (Touch.next HT7.out t8))
        clear t8 HT7 CK
        go_wp2_with fail
        go_ret
        exact ⟨rfl, HT8.out⟩

end Go.Proofs.YtamfcmmhmfhhkaaGreatDoor

namespace Go.Proofs.YtamfcmmhmfhhkaaGreatDoor
open Go.RowKit

/-- Only rows of bytes above a mark have turned. -/
structure Wr (B : Nat) (w W : World) : Prop where
  below : Below B w W
  kept : Lib.OthersKept 5 none w W
theorem Wr.refl (B : Nat) (w : World) : Wr B w w := ⟨Below.refl _ _, Lib.OthersKept.refl _ _ _⟩
theorem Wr.trans {B : Nat} {a b c : World} (h : Wr B a b) (k : Wr B b c) : Wr B a c := ⟨h.below.trans k.below, h.kept.trans k.kept⟩
theorem Wr.calm {B : Nat} {w W : World} (h : Calm w W) (hB : B ≤ w.heap.size) : Wr B w W :=
  ⟨⟨h.os, h.tape, h.output, h.size, fun k hk => h.block k (by omega) (fun h => h)⟩, fun _ _ hk _ _ => h.at hk⟩
theorem Wr.row {B : Nat} {w W : World} {v : Value} {L : List Int} (ho : encB.Own 5 w B v L) (ht : Touch (fun d => v.ownBlock = some d) w W) (hB : B ≤ w.heap.size) : Wr B w W :=
  ⟨⟨ht.os, ht.tape, ht.output, ht.size, fun k hk => ht.block k (by omega) (fun hs => by have := (Rc.own_block ho hs).1; omega)⟩, fun k o hk _ hn => ht.heap hk (fun hs => by
    obtain ⟨-, cur, hc⟩ := Rc.own_block ho hs
    rw [hk] at hc
    injection hc with hc
    exact hn _ _ hc)⟩
theorem Wr.at {B : Nat} {w W : World} (h : Wr B w W) {g : Nat} {cs : Array Value} {t : TypeId} (hg : w.heap[g]? = some (.cells cs t (0, 0))) (ht : t ≠ 5) : W.heap[g]? = some (.cells cs t (0, 0)) :=
  h.kept g _ hg (fun h => (nomatch h)) (fun c fz e => by injection e with _ e; exact ht e)
theorem Wr.size {B : Nat} {w W : World} (h : Wr B w W) : w.heap.size ≤ W.heap.size := h.below.size

/-- New bytes more, and where the row lies then. -/
theorem by_appM {w : World} {base : Nat} {ao : Option Addr} {cap : Nat} {A : List Int} (M : List Int) (h : encB.Own 5 w base (.slice ao A.length cap) A) (hs : base ≤ w.heap.size) (hn : A.length + M.length ≤ 100000000000000) :
    ∃ a2 p2 w4, (Builtin.append_ #[64, 64] 64 #[.slice ao A.length cap, .slice (some ⟨w.heap.size, 0, none⟩) M.length M.length]).run Tryz.prog (w.alloc (.cells (encB.flat M).toArray 5)) = .ok (.slice a2 (A ++ M).length p2) w4 ∧
      encB.Own 5 w4 base (.slice a2 (A ++ M).length p2) (A ++ M) ∧ Touch (fun d => (Value.slice ao A.length cap).ownBlock = some d) w w4 ∧
      (∀ d, (Value.slice a2 (A ++ M).length p2).ownBlock = some d → (Value.slice ao A.length cap).ownBlock = some d ∨ w.heap.size ≤ d) := by
  obtain ⟨i0, hi, hz, hsz, hby⟩ := Rc.info_parts infoByte
  have own := Rc.Own.calm h ((Touch.refl (fun _ => False) w).alloc (.cells (encB.flat M).toArray 5))
  have hs1 := al_size w (.cells (encB.flat M).toArray 5)
  obtain ⟨a2, p2, w4, hr, ow, t2, hx⟩ := Rc.Own.appw (E := encB) (ty := 64) Tryz.underlying64 hi hz hsz hby rfl own (some ⟨w.heap.size, 0, none⟩) M.length M (Rc.Mem.new w M 5) (fun h => (nomatch h)) (by unfold maxLen; omega) (by omega) (by omega) (by omega)
  exact ⟨a2, p2, w4, hr, ow, Touch.trans (((Touch.refl (fun _ => False) w).alloc _).mono fun _ _ h => h.elim) t2 fun _ _ h => h, fun d hd => (hx d hd).imp (fun h => h) (fun h => by omega)⟩

theorem bsL_app (a b : ByteArray) : bsL (a ++ b) = bsL a ++ bsL b := by
  unfold bsL
  rw [ByteArray.data_append, Array.toList_append, List.map_append]
theorem bs_of {L : List Int} (h : ∀ x ∈ L, 0 ≤ x ∧ x < 256) : bsL (strOfNums L) = L := by
  unfold bsL
  rw [strOfNums_data, List.map_map]
  conv => rhs; rw [← List.map_id L]
  apply List.map_congr_left
  intro x hx
  obtain ⟨h0, h1⟩ := h x hx
  show ((UInt8.ofNat x.toNat).toNat : Int) = x
  rw [UInt8.toNat_ofNat']
  omega
theorem hexB_byte {n : Int} (h0 : 0 ≤ n) (h1 : n < 16) : 0 ≤ hexB n ∧ hexB n < 256 := by
  unfold hexB
  split <;> omega
theorem escL_in {b : Int} (h0 : 0 ≤ b) (h1 : b < 256) : ∀ x ∈ escL b, 0 ≤ x ∧ x < 256 := by
  unfold escL
  split
  · intro x hx; rw [List.mem_singleton] at hx; subst hx; exact ⟨h0, h1⟩
  · intro x hx
    have a := hexB_byte (n := b / 16) (by omega) (by omega)
    have c := hexB_byte (n := b % 16) (by omega) (by omega)
    simp only [List.mem_cons, List.not_mem_nil, or_false] at hx
    rcases hx with rfl | rfl | rfl | rfl
    · omega
    · omega
    · exact a
    · exact c
theorem quoA_in (s : ByteArray) : ∀ x ∈ quoA s, 0 ≤ x ∧ x < 256 := by
  intro x hx
  unfold quoA quoL at hx
  rcases List.mem_append.1 hx with hx | hx
  · rcases List.mem_cons.1 hx with rfl | hx
    · omega
    · obtain ⟨u, -, hx⟩ := List.mem_flatMap.1 hx
      exact escL_in (by omega) (by have := u.toNat_lt; omega) x hx
  · rw [List.mem_singleton] at hx; subst hx; omega
theorem bs_quo (s : ByteArray) : bsL (strOfNums (quoA s)) = quoA s := bs_of (quoA_in s)
theorem bs_bl : bsL blB = [32] := rfl

set_option maxRecDepth 100000 in
theorem appendInt_any (x : Int) (h0 : -9223372036854775808 ≤ x) (h1 : x ≤ 9223372036854775807) (A : List Int) (v : Value) (w : World) (B : Nat) (ho : encB.Own 5 w B v A) (hB : B ≤ w.heap.size) (hl : A.length ≤ 1000000000) (ht : Lib.TabBelow Tryz.prog B w "internal/strconv.uint64pow10" .u64 Lib.pow10Tab) :
    Calls Tryz.prog 48 #[v, .int .i64 x, .int .i64 10] w fun e w' => ∃ a c, e = .returned (.slice a (A ++ bsL (intB x)).length c) ∧ encB.Own 5 w' B (.slice a (A ++ bsL (intB x)).length c) (A ++ bsL (intB x)) ∧ Wr B w w' := by
  refine (Any.strconv_AppendInt_10 Tryz.laysM176 B A.length x h0 h1 v (encB.flat A) w ho hB (by omega) ht).mono ?_
  rintro e w' ⟨v', rfl, ho', hb, hk⟩
  have e1 : encB.flat (bsL (intB x)) = Lib.byteCells (Lib.itoa x) := by
    rw [bsL_flat]
    rfl
  have e2 : (bsL (intB x)).length = (Lib.itoa x).length := by
    rw [bsL_len]
    show (Lib.itoa x).toArray.size = _
    rw [List.size_toArray]
  have ho2 : encB.Own 5 w' B v' (A ++ bsL (intB x)) := by
    unfold Rc.Enc.Own
    rw [encB.flat_append, List.length_append, e1, e2]
    exact ho'
  obtain ⟨a, c, hv⟩ := Rc.own_shape ho2
  subst hv
  exact ⟨a, c, rfl, ho2, hb, hk⟩

end Go.Proofs.YtamfcmmhmfhhkaaGreatDoor

namespace Go.Proofs.YtamfcmmhmfhhkaaGreatDoor
open Go.RowKit

abbrev hexD : ByteArray := ⟨#[48, 49, 50, 51, 52, 53, 54, 55, 56, 57, 97, 98, 99, 100, 101, 102]⟩
theorem hexD_at (n : Nat) (h : n < 16) : ((hexD[n]'h).toNat : Int) = hexB (n : Int) := by
  rcases (by omega : n = 0 ∨ n = 1 ∨ n = 2 ∨ n = 3 ∨ n = 4 ∨ n = 5 ∨ n = 6 ∨ n = 7 ∨ n = 8 ∨ n = 9 ∨ n = 10 ∨ n = 11 ∨ n = 12 ∨ n = 13 ∨ n = 14 ∨ n = 15) with rfl | rfl | rfl | rfl | rfl | rfl | rfl | rfl | rfl | rfl | rfl | rfl | rfl | rfl | rfl | rfl <;> rfl
theorem hexD_run (n : Nat) (h : n < 16) (W : World) : (Instr.index 9 (.string hexD) (.int .u8 (n : Int))).run Tryz.prog W = .ok (.int .u8 (hexB (n : Int))) W := by
  have hs : hexD.size = 16 := rfl
  rw [run_index_string W 9 hexD .u8 (n : Int) Tryz.underlying9, dif_pos ⟨by omega, by rw [hs]; omega⟩, ← hexD_at n h]
  rfl
theorem nums_run (p : Pn) (i : Nat) (h : i < 7) (W : World) : (Instr.index 91 (.agg #[.int .i64 p.a, .int .i64 p.b, .int .i64 p.n, .int .i64 p.t.c, .int .i64 p.t.s, .int .i64 p.t.m, .int .i64 p.t.x]) (.int .i64 (i : Int))).run Tryz.prog W = .ok (.int .i64 ((numsP p).getD i 0)) W := by
  have hu := Tryz.underlying91
  rcases (by omega : i = 0 ∨ i = 1 ∨ i = 2 ∨ i = 3 ∨ i = 4 ∨ i = 5 ∨ i = 6) with rfl | rfl | rfl | rfl | rfl | rfl | rfl <;> simp [Instr.index, run_underlying hu, asIntOf, go_sem, numsP]

set_option maxRecDepth 100000 in
set_option maxHeartbeats 8000000 in
theorem write_any (p : Pn) (hm : mayP p = true) (hp : NumOk p) (A : List Int) (ao : Option Addr) (cap : Nat) (w : World) (B : Nat) (ho : encB.Own 5 w B (.slice ao A.length cap) A) (hB : B ≤ w.heap.size) (hA : A.length ≤ 100000000) (ht : Lib.TabBelow Tryz.prog B w "internal/strconv.uint64pow10" .u64 Lib.pow10Tab) (hk : Kds w) (hg : 0 < B) :
    Calls Tryz.prog 33 #[.slice ao A.length cap, pnv p] w fun e w' => ∃ a c, e = .returned (.slice a (A ++ bsL (lineB p)).length c) ∧ encB.Own 5 w' B (.slice a (A ++ bsL (lineB p)).length c) (A ++ bsL (lineB p)) ∧ Wr B w w' := by
  have hks : p.k.size ≤ 256 := by unfold mayP at hm; exact (of_decide_eq_true hm).1
  have hd := (by unfold mayP at hm; exact (of_decide_eq_true hm).2 : 1 ≤ p.d ∧ p.d ≤ 3)
  obtain ⟨j, hj⟩ : ∃ j : Nat, p.d = (j : Int) := ⟨p.d.toNat, by omega⟩
  have hj1 : 1 ≤ j ∧ j ≤ 3 := by omega
  have QS : Hid (∀ i (h : i < p.k.size), A ++ quoL p.k (i + 1) = (A ++ quoL p.k i) ++ escL ((p.k[i]'h).toNat : Int)) := hide fun i h => by rw [quoL_succ h, List.append_assoc]
  have QL : Hid (∀ i, i ≤ p.k.size → (A ++ quoL p.k i).length ≤ 100002000) := hide fun i hi => by
    rw [List.length_append]
    have := quoL_len (s := p.k) i hi
    omega
  have Q0 : Hid (A ++ quoL p.k 0 = A ++ [34]) := hide (by simp [quoL])
  have T0 : Hid (((A ++ quoL p.k p.k.size) ++ [34, 32]) ++ bsL (kdB j) = A ++ bsL (txL p 0)) := hide (by
    have e : kdB j = nameB p.d := by unfold kdB; rw [if_neg (by omega), hj]
    rw [e, txL, bsL_app, bsL_app, bs_quo, bs_bl]
    unfold quoA
    simp)
  have TS : Hid (∀ i, i < 7 → A ++ bsL (txL p (i + 1)) = ((A ++ bsL (txL p i)) ++ [32]) ++ bsL (intB ((numsP p).getD i 0))) := hide fun i _ => by
    rw [txL, bsL_app, bsL_app, bs_bl]
    simp
  have TL : Hid (∀ i, i ≤ 7 → (A ++ bsL (txL p i)).length ≤ 100002000) := hide fun i hi => by
    rw [List.length_append, bsL_len]
    have := txL_size hks hp i hi
    omega
  have TE : Hid (A ++ bsL (txL p 7) = A ++ bsL (lineB p)) := hide rfl
  have KL : Hid ((bsL (kdB j)).length ≤ 10) := hide (by
    rw [bsL_len]
    unfold kdB
    rw [if_neg (by omega)]
    have := nameB_size (j : Int)
    omega)
  have KC : Hid (∀ W, Below B w W → W.cell? ⟨0, j, none⟩ = some (.string (kdB j))) := hide fun W hW => by
    have h1 := hk j (by omega)
    unfold World.cell? at h1 ⊢
    rw [hW.block _ hg]
    exact h1
  have IX := hide (fun i (h : i < 7) W => nums_run p i h W)
  have NI := hide (fun i (h : i < 7) => hp i h)
  have CI := hide (fun x h0 h1 A' v' (W : World) ho' hB' hl' ht' => appendInt_any x h0 h1 A' v' W B ho' hB' hl' ht')
  have P0 := hide (al_new w (.cells (pnc p) 40))
  have W0 := hide (Wr.calm (B := B) ((Touch.refl (fun _ => False) w).alloc (.cells (pnc p) 40)) hB)
  have O0 := Rc.Own.calm ho ((Touch.refl (fun _ => False) w).alloc (.cells (pnc p) 40))
  have HT := hide ht
  have S0 := al_size w (.cells (pnc p) 40)
  obtain ⟨a1, p1, w1, hr1, ow1, t1, -⟩ := by_appM [34] O0 (by omega) (by simp only [List.length_cons, List.length_nil]; omega)
  rw [← Q0.out] at hr1 ow1
  have hr1' : (Builtin.append_ #[64, 64] 64 #[.slice ao A.length cap, .slice (some ⟨w.heap.size + 1, 0, none⟩) 1 1]).run Tryz.prog ((w.alloc (.cells (pnc p) 40)).alloc (.cells #[.int .u8 34] 5)) = .ok (.slice a1 (A ++ quoL p.k 0).length p1) w1 := by
    have h := hr1
    rw [S0] at h
    exact h
  have HR1 := hide hr1'
  have W1 := hide (W0.out.trans (Wr.row O0 t1 (by omega)))
  have P1 := hide ((Wr.row O0 t1 (by omega)).at P0.out (by decide))
  have H1 := hide ow1
  generalize hq : (fun i => A ++ quoL p.k i) = q at *
  have hq' : ∀ i, A ++ quoL p.k i = q i := fun i => by rw [← hq]
  generalize htx : (fun i => A ++ bsL (txL p i)) = tx at *
  have htx' : ∀ i, A ++ bsL (txL p i) = tx i := fun i => by rw [← htx]
  simp only [hq', htx'] at QS QL T0 TS TL TE H1 HR1
  clear hq hq' htx htx' hr1 hr1' ow1 t1 O0 P0 W0 Q0 hk ho hp hm ht hd
  generalize A ++ bsL (lineB p) = Z at *
  have HD : Hid (p.d = (j : Int)) := hide hj
  clear hj
  obtain ⟨⟨c0, c1, c2, c3, c4⟩, c5, c6, c7, c8⟩ := pn_cells P1.out
  have CV0 := Lib.run_convert_string_bytes (P := Tryz.prog) w1 9 64 5 p.k Tryz.underlying9 Tryz.underlying64 Tryz.underlying5
  have CW0 := Lib.bytesWorld_at_new w1 5 p.k
  have CC0 := fun i hi => Lib.bytesWorld_cell w1 5 p.k i hi
  have TW : Calm w1 (Lib.bytesWorld w1 5 p.k) := calm_below (Lib.bytesWorld_below _ _ _)
  generalize Lib.bytesWorld w1 5 p.k = w2 at *
  generalize hG : (Obj.cells (Lib.bytesCells w1 5 p.k) 5 ((Lib.bytesCells w1 5 p.k).size, (Lib.bytesCells w1 5 p.k).size + 1)) = G at *
  generalize grownCap w1 p.k.size 0 5 = cp at *
  have N1 : Hid ((Value.slice a1 (q 0).length p1).ownBlock ≠ some w1.heap.size) := hide (fun e => by
    obtain ⟨-, cur, hc⟩ := Rc.own_block H1.out e
    have := lt_of_heap hc
    omega)
  generalize w1.heap.size = g at *
  have BC : Hid (∀ W : World, W.heap[g]? = some G → ∀ i (h : i < p.k.size), W.cell? ⟨g, i, none⟩ = some (.int .u8 (((p.k[i]'h).toNat : Nat) : Int))) := hide fun W hW i h => by
    have h1 := CC0 i h
    have e : W.cell? ⟨g, i, none⟩ = w2.cell? ⟨g, i, none⟩ := by unfold World.cell?; rw [hW, CW0]
    rw [e, h1]
    congr 3
    have h' : i < p.k.data.toList.length := by rw [Array.length_toList]; exact h
    rw [List.getD_eq_getElem?_getD, List.getElem?_eq_getElem h']
    rfl
  have H2 := hide (Rc.Own.calm H1.out TW)
  have GW := hide CW0
  have W2 := hide (W1.out.trans (Wr.calm TW (by have := W1.out.size; omega)))
  have P2 := hide (TW.at P1.out)
  have Z2 : Hid (B ≤ w2.heap.size) := hide (by have := W2.out.size; omega)
  clear CC0 CW0 TW hG H1 P1
  have CV := hide CV0
  clear CV0
  have HB := hide hB
  go_enter Tryz.func33, Tryz.ntmps33
  have cv := CV.out
  go_wp2_with (at_builtin; refine Rc.wpList_appR rfl (.tmp 9) (.tmp 10) 64 64 rfl _ _ _ rfl rfl HR1.out ?_)
  clear cv CV HR1 c0 c1 c2 c3 c4 c5 c6 c7 c8 hB
  generalize w.heap.size = D at *
  go_loopw [0, 16] (fun s0 s16 wr => ∃ (i : Nat) (a : Option Addr) (c : Nat), s16 = .int .i64 (i : Int) ∧ i ≤ p.k.size ∧ s0 = .slice a (q i).length c ∧ encB.Own 5 wr B (.slice a (q i).length c) (q i) ∧ Wr B w2 wr ∧ wr.heap[g]? = some G ∧ Hid ((Value.slice a (q i).length c).ownBlock ≠ some g)) (fun _ s16 _ => p.k.size - (intOf s16).toNat)
  case atStart => exact ⟨0, _, _, rfl, by omega, rfl, H2.out, Wr.refl _ _, GW.out, N1⟩
  case round =>
    obtain ⟨i, a, c, rfl, hi, rfl, OW, TR, hg2, HN⟩ := hrel
    clear H2 GW N1
    have BW : Hid (B ≤ wr.heap.size) := hide (by have := TR.size; have := Z2.out; omega)
    by_cases hlt : i < p.k.size
    · have hltz : (i : Int) < (p.k.size : Int) := by omega
      have hs1 := QS.out i hlt
      have hl1 := QL.out i hi
      have cb := BC.out wr hg2 i hlt
      obtain ⟨b, hb⟩ : ∃ b : Nat, (p.k[i]'hlt).toNat = b := ⟨_, rfl⟩
      have hb255 : b < 256 := by rw [← hb]; exact (p.k[i]'hlt).toNat_lt
      rw [hb] at hs1 cb
      have CT := hide (fun W => itself_any (b : Int) W)
      clear QS QL BC T0 TS TL TE KL KC IX NI CI HT hb
      have APP : Hid (∀ M : List Int, q i ++ M = q (i + 1) → M.length ≤ 4 → ∀ W, Calm wr W → ∃ a4 c4 w4, (Builtin.append_ #[64, 64] 64 #[.slice a (q i).length c, .slice (some ⟨W.heap.size, 0, none⟩) M.length M.length]).run Tryz.prog (W.alloc (.cells (encB.flat M).toArray 5)) = .ok (.slice a4 (q (i + 1)).length c4) w4 ∧
          encB.Own 5 w4 B (.slice a4 (q (i + 1)).length c4) (q (i + 1)) ∧ Wr B w2 w4 ∧ w4.heap[g]? = some G ∧ Hid ((Value.slice a4 (q (i + 1)).length c4).ownBlock ≠ some g) ∧ Touch (fun d => (Value.slice a (q i).length c).ownBlock = some d) W w4) := hide fun M hM hM4 W hW => by
        have ow0 := Rc.Own.calm OW hW
        have hsz := hW.size
        obtain ⟨a4, c4, w4, hr, ow, t2, hx⟩ := by_appM M ow0 (by have := BW.out; omega) (by omega)
        rw [hM] at hr ow hx
        refine ⟨a4, c4, w4, hr, ow, (TR.trans (Wr.calm hW BW.out)).trans (Wr.row ow0 t2 (by have := BW.out; omega)), t2.heap (hW.at hg2) (fun e => HN.out e), hide (fun e => ?_), t2⟩
        rcases hx g e with h | h
        · exact HN.out h
        · have := lt_of_heap hg2
          omega
      by_cases hp : 32 ≤ b ∧ b ≤ 126 ∧ b ≠ 34 ∧ b ≠ 92
      · have hE : q i ++ [(b : Int)] = q (i + 1) := by rw [hs1]; unfold escL; rw [if_pos ⟨by omega, by omega, by omega, by omega⟩]
        have hit : itB (b : Int) = true := decide_eq_true ⟨by omega, by omega, by omega, by omega⟩
        rw [hit] at CT
        obtain ⟨a4, c4, w4, hr, ow, t3, h4, hn4, -⟩ := APP.out [(b : Int)] hE (by simp) wr (Touch.refl _ _)
        have hr' : (Builtin.append_ #[64, 64] 64 #[.slice a (q i).length c, .slice (some ⟨wr.heap.size, 0, none⟩) 1 1]).run Tryz.prog (wr.alloc (.cells #[.int .u8 (b : Int)] 5)) = .ok (.slice a4 (q (i + 1)).length c4) w4 := hr
        have HR := hide hr'
        have HO := hide ow
        have H3 := hide t3
        have H4 := hide h4
        clear hr hr' ow t3 h4 APP hE hit hp hs1 hl1 OW TR hg2 HN BW
        go_wp2_with fail
        refine (CT.out _).mono ?_
        rintro r w5 ⟨rfl, hq5⟩
        obtain rfl := hq5.symm
        clear hq5
        go_wp2_with (at_builtin; refine Rc.wpList_appR rfl (.tmp 22) (.tmp 24) 64 64 rfl _ _ _ rfl rfl HR.out ?_)
        go_roundw
        case rel => exact ⟨i + 1, a4, c4, by go_num, by omega, rfl, HO.out, H3.out, H4.out, hn4⟩
        case measure => simp [intOf]; omega
      · have hE : q i ++ [92, 120, hexB ((b : Int) / 16), hexB ((b : Int) % 16)] = q (i + 1) := by rw [hs1]; unfold escL; rw [if_neg (fun h => hp ⟨by omega, by omega, by omega, by omega⟩)]
        have hit : itB (b : Int) = false := decide_eq_false fun h => hp ⟨by omega, by omega, by omega, by omega⟩
        rw [hit] at CT
        obtain ⟨m, hm⟩ : ∃ m, b / 16 = m := ⟨_, rfl⟩
        obtain ⟨n, hn⟩ : ∃ n, b % 16 = n := ⟨_, rfl⟩
        have hm16 : m < 16 := by omega
        have hn16 : n < 16 := by omega
        have hm16z : (m : Int) < 16 := by omega
        have hn16z : (n : Int) < 16 := by omega
        have hmz : (b : Int) / 16 = (m : Int) := by omega
        have hnz0 : (b : Int) % 16 = (n : Int) := by omega
        have hnz : bits .and .u8 (b : Int) 15 = (n : Int) := (u8_and15 (b : Int) (by omega) (by omega)).trans hnz0
        rw [hmz, hnz0] at hE
        have R1 := hide (hexD_at m hm16)
        have R2 := hide (hexD_at n hn16)
        generalize hexB (m : Int) = x at *
        generalize hexB (n : Int) = y at *
        have HM := hide hmz
        have HN2 := hide hnz
        clear hm hn hmz hnz hnz0
        have HE := hide hE
        clear hE hit hp hs1 hl1 OW TR hg2 HN BW
        go_wp2_with fail
        refine (CT.out _).mono ?_
        rintro r w5 ⟨rfl, hq5⟩
        obtain rfl := hq5.symm
        clear hq5 cb
        go_wp2_with fail
        refine wp_region_held (S := Touch (fun d => (Value.slice a (q i).length c).ownBlock = some d) wr) (by kernel_rfl) ?_
        have hT0 : Touch (fun d => (Value.slice a (q i).length c).ownBlock = some d) wr { wr with drawn := wr.drawn + 1 } := (Touch.refl _ wr).drew
        have hC0 : Calm wr { wr with drawn := wr.drawn + 1 } := (Touch.refl _ wr).drew
        refine wpAnyH_yield 0 26 (.slice a (q i).length c) rfl rfl (by kernel_rfl) (by kernel_rfl) (by kernel_rfl) (fun _ _ _ h => h) (by kernel_rfl) (fun W hW => by kernel_rfl) (by assumption) rfl rfl ?_
        simp only [Act.put, List.setIfInBounds_toArray, List.set_cons_zero, List.set_cons_succ]
        refine wpAnyH_yield 1 27 (.int .u8 (b : Int)) rfl rfl (by kernel_rfl) (by kernel_rfl) (by kernel_rfl) (fun _ _ _ h => h) (by kernel_rfl) (fun W hW => by kernel_rfl) (by assumption) rfl rfl ?_
        simp only [Act.put, List.setIfInBounds_toArray, List.set_cons_zero, List.set_cons_succ]
        refine wpAnyH_yield 2 28 (.int .u8 (m : Int)) rfl rfl (by kernel_rfl) (by kernel_rfl) (by kernel_rfl) (fun _ _ _ h => h) (by kernel_rfl) (fun W hW => by have z := HM.out; go_simp) (by assumption) rfl rfl ?_
        simp only [Act.put, List.setIfInBounds_toArray, List.set_cons_zero, List.set_cons_succ]
        refine wpAnyH_yield 3 29 (.int .u8 x) rfl rfl (by kernel_rfl) (by kernel_rfl) (by kernel_rfl) (fun _ _ _ h => h) (by kernel_rfl) (fun W hW => by have z := R1.out; go_simp) (by assumption) rfl rfl ?_
        simp only [Act.put, List.setIfInBounds_toArray, List.set_cons_zero, List.set_cons_succ]
        refine wpAnyH_yield 4 30 (.int .u8 (b : Int)) rfl rfl (by kernel_rfl) (by kernel_rfl) (by kernel_rfl) (fun _ _ _ h => h) (by kernel_rfl) (fun W hW => by kernel_rfl) (by assumption) rfl rfl ?_
        simp only [Act.put, List.setIfInBounds_toArray, List.set_cons_zero, List.set_cons_succ]
        refine wpAnyH_yield 5 31 (.int .u8 (n : Int)) rfl rfl (by kernel_rfl) (by kernel_rfl) (by kernel_rfl) (fun _ _ _ h => h) (by kernel_rfl) (fun W hW => by have z := HN2.out; go_simp) (by assumption) rfl rfl ?_
        simp only [Act.put, List.setIfInBounds_toArray, List.set_cons_zero, List.set_cons_succ]
        refine wpAnyH_yield 6 32 (.int .u8 y) rfl rfl (by kernel_rfl) (by kernel_rfl) (by kernel_rfl) (fun _ _ _ h => h) (by kernel_rfl) (fun W hW => by have z := R2.out; go_simp) (by assumption) rfl rfl ?_
        simp only [Act.put, List.setIfInBounds_toArray, List.set_cons_zero, List.set_cons_succ]
        have hr0 := APP.out [92, 120, x, y] HE.out (by simp) _ hC0
        generalize ({ wr with drawn := wr.drawn + 1 } : World) = wD at *
        obtain ⟨a4, c4, w4, hr, ow, t3, h4, hn4, t4⟩ := hr0
        have hr' : (Builtin.append_ #[64, 64] 64 #[.slice a (q i).length c, .slice (some ⟨wD.heap.size, 0, none⟩) 4 4]).run Tryz.prog (wD.alloc (.cells #[.int .u8 92, .int .u8 120, .int .u8 x, .int .u8 y] 5)) = .ok (.slice a4 (q (i + 1)).length c4) w4 := hr
        have hT4 : Touch (fun d => (Value.slice a (q i).length c).ownBlock = some d) wr w4 := hT0.trans t4 (fun _ _ h => h)
        refine wpAnyH_value 7 33 (.slice (some ⟨wD.heap.size, 0, none⟩) 4 4) (w' := wD.alloc (.cells #[.int .u8 92, .int .u8 120, .int .u8 x, .int .u8 y] 5)) rfl rfl (by kernel_rfl) (by kernel_rfl) (by go_simp) (hT0.alloc _) ?_
        simp only [Act.put, List.setIfInBounds_toArray, List.set_cons_zero, List.set_cons_succ]
        refine wpAnyH_value 8 34 (.slice a4 (q (i + 1)).length c4) (w' := w4) rfl rfl (by kernel_rfl) (by kernel_rfl) (exec_apk (.tmp 26) (.tmp 33) 64 64 rfl _ _ _ rfl rfl hr') hT4 ?_
        simp only [Act.put, List.setIfInBounds_toArray, List.set_cons_zero, List.set_cons_succ]
        have HO := hide ow
        have H3 := hide t3
        have H4 := hide h4
        clear hr hr' ow t3 h4 APP t4 HE R1 R2 HM HN2
        refine wpAnyH_yield 9 0 (.slice a4 (q (i + 1)).length c4) rfl rfl (by kernel_rfl) (by kernel_rfl) (by kernel_rfl) (fun _ _ _ h => h) (by kernel_rfl) (fun W hW => by kernel_rfl) (by assumption) rfl rfl ?_
        simp only [Act.put, List.setIfInBounds_toArray, List.set_cons_zero]
        refine wpAnyH_done (by kernel_rfl) ?_ _
        clear hT0 hC0 hT4
        go_wp2_with fail
        go_roundw
        case rel => exact ⟨i + 1, a4, c4, by go_num, by omega, rfl, HO.out, H3.out, H4.out, hn4⟩
        case measure => simp [intOf]; omega
    · have hltz : ¬ (i : Int) < (p.k.size : Int) := by omega
      obtain rfl : i = p.k.size := by omega
      have hl1 := QL.out _ hi
      obtain ⟨a2, c2, w3, hr2, ow2, t2, -⟩ := by_appM [34, 32] OW BW.out (by simp only [List.length_cons, List.length_nil]; omega)
      have T3 := Wr.row OW t2 BW.out
      have Z3 : B ≤ w3.heap.size := by have := T3.size; have := BW.out; omega
      have e2 : (q p.k.size ++ [34, 32]).length = (q p.k.size).length + 2 := by simp
      obtain ⟨a3, c3, w4, hr3, ow3, t3⟩ := by_appS (kdB j) ow2 Z3 (by rw [e2]; have := KL.out; rw [bsL_len] at this; omega)
      rw [T0.out] at ow3 hr3
      have TT := (TR.trans T3).trans (Wr.row ow2 t3 Z3)
      have HR2' : (Builtin.append_ #[64, 64] 64 #[.slice a (q p.k.size).length c, .slice (some ⟨wr.heap.size, 0, none⟩) 2 2]).run Tryz.prog (wr.alloc (.cells #[.int .u8 34, .int .u8 32] 5)) = .ok (.slice a2 (q p.k.size ++ [34, 32]).length c2) w3 := hr2
      have HR2 := hide HR2'
      have HR3 := hide hr3
      have H3 := hide ow3
      have W4 := hide TT
      have P3 := hide ((TR.trans T3).at P2.out (by decide))
      have P4 := hide (TT.at P2.out (by decide))
      have K3 := hide (KC.out w3 (W2.out.trans (TR.trans T3)).below)
      have HD2 := HD.out
      have hj4 : (j : Int) < 4 := by omega
      have hj0 : (0 : Int) ≤ (j : Int) := by omega
      clear hr2 HR2' hr3 ow2 ow3 t2 t3 T3 Z3 e2 hl1 OW TR hg2 HN BW QS QL BC
      obtain ⟨⟨d0, d1, d2, d3, d4⟩, d5, d6, d7, d8⟩ := pn_cells P3.out
      obtain ⟨⟨c0, c1, c2', c3', c4⟩, c5, c6, c7, c8⟩ := pn_cells P4.out
      rw [HD2] at d3
      have k3 := K3.out
      generalize (q p.k.size ++ [34, 32]).length = l2 at *
      go_wp2_with (at_builtin; first | refine Rc.wpList_appR rfl (.tmp 36) (.tmp 37) 64 64 rfl _ _ _ rfl rfl HR2.out ?_ | refine Rc.wpList_appR rfl (.tmp 39) (.tmp 43) 64 9 rfl _ _ _ rfl rfl HR3.out ?_)
      clear k3 K3 d0 d1 d2 d3 d4 d5 d6 d7 d8 c0 c1 c2' c3' c4 c5 c6 c7 c8 HR2 HR3 P3 P4 P2 KC KL T0
      go_loopw [0, 66] (fun s0 s66 wr => ∃ (i : Nat) (a : Option Addr) (c : Nat), s66 = .int .i64 (i : Int) ∧ i ≤ 7 ∧ s0 = .slice a (tx i).length c ∧ encB.Own 5 wr B (.slice a (tx i).length c) (tx i) ∧ Wr B w2 wr) (fun _ s66 _ => 7 - (intOf s66).toNat)
      case atStart => exact ⟨0, _, _, rfl, by omega, rfl, H3.out, W4.out⟩
      case round =>
        obtain ⟨i, a, c, rfl, hi, rfl, OW, TR⟩ := hrel
        clear H3 W4
        have BW : Hid (B ≤ wr.heap.size) := hide (by have := TR.size; have := Z2.out; omega)
        by_cases hlt : i < 7
        · have hltz : (i : Int) < 7 := by omega
          have ix := IX.out i hlt wr
          have hl1 := TL.out i hi
          have hts := TS.out i hlt
          obtain ⟨n0, n1⟩ := NI.out i hlt
          obtain ⟨a2, c2, w3, hr2, ow2, t2, -⟩ := by_appM [32] OW BW.out (by simp only [List.length_cons, List.length_nil]; omega)
          have T3 := Wr.row OW t2 BW.out
          have Z3 : B ≤ w3.heap.size := by have := T3.size; have := BW.out; omega
          have e2 : (tx i ++ [32]).length = (tx i).length + 1 := by simp
          have C3 := CI.out ((numsP p).getD i 0) n0 n1 (tx i ++ [32]) (.slice a2 (tx i ++ [32]).length c2) w3 ow2 Z3 (by rw [e2]; omega) (HT.out.on (W2.out.trans (TR.trans T3)).below)
          rw [← hts] at C3
          have hr2' : (Builtin.append_ #[64, 64] 64 #[.slice a (tx i).length c, .slice (some ⟨wr.heap.size, 0, none⟩) 1 1]).run Tryz.prog (wr.alloc (.cells #[.int .u8 32] 5)) = .ok (.slice a2 (tx i ++ [32]).length c2) w3 := hr2
          have HR2 := hide hr2'
          have HC3 := hide C3
          have W3 := hide (TR.trans T3)
          clear hr2 hr2' ow2 t2 T3 Z3 e2 hl1 OW TR BW C3 hts n0 n1 IX NI TS TL TE CI HT
          generalize (numsP p).getD i 0 = x at *
          generalize (tx i ++ [32]).length = l2 at *
          go_wp2_with (at_builtin; refine Rc.wpList_appR rfl (.tmp 69) (.tmp 70) 64 64 rfl _ _ _ rfl rfl HR2.out ?_)
          refine HC3.out.mono ?_
          rintro r w5 ⟨a5, c5, rfl, o5, T5⟩
          have O5 := hide o5
          have W5 := hide (W3.out.trans T5)
          clear o5 T5 HC3 HR2 ix
          go_wp2_with fail
          go_roundw
          case rel => exact ⟨i + 1, a5, c5, by go_num, by omega, rfl, O5.out, W5.out⟩
          case measure => simp [intOf]; omega
        · have hltz : ¬ (i : Int) < 7 := by omega
          obtain rfl : i = 7 := by omega
          have HO := hide OW
          have HW := hide (W2.out.trans TR)
          clear OW TR IX NI TS TL CI HT BW
          go_wp2_with fail
          go_ret
          refine ⟨a, c, ?_, ?_, HW.out⟩
          · rw [← TE.out]; rfl
          · rw [← TE.out]; exact HO.out

end Go.Proofs.YtamfcmmhmfhhkaaGreatDoor
