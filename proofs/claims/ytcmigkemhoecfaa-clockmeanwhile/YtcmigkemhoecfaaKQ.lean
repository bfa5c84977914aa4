/- The law's tells: what a clock tells of itself. -/
import Derived.Test.YtcmigkemhoecfaaKI
import Derived.Test.YtcmigkemhoecfaaKH
import Derived.Test.YtcmigkemhoecfaaYLi
namespace Go.Proofs.Ytcmigkemhoecfaa
open Go.RowKit

theorem num13_any (x : Int) (w : World) : Calls Try.prog 12 #[.int .i64 x] w fun e w' => e = .returned (.int .i64 x) ∧ w' = w := by
  go_enter Try.func12, Try.ntmps12
  go_wp2_with fail
  go_ret
  exact ⟨rfl, rfl⟩

/-- Two clocks tell the same: cv the program's, rv the document's. -/
structure Told (w : World) (cv rv : Value) (L : List Int) (H : List Hd) (mk out : Int) : Prop where
  cFirst : ∀ W, Calm w W → Calls Try.prog 40 #[cv] W fun e w' => e = .returned (firV H) ∧ Calm W w'
  rFirst : ∀ W, Calm w W → Calls Try.prog 41 #[rv] W fun e w' => e = .returned (firV H) ∧ Calm W w'
  cMark : ∀ W, Calm w W → Calls Try.prog 24 #[cv] W fun e w' => e = .returned (.int .i64 mk) ∧ Calm W w'
  rMark : ∀ W, Calm w W → Calls Try.prog 42 #[rv] W fun e w' => e = .returned (.int .i64 mk) ∧ Calm W w'
  cLen : ∀ W, Calm w W → Calls Try.prog 43 #[cv] W fun e w' => e = .returned (.int .i64 (H.length : Int)) ∧ Calm W w'
  rLen : ∀ W, Calm w W → Calls Try.prog 44 #[rv] W fun e w' => e = .returned (.int .i64 (H.length : Int)) ∧ Calm W w'
  cOut : ∀ W, Calm w W → Calls Try.prog 25 #[cv] W fun e w' => e = .returned (.int .i64 out) ∧ Calm W w'
  rOut : ∀ W, Calm w W → Calls Try.prog 45 #[rv] W fun e w' => e = .returned (.int .i64 out) ∧ Calm W w'
  cMarks : ∀ W, Calm w W → Calls Try.prog 26 #[cv] W fun e w' => ∃ a c, e = .returned (.slice a L.length c) ∧ encJ.Own 2 w' W.heap.size (.slice a L.length c) L ∧ Calm W w'
  rMarks : ∀ W, Calm w W → Calls Try.prog 46 #[rv] W fun e w' => ∃ a c, e = .returned (.slice a L.length c) ∧ encJ.Sl w' a c L ∧ Calm W w'
  len : L.length ≤ 64

theorem Told.calm {w w' : World} {cv rv : Value} {L : List Int} {H : List Hd} {mk out : Int} (h : Told w cv rv L H mk out) (ht : Calm w w') : Told w' cv rv L H mk out :=
  ⟨fun W hW => h.cFirst W (ht.tr hW), fun W hW => h.rFirst W (ht.tr hW), fun W hW => h.cMark W (ht.tr hW), fun W hW => h.rMark W (ht.tr hW), fun W hW => h.cLen W (ht.tr hW), fun W hW => h.rLen W (ht.tr hW), fun W hW => h.cOut W (ht.tr hW), fun W hW => h.rOut W (ht.tr hW), fun W hW => h.cMarks W (ht.tr hW), fun W hW => h.rMarks W (ht.tr hW), h.len⟩

/-- What First tells, by its parts. -/
theorem firV_eq (H : List Hd) : ∃ (x : ByteArray) (t : Int) (b : Bool), firV H = .tuple #[.string x, .int .i64 t, .bool b] := by
  unfold firV
  split
  · exact ⟨_, _, _, rfl⟩
  · exact ⟨_, _, _, rfl⟩

set_option maxRecDepth 100000 in
set_option maxHeartbeats 4000000 in
theorem tells_any (cv rv : Value) (L : List Int) (H : List Hd) (mk out : Int) (w : World) (h : Told w cv rv L H mk out) : Calls Try.prog 18 #[cv, rv] w fun e w' => e = .returned (.bool true) ∧ Calm w w' := by
  obtain ⟨fx, ft, fb, hf⟩ := firV_eq H
  have C1 := hide h.cFirst
  have C2 := hide h.rFirst
  rw [hf] at C1 C2
  have C3 := hide h.cMark
  have C4 := hide h.rMark
  have C5 := hide h.cLen
  have C6 := hide h.rLen
  have C7 := hide h.cOut
  have C8 := hide h.rOut
  have C9 := hide h.cMarks
  have C10 := hide h.rMarks
  have hlen := h.len
  have CI : Hid (∀ ao ca bo cb W, encJ.Mem W ao L → encJ.Mem W bo L → Calls Try.prog 29 #[.slice ao L.length ca, .slice bo L.length cb] W fun e w' => e = .returned (.bool true) ∧ Calm W w') := hide fun ao ca bo cb W h1 h2 => kitInts_same ao bo L ca cb W (seg_ints h1) (seg_ints h2) (by omega)
  clear h hf
  generalize H.length = hn at *
  generalize hN : L.length = n at *
  go_enter Try.func18, Try.ntmps18
  go_wp2_with fail
  refine (C1.out _ (Touch.refl _ _)).mono ?_
  rintro e w1 ⟨rfl, T1⟩
  have H1 := hide T1
  clear T1 C1
  go_wp2_with fail
  refine (C2.out _ H1.out).mono ?_
  rintro e w2 ⟨rfl, T2⟩
  have H2 := hide (H1.out.tr T2)
  clear T2 C2 H1
  go_wp2_with fail
  refine (C9.out _ H2.out).mono ?_
  rintro e w3 ⟨la, lc, rfl, OL, T3⟩
  have H3 := hide (H2.out.tr T3)
  have OL3 := hide (Rc.Own.base OL H2.out.size)
  clear T3 H2 OL
  go_wp2_with fail
  refine (C9.out _ H3.out).mono ?_
  rintro e w4 ⟨ma, mc, rfl, OM, T4⟩
  have H4 := hide (H3.out.tr T4)
  have OL4 := hide (Rc.Own.calm OL3.out T4)
  have OM4 := hide OM
  have hl3 : ∀ g, (Value.slice la n lc).ownBlock = some g → g < w3.heap.size := fun g hg => (own_lt OL3.out hg).2
  have HL3 := hide hl3
  clear T4 H3 OL3 OM hl3
  go_wp2_with fail
  refine (C3.out _ H4.out).mono ?_
  rintro e w5 ⟨rfl, T5⟩
  have H5 := hide (H4.out.tr T5)
  have OL5 := hide (Rc.Own.calm OL4.out T5)
  have OM5 := hide (Rc.Own.calm OM4.out T5)
  clear T5 H4 OL4 OM4 C3
  go_wp2_with fail
  refine (C4.out _ H5.out).mono ?_
  rintro e w6 ⟨rfl, T6⟩
  have H6 := hide (H5.out.tr T6)
  have OL6 := hide (Rc.Own.calm OL5.out T6)
  have OM6 := hide (Rc.Own.calm OM5.out T6)
  clear T6 H5 OL5 OM5 C4
  go_wp2_with fail
  refine (C5.out _ H6.out).mono ?_
  rintro e w7 ⟨rfl, T7⟩
  have H7 := hide (H6.out.tr T7)
  have OL7 := hide (Rc.Own.calm OL6.out T7)
  have OM7 := hide (Rc.Own.calm OM6.out T7)
  clear T7 H6 OL6 OM6 C5
  go_wp2_with fail
  refine (C6.out _ H7.out).mono ?_
  rintro e w8 ⟨rfl, T8⟩
  have H8 := hide (H7.out.tr T8)
  have OL8 := hide (Rc.Own.calm OL7.out T8)
  have OM8 := hide (Rc.Own.calm OM7.out T8)
  clear T8 H7 OL7 OM7 C6
  go_wp2_with fail
  refine (C7.out _ H8.out).mono ?_
  rintro e w9 ⟨rfl, T9⟩
  have H9 := hide (H8.out.tr T9)
  have OL9 := hide (Rc.Own.calm OL8.out T9)
  have OM9 := hide (Rc.Own.calm OM8.out T9)
  clear T9 H8 OL8 OM8 C7
  go_wp2_with fail
  refine (C8.out _ H9.out).mono ?_
  rintro e w10 ⟨rfl, T10⟩
  have H10 := hide (H9.out.tr T10)
  have OL10 := hide (Rc.Own.calm OL9.out T10)
  have OM10 := hide (Rc.Own.calm OM9.out T10)
  clear T10 H9 OL9 OM9 C8
  go_wp2_with fail
  refine (C10.out _ H10.out).mono ?_
  rintro e w11 ⟨ra, rc, rfl, SR, T11⟩
  have H11 := hide (H10.out.tr T11)
  have OL11 := hide (Rc.Own.calm OL10.out T11)
  have OM11 := hide (Rc.Own.calm OM10.out T11)
  have CI1 := hide (CI.out la lc ra rc w11 (Rc.Own.mem OL11.out).2.1 SR.mem)
  clear T11 H10 OL10 OM10 SR
  go_wp2_with fail
  refine CI1.out.mono ?_
  rintro e w12 ⟨rfl, T12⟩
  have H12 := hide (H11.out.tr T12)
  have OL12 := hide (Rc.Own.calm OL11.out T12)
  have OM12 := hide (Rc.Own.calm OM11.out T12)
  clear T12 H11 OL11 OM11 CI1
  go_wp2_with fail
  go_loopw [13] (fun s13 wr => ∃ (i : Nat) (L' : List Int), s13 = .int .i64 (i : Int) ∧ i ≤ n ∧ L'.length = n ∧ encJ.Own 2 wr w.heap.size (.slice la n lc) L' ∧ encJ.Own 2 wr w3.heap.size (.slice ma n mc) L ∧ Calm w wr) (fun s13 _ => n - (intOf s13).toNat)
  case atStart => exact ⟨0, L, rfl, by omega, hN, OL12.out, OM12.out, H12.out⟩
  case round =>
    obtain ⟨i, L', rfl, hi, hL', OL, OM, TR⟩ := hrel
    clear OL12 OM12 H12
    by_cases hlt : i < n
    · have hltz : (i : Int) < (n : Int) := by omega
      obtain ⟨b, off, rfl, ci⟩ := ints_at (Rc.Own.mem OL).2.1 i (by omega)
      have hoff : off = 0 := ((Rc.Own.mem OL).2.2.2.2.2 _ rfl).2.1
      subst hoff
      rw [Nat.zero_add] at ci
      obtain ⟨hbl, cur, hcur⟩ := Rc.own_block OL (g := b) rfl
      have fz := hd_frozen hcur i
      have tS : Touch (fun k => k = b) wr (wr.setCell ⟨b, i, none⟩ (.int .i64 99)) := (Touch.refl (fun k => k = b) _).setCell (p := ⟨b, i, none⟩) (fun _ => rfl) _
      have O2 := hide (jn_set OL i 99)
      have M2 := hide (Rc.Own.touch OM tS fun g hg e => by have := HL3.out b rfl; have := (own_lt OM hg).1; omega)
      have T2 := hide (TR.trans tS fun g hg e => by omega)
      clear OL OM TR tS hcur
      go_wp2_with fail
      go_roundw
      case rel => exact ⟨i + 1, L'.set i 99, by go_num, by omega, by simpa using hL', O2.out, M2.out, T2.out⟩
      case measure => simp [intOf]; omega
    · have hltz : ¬ (i : Int) < (n : Int) := by omega
      obtain rfl : i = n := by omega
      have HOL := hide OL
      have HOM := hide OM
      have HTR := hide TR
      clear OL OM TR
      go_wp2_with fail
      generalize wr = wo at *
      go_loopw [11, 14] (fun s11 s14 w9 => ∃ (j q : Nat) (a : Option Addr) (c : Nat) (L2 : List Int), s11 = .slice a q c ∧ s14 = .int .i64 (j : Int) ∧ j ≤ 20 ∧ q = i + j ∧ L2.length = q ∧ (∀ g, (Value.slice a q c).ownBlock = some g → (Value.slice la i lc).ownBlock = some g ∨ wo.heap.size ≤ g) ∧ encJ.Own 2 w9 w.heap.size (.slice a q c) L2 ∧ encJ.Own 2 w9 w3.heap.size (.slice ma i mc) L ∧ Calm w w9 ∧ wo.heap.size ≤ w9.heap.size) (fun _ s14 _ => 20 - (intOf s14).toNat)
      case atStart => exact ⟨0, i, la, lc, L', rfl, rfl, by omega, by omega, hL', fun g hg => .inl hg, HOL.out, HOM.out, HTR.out, Nat.le_refl _⟩
      case round =>
        obtain ⟨j, q, a, c, L2, rfl, rfl, hj, hq, hL2, hab, OA, OB, TB, SB⟩ := hrel
        have HQ := hide hq
        have hq84 : q ≤ 84 := by omega
        clear hq
        by_cases hlt3 : j < 20
        · have hltz3 : (j : Int) < 20 := by omega
          have OA1 := OA
          rw [← hL2] at OA1
          obtain ⟨i0, hi0, hz0, hsz0, hby0⟩ := Rc.info_parts infoJ
          have own := Rc.Own.calm OA1 ((Touch.refl (fun _ => False) wr).alloc (.cells #[.int .i64 99] 2))
          have hs1 := al_size wr (.cells #[.int .i64 99] 2)
          have hsw := TB.size
          obtain ⟨a4, p4, w4', hr, ow, t2, hn4⟩ := Rc.Own.appw (E := encJ) (ty := 22) Try.underlying22 hi0 hz0 hsz0 hby0 rfl own (some ⟨wr.heap.size, 0, none⟩) 1 [99] (Rc.Mem.new wr [99] 2) (fun h => (nomatch h)) (by simp; unfold maxLen; omega) (by simp; omega) (by omega) (by omega)
          have e3 : (L2 ++ [99]).length = q + 1 := by simp [hL2]
          rw [e3] at hr ow hn4
          rw [hL2] at hr t2 hn4
          have TA : Calm wr (wr.alloc (.cells #[.int .i64 99] 2)) := (Touch.refl _ _).alloc _
          have M2 := hide (Rc.Own.touch (Rc.Own.calm OB TA) t2 fun g hg e => by
            rcases hab g e with h1 | h1
            · have := HL3.out g h1; have := (own_lt OB hg).1; omega
            · have h2 := (own_lt HOM.out hg).2; omega)
          have T2 := hide (Rc.Own.fresh own t2 (fun _ h => by rw [hL2]; exact h) (TB.tr TA) (Nat.le_refl _))
          have O2 := hide ow
          have HR := hide hr
          have A2 : Hid (∀ g, (Value.slice a4 (q + 1) p4).ownBlock = some g → (Value.slice la i lc).ownBlock = some g ∨ wo.heap.size ≤ g) := hide fun g hg => by
            rcases hn4 g hg with h1 | h1
            · exact hab g h1
            · exact .inr (by rw [hs1] at h1; omega)
          have S2 : Hid (wo.heap.size ≤ w4'.heap.size) := hide (by have := t2.size; omega)
          clear OA OB TB SB OA1 own hr ow t2 hn4 TA hab
          go_wp2_with (at_builtin; refine Rc.wpList_appR rfl (.tmp 85) (.tmp 86) 22 22 rfl _ _ _ rfl rfl HR.out ?_)
          go_roundw
          case rel => exact ⟨j + 1, q + 1, a4, p4, L2 ++ [99], rfl, by go_num, by omega, by have := HQ.out; omega, e3, A2.out, O2.out, M2.out, T2.out, S2.out⟩
          case measure => simp [intOf]; omega
        · have hltz3 : ¬ (j : Int) < 20 := by omega
          obtain rfl : j = 20 := by omega
          have hq20 : (20 : Int) ≤ (q : Int) := by have := HQ.out; omega
          have HOB := hide OB
          have HTB := hide TB
          clear OA OB TB SB hab HOL HOM HTR
          go_wp2_with fail
          refine (C10.out _ HTB.out).mono ?_
          rintro e x1 ⟨ra2, rc2, rfl, SR2, U1⟩
          have K1 := hide (HTB.out.tr U1)
          have CI2 := hide (CI.out ma mc ra2 rc2 x1 (Rc.Own.mem (Rc.Own.calm HOB.out U1)).2.1 SR2.mem)
          clear U1 HTB HOB SR2
          go_wp2_with fail
          refine CI2.out.mono ?_
          rintro e x2 ⟨rfl, U2⟩
          have K2 := hide (K1.out.tr U2)
          clear U2 K1 CI2
          go_wp2_with fail
          refine (C9.out _ K2.out).mono ?_
          rintro e x3 ⟨ca, cc, rfl, OC, U3⟩
          have K3 := hide (K2.out.tr U3)
          have OC3 := hide OC
          clear U3 K2 OC
          go_wp2_with fail
          refine (C10.out _ K3.out).mono ?_
          rintro e x4 ⟨ra3, rc3, rfl, SR3, U4⟩
          have K4 := hide (K3.out.tr U4)
          have CI3 := hide (CI.out ca cc ra3 rc3 x4 (Rc.Own.mem (Rc.Own.calm OC3.out U4)).2.1 SR3.mem)
          clear U4 K3 OC3 SR3
          go_wp2_with fail
          refine CI3.out.mono ?_
          rintro e x5 ⟨rfl, U5⟩
          have K5 := hide (K4.out.tr U5)
          clear U5 K4 CI3
          go_wp2_with fail
          go_ret
          exact ⟨rfl, K5.out⟩

end Go.Proofs.Ytcmigkemhoecfaa
