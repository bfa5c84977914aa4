/- A job's text (the program's Text). -/
import Derived.Test.YtdcpmpbfnfjncaaGreatDoorEG
import Derived.Test.YtdcpmpbfnfjncaaGreatDoorCQ0
import Derived.Test.YtdcpmpbfnfjncaaGreatDoorCJ0
import Derived.Test.YtdcpmpbfnfjncaaGreatDoorED
import Derived.Test.YtdcpmpbfnfjncaaGreatDoorShj
import Derived.Test.YtdcpmpbfnfjncaaGreatDoorYS
import Derived.Lib.Join
namespace Go.Proofs.YtdcpmpbfnfjncaaGreatDoor
open Go.RowKit

/-- The words and values of the first i fields. -/
def rowT (c : Cf) : Nat → List ByteArray
  | 0 => []
  | i + 1 => rowT c i ++ [nm i, valB i (fldF c i)]
theorem rowT_len (c : Cf) : ∀ i, (rowT c i).length = 2 * i
  | 0 => rfl
  | i + 1 => by rw [rowT, List.length_append, rowT_len c i]; simp; omega

theorem tail_app (s : List UInt8) : ∀ (r r' : List (List UInt8)), Lib.joinTail s (r ++ r') = Lib.joinTail s r ++ Lib.joinTail s r' := by
  intro r r'
  simp [Lib.joinTail]
theorem join_two (s a b : List UInt8) {L : List (List UInt8)} (h : L ≠ []) : Lib.join (L ++ [a, b]) s = Lib.join L s ++ (s ++ a ++ (s ++ b)) := by
  cases L with
  | nil => exact absurd rfl h
  | cons x r =>
    rw [List.cons_append, Lib.join_cons, Lib.join_cons, tail_app]
    simp [Lib.joinTail]
theorem join_row (c : Cf) : ∀ i, 1 ≤ i → Lib.join ((rowT c i).map (·.data.toList)) [32] = (txtS c i).data.toList
  | 0, h => absurd h (by omega)
  | 1, _ => by
    show Lib.join [(nm 0).data.toList, (valB 0 (fldF c 0)).data.toList] [32] = ((((⟨#[]⟩ : ByteArray) ++ nm 0) ++ spB) ++ valB 0 (fldF c 0)).data.toList
    rw [Lib.join_cons]
    simp [Lib.joinTail, spB, ByteArray.data_append]
  | i + 2, _ => by
    have ih := join_row c (i + 1) (by omega)
    have hT : txtS c (i + 2) = (((txtS c (i + 1) ++ spB) ++ nm (i + 1)) ++ spB) ++ valB (i + 1) (fldF c (i + 1)) := by
      show (((if i + 1 = 0 then txtS c (i + 1) else txtS c (i + 1) ++ spB) ++ nm (i + 1)) ++ spB) ++ valB (i + 1) (fldF c (i + 1)) = _
      rw [if_neg (by omega)]
    have hne : (rowT c (i + 1)).map (·.data.toList) ≠ [] := by
      intro h
      have := congrArg List.length h
      rw [List.length_map, rowT_len] at this
      simp at this
    rw [rowT, List.map_append, show ([nm (i + 1), valB (i + 1) (fldF c (i + 1))] : List ByteArray).map (·.data.toList) = [(nm (i + 1)).data.toList, (valB (i + 1) (fldF c (i + 1))).data.toList] from rfl, join_two _ _ _ hne, ih, hT]
    simp [spB, ByteArray.data_append]

/-- Two texts more. -/
theorem st_app2 {w : World} {base : Nat} {ao : Option Addr} {cap : Nat} {A : List ByteArray} (a b : ByteArray) (h : encZ.Own 9 w base (.slice ao A.length cap) A) (hs : base ≤ w.heap.size) (hn : A.length ≤ 1000000000000) :
    ∃ a2 p2 w4, (Builtin.append_ #[55, 55] 55 #[.slice ao A.length cap, .slice (some ⟨w.heap.size, 0, none⟩) 2 2]).run Tryz.prog (w.alloc (.cells #[.string a, .string b] 9)) = .ok (.slice a2 (A.length + 2) p2) w4 ∧
      encZ.Own 9 w4 base (.slice a2 (A ++ [a, b]).length p2) (A ++ [a, b]) ∧ Touch (fun d => (Value.slice ao A.length cap).ownBlock = some d) w w4 := by
  obtain ⟨i0, hi, hz, hsz, hby⟩ := Rc.info_parts infoStr
  have own := Rc.Own.calm h ((Touch.refl (fun _ => False) w).alloc (.cells #[.string a, .string b] 9))
  have hs1 := al_size w (.cells #[.string a, .string b] 9)
  obtain ⟨a2, p2, w4, hr, ow, t2, -⟩ := Rc.Own.appw (E := encZ) (ty := 55) Tryz.underlying55 hi hz hsz hby rfl own (some ⟨w.heap.size, 0, none⟩) 2 [a, b] (Rc.Mem.new w [a, b] 9) (fun h => (nomatch h)) (by simp; unfold maxLen; omega) (by simp; omega) (by omega) (by omega)
  have e3 : (A ++ [a, b]).length = A.length + 2 := by simp
  refine ⟨a2, p2, w4, by rw [← e3]; exact hr, ow, ?_⟩
  exact Touch.trans (((Touch.refl (fun _ => False) w).alloc _).mono fun _ _ h => h.elim) t2 fun _ _ h => h

/-- What the program's Text answers. -/
def RetT (w : World) (e : Ending) (w' : World) (c : Cf) : Prop :=
  e = .returned (.tuple #[.string (if wrongN c = 0 then txtS c 10 else ⟨#[]⟩), .int .i64 (if wrongN c = 0 then 0 else 4)]) ∧ Calm w w'

/-- The words' block. -/
abbrev gW : Nat := 0

set_option maxRecDepth 100000 in
set_option maxHeartbeats 1000000 in
theorem text_any (c : Cf) (hp : wrongN c = 0 → TxtOk c) (w : World) (ht : Tab w) (hw : Words w gW) : Calls Tryz.prog 6 #[cfv c] w fun e w' => RetT w e w' c := by
  have CK := fun w => hide (check_any c w)
  have CN := fun w => hide (numbersOf_any c w)
  have T0 := hide ((Touch.refl (fun _ => False) w).alloc (.cells (cfc c) 24))
  have A0 := hide (al_new w (.cells (cfc c) 24))
  by_cases hw0 : wrongN c = 0
  · have HC : Hid (chN (fwN (fldF c)) = 0) := hide (by rw [ch_job, if_pos hw0])
    have HE : Hid (∀ e w', e = .returned (.tuple #[.string (txtS c 10), .int .i64 0]) → Calm w w' → RetT w e w' c) := hide fun e w' h1 h2 => ⟨by rw [h1, if_pos hw0, if_pos hw0], h2⟩
    have HJ := hide (join_row c 10 (by omega))
    have HS := hide (txtS_size (hp hw0) 10 (by omega))
    have CV : Hid (∀ i : Nat, i < 10 → ∀ W, Calm w W → Calls Tryz.prog 21 #[.int .i64 (i : Int), .int .i64 (fldF c i)] W fun e w' => e = .returned (.string (valB i (fldF c i))) ∧ Calm W w') := hide fun i hi W hW => value_any i _ hi (hp hw0 i hi) W (ht.calm hW)
    have WG := hide hw
    have NX : Hid (∀ i, rowT c (i + 1) = rowT c i ++ [nm i, valB i (fldF c i)]) := hide fun _ => rfl
    have LN := hide (rowT_len c)
    have Z0 : Hid (rowT c 0 = []) := hide rfl
    have IX : Hid (∀ (i : Nat), i < 10 → ∀ W, (Instr.index 49 (.agg (f10c (fldF c))) (.int .i64 (i : Int))).run Tryz.prog W = .ok (.int .i64 (fldF c i)) W) := hide fun i hi W => run_index_numbers _ i hi W
    clear hw0 hp hw ht
    simp only [HC.out] at CK
    clear HC
    go_enter Tryz.func6, Tryz.ntmps6
    go_wp2_with fail
    generalize w.alloc (.cells (cfc c) 24) = w0 at *
    generalize hA : w.heap.size = A at *
    refine (CK _).out.mono ?_
    rintro e w1 ⟨rfl, T1⟩
    have B1 := T1.at A0.out
    have TT1 := hide (T0.out.tr T1)
    obtain ⟨⟨g0, g1, g2, g3, g4, g5, g6⟩, g7, g8, g9⟩ := cf_cells B1
    clear CK T1 T0 A0 B1
    go_wp2_with fail
    refine (CN _).out.mono ?_
    rintro e w3 ⟨rfl, T3⟩
    have TT3 := hide (TT1.out.tr T3)
    clear T3 TT1 CN g0 g1 g2 g3 g4 g5 g6 g7 g8 g9
    generalize fldF c = F at *
    generalize f10c F = FF at *
    go_wp2_with fail
    go_loopw [5, 15] (fun s5 s15 wr => ∃ (i n : Nat) (ao : Option Addr) (cap : Nat), s15 = .int .i64 (i : Int) ∧ i ≤ 10 ∧ s5 = .slice ao n cap ∧ n = (rowT c i).length ∧ encZ.Own 9 wr A (.slice ao n cap) (rowT c i) ∧ Calm w wr) (fun _ s _ => 10 - (intOf s).toNat)
    case atStart => exact ⟨0, 0, none, 0, rfl, by omega, rfl, by rw [Z0.out]; rfl, by rw [Z0.out]; exact Rc.Own.nil _ _ _, TT3.out⟩
    case round =>
      obtain ⟨i, n, ao, cap, rfl, hi, rfl, hn, OA, TL⟩ := hrel
      by_cases hlt : i < 10
      · have hltz : (i : Int) < 10 := by omega
        have ix := IX.out i hlt
        have hn2 : n = 2 * i := by rw [hn, LN.out]
        have HOA := hide OA
        have HTL := hide TL
        have hAl : A ≤ wr.heap.size := by rw [← hA]; exact TL.size
        have NXi := hide (NX.out i)
        have CVi := hide (CV.out i hlt)
        clear OA TL IX
        generalize F i = x at *
        generalize hv : valB i x = v at *
        go_wp2_with fail
        have OA := HOA.out
        have LW : Hid (∀ W, Touch (fun d => (Value.slice ao n cap).ownBlock = some d) wr W → W.cell? ⟨gW, i, none⟩ = some (.string (nm i))) := hide fun W hW => WG.out W (own_calm OA hW HTL.out (by omega)) i hlt
        refine wp_region_held (S := Touch (fun d => (Value.slice ao n cap).ownBlock = some d) wr) (by kernel_rfl) ?_
        have hT0 : Touch (fun d => (Value.slice ao n cap).ownBlock = some d) wr { wr with drawn := wr.drawn + 1 } := (Touch.refl _ wr).drew
        have hC0 : Calm wr { wr with drawn := wr.drawn + 1 } := (Touch.refl _ wr).drew
        refine wpAnyH_yield 0 19 (.slice ao n cap) rfl rfl (by kernel_rfl) (by kernel_rfl) (by kernel_rfl) (fun _ _ _ h => h) (by kernel_rfl) (fun W hW => by kernel_rfl) (by assumption) rfl rfl ?_
        simp only [Act.put, List.setIfInBounds_toArray, List.set_cons_zero, List.set_cons_succ]
        refine wpAnyH_yield 1 20 (.int .i64 (i : Int)) rfl rfl (by kernel_rfl) (by kernel_rfl) (by kernel_rfl) (fun _ _ _ h => h) (by kernel_rfl) (fun W hW => by kernel_rfl) (by assumption) rfl rfl ?_
        simp only [Act.put, List.setIfInBounds_toArray, List.set_cons_zero, List.set_cons_succ]
        refine wpAnyH_yield 2 21 (.pointer (some ⟨gW, i, none⟩)) rfl rfl (by kernel_rfl) (by kernel_rfl) (by kernel_rfl) (fun _ _ _ h => h) (by kernel_rfl) (fun W hW => by go_simp) (by assumption) rfl rfl ?_
        simp only [Act.put, List.setIfInBounds_toArray, List.set_cons_zero, List.set_cons_succ]
        refine wpAnyH_yield 3 22 (.string (nm i)) rfl rfl (by kernel_rfl) (by kernel_rfl) (by kernel_rfl) (fun _ _ _ h => h) (by kernel_rfl) (fun W hW => by have q := LW.out W hW; go_simp) (by assumption) rfl rfl ?_
        simp only [Act.put, List.setIfInBounds_toArray, List.set_cons_zero, List.set_cons_succ]
        refine wpAnyH_yield 4 23 (.int .i64 (i : Int)) rfl rfl (by kernel_rfl) (by kernel_rfl) (by kernel_rfl) (fun _ _ _ h => h) (by kernel_rfl) (fun W hW => by kernel_rfl) (by assumption) rfl rfl ?_
        simp only [Act.put, List.setIfInBounds_toArray, List.set_cons_zero, List.set_cons_succ]
        refine wpAnyH_yield 5 24 (.int .i64 x) rfl rfl (by kernel_rfl) (by kernel_rfl) (by kernel_rfl) (fun _ _ _ h => h) (by kernel_rfl) (fun W hW => by kernel_rfl) (by assumption) rfl rfl ?_
        simp only [Act.put, List.setIfInBounds_toArray, List.set_cons_zero, List.set_cons_succ]
        refine wpAnyH_enter 6 25 21 #[.int .i64 (i : Int), .int .i64 x] rfl rfl (by kernel_rfl) (by kernel_rfl) (by kernel_rfl) ?_
        refine (CVi.out _ (HTL.out.tr hC0)).mono ?_
        rintro rr w5 ⟨rfl, T5⟩
        have C5 := hC0.tr T5
        have h5 : Touch (fun d => (Value.slice ao n cap).ownBlock = some d) wr w5 := C5.mono fun _ _ h => h.elim
        refine ⟨_, rfl, h5, ?_⟩
        simp only [Act.put, List.setIfInBounds_toArray, List.set_cons_zero, List.set_cons_succ]
        have O5 := Rc.Own.calm OA C5
        have hA5 : A ≤ w5.heap.size := Nat.le_trans hAl C5.size
        rw [hn] at O5
        obtain ⟨a2, p2, w4, hr, ow, t2⟩ := st_app2 (nm i) v O5 hA5 (by rw [← hn]; omega)
        rw [← hn] at hr t2
        have e2 : (rowT c i ++ [nm i, v]).length = n + 2 := by rw [List.length_append, ← hn]; rfl
        rw [← NXi.out] at ow e2
        rw [e2] at ow
        have T4 : Touch (fun d => (Value.slice ao n cap).ownBlock = some d) wr w4 := Touch.trans h5 t2 fun _ _ h => h
        refine wpAnyH_value 7 26 (.slice (some ⟨w5.heap.size, 0, none⟩) 2 2) (w' := w5.alloc (.cells #[.string (nm i), .string v] 9)) rfl rfl (by kernel_rfl) (by kernel_rfl) (by go_simp) (h5.alloc _) ?_
        simp only [Act.put, List.setIfInBounds_toArray, List.set_cons_zero, List.set_cons_succ]
        refine wpAnyH_value 8 27 (.slice a2 (n + 2) p2) (w' := w4) rfl rfl (by kernel_rfl) (by kernel_rfl) (exec_apk (.tmp 19) (.tmp 26) 55 55 rfl _ _ _ rfl rfl hr) T4 ?_
        simp only [Act.put, List.setIfInBounds_toArray, List.set_cons_zero, List.set_cons_succ]
        refine wpAnyH_yield 9 5 (.slice a2 (n + 2) p2) rfl rfl (by kernel_rfl) (by kernel_rfl) (by kernel_rfl) (fun _ _ _ h => h) (by kernel_rfl) (fun W hW => by kernel_rfl) (by assumption) rfl rfl ?_
        simp only [Act.put, List.setIfInBounds_toArray, List.set_cons_zero, List.set_cons_succ]
        refine wpAnyH_done (by kernel_rfl) ?_ _
        have HO := hide ow
        have HT := hide (own_calm OA T4 HTL.out (by omega))
        have HE2 := hide e2.symm
        clear OA LW hT0 hC0 C5 h5 O5 hA5 hr ow t2 e2 T4 T5 HOA HTL CVi hv hn hn2 CV NX
        go_wp2_with fail
        go_roundw
        case rel => exact ⟨i + 1, n + 2, a2, p2, by go_num, by omega, rfl, HE2.out, HO.out, HT.out⟩
        case measure => simp [intOf]; omega
      · have hltz : ¬ (i : Int) < 10 := by omega
        obtain rfl : i = 10 := by omega
        have hn2 : n = 20 := by rw [hn, LN.out]
        obtain ⟨-, m2, m3, -, -, -⟩ := Rc.Own.mem OA
        have hx : ∃ b off, ao = some ⟨b, off, none⟩ ∧ ∀ (j : Nat) x, (rowT c 10)[j]? = some x → wr.cell? ⟨b, off + j, none⟩ = some (.string x) := by
          obtain ⟨b, off, e, -⟩ := st_at m2 0 (by rw [← hn]; omega)
          refine ⟨b, off, e, fun j x hj => ?_⟩
          obtain ⟨hj1, hj2⟩ := List.getElem?_eq_some_iff.1 hj
          obtain ⟨b', off', e', hc⟩ := st_at m2 j hj1
          rw [e] at e'
          injection e' with e'
          injection e' with e1 e3
          subst e1 e3
          rw [hc, List.getD_eq_getElem?_getD, hj]; rfl
        obtain ⟨b, off, e, hcells⟩ := hx
        subst e
        have hbk : b < wr.heap.size := by
          have := hcells 0 _ (List.getElem?_eq_getElem (by rw [← hn]; omega))
          rcases Nat.lt_or_ge b wr.heap.size with h | h
          · exact h
          · exfalso; simp [World.cell?, Array.getElem?_eq_none h] at this
        have CJ : Hid (Calls Tryz.prog 22 #[.slice (some ⟨b, off, none⟩) n cap, .string ⟨#[32]⟩] wr fun e w' => e = .returned (.string (txtS c 10)) ∧ Calm wr w') := hide (by
          have j := Any.strings_Join Tryz.lays156 Tryz.Builder_Extra_156 b off cap (rowT c 10) ⟨#[32]⟩ wr hcells hbk (by rw [← hn]; omega) m3 (by
            show (Lib.join ((rowT c 10).map (·.data.toList)) [32]).length ≤ _
            rw [HJ.out]
            have : (txtS c 10).data.toList.length = (txtS c 10).size := rfl
            have := HS.out
            omega)
          rw [← hn] at j
          refine j.mono ?_
          rintro e w' ⟨rfl, hb⟩
          refine ⟨?_, hb.os, hb.tape, hb.output, hb.size, fun k hk _ => hb.block k hk⟩
          show Ending.returned (.string ⟨(Lib.join ((rowT c 10).map (·.data.toList)) [32]).toArray⟩) = _
          rw [HJ.out])
        have HTL := hide TL
        clear OA TL m2 m3 hcells hbk hn hn2 CV NX
        go_wp2_with fail
        refine CJ.out.mono ?_
        rintro e w5 ⟨rfl, T5⟩
        have HF := hide (HE.out _ w5 rfl (HTL.out.tr T5))
        clear T5 CJ
        go_wp2_with fail
        go_ret2
        exact HF.out
  · have HC : Hid (chN (fwN (fldF c)) = 4) := hide (by rw [ch_job, if_neg hw0])
    have HE : Hid (∀ e w', e = .returned (.tuple #[.string ⟨#[]⟩, .int .i64 4]) → Calm w w' → RetT w e w' c) := hide fun e w' h1 h2 => ⟨by rw [h1, if_neg hw0, if_neg hw0], h2⟩
    clear hw0 hp hw ht
    simp only [HC.out] at CK
    clear HC
    go_enter Tryz.func6, Tryz.ntmps6
    go_wp2_with fail
    refine (CK _).out.mono ?_
    rintro e w1 ⟨rfl, T1⟩
    have HF := hide (HE.out _ w1 rfl (T0.out.tr T1))
    clear T1 T0
    go_wp2_with fail
    go_ret2
    exact HF.out

end Go.Proofs.YtdcpmpbfnfjncaaGreatDoor
