/- The walk of FrameEach. -/
import Derived.Test.YtfeifobljgmkkaaDoorFWalks
import Derived.Test.YtfeifobljgmkkaaDoorFRHead
namespace Go.Proofs.YtfeifobljgmkkaaDoor
open Go.RowKit Crcx

set_option maxRecDepth 100000 in
set_option maxHeartbeats 1000000 in
theorem eachp_any (t : Txt) (w : World) (ho : t.Ok w) (hb : t.xs.length ≤ 140737488351232) : Calls Tryd.prog 25 #[.slice t.ao t.xs.length t.cap] w fun e w' => ∃ ao n c w1, e = .returned (.func (.func 52) #[] #[.pointer (some ⟨w1.heap.size, 0, none⟩)]) ∧ New w w1 (.slice ao n c) t.xs ∧ w' = w1.alloc (.cells #[.slice ao n c] 22) := by
  have FR := hide (fresh_any t w ho hb)
  go_enter Tryd.func25, Tryd.ntmps25
  go_wp2_with fail
  refine FR.out.mono ?_
  rintro e w1 ⟨ao, n, c, rfl, N1⟩
  have HN1 := hide N1
  clear N1 FR
  go_wp2_with fail
  refine (each_any ao n c w1).mono ?_
  rintro e w2 ⟨rfl, rfl⟩
  go_wp2_with fail
  go_ret
  exact ⟨ao, n, c, w1, rfl, HN1.out, rfl⟩

theorem func_not_nil (lb : Array Value) (W : World) : (binOp .eql 53 (.func (.func 52) #[] lb) .nilFunc).run Tryd.prog W = .ok (.bool false) W := by
  have e : binOp .eql 53 (.func (.func 52) #[] lb) .nilFunc = (do pure (.bool (← Op.equalIn (9999 + 1) 53 (.func (.func 52) #[] lb) .nilFunc))) := rfl
  rw [e]
  unfold Op.equalIn
  simp only [Sem.run_bind, run_underlying Tryd.underlying53, Result.andThen_ok, Sem.run_pure]

set_option maxRecDepth 100000 in
set_option maxHeartbeats 2000000 in
theorem each_walk (t : Txt) (leave : Int) (w : World) (hT : Tab w) (ho : t.Ok w) (hc : t.xs.length ≤ t.cap) :
    Calls Tryd.prog 6 #[.slice t.ao t.xs.length t.cap, .int .i64 leave] w fun e w' => e = .returned (.bool true) ∧ Touch (fun _ => False) w w' := by
  have LG := hide (fun W => long_any t.ao t.xs.length t.cap W)
  have KN := hide (fun (W : World) (hW : Touch (fun _ => False) w W) => known_any W (hT.touch hW (fun h => h)))
  have RH := hide (fun (hb : t.xs.length ≤ 2147483648) => rheads_any t w ho hc hb)
  have LE := hide (fun (W : World) (hW : Touch (fun _ => False) w W) (hb : t.xs.length ≤ 200000) => lent_any t W (ho.touch hW) (by omega))
  have OT := hide (fun (W : World) (hW : Touch (fun _ => False) w W) => ho.touch hW)
  have HTT := hide (fun (W : World) (hW : Touch (fun _ => False) w W) => hT.touch hW (fun h => h))
  have H8 := hide ho.in8
  obtain ⟨xl, hxl⟩ : ∃ xl, xl = t.xs.length := ⟨_, rfl⟩
  rw [← hxl] at LG RH LE ⊢
  have HXL := hide hxl
  clear hxl ho hc hT
  by_cases hlong : 200000 < xl
  · have hd : decide ((200000 : Int) < (xl : Int)) = true := decide_eq_true (by omega)
    rw [hd] at LG
    clear hd
    go_enter Tryd.func6, Tryd.ntmps6
    go_wp2_with fail
    refine (LG.out _).mono ?_
    rintro e w' ⟨rfl, rfl⟩
    go_wp2_with fail
    refine (KN.out _ (Touch.refl _ _)).mono ?_
    rintro e w1 ⟨rfl, t1⟩
    go_wp2_with fail
    go_ret
    exact ⟨rfl, t1⟩
  · have hd : decide ((200000 : Int) < (xl : Int)) = false := decide_eq_false (by omega)
    rw [hd] at LG
    clear hd
    have RH1 := hide (RH.out (by omega))
    clear RH
    go_enter Tryd.func6, Tryd.ntmps6
    go_wp2_with fail
    refine (LG.out _).mono ?_
    rintro e w' ⟨rfl, rfl⟩
    clear LG
    go_wp2_with fail
    refine RH1.out.mono ?_
    rintro e w1 ⟨v, pv, bl, p, er, rfl, hB, hN, hH⟩
    obtain ⟨vo, vc, rfl⟩ := hB.shape
    obtain ⟨po, pn, pc, rfl⟩ := hN.row.shape
    have hpn := hN.row.len
    rw [plc_len, List.length_map] at hpn
    obtain ⟨pg, rfl⟩ : ∃ g, po = some ⟨g, 0, none⟩ := by
      rcases hN.row.form with ⟨hv, hx⟩ | ⟨g, cap, cur, hv, _⟩
      · have := plc_len (bl.map Blk.key); rw [hx] at this; simp at this
      · injection hv with h1 _ _; exact ⟨g, h1⟩
    subst hpn
    have HB := hide hB
    have HNU := hide hN
    have HHD := hide hH
    have HT1 := hide hB.touch
    have LE1 := hide (LE.out w1 hB.touch (by omega))
    clear hB hN hH RH1 LE
    go_wp2_with fail
    refine LE1.out.mono ?_
    rintro e w2 ⟨g, c, rfl, L2⟩
    have T2 := HT1.out.trans L2.new.touch (fun _ _ h => h)
    obtain ⟨o2, cp2⟩ := L2.txt H8.out (by rw [← HXL.out]; omega)
    have EA := hide (eachp_any _ w2 o2 (by show t.xs.length ≤ _; rw [← HXL.out]; omega))
    simp only [← HXL.out] at EA
    have HL2 := hide L2
    have HT2 := hide T2
    clear L2 T2 o2 cp2 LE1
    go_wp2_with fail
    refine EA.out.mono ?_
    rintro e w4 ⟨fo, fn, fc, w3, rfl, N3, rfl⟩
    have hfn := N3.row.len
    rw [← HXL.out] at hfn
    subst hfn
    have TA : Touch (fun _ => False) w3 (w3.alloc (.cells #[.slice fo fn fc] 22)) := (Touch.refl _ _).alloc _
    have T24 := N3.touch.trans TA (fun _ _ h => h)
    have L4 := HL2.out.keep T24
    have T4 := HT2.out.trans T24 (fun _ _ h => h)
    have KE := hide (kept_any w1 g c t.ao t.xs t.cap _ L4 (OT.out _ T4).seg (by rw [← HXL.out]; omega))
    have SP := hide (spoilt_any (some ⟨g, 0, none⟩) t.xs.length (t.xs.length + 2) c _ _ L4.new.row (in8_append H8.out (fun x hx => by simp at hx; omega)) (by omega) (by rw [← HXL.out]; omega))
    rw [← HXL.out] at KE SP
    have B4 := World.alloc_heap_new w3 (.cells #[.slice fo fn fc] 22)
    have s23 := N3.touch.size
    have g1 := HL2.out.lo
    have g2 := HL2.out.lt
    have HN3 := hide (N3.keep TA)
    have HT4 := hide T4
    have T14 := HL2.out.new.touch.trans T24 (fun _ _ h => h)
    have HT14 := hide T14
    clear EA N3 TA T24 L4 T4 T14 HL2
    generalize w3.alloc (.cells #[.slice fo fn fc] 22) = w4 at *
    generalize w3.heap.size = Bs at *
    have HNF := func_not_nil #[.pointer (some ⟨Bs, 0, none⟩)]
    go_wp2_with fail
    refine KE.out.mono ?_
    rintro e w' ⟨rfl, rfl⟩
    clear KE
    go_wp2_with fail
    refine SP.out.mono ?_
    rintro e w5 ⟨⟨v5, rfl⟩, t5⟩
    have t5' : Touch (fun k => k = g) w4 w5 := t5.mono (fun k _ h => by simp [Value.ownBlock] at h; exact h.symm)
    have T15 : Touch (fun _ => False) w1 w5 := HT14.out.trans t5' (fun k hk e => by omega)
    have T5 : Touch (fun _ => False) w w5 := HT1.out.trans T15 (fun _ _ h => h)
    have B5 := t5'.heap B4 (fun e => by omega)
    have R5 := HN3.out.row.touch t5' (fun k hk e => by have := HN3.out.lo k hk; omega)
    have hB5 := HB.out.keep T15
    have hN5 := HNU.out.row.touch T15 (fun _ _ h => h)
    have hlst := HHD.out.ok
    have WK := hide (fun (lv : Int) (W : World) (tW : Touch (fun _ => False) w5 W) => walks_any Bs ⟨fo, fc, t.xs⟩ (by have := R5.cap; exact this) (by show t.xs.length ≤ _; rw [← HXL.out]; omega) (bl.map Blk.key) p er HHD.out vo vc pg pc bl lv W
      ⟨by have := (one_cell (tW.heap B5 (fun h => h))).1; rw [HXL.out] at this; exact this, ⟨Seg.of_row (R5.touch tW (fun _ _ h => h)), H8.out, by show t.xs.length ≤ _; rw [← HXL.out]; omega⟩, HTT.out W (T5.trans tW (fun _ _ h => h))⟩
      ((hB5.keep tW).seg hlst) rfl (fun k hk => by
        have := (Seg.of_row (hN5.touch tW (fun _ _ h => h))).at k (by rw [plc_len]; omega)
        rw [Nat.zero_add, plc_at _ k hk] at this
        exact this))
    have HT5 := hide T5
    clear SP t5 t5' T15 T5 B5 R5 hB5 hN5 hlst HB HNU HHD HN3 HT14 HT4 HT2 HT1 B4
    go_wp2_with fail
    refine (WK.out leave w5 (Touch.refl _ _)).mono ?_
    rintro e w6 ⟨rfl, t6⟩
    go_wp2_with fail
    refine (WK.out 0 w6 t6).mono ?_
    rintro e w7 ⟨rfl, t7⟩
    have T7 := (HT5.out.trans t6 (fun _ _ h => h)).trans t7 (fun _ _ h => h)
    go_wp2_with fail
    refine (KN.out _ T7).mono ?_
    rintro e w8 ⟨rfl, t8⟩
    go_wp2_with fail
    go_ret
    exact ⟨rfl, T7.trans t8 (fun _ _ h => h)⟩

end Go.Proofs.YtfeifobljgmkkaaDoor
