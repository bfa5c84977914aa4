/- The document's owners: whose each group is. -/
import Derived.Test.YtmhobdcnohhaaaaGKnown
import Derived.Laws.AppendOwn
namespace Go.Proofs.Ytmhobdcnohhaaaa
open Go.RowKit

/-- The owners of the groups below n. -/
def whose (p g n : Nat) : List Int := (List.range n).map fun k => (wk p g k : Int)

theorem whose_len (p g n : Nat) : (whose p g n).length = n := by unfold whose; simp
theorem whose_succ (p g n : Nat) : whose p g (n + 1) = whose p g n ++ [(wk p g n : Int)] := by unfold whose; rw [List.range_succ, List.map_append]; rfl
theorem whose_zero (p g : Nat) : whose p g 0 = [] := rfl
theorem whose_at (p g n k : Nat) (h : k < n) : (whose p g n)[k]'(by rw [whose_len]; exact h) = (wk p g k : Int) := by unfold whose; simp

theorem infoI : (Try.prog.info? 3).map (fun i => (i.zero, i.size, i.bytes)) = some (some (.int .i64 0), 1, 8) := by kernel_rfl

set_option maxRecDepth 100000 in
set_option maxHeartbeats 2000000 in
theorem owners_any (p g : Nat) (h : May p g) (w : World) : Calls Try.prog 35 #[.int .i64 p, .int .i64 g] w fun e w' => ∃ ao c, e = .returned (.slice ao g c) ∧ Row w' 3 .i64 (.slice ao g c) (whose p g g) ∧ (∀ b, (Value.slice ao g c).ownBlock = some b → w.heap.size ≤ b) ∧ Touch (fun _ => False) w w' := by
  obtain ⟨i0, hi, hz0, hz1, hz2⟩ := info_parts2 infoI
  have S := hide (fun k (hk : k < p) => rstretch_yes k p g h hk)
  have HM := hide h
  have HP := hide (Nat.le_trans h.p2 h.g2)
  have HG2 := hide h.g2
  have HGR := hide (Grew.refl w (.slice none 0 0))
  go_enter Try.func35, Try.ntmps35
  go_wp2_with fail
  go_loopw [5, 6] (fun v i wr => ∃ (k : Nat) (ao : Option Addr) (n c : Nat), i = .int .i64 (k : Int) ∧ k ≤ p ∧ v = .slice ao n c ∧ Row wr 3 .i64 (.slice ao n c) (whose p g (st p g k)) ∧ Grew w (.slice none 0 0) wr (.slice ao n c)) (fun _ i _ => p - (intOf i).toNat)
  case atStart => exact ⟨0, none, 0, 0, rfl, Nat.zero_le _, rfl, by rw [st_zero]; exact Row.nil _ _ _, HGR.out⟩
  case round =>
    obtain ⟨k, ao, n, c, rfl, hk, rfl, hr, hg⟩ := hrel
    by_cases hlt : k < p
    · have hlt' : (k : Int) < (p : Int) := by omega
      have SK := hide (S.out k hlt)
      have HR := hide hr
      have HGW := hide hg
      have SW := hide (succ_wrap (k := k) (by have := HP.out; omega))
      have HB := hide (st_le HM.out (k := k + 1) hlt)
      have HLE := hide (show st p g k ≤ st p g (k + 1) from st_mono (by omega))
      have HW := hide (fun j (h1 : st p g k ≤ j) (h2 : j < st p g (k + 1)) => wk_uniq HM.out h1 h2)
      clear hr hg
      generalize hsa : st p g k = sa at *
      generalize hsb : st p g (k + 1) = sb at *
      have HSA := hide hsa
      have HSB := hide hsb
      clear hsa hsb
      go_wp2_with fail
      refine (SK.out _).mono ?_
      rintro e w' ⟨rfl, rfl⟩
      have HR1 := hide (HR.out.drew)
      have HG1 := hide (HGW.out.trans (Grew.mk ((Touch.refl _ wr).drew) (.inl rfl)))
      clear HR HGW
      generalize wr.drew = w1 at *
      go_wp2_with fail
      go_loopw [5, 10] (fun v i wq => ∃ (j : Nat) (ao : Option Addr) (n c : Nat), i = .int .i64 (j : Int) ∧ sa ≤ j ∧ j ≤ sb ∧ v = .slice ao n c ∧ Row wq 3 .i64 (.slice ao n c) (whose p g j) ∧ Grew w (.slice none 0 0) wq (.slice ao n c)) (fun _ i _ => sb - (intOf i).toNat)
      case atStart => exact ⟨sa, ao, n, c, rfl, Nat.le_refl _, HLE.out, rfl, HR1.out, HG1.out⟩
      case round =>
        obtain ⟨j, ao2, n2, c2, rfl, hj1, hj2, rfl, hr2, hg2⟩ := hrel
        by_cases hjl : j < sb
        · have hjl' : (j : Int) < (sb : Int) := by omega
          have HWJ := hide (HW.out j hj1 hjl)
          have HR2 := hide (hr2.alloc (.cells #[.int .i64 (k : Int)] 3))
          have HG3 := hide (hg2.alloc (.cells #[.int .i64 (k : Int)] 3))
          have SJ := hide (succ_wrap (k := j) (by have := HB.out; have := HG2.out; omega))
          have HLN := hide (whose_len p g j)
          have HWS := hide (whose_succ p g j)
          have HJB := hide (show j ≤ 32768 by have := HB.out; have := HG2.out; omega)
          clear hr2 hg2
          generalize whose p g j = xs at *
          go_wp2_with (at_builtin; refine wpList_append_row _ rfl (.tmp 30) (.tmp 32) 69 69 rfl 3 i0 (.int .i64 0) .i64 8 Try.underlying69 hi hz0 hz1 hz2 rfl _ xs rfl HR2.out _ [(k : Int)] rfl (src_one Try.underlying69 _ _ _ _) ?b3 ?b4 ?nx)
          case b3 => have := HLN.out; have := HJB.out; unfold maxLen; simp; omega
          case b4 => have := HLN.out; have := HJB.out; simp; omega
          case nx =>
            intro ao3 n3 c3 w3 R3 G3
            have HR3 : Hid (Row w3 3 .i64 (.slice ao3 n3 c3) (whose p g (j + 1))) := hide (by rw [HWS.out, HWJ.out]; exact R3)
            have HG4 := hide (HG3.out.trans G3)
            clear R3 G3
            go_wp2_with fail
            go_roundw
            case rel => exact ⟨j + 1, ao3, n3, c3, by rw [SJ.out], by omega, hjl, rfl, HR3.out, HG4.out⟩
            case measure => rw [SJ.out]; simp [intOf]; omega
        · have ej : j = sb := by omega
          subst ej
          have HR2 := hide hr2
          have HG3 := hide hg2
          clear hr2 hg2
          go_wp2_with fail
          go_roundw
          case rel => exact ⟨k + 1, ao2, n2, c2, by rw [SW.out], hlt, rfl, by rw [HSB.out]; exact HR2.out, HG3.out⟩
          case measure => rw [SW.out]; simp [intOf]; omega
    · have e : k = p := by omega
      subst e
      rw [st_all HM.out] at hr
      have hn := hr.len
      rw [whose_len] at hn
      subst hn
      have HR := hide hr
      have HGW := hide hg
      clear hr hg
      go_wp2_with fail
      go_ret
      refine ⟨ao, c, rfl, HR.out, fun b hb => ?_, HGW.out.touch.mono (fun k _ h => by simp [Value.ownBlock] at h)⟩
      rcases HGW.out.fresh with e | ⟨g', e, hg'⟩
      · rw [hb] at e; simp [Value.ownBlock] at e
      · rw [hb] at e; injection e with e; omega

end Go.Proofs.Ytmhobdcnohhaaaa
