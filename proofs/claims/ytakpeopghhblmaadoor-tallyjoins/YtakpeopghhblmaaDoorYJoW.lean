/- The walk of TallyJoins. -/
import Derived.Test.YtakpeopghhblmaaDoorYRw
import Derived.Test.YtakpeopghhblmaaDoorYR3
namespace Go.Proofs.YtakpeopghhblmaaDoor
open Go.RowKit Go.Lib

/-- What is put behind the tallies. -/
abbrev t77 : Tl := ⟨77, 0, 0, 0⟩

set_option maxRecDepth 100000 in
set_option maxHeartbeats 1000000 in
theorem joins_walk (ao : Option Addr) (cap : Nat) (L : List Tl) (w : World) (hs : Tls w ao L) (hok : ∀ t ∈ L, t.Ok) (hb : L.length ≤ 4398046510976) (hnc : ao = none → cap = 0) :
    Calls Tryd.prog 4 #[.slice ao L.length cap] w fun e w' => e = .returned (.bool true) ∧ Calm w w' := by
  have CJ := fun w' ao' cap' (h : Tls w' ao' L) => hide (join_any ao' cap' L w' h (by omega))
  have CR := fun w' (h : Calm w w') => hide (rjoin_any ao cap L w' (hs.calm h) hok (by omega))
  have CW := fun w => hide (works_any w)
  have hat : Hid (∀ k, k < L.length → ∀ W, Calm w W → ∃ b off, ao = some ⟨b, off, none⟩ ∧ W.cell? ⟨b, off + k * 4, none⟩ = some (.int .i64 (L.getD k tl0).c) ∧ W.cell? ⟨b, off + k * 4 + 1, none⟩ = some (.int .i64 (L.getD k tl0).s) ∧ W.cell? ⟨b, off + k * 4 + 2, none⟩ = some (.int .i64 (L.getD k tl0).m) ∧ W.cell? ⟨b, off + k * 4 + 3, none⟩ = some (.int .i64 (L.getD k tl0).x)) := hide fun k hk W hW => (hs.calm hW) k hk
  have T0 : Calm w (w.alloc (.cells #[] 24)) := (Touch.refl _ _).alloc _
  obtain ⟨ao1, c1, w1, hr1, ow1, t1, loc1⟩ := run_lapp (w.alloc (.cells #[] 24)) w.heap.size 32 (.slice (some ⟨w.heap.size, 0, none⟩) 0 0) [] (own_empty w) ao cap L (hs.calm T0) hnc (by simp; omega) (by simp)
  rw [List.nil_append] at hr1 ow1
  have T1 : Calm w w1 := T0.trans t1 (fun k hk h => by simp [Value.ownBlock] at h; omega)
  obtain ⟨ao2, c2, w2, hr2, ow2, t2, -⟩ := run_lapp (w1.alloc (.cells (tlc t77) 24)) w.heap.size 32 (.slice ao1 L.length c1) L (ow1.calm ((Touch.refl _ _).alloc _)) (some ⟨w1.heap.size, 0, none⟩) 1 [t77] (tls_one w1 t77 24) (fun h => (nomatch h)) (by simp; omega) (Nat.le_trans T1.size (by simp))
  have T2 : Calm w w2 := (T1.alloc _).trans t2 (fun k hk h => by have := (own_block ow1 h).1; omega)
  obtain ⟨-, tl2, cp2, -⟩ := ow2.tls
  have l2 : (L ++ [t77]).length = L.length + 1 := by simp
  rw [l2] at hr2 ow2 cp2
  obtain ⟨b2, o2, ha2, -⟩ := tl2 L.length (by rw [l2]; omega)
  subst ha2
  obtain ⟨i0, hi, hz0, hz1, hz2⟩ := info_parts2 infoTally
  have hsl : ∀ W, (Instr.slice 32 (.slice (some ⟨b2, o2, none⟩) (L.length + 1) c2) none (some (.int .i64 L.length)) none).run Tryd.prog W = .ok (.slice (some ⟨b2, o2, none⟩) L.length c2) W := by
    intro W
    have he' : Tryd.prog.elem 32 = 24 := by kernel_rfl
    rw [run_slice_h W 32 (some ⟨b2, o2, none⟩) _ c2 (by rw [he']; exact Tryd.underlying32) .i64 L.length (by omega) (by omega), he']
    simp only [sizeOf, typeInfo]
    simp [hi, hz1, sliced, Addr.add_lit]
  have HX := hide tl2
  have HT := hide T2
  have HO := hide (tl2.take)
  clear hs hok hnc T0 ow1 t1 loc1 T1 ow2 t2 T2 tl2 cp2 hi hz0 hz1 hz2
  have hl1 : ([t77] : List Tl).length = 1 := rfl
  rw [hl1] at hr2
  go_enter Tryd.func4, Tryd.ntmps4
  go_wp2_with (at_builtin; first | refine wpList_appR rfl (.tmp 6) (.tmp 7) 32 32 rfl _ _ _ rfl rfl hr1 ?_ | refine wpList_appR rfl (.tmp 8) (.tmp 10) 32 32 rfl _ _ _ rfl rfl hr2 ?_)
  refine (CJ _ _ _ HO.out).out.mono ?_
  rintro e w3 ⟨rfl, T3⟩
  have X3 := HX.out.calm T3
  have T4 := HT.out.tr T3
  clear HX HT HO hr1 hr2 CJ hsl
  go_wp2_with fail
  have A := al_new w3 (.cells (tlc (joinT L)) 24)
  have T5 := T4.alloc (.cells (tlc (joinT L)) 24)
  have X5 := X3.calm ((Touch.refl (fun _ => False) w3).alloc (.cells (tlc (joinT L)) 24))
  generalize w3.alloc (.cells (tlc (joinT L)) 24) = w4 at *
  generalize w3.heap.size = D at *
  clear X3 T3 T4
  have XK : Hid (∀ k, k < L.length → ∀ W, Calm w4 W → W.cell? ⟨b2, o2 + k * 4, none⟩ = some (.int .i64 (L.getD k tl0).c) ∧ W.cell? ⟨b2, o2 + k * 4 + 1, none⟩ = some (.int .i64 (L.getD k tl0).s) ∧ W.cell? ⟨b2, o2 + k * 4 + 2, none⟩ = some (.int .i64 (L.getD k tl0).m) ∧ W.cell? ⟨b2, o2 + k * 4 + 3, none⟩ = some (.int .i64 (L.getD k tl0).x)) := hide fun k hk W hW => by
    obtain ⟨b, o, e, h⟩ := (X5.calm hW).take k hk
    injection e with e
    injection e with e1 e2
    subst e1 e2
    exact h
  have X7 : Hid (∀ W, Calm w4 W → W.cell? ⟨b2, o2 + L.length * 4, none⟩ = some (.int .i64 77)) := hide fun W hW => by
    obtain ⟨b, o, e, h, -⟩ := (X5.calm hW) L.length (by rw [l2]; omega)
    injection e with e
    injection e with e1 e2
    subst e1 e2
    rw [h]
    simp
  have HA := hide A
  have HT := hide T5
  generalize joinT L = J at *
  generalize L.length = n at *
  clear X5 A T5 l2 hl1
  go_loopw [5] (fun i wr => ∃ k : Nat, i = .int .i64 k ∧ k ≤ n ∧ Calm w4 wr) (fun i _ => n - (intOf i).toNat)
  case atStart => exact ⟨0, rfl, Nat.zero_le _, Touch.refl _ _⟩
  case round =>
    obtain ⟨k, rfl, hk, T6⟩ := hrel
    by_cases hlt : k < n
    · obtain ⟨b, off, rfl, -⟩ := hat.out k hlt w4 HT.out
      have K1 : Hid (∀ W, Calm w4 W → ∃ b' off', some (⟨b, off, none⟩ : Addr) = some ⟨b', off', none⟩ ∧ W.cell? ⟨b', off' + k * 4, none⟩ = some (.int .i64 (L.getD k tl0).c) ∧ W.cell? ⟨b', off' + k * 4 + 1, none⟩ = some (.int .i64 (L.getD k tl0).s) ∧ W.cell? ⟨b', off' + k * 4 + 2, none⟩ = some (.int .i64 (L.getD k tl0).m) ∧ W.cell? ⟨b', off' + k * 4 + 3, none⟩ = some (.int .i64 (L.getD k tl0).x)) := hide fun W hW => hat.out k hlt W (HT.out.tr hW)
      have K2 := hide (XK.out k hlt)
      generalize L.getD k tl0 = u at *
      have hki : (k : Int) < (n : Int) := by omega
      have hki' : (k : Int) < (n : Int) + 1 := by omega
      have H6 := hide T6
      clear T6 hat XK
      go_wp2_with fail
      refine wp_region_held (S := Calm w4) (by kernel_rfl) ?_
      have hT0 : Calm w4 { wr with drawn := wr.drawn + 1 } := H6.out.drew
      refine wpAnyH_yield 0 23 (.slice (some ⟨b2, o2, none⟩) (n + 1) c2) rfl rfl (by kernel_rfl) (by kernel_rfl) (by kernel_rfl) (fun _ _ _ h => h) (by kernel_rfl) (fun W hW => by kernel_rfl) (by assumption) rfl rfl ?_
      simp only [Act.put, List.setIfInBounds_toArray, List.set_cons_zero, List.set_cons_succ]
      refine wpAnyH_yield 1 24 (.int .i64 (k : Int)) rfl rfl (by kernel_rfl) (by kernel_rfl) (by kernel_rfl) (fun _ _ _ h => h) (by kernel_rfl) (fun W hW => by kernel_rfl) (by assumption) rfl rfl ?_
      simp only [Act.put, List.setIfInBounds_toArray, List.set_cons_zero, List.set_cons_succ]
      refine wpAnyH_yield 2 25 (.pointer (some ⟨b2, o2 + k * 4, none⟩)) rfl rfl (by kernel_rfl) (by kernel_rfl) (by kernel_rfl) (fun _ _ _ h => h) (by kernel_rfl) (fun W hW => by go_simp) (by assumption) rfl rfl ?_
      simp only [Act.put, List.setIfInBounds_toArray, List.set_cons_zero, List.set_cons_succ]
      refine wpAnyH_yield 3 26 (tlv u) rfl rfl (by kernel_rfl) (by kernel_rfl) (by kernel_rfl) (fun _ _ _ h => h) (by kernel_rfl) (fun W hW => by obtain ⟨c0, c1, c2, c3⟩ := K2.out W hW; go_simp) (by assumption) rfl rfl ?_
      simp only [Act.put, List.setIfInBounds_toArray, List.set_cons_zero, List.set_cons_succ]
      refine wpAnyH_yield 4 27 (.slice (some ⟨b, off, none⟩) n cap) rfl rfl (by kernel_rfl) (by kernel_rfl) (by kernel_rfl) (fun _ _ _ h => h) (by kernel_rfl) (fun W hW => by kernel_rfl) (by assumption) rfl rfl ?_
      simp only [Act.put, List.setIfInBounds_toArray, List.set_cons_zero, List.set_cons_succ]
      refine wpAnyH_yield 5 28 (.int .i64 (k : Int)) rfl rfl (by kernel_rfl) (by kernel_rfl) (by kernel_rfl) (fun _ _ _ h => h) (by kernel_rfl) (fun W hW => by kernel_rfl) (by assumption) rfl rfl ?_
      simp only [Act.put, List.setIfInBounds_toArray, List.set_cons_zero, List.set_cons_succ]
      refine wpAnyH_yield 6 29 (.pointer (some ⟨b, off + k * 4, none⟩)) rfl rfl (by kernel_rfl) (by kernel_rfl) (by kernel_rfl) (fun _ _ _ h => h) (by kernel_rfl) (fun W hW => by go_simp) (by assumption) rfl rfl ?_
      simp only [Act.put, List.setIfInBounds_toArray, List.set_cons_zero, List.set_cons_succ]
      refine wpAnyH_yield 7 30 (tlv u) rfl rfl (by kernel_rfl) (by kernel_rfl) (by kernel_rfl) (fun _ _ _ h => h) (by kernel_rfl) (fun W hW => by obtain ⟨b', off', e, c0, c1, c2, c3⟩ := K1.out W hW; injection e with e; injection e with e1 e2; subst e1 e2; go_simp) (by assumption) rfl rfl ?_
      simp only [Act.put, List.setIfInBounds_toArray, List.set_cons_zero, List.set_cons_succ]
      refine wpAnyH_yield 8 31 (.bool false) rfl rfl (by kernel_rfl) (by kernel_rfl) (by kernel_rfl) (fun _ _ _ h => h) (by kernel_rfl) (fun W hW => by go_simp) (by assumption) rfl rfl ?_
      simp only [Act.put, List.setIfInBounds_toArray, List.set_cons_zero, List.set_cons_succ]
      refine wpAnyH_done (by kernel_rfl) ?_ _
      have H7 := hide hT0
      clear hT0 H6
      go_wp2_with fail
      go_roundw
      case rel => exact ⟨k + 1, by go_num, by omega, H7.out⟩
      case measure => simp [intOf]; omega
    · have e : k = n := by omega
      subst e
      have H6 := hide T6
      clear T6 hat XK
      have hki' : (k : Int) < (k : Int) + 1 := by omega
      go_wp2_with fail
      refine wp_region_held (S := Calm w4) (by kernel_rfl) ?_
      have hT0 : Calm w4 { wr with drawn := wr.drawn + 1 } := H6.out.drew
      refine wpAnyH_yield 0 32 (tlv J) rfl rfl (by kernel_rfl) (by kernel_rfl) (by kernel_rfl) (fun _ _ _ h => h) (by kernel_rfl) (fun W hW => by obtain ⟨c0, c1, c2, c3⟩ := tl_cells (hW.at HA.out); go_simp) (by assumption) rfl rfl ?_
      simp only [Act.put, List.setIfInBounds_toArray, List.set_cons_zero, List.set_cons_succ]
      refine wpAnyH_yield 1 33 (.slice ao k cap) rfl rfl (by kernel_rfl) (by kernel_rfl) (by kernel_rfl) (fun _ _ _ h => h) (by kernel_rfl) (fun W hW => by kernel_rfl) (by assumption) rfl rfl ?_
      simp only [Act.put, List.setIfInBounds_toArray, List.set_cons_zero, List.set_cons_succ]
      refine wpAnyH_enter 2 34 17 #[.slice ao k cap] rfl rfl (by kernel_rfl) (by kernel_rfl) (by kernel_rfl) ?_
      refine ((CR _ (HT.out.tr hT0)).out).mono ?_
      rintro r w7 ⟨rfl, T7⟩
      have h7 := hT0.tr T7
      refine ⟨_, rfl, h7, ?_⟩
      simp only [Act.put, List.setIfInBounds_toArray, List.set_cons_zero, List.set_cons_succ]
      refine wpAnyH_yield 3 35 (.bool true) rfl rfl (by kernel_rfl) (by kernel_rfl) (by kernel_rfl) (fun _ _ _ h => h) (by kernel_rfl) (fun W hW => by go_simp) (by assumption) rfl rfl ?_
      simp only [Act.put, List.setIfInBounds_toArray, List.set_cons_zero, List.set_cons_succ]
      refine wpAnyH_yield 4 36 (.bool true) rfl rfl (by kernel_rfl) (by kernel_rfl) (by kernel_rfl) (fun _ _ _ h => h) (by kernel_rfl) (fun W hW => by kernel_rfl) (by assumption) rfl rfl ?_
      simp only [Act.put, List.setIfInBounds_toArray, List.set_cons_zero, List.set_cons_succ]
      refine wpAnyH_yield 5 37 (.slice (some ⟨b2, o2, none⟩) (k + 1) c2) rfl rfl (by kernel_rfl) (by kernel_rfl) (by kernel_rfl) (fun _ _ _ h => h) (by kernel_rfl) (fun W hW => by kernel_rfl) (by assumption) rfl rfl ?_
      simp only [Act.put, List.setIfInBounds_toArray, List.set_cons_zero, List.set_cons_succ]
      refine wpAnyH_yield 6 38 (.slice ao k cap) rfl rfl (by kernel_rfl) (by kernel_rfl) (by kernel_rfl) (fun _ _ _ h => h) (by kernel_rfl) (fun W hW => by kernel_rfl) (by assumption) rfl rfl ?_
      simp only [Act.put, List.setIfInBounds_toArray, List.set_cons_zero, List.set_cons_succ]
      refine wpAnyH_yield 7 39 (.int .i64 (k : Int)) rfl rfl (by kernel_rfl) (by kernel_rfl) (by kernel_rfl) (fun _ _ _ h => h) (by kernel_rfl) (fun W hW => by go_simp) (by assumption) rfl rfl ?_
      simp only [Act.put, List.setIfInBounds_toArray, List.set_cons_zero, List.set_cons_succ]
      refine wpAnyH_yield 8 40 (.pointer (some ⟨b2, o2 + k * 4, none⟩)) rfl rfl (by kernel_rfl) (by kernel_rfl) (by kernel_rfl) (fun _ _ _ h => h) (by kernel_rfl) (fun W hW => by go_simp) (by assumption) rfl rfl ?_
      simp only [Act.put, List.setIfInBounds_toArray, List.set_cons_zero, List.set_cons_succ]
      refine wpAnyH_yield 9 41 (.pointer (some ⟨b2, o2 + k * 4, none⟩)) rfl rfl (by kernel_rfl) (by kernel_rfl) (by kernel_rfl) (fun _ _ _ h => h) (by kernel_rfl) (fun W hW => by go_simp) (by assumption) rfl rfl ?_
      simp only [Act.put, List.setIfInBounds_toArray, List.set_cons_zero, List.set_cons_succ]
      refine wpAnyH_yield 10 42 (.int .i64 77) rfl rfl (by kernel_rfl) (by kernel_rfl) (by kernel_rfl) (fun _ _ _ h => h) (by kernel_rfl) (fun W hW => by have c0 := X7.out W hW; go_simp) (by assumption) rfl rfl ?_
      simp only [Act.put, List.setIfInBounds_toArray, List.set_cons_zero, List.set_cons_succ]
      refine wpAnyH_yield 11 43 (.bool true) rfl rfl (by kernel_rfl) (by kernel_rfl) (by kernel_rfl) (fun _ _ _ h => h) (by kernel_rfl) (fun W hW => by go_simp) (by assumption) rfl rfl ?_
      simp only [Act.put, List.setIfInBounds_toArray, List.set_cons_zero, List.set_cons_succ]
      refine wpAnyH_yield 12 44 (.bool true) rfl rfl (by kernel_rfl) (by kernel_rfl) (by kernel_rfl) (fun _ _ _ h => h) (by kernel_rfl) (fun W hW => by kernel_rfl) (by assumption) rfl rfl ?_
      simp only [Act.put, List.setIfInBounds_toArray, List.set_cons_zero, List.set_cons_succ]
      refine wpAnyH_yield 13 45 (.bool true) rfl rfl (by kernel_rfl) (by kernel_rfl) (by kernel_rfl) (fun _ _ _ h => h) (by kernel_rfl) (fun W hW => by kernel_rfl) (by assumption) rfl rfl ?_
      simp only [Act.put, List.setIfInBounds_toArray, List.set_cons_zero, List.set_cons_succ]
      refine wpAnyH_enter 14 46 15 #[] rfl rfl (by kernel_rfl) (by kernel_rfl) (by kernel_rfl) ?_
      refine ((CW _).out).mono ?_
      rintro r w8 ⟨rfl, T8⟩
      have h8 := h7.tr T8
      refine ⟨_, rfl, h8, ?_⟩
      simp only [Act.put, List.setIfInBounds_toArray, List.set_cons_zero, List.set_cons_succ]
      refine wpAnyH_yield 15 47 (.bool true) rfl rfl (by kernel_rfl) (by kernel_rfl) (by kernel_rfl) (fun _ _ _ h => h) (by kernel_rfl) (fun W hW => by kernel_rfl) (by assumption) rfl rfl ?_
      simp only [Act.put, List.setIfInBounds_toArray, List.set_cons_zero, List.set_cons_succ]
      refine wpAnyH_yield 16 2 (.bool true) rfl rfl (by kernel_rfl) (by kernel_rfl) (by kernel_rfl) (fun _ _ _ h => h) (by kernel_rfl) (fun W hW => by kernel_rfl) (by assumption) rfl rfl ?_
      simp only [Act.put, List.setIfInBounds_toArray, List.set_cons_zero, List.set_cons_succ]
      refine wpAnyH_done (by kernel_rfl) ?_ _
      have TZ := hide (HT.out.tr h8)
      clear h7 h8 T7 T8 hT0 H6
      go_wp2_with fail
      go_ret
      exact ⟨rfl, TZ.out⟩

end Go.Proofs.YtakpeopghhblmaaDoor
