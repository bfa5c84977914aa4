/- The kit's: a key's state lent is kept (KeptKey). -/
import Derived.Test.YtjambfncemlenaaDoorCG
namespace Go.Proofs.YtjambfncemlenaaDoor
open Go.RowKit

/-- The marks behind lent windows. -/
abbrev mks : List Wn := [mkW 0, mkW 1, mkW 2]
/-- Windows lent: a row of one's own, the marks behind it. -/
def LentK (w : World) (base g c : Nat) (L : List Wn) : Prop := encW.Own 92 w base (.slice (some ⟨g, 0, none⟩) (L ++ mks).length c) (L ++ mks)
theorem LentK.calm {w w' : World} {base g c : Nat} {L : List Wn} (h : LentK w base g c L) (ht : Calm w w') : LentK w' base g c L := Rc.Own.calm h ht
theorem LentK.mem {w : World} {base g c : Nat} {L : List Wn} (h : LentK w base g c L) : encW.Mem w (some ⟨g, 0, none⟩) L ∧ L.length + 3 ≤ c ∧ base ≤ g ∧ ∀ i, i < 3 → wcell w g ((L.length + i) * 9) (mkW i) := by
  obtain ⟨-, h2, h3, -, -, h6⟩ := Rc.Own.mem h
  have hm := Rc.Mem.take h2 L.length
  rw [List.take_left' rfl] at hm
  refine ⟨hm, by simpa using h3, (h6 _ rfl).2.2.1, fun i hi => ?_⟩
  obtain ⟨b, off, e, hc⟩ := wn_at h2 (L.length + i) (by simp; omega)
  injection e with e
  injection e with e1 e2
  subst e1 e2
  have hg : (L ++ mks).getD (L.length + i) wn0 = mkW i := by
    rw [List.getD_eq_getElem?_getD, List.getElem?_append_right (by omega), Nat.add_sub_cancel_left]
    rcases (by omega : i = 0 ∨ i = 1 ∨ i = 2) with rfl | rfl | rfl <;> rfl
  rw [hg] at hc
  rw [Nat.zero_add] at hc
  exact hc

set_option maxRecDepth 100000 in
set_option maxHeartbeats 2000000 in
theorem keptKey_any (k : Ks) (base g c : Nat) (bo : Option Addr) (cb : Nat) (w : World) (hl : LentK w base g c k.wi) (hb : encW.Mem w bo k.wi) (hn : k.wi.length ≤ 100000000000000) :
    Calls Tryd.prog 24 #[.agg (ksc k (some ⟨g, 0, none⟩) c), .agg (ksc k bo cb)] w fun e w' => e = .returned (.bool true) ∧ Calm w w' := by
  obtain ⟨m1, m2, -, -⟩ := LentK.mem hl
  have HK : Hid (∀ W, Calm w W → ∀ i, i < 3 → wcell W g ((k.wi.length + i) * 9) (mkW i)) := hide fun W hW => (LentK.mem (hl.calm hW)).2.2.2
  have CS : Hid (∀ W, Calm w W → Calls Tryd.prog 51 #[.agg (ksc k (some ⟨g, 0, none⟩) c), .agg (ksc k bo cb)] W fun e w' => e = .returned (.bool true) ∧ Calm W w') := hide fun W hW => kitKey_any k (some ⟨g, 0, none⟩) bo c cb W (Rc.Mem.calm m1 hW) (Rc.Mem.calm hb hW) (by omega)
  have CM : Hid (∀ i W, Calls Tryd.prog 47 #[.int .i64 ((i : Nat) : Int)] W fun e w' => e = .returned (wnv (mkW i)) ∧ Calm W w') := hide mark_any
  obtain ⟨i0, hi, -, -, -⟩ := Rc.info_parts infoWin
  have hcut : ∀ W, (Instr.slice 53 (.slice (some ⟨g, 0, none⟩) k.wi.length c) none (some (.int .i64 ((k.wi.length : Int) + 3))) none).run Tryd.prog W = .ok (.slice (some ⟨g, 0, none⟩) (k.wi.length + 3) c) W := fun W => cut_to (k := k.wi.length + 3) Tryd.underlying53 elemWin hi m2 W
  have T0 := hide (((Touch.refl (fun _ => False) w).alloc (.cells (ksc k (some ⟨g, 0, none⟩) c) 55)).alloc (.cells (ksc k bo cb) 55))
  have A0 := hide (al_old (al_new w (.cells (ksc k (some ⟨g, 0, none⟩) c) 55)) (.cells (ksc k bo cb) 55))
  have A1 : Hid (((w.alloc (.cells (ksc k (some ⟨g, 0, none⟩) c) 55)).alloc (.cells (ksc k bo cb) 55)).heap[w.heap.size + 1]? = some (.cells (ksc k bo cb) 55 (0, 0))) := hide (by
    have := al_new (w.alloc (.cells (ksc k (some ⟨g, 0, none⟩) c) 55)) (.cells (ksc k bo cb) 55)
    rwa [al_size] at this)
  clear hl hb m1 m2 hi
  go_enter Tryd.func24, Tryd.ntmps24
  go_wp2_with fail
  refine (CS.out _ T0.out).mono ?_
  rintro e w1 ⟨rfl, T1⟩
  have TL := hide (T0.out.tr T1)
  obtain ⟨-, -, k2⟩ := ks_cells (T1.at A0.out)
  obtain ⟨-, -, j2⟩ := ks_cells (T1.at A1.out)
  have HJ := hide (T1.at A1.out)
  clear T0 T1 A0 A1 CS
  generalize w.heap.size = B at *
  go_wp2_with fail
  clear k2 j2 hcut
  generalize hN : k.wi.length = n at *
  go_loopw [6] (fun s6 wr => ∃ i : Nat, s6 = .int .i64 (i : Int) ∧ i ≤ 3 ∧ Calm w1 wr) (fun s6 _ => 3 - (intOf s6).toNat)
  case atStart => exact ⟨0, rfl, by omega, Touch.refl _ _⟩
  case round =>
    obtain ⟨i, rfl, hi, T2⟩ := hrel
    by_cases hlt : i < 3
    · have hltz : (i : Int) < 3 := by omega
      obtain ⟨q, hq⟩ : ∃ q, q = n + i := ⟨_, rfl⟩
      have hq1 : (n : Int) + (i : Int) = (q : Int) := by omega
      have hq2 : (q : Int) < (n : Int) + 3 := by omega
      have hq3 : IntKind.i64.wrap (q : Int) = (q : Int) := by rw [IntKind.wrap_i64]; omega
      have C1 := hide (CM.out i)
      have HC : Hid (∀ W, Calm w W → wcell W g (q * 9) (mkW i)) := hide fun W hW => by rw [hq]; exact HK.out W hW i hlt
      have H2 := hide T2
      clear T2 hq
      go_wp2_with fail
      refine wp_region_held (S := Calm w1) (by kernel_rfl) ?_
      have hT0 : Calm w1 { wr with drawn := wr.drawn + 1 } := H2.out.drew
      refine wpAnyH_yield 0 22 (.slice (some ⟨g, 0, none⟩) (n + 3) c) rfl rfl (by kernel_rfl) (by kernel_rfl) (by kernel_rfl) (fun _ _ _ h => h) (by kernel_rfl) (fun W hW => by kernel_rfl) (by assumption) rfl rfl ?_
      simp only [Act.put, List.setIfInBounds_toArray, List.set_cons_zero, List.set_cons_succ]
      refine wpAnyH_yield 1 23 (.pointer (some ⟨B + 1, 2, none⟩)) rfl rfl (by kernel_rfl) (by kernel_rfl) (by kernel_rfl) (fun _ _ _ h => h) (by kernel_rfl) (fun W hW => by go_simp) (by assumption) rfl rfl ?_
      simp only [Act.put, List.setIfInBounds_toArray, List.set_cons_zero, List.set_cons_succ]
      refine wpAnyH_yield 2 24 (.slice bo n cb) rfl rfl (by kernel_rfl) (by kernel_rfl) (by kernel_rfl) (fun _ _ _ h => h) (by kernel_rfl) (fun W hW => by obtain ⟨-, -, j2⟩ := ks_cells (hW.at HJ.out); rw [hN] at j2; go_simp) (by assumption) rfl rfl ?_
      simp only [Act.put, List.setIfInBounds_toArray, List.set_cons_zero, List.set_cons_succ]
      refine wpAnyH_yield 3 25 (.int .i64 (n : Int)) rfl rfl (by kernel_rfl) (by kernel_rfl) (by kernel_rfl) (fun _ _ _ h => h) (by kernel_rfl) (fun W hW => by go_simp) (by assumption) rfl rfl ?_
      simp only [Act.put, List.setIfInBounds_toArray, List.set_cons_zero, List.set_cons_succ]
      refine wpAnyH_yield 4 26 (.int .i64 (i : Int)) rfl rfl (by kernel_rfl) (by kernel_rfl) (by kernel_rfl) (fun _ _ _ h => h) (by kernel_rfl) (fun W hW => by kernel_rfl) (by assumption) rfl rfl ?_
      simp only [Act.put, List.setIfInBounds_toArray, List.set_cons_zero, List.set_cons_succ]
      refine wpAnyH_yield 5 27 (.int .i64 (q : Int)) rfl rfl (by kernel_rfl) (by kernel_rfl) (by kernel_rfl) (fun _ _ _ h => h) (by kernel_rfl) (fun W hW => by go_simp) (by assumption) rfl rfl ?_
      simp only [Act.put, List.setIfInBounds_toArray, List.set_cons_zero, List.set_cons_succ]
      refine wpAnyH_yield 6 28 (.pointer (some ⟨g, q * 9, none⟩)) rfl rfl (by kernel_rfl) (by kernel_rfl) (by kernel_rfl) (fun _ _ _ h => h) (by kernel_rfl) (fun W hW => by go_simp) (by assumption) rfl rfl ?_
      simp only [Act.put, List.setIfInBounds_toArray, List.set_cons_zero, List.set_cons_succ]
      refine wpAnyH_yield 7 29 (wnv (mkW i)) rfl rfl (by kernel_rfl) (by kernel_rfl) (by kernel_rfl) (fun _ _ _ h => h) (by kernel_rfl) (fun W hW => by obtain ⟨⟨c0, c1, c2⟩, ⟨c3, c4, c5, c6⟩, c7, c8⟩ := HC.out W (TL.out.tr hW); go_simp) (by assumption) rfl rfl ?_
      simp only [Act.put, List.setIfInBounds_toArray, List.set_cons_zero, List.set_cons_succ]
      refine wpAnyH_yield 8 30 (.int .i64 (i : Int)) rfl rfl (by kernel_rfl) (by kernel_rfl) (by kernel_rfl) (fun _ _ _ h => h) (by kernel_rfl) (fun W hW => by kernel_rfl) (by assumption) rfl rfl ?_
      simp only [Act.put, List.setIfInBounds_toArray, List.set_cons_zero, List.set_cons_succ]
      refine wpAnyH_enter 9 31 47 #[.int .i64 (i : Int)] rfl rfl (by kernel_rfl) (by kernel_rfl) (by kernel_rfl) ?_
      refine (C1.out _).mono ?_
      rintro r w5 ⟨rfl, T5⟩
      have h5 := hT0.tr T5
      refine ⟨_, rfl, h5, ?_⟩
      simp only [Act.put, List.setIfInBounds_toArray, List.set_cons_zero, List.set_cons_succ]
      refine wpAnyH_yield 10 32 (.bool false) rfl rfl (by kernel_rfl) (by kernel_rfl) (by kernel_rfl) (fun _ _ _ h => h) (by kernel_rfl) (fun W hW => by go_simp) (by assumption) rfl rfl ?_
      simp only [Act.put, List.setIfInBounds_toArray, List.set_cons_zero, List.set_cons_succ]
      refine wpAnyH_done (by kernel_rfl) ?_ _
      have H5 := hide h5
      clear h5 T5 hT0 C1 HC H2
      go_wp2_with fail
      go_roundw
      case rel => exact ⟨i + 1, by go_num, by omega, H5.out⟩
      case measure => simp [intOf]; omega
    · have hltz : ¬ (i : Int) < 3 := by omega
      have HT := hide (TL.out.tr T2)
      clear T2 HK CM
      go_wp2_with fail
      go_ret
      exact ⟨rfl, HT.out⟩

end Go.Proofs.YtjambfncemlenaaDoor
