/- The kit's: keys' states that are the same are told to be so; kept (Wins, Key, mark, KeptKey). The kit's: a key's state lent is kept (KeptKey). The kit's: a key's state in new memory (CopyKey). The kit's: a key's state lent (LendKey). -/
import Derived.Test.YtdcpmpbfnfjncaaDoorCK
import Derived.Test.YtdcpmpbfnfjncaaDoorCB0
import Derived.Test.YtdcpmpbfnfjncaaDoorYS
import Derived.Laws.Tables
import Derived.Test.YtdcpmpbfnfjncaaDoorCJ0
import Derived.Great.BuildSlice
namespace Go.Proofs.YtdcpmpbfnfjncaaDoor
open Go.RowKit

set_option maxRecDepth 100000 in
set_option maxHeartbeats 2000000 in
theorem kitWins_any (ao bo : Option Addr) (ca cb : Nat) (L : List Wn) (w : World) (ha : encW.Mem w ao L) (hb : encW.Mem w bo L) (hn : L.length ≤ 140737488355328) :
    Calls Tryd.prog 51 #[.slice ao L.length ca, .slice bo L.length cb] w fun e w' => e = .returned (.bool true) ∧ Calm w w' := by
  have hat : Hid (∀ k, k < L.length → ∀ W, Calm w W → ∃ b off b' off', ao = some ⟨b, off, none⟩ ∧ bo = some ⟨b', off', none⟩ ∧ wcell W b (off + k * 9) (L.getD k wn0) ∧ wcell W b' (off' + k * 9) (L.getD k wn0)) := hide fun k hk W hW => by
    obtain ⟨b, off, e, c⟩ := wn_at (Rc.Mem.calm ha hW) k hk
    obtain ⟨b', off', e', d⟩ := wn_at (Rc.Mem.calm hb hW) k hk
    exact ⟨b, off, b', off', e, e', c, d⟩
  generalize L.length = n at *
  clear ha hb
  go_enter Tryd.func51, Tryd.ntmps51
  go_wp2_with fail
  go_loopw [5] (fun i wr => ∃ k : Nat, i = .int .i64 k ∧ k ≤ n ∧ Calm w wr) (fun i _ => n - (intOf i).toNat)
  case atStart => exact ⟨0, rfl, Nat.zero_le _, Touch.refl _ _⟩
  case round =>
    obtain ⟨k, rfl, hk, T0⟩ := hrel
    by_cases hlt : k < n
    · obtain ⟨b, off, b', off', rfl, rfl, -⟩ := hat.out k hlt w (Touch.refl _ _)
      have K : Hid (∀ W, Calm w W → wcell W b (off + k * 9) (L.getD k wn0) ∧ wcell W b' (off' + k * 9) (L.getD k wn0)) := hide fun W hW => by
        obtain ⟨_, _, _, _, e1, e2, h⟩ := hat.out k hlt W hW
        injection e1 with e1
        injection e1 with e3 e4
        injection e2 with e2
        injection e2 with e5 e6
        subst e3 e4 e5 e6
        exact h
      generalize L.getD k wn0 = x at *
      have hki : (k : Int) < (n : Int) := by omega
      have H0 := hide T0
      clear T0 hat
      go_wp2_with fail
      refine wp_region_held (S := Calm w) (by kernel_rfl) ?_
      have hT0 : Calm w { wr with drawn := wr.drawn + 1 } := H0.out.drew
      refine wpAnyH_yield 0 17 (.slice (some ⟨b, off, none⟩) n ca) rfl rfl (by kernel_rfl) (by kernel_rfl) (by kernel_rfl) (fun _ _ _ h => h) (by kernel_rfl) (fun W hW => by kernel_rfl) (by assumption) rfl rfl ?_
      simp only [Act.put, List.setIfInBounds_toArray, List.set_cons_zero, List.set_cons_succ]
      refine wpAnyH_yield 1 18 (.int .i64 (k : Int)) rfl rfl (by kernel_rfl) (by kernel_rfl) (by kernel_rfl) (fun _ _ _ h => h) (by kernel_rfl) (fun W hW => by kernel_rfl) (by assumption) rfl rfl ?_
      simp only [Act.put, List.setIfInBounds_toArray, List.set_cons_zero, List.set_cons_succ]
      refine wpAnyH_yield 2 19 (.pointer (some ⟨b, off + k * 9, none⟩)) rfl rfl (by kernel_rfl) (by kernel_rfl) (by kernel_rfl) (fun _ _ _ h => h) (by kernel_rfl) (fun W hW => by go_simp) (by assumption) rfl rfl ?_
      simp only [Act.put, List.setIfInBounds_toArray, List.set_cons_zero, List.set_cons_succ]
      refine wpAnyH_yield 3 20 (wnv x) rfl rfl (by kernel_rfl) (by kernel_rfl) (by kernel_rfl) (fun _ _ _ h => h) (by kernel_rfl) (fun W hW => by obtain ⟨⟨⟨c0, c1, c2⟩, ⟨c3, c4, c5, c6⟩, c7, c8⟩, -⟩ := K.out W hW; go_simp) (by assumption) rfl rfl ?_
      simp only [Act.put, List.setIfInBounds_toArray, List.set_cons_zero, List.set_cons_succ]
      refine wpAnyH_yield 4 21 (.slice (some ⟨b', off', none⟩) n cb) rfl rfl (by kernel_rfl) (by kernel_rfl) (by kernel_rfl) (fun _ _ _ h => h) (by kernel_rfl) (fun W hW => by kernel_rfl) (by assumption) rfl rfl ?_
      simp only [Act.put, List.setIfInBounds_toArray, List.set_cons_zero, List.set_cons_succ]
      refine wpAnyH_yield 5 22 (.int .i64 (k : Int)) rfl rfl (by kernel_rfl) (by kernel_rfl) (by kernel_rfl) (fun _ _ _ h => h) (by kernel_rfl) (fun W hW => by kernel_rfl) (by assumption) rfl rfl ?_
      simp only [Act.put, List.setIfInBounds_toArray, List.set_cons_zero, List.set_cons_succ]
      refine wpAnyH_yield 6 23 (.pointer (some ⟨b', off' + k * 9, none⟩)) rfl rfl (by kernel_rfl) (by kernel_rfl) (by kernel_rfl) (fun _ _ _ h => h) (by kernel_rfl) (fun W hW => by go_simp) (by assumption) rfl rfl ?_
      simp only [Act.put, List.setIfInBounds_toArray, List.set_cons_zero, List.set_cons_succ]
      refine wpAnyH_yield 7 24 (wnv x) rfl rfl (by kernel_rfl) (by kernel_rfl) (by kernel_rfl) (fun _ _ _ h => h) (by kernel_rfl) (fun W hW => by obtain ⟨-, ⟨c0, c1, c2⟩, ⟨c3, c4, c5, c6⟩, c7, c8⟩ := K.out W hW; go_simp) (by assumption) rfl rfl ?_
      simp only [Act.put, List.setIfInBounds_toArray, List.set_cons_zero, List.set_cons_succ]
      refine wpAnyH_yield 8 25 (.bool false) rfl rfl (by kernel_rfl) (by kernel_rfl) (by kernel_rfl) (fun _ _ _ h => h) (by kernel_rfl) (fun W hW => by go_simp) (by assumption) rfl rfl ?_
      simp only [Act.put, List.setIfInBounds_toArray, List.set_cons_zero, List.set_cons_succ]
      refine wpAnyH_done (by kernel_rfl) ?_ _
      have H1 := hide hT0
      clear hT0 H0
      go_wp2_with fail
      go_roundw
      case rel => exact ⟨k + 1, by go_num, by omega, H1.out⟩
      case measure => simp [intOf]; omega
    · have e : k = n := by omega
      subst e
      have HT := hide T0
      clear T0
      go_wp2_with fail
      go_ret
      exact ⟨rfl, HT.out⟩

set_option maxRecDepth 100000 in
theorem kitKey_any (k : Ks) (ao bo : Option Addr) (ca cb : Nat) (w : World) (ha : encW.Mem w ao k.wi) (hb : encW.Mem w bo k.wi) (hn : k.wi.length ≤ 140737488355328) :
    Calls Tryd.prog 34 #[.agg (ksc k ao ca), .agg (ksc k bo cb)] w fun e w' => e = .returned (.bool true) ∧ Calm w w' := by
  have CW : Hid (∀ W, Calm w W → Calls Tryd.prog 51 #[.slice ao k.wi.length ca, .slice bo k.wi.length cb] W fun e w' => e = .returned (.bool true) ∧ Calm W w') := hide fun W hW => kitWins_any ao bo ca cb k.wi W (Rc.Mem.calm ha hW) (Rc.Mem.calm hb hW) hn
  have T0 := hide (((Touch.refl (fun _ => False) w).alloc (.cells (ksc k ao ca) 40)).alloc (.cells (ksc k bo cb) 40))
  clear ha hb
  go_enter Tryd.func34, Tryd.ntmps34
  go_wp2_with fail
  refine (CW.out _ T0.out).mono ?_
  rintro e w1 ⟨rfl, T1⟩
  have HT := hide (T0.out.tr T1)
  clear T1 T0 CW
  go_wp2_with fail
  go_ret
  exact ⟨rfl, HT.out⟩

/-- A window that stands behind others. -/
abbrev mkW (i : Nat) : Wn := ⟨0, 0, -77, ⟨0, 0, 0, 0⟩, (i : Int), 0⟩
set_option maxRecDepth 100000 in
theorem mark_any (i : Nat) (w : World) : Calls Tryd.prog 26 #[.int .i64 (i : Int)] w fun e w' => e = .returned (wnv (mkW i)) ∧ Calm w w' := by
  have T0 := hide ((Touch.refl (fun _ => False) w).alloc (.cells (wnc (mkW i)) 65))
  have A0 := hide (al_new w (.cells (wnc (mkW i)) 65))
  go_enter Tryd.func26, Tryd.ntmps26
  go_wp2_with fail
  refine bodyPost_ret (results_cell_row rfl _ _ _ _ _ _ _ rfl A0.out Tryd.underlying65 rfl (by kernel_rfl)) rfl ?_
  exact ⟨rfl, T0.out⟩

end Go.Proofs.YtdcpmpbfnfjncaaDoor

namespace Go.Proofs.YtdcpmpbfnfjncaaDoor
open Go.RowKit

/-- The marks behind lent windows. -/
abbrev mks : List Wn := [mkW 0, mkW 1, mkW 2]
/-- Windows lent: a row of one's own, the marks behind it. -/
def LentK (w : World) (base g c : Nat) (L : List Wn) : Prop := encW.Own 65 w base (.slice (some ⟨g, 0, none⟩) (L ++ mks).length c) (L ++ mks)
theorem LentK.calm {w w' : World} {base g c : Nat} {L : List Wn} (h : LentK w base g c L) (ht : Calm w w') : LentK w' base g c L := Rc.Own.calm h ht
theorem LentK.mem {w : World} {base g c : Nat} {L : List Wn} (h : LentK w base g c L) : encW.Mem w (some ⟨g, 0, none⟩) L ∧ L.length + 3 ≤ c ∧ base ≤ g ∧ ∀ i, i < 3 → wcell w g ((L.length + i) * 9) (mkW i) := by
  obtain ⟨-, h2, h3, -, -, h6⟩ := Rc.Own.mem h
  have hm := Rc.Mem.take h2 L.length
  rw [List.take_left' rfl] at hm
  refine ⟨hm, by simpa using h3, (h6 _ rfl).2.2.1, fun i hi => ?_⟩
  obtain ⟨b, off, e, hc⟩ := wn_at h2 (L.length + i) (by simp; omega)
  injection e with e
  injection e with e1 e2
  subst e1 e2
  have hg : (L ++ mks).getD (L.length + i) wn0 = mkW i := by
    rw [List.getD_eq_getElem?_getD, List.getElem?_append_right (by omega), Nat.add_sub_cancel_left]
    rcases (by omega : i = 0 ∨ i = 1 ∨ i = 2) with rfl | rfl | rfl <;> rfl
  rw [hg] at hc
  rw [Nat.zero_add] at hc
  exact hc

set_option maxRecDepth 100000 in
set_option maxHeartbeats 2000000 in
theorem keptKey_any (k : Ks) (base g c : Nat) (bo : Option Addr) (cb : Nat) (w : World) (hl : LentK w base g c k.wi) (hb : encW.Mem w bo k.wi) (hn : k.wi.length ≤ 100000000000000) :
    Calls Tryd.prog 20 #[.agg (ksc k (some ⟨g, 0, none⟩) c), .agg (ksc k bo cb)] w fun e w' => e = .returned (.bool true) ∧ Calm w w' := by
  obtain ⟨m1, m2, -, -⟩ := LentK.mem hl
  have HK : Hid (∀ W, Calm w W → ∀ i, i < 3 → wcell W g ((k.wi.length + i) * 9) (mkW i)) := hide fun W hW => (LentK.mem (hl.calm hW)).2.2.2
  have CS : Hid (∀ W, Calm w W → Calls Tryd.prog 34 #[.agg (ksc k (some ⟨g, 0, none⟩) c), .agg (ksc k bo cb)] W fun e w' => e = .returned (.bool true) ∧ Calm W w') := hide fun W hW => kitKey_any k (some ⟨g, 0, none⟩) bo c cb W (Rc.Mem.calm m1 hW) (Rc.Mem.calm hb hW) (by omega)
  have CM : Hid (∀ i W, Calls Tryd.prog 26 #[.int .i64 ((i : Nat) : Int)] W fun e w' => e = .returned (wnv (mkW i)) ∧ Calm W w') := hide mark_any
  obtain ⟨i0, hi, -, -, -⟩ := Rc.info_parts infoWin
  have hcut : ∀ W, (Instr.slice 38 (.slice (some ⟨g, 0, none⟩) k.wi.length c) none (some (.int .i64 ((k.wi.length : Int) + 3))) none).run Tryd.prog W = .ok (.slice (some ⟨g, 0, none⟩) (k.wi.length + 3) c) W := fun W => cut_to (k := k.wi.length + 3) Tryd.underlying38 elemWin hi m2 W
  have T0 := hide (((Touch.refl (fun _ => False) w).alloc (.cells (ksc k (some ⟨g, 0, none⟩) c) 40)).alloc (.cells (ksc k bo cb) 40))
  have A0 := hide (al_old (al_new w (.cells (ksc k (some ⟨g, 0, none⟩) c) 40)) (.cells (ksc k bo cb) 40))
  have A1 : Hid (((w.alloc (.cells (ksc k (some ⟨g, 0, none⟩) c) 40)).alloc (.cells (ksc k bo cb) 40)).heap[w.heap.size + 1]? = some (.cells (ksc k bo cb) 40 (0, 0))) := hide (by
    have := al_new (w.alloc (.cells (ksc k (some ⟨g, 0, none⟩) c) 40)) (.cells (ksc k bo cb) 40)
    rwa [al_size] at this)
  clear hl hb m1 m2 hi
  go_enter Tryd.func20, Tryd.ntmps20
  go_wp2_with fail
  refine (CS.out _ T0.out).mono ?_
  rintro e w1 ⟨rfl, T1⟩
  have TL := hide (T0.out.tr T1)
  obtain ⟨-, -, k2⟩ := ks_cells (T1.at A0.out)
  obtain ⟨-, -, j2⟩ := ks_cells (T1.at A1.out)
  have HJ := hide (T1.at A1.out)
  clear T0 T1 A0 A1 CS
  generalize w.heap.size = B at *
  go_wp2_with fail
  clear k2 j2 hcut
  generalize hN : k.wi.length = n at *
  go_loopw [6] (fun s6 wr => ∃ i : Nat, s6 = .int .i64 (i : Int) ∧ i ≤ 3 ∧ Calm w1 wr) (fun s6 _ => 3 - (intOf s6).toNat)
  case atStart => exact ⟨0, rfl, by omega, Touch.refl _ _⟩
  case round =>
    obtain ⟨i, rfl, hi, T2⟩ := hrel
    by_cases hlt : i < 3
    · have hltz : (i : Int) < 3 := by omega
      obtain ⟨q, hq⟩ : ∃ q, q = n + i := ⟨_, rfl⟩
      have hq1 : (n : Int) + (i : Int) = (q : Int) := by omega
      have hq2 : (q : Int) < (n : Int) + 3 := by omega
      have hq3 : IntKind.i64.wrap (q : Int) = (q : Int) := by rw [IntKind.wrap_i64]; omega
      have C1 := hide (CM.out i)
      have HC : Hid (∀ W, Calm w W → wcell W g (q * 9) (mkW i)) := hide fun W hW => by rw [hq]; exact HK.out W hW i hlt
      have H2 := hide T2
      clear T2 hq
      go_wp2_with fail
      refine wp_region_held (S := Calm w1) (by kernel_rfl) ?_
      have hT0 : Calm w1 { wr with drawn := wr.drawn + 1 } := H2.out.drew
      refine wpAnyH_yield 0 22 (.slice (some ⟨g, 0, none⟩) (n + 3) c) rfl rfl (by kernel_rfl) (by kernel_rfl) (by kernel_rfl) (fun _ _ _ h => h) (by kernel_rfl) (fun W hW => by kernel_rfl) (by assumption) rfl rfl ?_
      simp only [Act.put, List.setIfInBounds_toArray, List.set_cons_zero, List.set_cons_succ]
      refine wpAnyH_yield 1 23 (.pointer (some ⟨B + 1, 2, none⟩)) rfl rfl (by kernel_rfl) (by kernel_rfl) (by kernel_rfl) (fun _ _ _ h => h) (by kernel_rfl) (fun W hW => by go_simp) (by assumption) rfl rfl ?_
      simp only [Act.put, List.setIfInBounds_toArray, List.set_cons_zero, List.set_cons_succ]
      refine wpAnyH_yield 2 24 (.slice bo n cb) rfl rfl (by kernel_rfl) (by kernel_rfl) (by kernel_rfl) (fun _ _ _ h => h) (by kernel_rfl) (fun W hW => by obtain ⟨-, -, j2⟩ := ks_cells (hW.at HJ.out); rw [hN] at j2; go_simp) (by assumption) rfl rfl ?_
      simp only [Act.put, List.setIfInBounds_toArray, List.set_cons_zero, List.set_cons_succ]
      refine wpAnyH_yield 3 25 (.int .i64 (n : Int)) rfl rfl (by kernel_rfl) (by kernel_rfl) (by kernel_rfl) (fun _ _ _ h => h) (by kernel_rfl) (fun W hW => by go_simp) (by assumption) rfl rfl ?_
      simp only [Act.put, List.setIfInBounds_toArray, List.set_cons_zero, List.set_cons_succ]
      refine wpAnyH_yield 4 26 (.int .i64 (i : Int)) rfl rfl (by kernel_rfl) (by kernel_rfl) (by kernel_rfl) (fun _ _ _ h => h) (by kernel_rfl) (fun W hW => by kernel_rfl) (by assumption) rfl rfl ?_
      simp only [Act.put, List.setIfInBounds_toArray, List.set_cons_zero, List.set_cons_succ]
      refine wpAnyH_yield 5 27 (.int .i64 (q : Int)) rfl rfl (by kernel_rfl) (by kernel_rfl) (by kernel_rfl) (fun _ _ _ h => h) (by kernel_rfl) (fun W hW => by go_simp) (by assumption) rfl rfl ?_
      simp only [Act.put, List.setIfInBounds_toArray, List.set_cons_zero, List.set_cons_succ]
      refine wpAnyH_yield 6 28 (.pointer (some ⟨g, q * 9, none⟩)) rfl rfl (by kernel_rfl) (by kernel_rfl) (by kernel_rfl) (fun _ _ _ h => h) (by kernel_rfl) (fun W hW => by go_simp) (by assumption) rfl rfl ?_
      simp only [Act.put, List.setIfInBounds_toArray, List.set_cons_zero, List.set_cons_succ]
      refine wpAnyH_yield 7 29 (wnv (mkW i)) rfl rfl (by kernel_rfl) (by kernel_rfl) (by kernel_rfl) (fun _ _ _ h => h) (by kernel_rfl) (fun W hW => by obtain ⟨⟨c0, c1, c2⟩, ⟨c3, c4, c5, c6⟩, c7, c8⟩ := HC.out W (TL.out.tr hW); go_simp) (by assumption) rfl rfl ?_
      simp only [Act.put, List.setIfInBounds_toArray, List.set_cons_zero, List.set_cons_succ]
      refine wpAnyH_yield 8 30 (.int .i64 (i : Int)) rfl rfl (by kernel_rfl) (by kernel_rfl) (by kernel_rfl) (fun _ _ _ h => h) (by kernel_rfl) (fun W hW => by kernel_rfl) (by assumption) rfl rfl ?_
      simp only [Act.put, List.setIfInBounds_toArray, List.set_cons_zero, List.set_cons_succ]
      refine wpAnyH_enter 9 31 26 #[.int .i64 (i : Int)] rfl rfl (by kernel_rfl) (by kernel_rfl) (by kernel_rfl) ?_
      refine (C1.out _).mono ?_
      rintro r w5 ⟨rfl, T5⟩
      have h5 := hT0.tr T5
      refine ⟨_, rfl, h5, ?_⟩
      simp only [Act.put, List.setIfInBounds_toArray, List.set_cons_zero, List.set_cons_succ]
      refine wpAnyH_yield 10 32 (.bool false) rfl rfl (by kernel_rfl) (by kernel_rfl) (by kernel_rfl) (fun _ _ _ h => h) (by kernel_rfl) (fun W hW => by go_simp) (by assumption) rfl rfl ?_
      simp only [Act.put, List.setIfInBounds_toArray, List.set_cons_zero, List.set_cons_succ]
      refine wpAnyH_done (by kernel_rfl) ?_ _
      have H5 := hide h5
      clear h5 T5 hT0 C1 HC H2
      go_wp2_with fail
      go_roundw
      case rel => exact ⟨i + 1, by go_num, by omega, H5.out⟩
      case measure => simp [intOf]; omega
    · have hltz : ¬ (i : Int) < 3 := by omega
      have HT := hide (TL.out.tr T2)
      clear T2 HK CM
      go_wp2_with fail
      go_ret
      exact ⟨rfl, HT.out⟩

end Go.Proofs.YtdcpmpbfnfjncaaDoor

namespace Go.Proofs.YtdcpmpbfnfjncaaDoor
open Go.RowKit

set_option maxRecDepth 100000 in
set_option maxHeartbeats 2000000 in
theorem copyKey_any (k : Ks) (wo : Option Addr) (cap : Nat) (w : World) (hs : encW.Sl w wo cap k.wi) (hn : k.wi.length ≤ 1954687338300) :
    Calls Tryd.prog 25 #[.agg (ksc k wo cap)] w fun e w' => ∃ ao c, e = .returned (.agg (ksc k ao c)) ∧ encW.Own 65 w' w.heap.size (.slice ao k.wi.length c) k.wi ∧ Calm w w' := by
  have A0 := al_new w (.cells (ksc k wo cap) 40)
  have hi3 : (Tryd.prog.info? 40).map (·.size) = some 3 := by kernel_rfl
  obtain ⟨i0, hi, hz, hsz, hby⟩ := Rc.info_parts infoWin
  have T0 := (Touch.refl (fun _ => False) w).alloc (.cells (ksc k wo cap) 40)
  have HSz := al_size w (.cells (ksc k wo cap) 40)
  generalize hwA : w.alloc (.cells (ksc k wo cap) 40) = wA at *
  have hE := hide hwA
  have A1 := al_new wA (.cells (ksc ⟨⟨#[]⟩, 0, []⟩ none 0) 40)
  have T1 := (Touch.refl (fun _ => False) wA).alloc (.cells (ksc ⟨⟨#[]⟩, 0, []⟩ none 0) 40)
  have HSz1 := al_size wA (.cells (ksc ⟨⟨#[]⟩, 0, []⟩ none 0) 40)
  have KA : Hid (∀ W, Calm wA W → W.cell? ⟨w.heap.size, 0, none⟩ = some (.string k.ke) ∧ W.cell? ⟨w.heap.size, 1, none⟩ = some (.int .i64 k.dr) ∧ W.cell? ⟨w.heap.size, 2, none⟩ = some (.slice wo k.wi.length cap)) := hide fun W hW => ks_cells (hW.at A0)
  go_enter Tryd.func25, Tryd.ntmps25
  go_wp2_with fail
  generalize hB : w.heap.size = B at *
  generalize hw0 : wA.alloc (.cells (ksc ⟨⟨#[]⟩, 0, []⟩ none 0) 40) = w0 at *
  refine wp_region_held (S := Calm wA) (by kernel_rfl) ?_
  have hT0 : Calm wA { w0 with drawn := w0.drawn + 1 } := T1.drew
  refine wpAnyH_yield 0 3 (.pointer (some ⟨B, 0, none⟩)) rfl rfl (by kernel_rfl) (by kernel_rfl) (by kernel_rfl) (fun _ _ _ h => h) (by kernel_rfl) (fun W hW => by go_simp) (by assumption) rfl rfl ?_
  simp only [Act.put, List.setIfInBounds_toArray, List.set_cons_zero, List.set_cons_succ]
  refine wpAnyH_yield 1 4 (.string k.ke) rfl rfl (by kernel_rfl) (by kernel_rfl) (by kernel_rfl) (fun _ _ _ h => h) (by kernel_rfl) (fun W hW => by obtain ⟨c0, -⟩ := KA.out W hW; go_simp) (by assumption) rfl rfl ?_
  simp only [Act.put, List.setIfInBounds_toArray, List.set_cons_zero, List.set_cons_succ]
  refine wpAnyH_yield 2 5 (.pointer (some ⟨B, 1, none⟩)) rfl rfl (by kernel_rfl) (by kernel_rfl) (by kernel_rfl) (fun _ _ _ h => h) (by kernel_rfl) (fun W hW => by go_simp) (by assumption) rfl rfl ?_
  simp only [Act.put, List.setIfInBounds_toArray, List.set_cons_zero, List.set_cons_succ]
  refine wpAnyH_yield 3 6 (.int .i64 k.dr) rfl rfl (by kernel_rfl) (by kernel_rfl) (by kernel_rfl) (fun _ _ _ h => h) (by kernel_rfl) (fun W hW => by obtain ⟨-, c1, -⟩ := KA.out W hW; go_simp) (by assumption) rfl rfl ?_
  simp only [Act.put, List.setIfInBounds_toArray, List.set_cons_zero, List.set_cons_succ]
  refine wpAnyH_yield 5 8 (.pointer (some ⟨B, 2, none⟩)) rfl rfl (by kernel_rfl) (by kernel_rfl) (by kernel_rfl) (fun _ _ _ h => h) (by kernel_rfl) (fun W hW => by go_simp) (by assumption) rfl rfl ?_
  simp only [Act.put, List.setIfInBounds_toArray, List.set_cons_zero, List.set_cons_succ]
  refine wpAnyH_yield 6 9 (.slice wo k.wi.length cap) rfl rfl (by kernel_rfl) (by kernel_rfl) (by kernel_rfl) (fun _ _ _ h => h) (by kernel_rfl) (fun W hW => by obtain ⟨-, -, c2⟩ := KA.out W hW; go_simp) (by assumption) rfl rfl ?_
  simp only [Act.put, List.setIfInBounds_toArray, List.set_cons_zero, List.set_cons_succ]
  have AD : ({ w0 with drawn := w0.drawn + 1 } : World).heap[B + 1]? = some (.cells (ksc ⟨⟨#[]⟩, 0, []⟩ none 0) 40 (0, 0)) := by rw [HSz] at A1; exact A1
  have SD : ({ w0 with drawn := w0.drawn + 1 } : World).heap.size = B + 1 + 1 := by rw [HSz] at HSz1; exact HSz1
  generalize ({ w0 with drawn := w0.drawn + 1 } : World) = wD at *
  have hTE : Calm wA (wD.alloc (.cells #[] 65)) := hT0.alloc _
  have own : encW.Own 65 (wD.alloc (.cells #[] 65)) (B + 1 + 1) (.slice (some ⟨wD.heap.size, 0, none⟩) 0 0) [] := World.ownsRow_lit wD #[] 0 (by omega) (by unfold maxLen; omega) (by simp)
  obtain ⟨a1, p1, w3, hr, ow, t1, -⟩ := Rc.Own.appw (E := encW) (ty := 38) Tryd.underlying38 hi hz hsz hby rfl own wo cap k.wi (Rc.Mem.calm hs.mem (T0.tr hTE)) hs.nil (by simp; unfold maxLen; omega) (by simp; omega) (by omega) (by rw [al_size]; omega)
  rw [List.nil_append] at hr ow
  have hT3 : Calm wA w3 := own_calm own t1 hTE (by omega)
  have A3 : w3.heap[B + 1]? = some (.cells (ksc ⟨⟨#[]⟩, 0, []⟩ none 0) 40 (0, 0)) := t1.heap (al_old AD _) (fun h => by simp [Value.ownBlock] at h; omega)
  have h1c : (ksc k a1 p1).all (·.oneCell') = true := by simp [Value.oneCell']
  have A4 := setRow_heap _ _ _ (ksc k a1 p1) _ _ A3
  have tS : Touch (fun g => g = B + 1) w3 (w3.setRow (B + 1) (ksc k a1 p1)) := ⟨rfl, rfl, rfl, by simp, fun j _ hj => setRow_other _ _ j _ hj⟩
  have hT4 : Calm wA (w3.setRow (B + 1) (ksc k a1 p1)) := hT3.trans tS (fun g hg e => by omega)
  have ow4 : encW.Own 65 (w3.setRow (B + 1) (ksc k a1 p1)) B (.slice a1 k.wi.length p1) k.wi := Rc.Own.base (Rc.Own.touch ow tS fun g hg e => by have := (Rc.own_block ow hg).1; omega) (by omega)
  have HR : Hid (∃ ao c, Ending.returned (.agg (ksc k a1 p1)) = .returned (.agg (ksc k ao c)) ∧ encW.Own 65 (w3.setRow (B + 1) (ksc k a1 p1)) B (.slice ao k.wi.length c) k.wi ∧ Calm w (w3.setRow (B + 1) (ksc k a1 p1))) := hide ⟨a1, p1, rfl, ow4, T0.tr hT4⟩
  refine wpAnyH_value 4 7 (.slice (some ⟨wD.heap.size, 0, none⟩) 0 0) (w' := wD.alloc (.cells #[] 65)) rfl rfl (by kernel_rfl) (by kernel_rfl) (by go_simp) hTE ?_
  simp only [Act.put, List.setIfInBounds_toArray, List.set_cons_zero, List.set_cons_succ]
  refine wpAnyH_value 7 10 (.slice a1 k.wi.length p1) (w' := w3) rfl rfl (by kernel_rfl) (by kernel_rfl) (exec_apk (.tmp 7) (.tmp 9) 38 38 rfl _ _ _ rfl rfl hr) hT3 ?_
  simp only [Act.put, List.setIfInBounds_toArray, List.set_cons_zero, List.set_cons_succ]
  refine wpAnyH_yield 8 11 (.agg (ksc k a1 p1)) rfl rfl (by kernel_rfl) (by kernel_rfl) (by kernel_rfl) (fun _ _ _ h => h) (by kernel_rfl) (fun W hW => by go_simp) (by assumption) rfl rfl ?_
  simp only [Act.put, List.setIfInBounds_toArray, List.set_cons_zero, List.set_cons_succ]
  refine wpAnyH_do 9 (w3.setRow (B + 1) (ksc k a1 p1)) rfl (by kernel_rfl) (by kernel_rfl) (fun K hK => wp_store_row 40 (.tmp 2) (.tmp 11) rfl (B + 1) (ksc k a1 p1) rfl rfl 40 _ A3 hi3 rfl h1c hK) hT4 ?_
  refine wpAnyH_done (by kernel_rfl) ?_ _
  have HA4 := hide A4
  clear A0 A1 T0 T1 HSz HSz1 hT0 AD SD hTE own ow t1 hr hT3 A3 h1c A4 tS hT4 ow4 KA hs hi hz hsz hby
  go_wp2_with fail
  refine bodyPost_ret (results_cell_row rfl _ _ _ _ _ _ _ rfl HA4.out Tryd.underlying40 rfl (by kernel_rfl)) rfl ?_
  rw [hB]
  exact HR.out

end Go.Proofs.YtdcpmpbfnfjncaaDoor

namespace Go.Proofs.YtdcpmpbfnfjncaaDoor
open Go.RowKit

theorem Cg2.heap_put {w : World} {g i : Nat} {c : Array Value} {t : TypeId} {fr : Nat × Nat} (h : w.heap[g]? = some (.cells c t fr)) (v : Value) : (w.setCell ⟨g, i, none⟩ v).heap[g]? = some (.cells (c.setIfInBounds i v) t fr) := by
  obtain ⟨hg, hv⟩ := Array.getElem?_eq_some_iff.1 h
  simp [World.setCell, hg, Array.getElem_modify, hv]
/-- One window more. -/
theorem wn_app1 {w : World} {base : Nat} {ao : Option Addr} {cap : Nat} {A : List Wn} (x : Wn) (h : encW.Own 65 w base (.slice ao A.length cap) A) (hs : base ≤ w.heap.size) (hn : A.length ≤ 1954687338310) :
    ∃ a2 p2 w4, (Builtin.append_ #[38, 38] 38 #[.slice ao A.length cap, .slice (some ⟨w.heap.size, 0, none⟩) 1 1]).run Tryd.prog (w.alloc (.cells (wnc x) 65)) = .ok (.slice a2 (A.length + 1) p2) w4 ∧
      encW.Own 65 w4 base (.slice a2 (A ++ [x]).length p2) (A ++ [x]) ∧ Touch (fun d => (Value.slice ao A.length cap).ownBlock = some d) w w4 := by
  obtain ⟨i0, hi, hz, hsz, hby⟩ := Rc.info_parts infoWin
  have own := Rc.Own.calm h ((Touch.refl (fun _ => False) w).alloc (.cells (wnc x) 65))
  have hs1 := al_size w (.cells (wnc x) 65)
  obtain ⟨a2, p2, w4, hr, ow, t2, -⟩ := Rc.Own.appw (E := encW) (ty := 38) Tryd.underlying38 hi hz hsz hby rfl own (some ⟨w.heap.size, 0, none⟩) 1 [x] (Rc.Mem.new w [x] 65) (fun h => (nomatch h)) (by simp; unfold maxLen; omega) (by simp; omega) (by omega) (by omega)
  have e3 : (A ++ [x]).length = A.length + 1 := by simp
  refine ⟨a2, p2, w4, by rw [← e3]; exact hr, ow, ?_⟩
  exact Touch.trans (((Touch.refl (fun _ => False) w).alloc _).mono fun _ _ h => h.elim) t2 fun _ _ h => h
theorem mks_next {i : Nat} (h : i < 3) : mks.take (i + 1) = mks.take i ++ [mkW i] := by
  rcases (by omega : i = 0 ∨ i = 1 ∨ i = 2) with rfl | rfl | rfl <;> rfl
/-- A row of windows is no key's state. -/
theorem own_notK {w : World} {base D : Nat} {v : Value} {L : List Wn} {cs : Array Value} (h : encW.Own 65 w base v L) (hD : w.heap[D]? = some (.cells cs 40 (0, 0))) : ¬ v.ownBlock = some D := fun hv => by
  obtain ⟨-, cur, hc⟩ := Rc.own_block h hv
  rw [hD] at hc
  injection hc with hc
  injection hc with _ e
  cases e

set_option maxRecDepth 100000 in
set_option maxHeartbeats 4000000 in
theorem lendKey_any (k : Ks) (wo : Option Addr) (cap : Nat) (w : World) (hs : encW.Sl w wo cap k.wi) (hn : k.wi.length ≤ 1954687338300) :
    Calls Tryd.prog 11 #[.agg (ksc k wo cap)] w fun e w' => ∃ g c, e = .returned (.agg (ksc k (some ⟨g, 0, none⟩) c)) ∧ LentK w' w.heap.size g c k.wi ∧ Calm w w' := by
  have CC : Hid (∀ W, Calm w W → Calls Tryd.prog 25 #[.agg (ksc k wo cap)] W fun e w' => ∃ ao c, e = .returned (.agg (ksc k ao c)) ∧ encW.Own 65 w' W.heap.size (.slice ao k.wi.length c) k.wi ∧ Calm W w') := hide fun W hW => copyKey_any k wo cap W (Rc.Sl.calm hs hW) hn
  have CM : Hid (∀ i W, Calls Tryd.prog 26 #[.int .i64 ((i : Nat) : Int)] W fun e w' => e = .returned (wnv (mkW i)) ∧ Calm W w') := hide mark_any
  obtain ⟨B0, T0, A0⟩ : Hid ((w.alloc (.cells (ksc k wo cap) 40)).heap[w.heap.size]? = some (.cells (ksc k wo cap) 40 (0, 0))) ∧ Hid (Calm w (w.alloc (.cells (ksc k wo cap) 40))) ∧ Hid ((w.alloc (.cells (ksc k wo cap) 40)).heap.size = w.heap.size + 1) := ⟨hide (al_new _ _), hide ((Touch.refl _ w).alloc _), hide (al_size _ _)⟩
  clear hs
  go_enter Tryd.func11, Tryd.ntmps11
  go_wp2_with fail
  have AB : Hid (((w.alloc (.cells (ksc k wo cap) 40)).alloc (.cells (ksc ⟨⟨#[]⟩, 0, []⟩ none 0) 40)).heap[w.heap.size]? = some (.cells (ksc k wo cap) 40 (0, 0))) := hide (al_old B0.out _)
  have AZ : Hid (((w.alloc (.cells (ksc k wo cap) 40)).alloc (.cells (ksc ⟨⟨#[]⟩, 0, []⟩ none 0) 40)).heap[w.heap.size + 1]? = some (.cells (ksc ⟨⟨#[]⟩, 0, []⟩ none 0) 40 (0, 0))) := hide (by
    have := al_new (w.alloc (.cells (ksc k wo cap) 40)) (.cells (ksc ⟨⟨#[]⟩, 0, []⟩ none 0) 40)
    rwa [A0.out] at this)
  have TB : Hid (Calm w ((w.alloc (.cells (ksc k wo cap) 40)).alloc (.cells (ksc ⟨⟨#[]⟩, 0, []⟩ none 0) 40))) := hide (T0.out.alloc _)
  have SB : Hid (((w.alloc (.cells (ksc k wo cap) 40)).alloc (.cells (ksc ⟨⟨#[]⟩, 0, []⟩ none 0) 40)).heap.size = w.heap.size + 1 + 1) := hide (by rw [al_size, A0.out])
  clear B0 T0 A0
  refine (CC.out _ TB.out).mono ?_
  generalize hB : w.heap.size = B at *
  generalize hwB : (w.alloc (.cells (ksc k wo cap) 40)).alloc (.cells (ksc ⟨⟨#[]⟩, 0, []⟩ none 0) 40) = wB at *
  rintro e w2 ⟨ao, c, rfl, ow, T2⟩
  clear CC hwB
  rw [SB.out] at ow
  have AD := hide (al_new w2 (.cells (ksc k ao c) 40))
  have OW := hide (Rc.Own.calm ow ((Touch.refl (fun _ => False) w2).alloc (.cells (ksc k ao c) 40)))
  have TD := hide (T2.alloc (.cells (ksc k ao c) 40))
  have hBD : Hid (B + 1 + 1 ≤ w2.heap.size) := hide (by rw [← SB.out]; exact T2.size)
  clear ow T2
  go_wp2_with fail
  generalize w2.alloc (.cells (ksc k ao c) 40) = w3 at *
  generalize w2.heap.size = D at *
  generalize hL : k.wi = L at *
  go_loopw [4] (fun s4 wr => ∃ (i n : Nat) (a1 : Option Addr) (c1 : Nat), s4 = .int .i64 (i : Int) ∧ i ≤ 3 ∧ n = (L ++ mks.take i).length ∧ wr.heap[D]? = some (.cells #[.string k.ke, .int .i64 k.dr, .slice a1 n c1] 40 (0, 0)) ∧ encW.Own 65 wr (B + 1 + 1) (.slice a1 n c1) (L ++ mks.take i) ∧ Calm wB wr) (fun s4 _ => 3 - (intOf s4).toNat)
  case atStart => exact ⟨0, L.length, ao, c, rfl, by omega, by simp, by rw [← hL]; exact AD.out, by simpa using OW.out, TD.out⟩
  case round =>
    obtain ⟨i, n, a1, c1, rfl, hi, hn1, AE, OE, TE⟩ := hrel
    clear AD OW TD
    by_cases hlt : i < 3
    · have hltz : (i : Int) < 3 := by omega
      have C1 := hide (CM.out i)
      have nD := own_notK OE AE
      have hlen : (L ++ mks.take i).length ≤ L.length + 3 := by rw [List.length_append, List.length_take]; simp; omega
      have KD : Hid (∀ W, Touch (fun d => (Value.slice a1 n c1).ownBlock = some d) wr W → W.cell? ⟨D, 2, none⟩ = some (.slice a1 n c1)) := hide fun W hW => by
        have := hW.heap AE nD
        simp [World.cell?, this]
      have HAE := hide AE
      have HOE := hide OE
      have HTE := hide TE
      have Hn := hide hn1
      have HnD := hide nD
      clear AE OE TE hn1 nD CM
      go_wp2_with fail
      refine wp_region_z 7 (Touch (fun d => (Value.slice a1 n c1).ownBlock = some d) wr) (by kernel_rfl) ?_
      have hT0 : Touch (fun d => (Value.slice a1 n c1).ownBlock = some d) wr { wr with drawn := wr.drawn + 1 } := (Touch.refl _ wr).drew
      refine wpAnyZ_yield 0 11 (.pointer (some ⟨D, 2, none⟩)) [7] rfl rfl (by kernel_rfl) (by kernel_rfl) (by kernel_rfl) (by kernel_rfl) (by kernel_rfl) (fun _ _ _ h => h) (by kernel_rfl) (fun W hW => by go_simp) (by assumption) rfl rfl ?_
      simp only [Act.put, List.setIfInBounds_toArray, List.set_cons_zero, List.set_cons_succ]
      refine wpAnyZ_yield 1 12 (.slice a1 n c1) [7] rfl rfl (by kernel_rfl) (by kernel_rfl) (by kernel_rfl) (by kernel_rfl) (by kernel_rfl) (fun _ _ _ h => h) (by kernel_rfl) (fun W hW => by have q := KD.out W hW; go_simp) (by assumption) rfl rfl ?_
      simp only [Act.put, List.setIfInBounds_toArray, List.set_cons_zero, List.set_cons_succ]
      refine wpAnyZ_yield 2 13 (.int .i64 (i : Int)) [7] rfl rfl (by kernel_rfl) (by kernel_rfl) (by kernel_rfl) (by kernel_rfl) (by kernel_rfl) (fun _ _ _ h => h) (by kernel_rfl) (fun W hW => by kernel_rfl) (by assumption) rfl rfl ?_
      simp only [Act.put, List.setIfInBounds_toArray, List.set_cons_zero, List.set_cons_succ]
      refine wpAnyZ_enter 3 14 26 #[.int .i64 (i : Int)] rfl rfl (by decide) (by kernel_rfl) (by kernel_rfl) (by kernel_rfl) ?_
      refine (C1.out _).mono ?_
      rintro r w5 ⟨rfl, T5⟩
      have TW : Calm wr w5 := ((Touch.refl (fun _ => False) wr).drew).tr T5
      have h5 : Touch (fun d => (Value.slice a1 n c1).ownBlock = some d) wr w5 := TW.mono fun _ _ h => h.elim
      refine ⟨_, rfl, h5, ?_⟩
      simp only [Act.put, List.setIfInBounds_toArray, List.set_cons_zero, List.set_cons_succ]
      have O5 := Rc.Own.calm HOE.out TW
      rw [Hn.out] at O5
      obtain ⟨a2, p2, w6, hr, ow, t2⟩ := wn_app1 (mkW i) O5 (by have := TW.size; have := lt_of_heap HAE.out; have := hBD.out; omega) (by omega)
      rw [List.append_assoc, ← mks_next hlt] at ow
      rw [← Hn.out] at hr t2
      have h6 : Touch (fun d => (Value.slice a1 n c1).ownBlock = some d) wr w6 := h5.trans t2 (fun _ _ h => h)
      refine wpAnyZ_value 4 15 (.slice (some ⟨w5.heap.size, 0, none⟩) 1 1) (w' := w5.alloc (.cells (wnc (mkW i)) 65)) rfl rfl (by decide) (by kernel_rfl) (by kernel_rfl) (by go_simp) (h5.alloc _) ?_
      simp only [Act.put, List.setIfInBounds_toArray, List.set_cons_zero, List.set_cons_succ]
      refine wpAnyZ_value 5 16 (.slice a2 (n + 1) p2) (w' := w6) rfl rfl (by decide) (by kernel_rfl) (by kernel_rfl) (exec_apk (.tmp 12) (.tmp 15) 38 38 rfl _ _ _ rfl rfl hr) h6 ?_
      simp only [Act.put, List.setIfInBounds_toArray, List.set_cons_zero, List.set_cons_succ]
      refine wpAnyZ_yield 6 17 (.pointer (some ⟨D, 2, none⟩)) [7] rfl rfl (by kernel_rfl) (by kernel_rfl) (by kernel_rfl) (by kernel_rfl) (by kernel_rfl) (fun _ _ _ h => h) (by kernel_rfl) (fun W hW => by go_simp) (by assumption) rfl rfl ?_
      simp only [Act.put, List.setIfInBounds_toArray, List.set_cons_zero, List.set_cons_succ]
      refine wpAnyZ_end rfl (by kernel_rfl) (by kernel_rfl) (by kernel_rfl) ?_
      have A6 := h6.heap HAE.out HnD.out
      have cD : w6.cell? ⟨D, 2, none⟩ = some (.slice a1 n c1) := by simp [World.cell?, A6]
      have fD : w6.frozen? ⟨D, 2, none⟩ = false := by simp [World.frozen?, A6]
      have A7 : Hid ((w6.setCell ⟨D, 2, none⟩ (.slice a2 (n + 1) p2)).heap[D]? = some (.cells #[.string k.ke, .int .i64 k.dr, .slice a2 (n + 1) p2] 40 (0, 0))) := hide (Cg2.heap_put (i := 2) A6 (.slice a2 (n + 1) p2))
      have e1 : (L ++ mks.take (i + 1)).length = n + 1 := by rw [mks_next hlt, ← List.append_assoc, List.length_append, ← Hn.out]; rfl
      rw [e1] at ow
      have nD6 := own_notK ow A6
      have tS : Touch (fun d => d = D) w6 (w6.setCell ⟨D, 2, none⟩ (.slice a2 (n + 1) p2)) := (Touch.refl (fun k => k = D) w6).setCell (p := ⟨D, 2, none⟩) (fun _ => rfl) _
      have O7 := hide (Rc.Own.touch ow tS fun g hg e => nD6 (e ▸ hg))
      have T6 : Calm wB w6 := Rc.Own.fresh (w0 := wB) HOE.out h6 (fun _ h => h) HTE.out (by rw [SB.out]; exact Nat.le_refl _)
      have T7 := hide (T6.trans tS (fun g hg e => by have := hBD.out; have := SB.out; omega))
      have E1 := hide e1
      clear hT0 T5 TW h5 O5 hr ow t2 h6 A6 nD6 tS T6 e1 C1 KD HAE HOE HTE Hn HnD
      unfold Oper.wp
      go_simp
      go_wp2_with fail
      go_roundw
      case rel => exact ⟨i + 1, n + 1, a2, p2, by go_num, by omega, E1.out.symm, A7.out, O7.out, T7.out⟩
      case measure => simp [intOf]; omega
    · have hltz : ¬ (i : Int) < 3 := by omega
      obtain rfl : i = 3 := by omega
      have e3 : mks.take 3 = mks := rfl
      rw [e3] at hn1 OE
      obtain ⟨i0, hi0, -, -, -⟩ := Rc.info_parts infoWin
      have hg : ∃ g, a1 = some ⟨g, 0, none⟩ := by
        obtain ⟨-, h2, -, -, -, h6⟩ := Rc.Own.mem OE
        obtain ⟨b, off, e, -⟩ := Rc.Mem.at h2 L.length (by simp)
        have := (h6 _ e).2.1
        simp only at this
        subst this
        exact ⟨b, e⟩
      obtain ⟨g, rfl⟩ := hg
      have hc1 : n ≤ c1 := by have := (Rc.Own.mem OE).2.2.1; rw [hn1]; exact this
      have hln : L.length ≤ n := by rw [hn1, List.length_append]; omega
      have hcut := fun W => cut_to (g := g) (n := n) (cap := c1) (k := L.length) Tryd.underlying38 elemWin hi0 (by omega) W
      obtain ⟨-, -, b2⟩ := ks_cells (TE.at AB.out)
      rw [hL] at b2
      have cD0 : wr.cell? ⟨D, 0, none⟩ = some (.string k.ke) := by simp [World.cell?, AE]
      have cD1 : wr.cell? ⟨D, 1, none⟩ = some (.int .i64 k.dr) := by simp [World.cell?, AE]
      have cD2 : wr.cell? ⟨D, 2, none⟩ = some (.slice (some ⟨g, 0, none⟩) n c1) := by simp [World.cell?, AE]
      have fD : wr.frozen? ⟨D, 2, none⟩ = false := by simp [World.frozen?, AE]
      have nD := own_notK OE AE
      have tS : Touch (fun d => d = D) wr (wr.setCell ⟨D, 2, none⟩ (.slice (some ⟨g, 0, none⟩) L.length c1)) := (Touch.refl (fun k => k = D) wr).setCell (p := ⟨D, 2, none⟩) (fun _ => rfl) _
      have O7 := Rc.Own.touch OE tS fun g hg e => nD (e ▸ hg)
      have T7 : Calm wB (wr.setCell ⟨D, 2, none⟩ (.slice (some ⟨g, 0, none⟩) L.length c1)) := TE.trans tS (fun g hg e => by have := hBD.out; have := SB.out; omega)
      have AZ7 := hide (T7.at AZ.out)
      have A8 := hide (setRow_heap _ _ _ (ksc k (some ⟨g, 0, none⟩) c1) _ _ AZ7.out)
      have tR : Touch (fun d => d = B + 1) (wr.setCell ⟨D, 2, none⟩ (.slice (some ⟨g, 0, none⟩) L.length c1)) ((wr.setCell ⟨D, 2, none⟩ (.slice (some ⟨g, 0, none⟩) L.length c1)).setRow (B + 1) (ksc k (some ⟨g, 0, none⟩) c1)) := ⟨rfl, rfl, rfl, by simp, fun j _ hj => setRow_other _ _ j _ hj⟩
      have O8 := Rc.Own.touch O7 tR fun g hg e => by have := (Rc.own_block O7 hg).1; omega
      rw [hn1] at O8
      have T8 : Calm w ((wr.setCell ⟨D, 2, none⟩ (.slice (some ⟨g, 0, none⟩) L.length c1)).setRow (B + 1) (ksc k (some ⟨g, 0, none⟩) c1)) := (TB.out.tr T7).trans tR (fun g hg e => by omega)
      have HR : Hid (∃ g' c', Ending.returned (.agg (ksc k (some ⟨g, 0, none⟩) c1)) = .returned (.agg (ksc k (some ⟨g', 0, none⟩) c')) ∧ LentK ((wr.setCell ⟨D, 2, none⟩ (.slice (some ⟨g, 0, none⟩) L.length c1)).setRow (B + 1) (ksc k (some ⟨g, 0, none⟩) c1)) B g' c' L ∧ Calm w ((wr.setCell ⟨D, 2, none⟩ (.slice (some ⟨g, 0, none⟩) L.length c1)).setRow (B + 1) (ksc k (some ⟨g, 0, none⟩) c1))) := hide ⟨g, c1, rfl, Rc.Own.base O8 (by omega), T8⟩
      have hi3 : (Tryd.prog.info? 40).map (·.size) = some 3 := by kernel_rfl
      have h1c : Hid ((ksc k (some ⟨g, 0, none⟩) c1).all (·.oneCell') = true) := hide (by simp [Value.oneCell'])
      have eK : ksc k (some ⟨g, 0, none⟩) c1 = #[.string k.ke, .int .i64 k.dr, .slice (some ⟨g, 0, none⟩) L.length c1] := by rw [← hL]
      clear nD tS O7 T7 tR O8 T8 OE TE AE hn1 CM AB AZ TB SB hBD
      go_wp2_with (refine wpList_store_rowTo rfl 40 (.tmp 2) (.tmp 25) rfl rfl (B + 1) (ksc k (some ⟨g, 0, none⟩) c1) rfl (by rw [eK]; rfl) 40 _ AZ7.out hi3 rfl h1c.out ?_)
      rw [eK] at A8 HR
      refine bodyPost_ret (results_cell_row rfl _ _ _ _ _ _ _ rfl A8.out Tryd.underlying40 rfl (by kernel_rfl)) rfl ?_
      exact HR.out

end Go.Proofs.YtdcpmpbfnfjncaaDoor
