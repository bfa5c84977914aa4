/- A job's bytes and fields (the document's number, fields). -/
import Derived.Test.YtdcpmpbfnfjncaaGreatDoorCB0
namespace Go.Proofs.YtdcpmpbfnfjncaaGreatDoor
open Go.RowKit

set_option maxRecDepth 100000 in
set_option maxHeartbeats 1000000 in
theorem rnumber_any (x : Nat) (hx : x < 18446744073709551616) (w : World) : Calls Tryz.prog 26 #[.int .u64 (x : Int)] w fun e w' => RetB w e w' (numb x) := by
  have hl := numb_len10 hx
  have HR : Hid (∀ e w', RetB w e w' (numb x) → RetB w e w' (numb x)) := hide fun _ _ h => h
  generalize hN : numb x = N at *
  have HN := hide hN
  clear hN
  go_enter Tryz.func26, Tryz.ntmps26
  go_wp2_with fail
  go_loopw [0, 3] (fun s0 s3 wr => ∃ (y n : Nat) (A : List Int) (ao : Option Addr) (cap : Nat), s0 = .int .u64 (y : Int) ∧ y < 18446744073709551616 ∧ s3 = .slice ao n cap ∧ n = A.length ∧ A ++ numb y = N ∧ encB.Own 5 wr w.heap.size (.slice ao n cap) A ∧ Calm w wr) (fun s0 _ _ => (intOf s0).toNat)
  case atStart => exact ⟨x, 0, [], none, 0, rfl, hx, rfl, rfl, HN.out, Rc.Own.nil _ _ _, Touch.refl _ _⟩
  case round =>
    obtain ⟨y, n, A, ao, cap, rfl, hy, rfl, hn, hA, OA, TA⟩ := hrel
    have hln : n ≤ 10 := by rw [hn]; have := congrArg List.length hA; rw [List.length_append] at this; omega
    by_cases hg : 127 < y
    · have hgz : (127 : Int) < (y : Int) := by omega
      obtain ⟨q, hq⟩ : ∃ q, q = y / 128 := ⟨_, rfl⟩
      obtain ⟨r, hr⟩ : ∃ r, r = y % 128 := ⟨_, rfl⟩
      have r1 : (y : Int) % 128 = (r : Int) := by omega
      have r2 : (y : Int) / 128 = (q : Int) := by omega
      have hA2 : Hid ((A ++ [((r : Int) + 128)]) ++ numb q = N) := hide (by rw [← hA, numb_hi (by omega : 128 ≤ y), ← hq, ← hr]; simp)
      rw [hn] at OA
      obtain ⟨a2, p2, w4, hrun, ow, t2⟩ := by_app ((r : Int) + 128) OA TA.size (by omega)
      have T4 : Hid (Calm w w4) := hide (own_calm OA t2 TA (Nat.le_refl _))
      have e2 : (A ++ [((r : Int) + 128)]).length = n + 1 := by rw [List.length_append, ← hn]; rfl
      rw [e2] at ow
      have OW := hide ow
      rw [← hn] at hrun
      have HL := hide e2.symm
      have hr128 : r < 128 := by omega
      have hq2 : q < 18446744073709551616 := by omega
      have hqy : q < y := by omega
      clear OA TA t2 ow hA hq hr hn e2
      have HRUN := hide hrun
      clear hrun
      go_wp2_with (at_builtin; refine Rc.wpList_appR rfl (.tmp 6) (.tmp 11) 25 25 rfl _ _ _ rfl rfl HRUN.out ?_)
      go_roundw
      case rel => exact ⟨q, n + 1, A ++ [(r : Int) + 128], a2, p2, by go_num, hq2, rfl, HL.out, hA2.out, OW.out, T4.out⟩
      case measure => simp [intOf]; omega
    · have hgz : ¬ (127 : Int) < (y : Int) := by omega
      have hA2 : Hid (A ++ [(y : Int)] = N) := hide (by rw [← hA, numb_lo (by omega)])
      rw [hn] at OA
      obtain ⟨a2, p2, w4, hrun, ow, t2⟩ := by_app (y : Int) OA TA.size (by omega)
      have T4 := own_calm OA t2 TA (Nat.le_refl _)
      rw [hA2.out] at ow
      have e2 : A.length + 1 = N.length := by rw [← hA2.out]; simp
      rw [e2, ← hn] at hrun
      have HF : Hid (RetB w (.returned (.slice a2 N.length p2)) w4 N) := hide ⟨a2, p2, rfl, ow, T4⟩
      have hy8 : (y : Int) < 128 := by omega
      have HRUN := hide hrun
      clear OA TA t2 ow hA hn T4 e2 hrun
      generalize N.length = nl at *
      go_wp2_with (at_builtin; refine Rc.wpList_appR rfl (.tmp 15) (.tmp 18) 25 25 rfl _ _ _ rfl rfl HRUN.out ?_)
      go_ret
      exact HF.out

set_option maxRecDepth 100000 in
theorem rfields_any (c : Cf) (w : World) : Calls Tryz.prog 25 #[cfv c] w fun e w' => e = .returned (.agg (f10c (fldF c))) ∧ Calm w w' := by
  have A1 : ∀ d : Int, ((w.alloc (.cells (cfc c) 24)).alloc (.cells #[.int .i64 c.gr, .int .i64 c.so, .int .i64 c.ki, .int .i64 c.sz, .int .i64 c.sl, .int .i64 c.of, .int .i64 c.gp, .int .i64 c.lt, .int .i64 c.ea, .int .i64 d] 48)).heap[w.heap.size + 1]? = some (.cells #[.int .i64 c.gr, .int .i64 c.so, .int .i64 c.ki, .int .i64 c.sz, .int .i64 c.sl, .int .i64 c.of, .int .i64 c.gp, .int .i64 c.lt, .int .i64 c.ea, .int .i64 d] 48 (0, 0)) := fun d => by
    have := al_new (w.alloc (.cells (cfc c) 24)) (.cells #[.int .i64 c.gr, .int .i64 c.so, .int .i64 c.ki, .int .i64 c.sz, .int .i64 c.sl, .int .i64 c.of, .int .i64 c.gp, .int .i64 c.lt, .int .i64 c.ea, .int .i64 d] 48)
    rwa [al_size] at this
  have T1 : ∀ o : Obj, Calm w ((w.alloc (.cells (cfc c) 24)).alloc o) := fun o => ((Touch.refl _ _).alloc _).alloc _
  have HA := hide A1
  have HT := hide T1
  clear A1 T1
  have hf : Hid (f10c (fldF c) = #[.int .i64 c.gr, .int .i64 c.so, .int .i64 c.ki, .int .i64 c.sz, .int .i64 c.sl, .int .i64 c.of, .int .i64 c.gp, .int .i64 c.lt, .int .i64 c.ea, .int .i64 (if c.di then 1 else 0)]) := hide rfl
  generalize f10c (fldF c) = F at *
  cases hd : c.di with
  | true =>
    have hf2 := hf.out
    rw [hd, if_pos rfl] at hf2
    have HF := hide hf2
    clear hf hf2
    go_enter Tryz.func25, Tryz.ntmps25
    go_wp2_with fail
    refine bodyPost_ret (results_cell_row rfl _ _ _ _ _ _ _ rfl (HA.out 1) Tryz.underlying48 rfl (by kernel_rfl)) rfl ?_
    exact ⟨by rw [HF.out], HT.out _⟩
  | false =>
    have hf2 := hf.out
    rw [hd, if_neg (by decide)] at hf2
    have HF := hide hf2
    clear hf hf2
    go_enter Tryz.func25, Tryz.ntmps25
    go_wp2_with fail
    refine bodyPost_ret (results_cell_row rfl _ _ _ _ _ _ _ rfl (HA.out 0) Tryz.underlying48 rfl (by kernel_rfl)) rfl ?_
    exact ⟨by rw [HF.out], HT.out _⟩

end Go.Proofs.YtdcpmpbfnfjncaaGreatDoor
