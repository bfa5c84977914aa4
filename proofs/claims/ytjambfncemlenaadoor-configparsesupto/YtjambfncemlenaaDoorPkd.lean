/- A job's numbers (the document's number, fields, of). A number at a place (the document's read). A job out of bytes (the document's Read). A job out of a text: numbers (the document's digits). A job out of a text: what stands between blanks (the document's parts). A job's text (the document's names, value). A job's text (the document's Text). A job out of a text (the document's Parse). A job out of a text (the document's Parse), the walk. A job out of its own text: what Parse answers (mathematics alone). What Parse answers: the job whose text it is, or none (mathematics alone). -/
import Derived.Test.YtjambfncemlenaaDoorCB0
import Derived.Test.YtjambfncemlenaaDoorCD0
import Derived.Laws.Tables
import Derived.Great.BuildSlice
import Derived.ChangeKeysEq
import Derived.Test.YtjambfncemlenaaDoorCQ0
import Derived.Test.YtjambfncemlenaaDoorCV0
import Derived.Test.YtjambfncemlenaaDoorCT0
namespace Go.Proofs.YtjambfncemlenaaDoor
open Go.RowKit

set_option maxRecDepth 100000 in
set_option maxHeartbeats 1000000 in
theorem rnumber_any (x : Nat) (hx : x < 18446744073709551616) (w : World) : Calls Tryd.prog 60 #[.int .u64 (x : Int)] w fun e w' => RetB w e w' (numb x) := by
  have hl := numb_len10 hx
  have HR : Hid (∀ e w', RetB w e w' (numb x) → RetB w e w' (numb x)) := hide fun _ _ h => h
  generalize hN : numb x = N at *
  have HN := hide hN
  clear hN
  go_enter Tryd.func60, Tryd.ntmps60
  go_wp2_with fail
  go_loopw [0, 3] (fun s0 s3 wr => ∃ (y n : Nat) (A : List Int) (ao : Option Addr) (cap : Nat), s0 = .int .u64 (y : Int) ∧ y < 18446744073709551616 ∧ s3 = .slice ao n cap ∧ n = A.length ∧ A ++ numb y = N ∧ encB.Own 5 wr w.heap.size (.slice ao n cap) A ∧ Calm w wr) (fun s0 _ _ => (intOf s0).toNat)
  case atStart => exact ⟨x, 0, [], none, 0, rfl, hx, rfl, rfl, HN.out, Rc.Own.nil _ _ _, Touch.refl _ _⟩
  case round =>
    obtain ⟨y, n, A, ao, cap, rfl, hy, rfl, hn, hA, OA, TA⟩ := hrel
    have hln : n ≤ 10 := by rw [hn]; have := congrArg List.length hA; rw [List.length_append] at this; omega
    by_cases hg : 127 < y
    · have hgz : (127 : Int) < (y : Int) := by omega
      obtain ⟨q, hq⟩ : ∃ q, q = y / 128 := ⟨_, rfl⟩
      obtain ⟨r, hr⟩ : ∃ r, r = y % 128 := ⟨_, rfl⟩
      have r1 : (y : Int) % 128 = (r : Int) := by omega
      have r2 : (y : Int) / 128 = (q : Int) := by omega
      have hA2 : Hid ((A ++ [((r : Int) + 128)]) ++ numb q = N) := hide (by rw [← hA, numb_hi (by omega : 128 ≤ y), ← hq, ← hr]; simp)
      rw [hn] at OA
      obtain ⟨a2, p2, w4, hrun, ow, t2⟩ := by_app ((r : Int) + 128) OA TA.size (by omega)
      have T4 : Hid (Calm w w4) := hide (own_calm OA t2 TA (Nat.le_refl _))
      have e2 : (A ++ [((r : Int) + 128)]).length = n + 1 := by rw [List.length_append, ← hn]; rfl
      rw [e2] at ow
      have OW := hide ow
      rw [← hn] at hrun
      have HL := hide e2.symm
      have hr128 : r < 128 := by omega
      have hq2 : q < 18446744073709551616 := by omega
      have hqy : q < y := by omega
      clear OA TA t2 ow hA hq hr hn e2
      have HRUN := hide hrun
      clear hrun
      go_wp2_with (at_builtin; refine Rc.wpList_appR rfl (.tmp 6) (.tmp 11) 34 34 rfl _ _ _ rfl rfl HRUN.out ?_)
      go_roundw
      case rel => exact ⟨q, n + 1, A ++ [(r : Int) + 128], a2, p2, by go_num, hq2, rfl, HL.out, hA2.out, OW.out, T4.out⟩
      case measure => simp [intOf]; omega
    · have hgz : ¬ (127 : Int) < (y : Int) := by omega
      have hA2 : Hid (A ++ [(y : Int)] = N) := hide (by rw [← hA, numb_lo (by omega)])
      rw [hn] at OA
      obtain ⟨a2, p2, w4, hrun, ow, t2⟩ := by_app (y : Int) OA TA.size (by omega)
      have T4 := own_calm OA t2 TA (Nat.le_refl _)
      rw [hA2.out] at ow
      have e2 : A.length + 1 = N.length := by rw [← hA2.out]; simp
      rw [e2, ← hn] at hrun
      have HF : Hid (RetB w (.returned (.slice a2 N.length p2)) w4 N) := hide ⟨a2, p2, rfl, ow, T4⟩
      have hy8 : (y : Int) < 128 := by omega
      have HRUN := hide hrun
      clear OA TA t2 ow hA hn T4 e2 hrun
      generalize N.length = nl at *
      go_wp2_with (at_builtin; refine Rc.wpList_appR rfl (.tmp 15) (.tmp 18) 34 34 rfl _ _ _ rfl rfl HRUN.out ?_)
      go_ret
      exact HF.out

set_option maxRecDepth 100000 in
theorem rfields_any (c : Cf) (w : World) : Calls Tryd.prog 37 #[cfv c] w fun e w' => e = .returned (.agg (f10c (fldF c))) ∧ Calm w w' := by
  have A1 : ∀ d : Int, ((w.alloc (.cells (cfc c) 24)).alloc (.cells #[.int .i64 c.gr, .int .i64 c.so, .int .i64 c.ki, .int .i64 c.sz, .int .i64 c.sl, .int .i64 c.of, .int .i64 c.gp, .int .i64 c.lt, .int .i64 c.ea, .int .i64 d] 61)).heap[w.heap.size + 1]? = some (.cells #[.int .i64 c.gr, .int .i64 c.so, .int .i64 c.ki, .int .i64 c.sz, .int .i64 c.sl, .int .i64 c.of, .int .i64 c.gp, .int .i64 c.lt, .int .i64 c.ea, .int .i64 d] 61 (0, 0)) := fun d => by
    have := al_new (w.alloc (.cells (cfc c) 24)) (.cells #[.int .i64 c.gr, .int .i64 c.so, .int .i64 c.ki, .int .i64 c.sz, .int .i64 c.sl, .int .i64 c.of, .int .i64 c.gp, .int .i64 c.lt, .int .i64 c.ea, .int .i64 d] 61)
    rwa [al_size] at this
  have T1 : ∀ o : Obj, Calm w ((w.alloc (.cells (cfc c) 24)).alloc o) := fun o => ((Touch.refl _ _).alloc _).alloc _
  have HA := hide A1
  have HT := hide T1
  clear A1 T1
  have hf : Hid (f10c (fldF c) = #[.int .i64 c.gr, .int .i64 c.so, .int .i64 c.ki, .int .i64 c.sz, .int .i64 c.sl, .int .i64 c.of, .int .i64 c.gp, .int .i64 c.lt, .int .i64 c.ea, .int .i64 (if c.di then 1 else 0)]) := hide rfl
  generalize f10c (fldF c) = F at *
  cases hd : c.di with
  | true =>
    have hf2 := hf.out
    rw [hd, if_pos rfl] at hf2
    have HF := hide hf2
    clear hf hf2
    go_enter Tryd.func37, Tryd.ntmps37
    go_wp2_with fail
    refine bodyPost_ret (results_cell_row rfl _ _ _ _ _ _ _ rfl (HA.out 1) Tryd.underlying61 rfl (by kernel_rfl)) rfl ?_
    exact ⟨by rw [HF.out], HT.out _⟩
  | false =>
    have hf2 := hf.out
    rw [hd, if_neg (by decide)] at hf2
    have HF := hide hf2
    clear hf hf2
    go_enter Tryd.func37, Tryd.ntmps37
    go_wp2_with fail
    refine bodyPost_ret (results_cell_row rfl _ _ _ _ _ _ _ rfl (HA.out 0) Tryd.underlying61 rfl (by kernel_rfl)) rfl ?_
    exact ⟨by rw [HF.out], HT.out _⟩

set_option maxRecDepth 100000 in
theorem rof_any (f : Nat → Int) (w : World) : Calls Tryd.prog 36 #[.agg (f10c f)] w fun e w' => e = .returned (cfv (ofF f)) ∧ Calm w w' := by
  have A1 := al_new (w.alloc (.cells (f10c f) 61)) (.cells (cfc (ofF f)) 24)
  rw [al_size] at A1
  have T1 : Calm w ((w.alloc (.cells (f10c f) 61)).alloc (.cells (cfc (ofF f)) 24)) := ((Touch.refl _ _).alloc _).alloc _
  have HA := hide A1
  have HT := hide T1
  clear A1 T1
  go_enter Tryd.func36, Tryd.ntmps36
  go_wp2_with fail
  refine bodyPost_ret (results_cell_row rfl _ _ _ _ _ _ _ rfl HA.out Tryd.underlying24 rfl (by kernel_rfl)) rfl ?_
  exact ⟨rfl, HT.out⟩

end Go.Proofs.YtjambfncemlenaaDoor

namespace Go.Proofs.YtjambfncemlenaaDoor
open Go.RowKit
open Cg

/-- The number that bytes begin with, k of them at most: what it is, how many bytes it takes. -/
def rdL : Nat → List Int → Nat → Nat → Option (Nat × Nat)
  | 0, _, _, _ => none
  | _ + 1, [], _, _ => none
  | k + 1, c :: l, x, j => if c < 128 then some (x + c.toNat % 128 * 128 ^ j, j + 1) else rdL k l (x + c.toNat % 128 * 128 ^ j) (j + 1)
/-- What the document's read answers. -/
def readX (b : List Int) (p : Nat) : Int × Int × Bool :=
  match rdL 8 (b.drop p) 0 0 with
  | none => (0, 0, false)
  | some (x, n) => ((x : Int), ((p + n : Nat) : Int), decide (numb x = (b.drop p).take n))

theorem rdL_cons (k : Nat) (c : Int) (l : List Int) (x j : Nat) : rdL (k + 1) (c :: l) x j = if c < 128 then some (x + c.toNat % 128 * 128 ^ j, j + 1) else rdL k l (x + c.toNat % 128 * 128 ^ j) (j + 1) := rfl

set_option maxRecDepth 100000 in
set_option maxHeartbeats 2000000 in
theorem rread_any (b : List Int) (ao : Option Addr) (cap p : Nat) (w : World) (hs : encB.Sl w ao cap b) (h8 : In8 b) (hp : p ≤ b.length) (hl : b.length ≤ 140737488355328) :
    Calls Tryd.prog 35 #[.slice ao b.length cap, .int .i64 (p : Int)] w fun e w' => e = .returned (.tuple #[.int .i64 (readX b p).1, .int .i64 (readX b p).2.1, .bool (readX b p).2.2]) ∧ Calm w w' := by
  have CN : Hid (∀ (x : Nat) (W : World), x < 18446744073709551616 → Calls Tryd.prog 60 #[.int .u64 (x : Int)] W fun e w' => RetB W e w' (numb x)) := hide fun x W hx => rnumber_any x hx W
  obtain ⟨i0, hi, -, hsz, -⟩ := Rc.info_parts infoByte
  have CUT : Hid (∀ q, p ≤ q → q ≤ b.length → ∃ so sc, (∀ W, (Instr.slice 34 (.slice ao b.length cap) (some (.int .i64 (p : Nat))) (some (.int .i64 (q : Nat))) none).run Tryd.prog W = .ok (.slice so (q - p) sc) W) ∧ ∀ W, Calm w W → encB.Mem W so ((b.drop p).take (q - p))) := hide fun q h1 h2 => by
    obtain ⟨so, sc, c1, c2, -⟩ := Rc.Sl.cut (t := 34) Tryd.underlying34 elemByte hi hsz hs h1 h2
    exact ⟨so, sc, c1, fun W hW => Rc.Mem.calm c2 hW⟩
  have AT : Hid (∀ j, j < b.length → ∃ g off c, ao = some ⟨g, off, none⟩ ∧ b.drop j = (c : Int) :: b.drop (j + 1) ∧ 0 ≤ (c : Int) ∧ (c : Int) ≤ 255 ∧ ∀ W, Calm w W → W.cell? ⟨g, off + j, none⟩ = some (.int .u8 c)) := hide fun j hj => by
    obtain ⟨g, off, e, -⟩ := by_at hs.mem j hj
    have hm := h8 b[j] (List.getElem_mem hj)
    refine ⟨g, off, b[j], e, List.drop_eq_getElem_cons hj, hm.1, hm.2, fun W hW => ?_⟩
    obtain ⟨g', off', e', c'⟩ := by_at (Rc.Mem.calm hs.mem hW) j hj
    rw [e] at e'
    injection e' with e'
    injection e' with e1 e2
    subst e1 e2
    rw [List.getD_eq_getElem?_getD, List.getElem?_eq_getElem hj] at c'
    exact c'
  have DR : Hid (∀ n, In8 ((b.drop p).take n)) := hide fun n x hx => h8 x (List.mem_of_mem_drop (List.mem_of_mem_take hx))
  have RX : Hid (∀ r, rdL 8 (b.drop p) 0 0 = r → readX b p = match r with | none => (0, 0, false) | some (x, n) => ((x : Int), ((p + n : Nat) : Int), decide (numb x = (b.drop p).take n))) := hide fun r h => by unfold readX; rw [h]
  generalize readX b p = X at *
  obtain ⟨n, hn⟩ : ∃ n, n = b.length := ⟨_, rfl⟩
  rw [← hn] at CUT AT hp hl ⊢
  have Hn := hide hn
  clear hi hsz hs h8 hn
  go_enter Tryd.func35, Tryd.ntmps35
  go_wp2_with fail
  go_loopw [7, 8, 9] (fun s7 s8 s9 wr => ∃ (j x W9 : Nat), s7 = .int .u64 (x : Int) ∧ s8 = .int .u64 (W9 : Int) ∧ s9 = .int .i64 ((p + j : Nat) : Int) ∧ j ≤ 8 ∧ p + j ≤ n ∧ Hid (W9 = 128 ^ j) ∧ x < W9 ∧ W9 ≤ 72057594037927936 ∧ Hid (rdL (8 - j) (b.drop (p + j)) x j = rdL 8 (b.drop p) 0 0) ∧ Calm w wr) (fun _ _ s9 _ => p + 9 - (intOf s9).toNat)
  case atStart => exact ⟨0, 0, 1, rfl, rfl, rfl, by omega, hp, hide rfl, by omega, by omega, hide rfl, Touch.refl _ _⟩
  case round =>
    obtain ⟨j, x, W9, rfl, rfl, rfl, hj, hpj, HW, hxW, hW9, HR, TL⟩ := hrel
    obtain ⟨i, hi⟩ : ∃ i, i = p + j := ⟨_, rfl⟩
    rw [← hi] at hpj HR ⊢
    have r8 : IntKind.i64.wrap ((p : Int) + 8) = ((p + 8 : Nat) : Int) := by rw [IntKind.wrap_i64]; omega
    by_cases hin : i < n
    · have hinz : (i : Int) < (n : Int) := by omega
      by_cases hj8 : j < 8
      · have hj8z : (i : Int) < ((p + 8 : Nat) : Int) := by omega
        obtain ⟨g, off, c, rfl, hdr, hc0, hc1, hcell⟩ := AT.out i hin
        have cc := hcell wr TL
        obtain ⟨cn, hcn⟩ : ∃ cn : Nat, c = (cn : Int) := ⟨c.toNat, by omega⟩
        subst hcn
        have hcn1 : cn ≤ 255 := by omega
        have hW7 : W9 ≤ 562949953421312 := by
          rw [HW.out]
          exact Nat.pow_le_pow_right (by omega) (show j ≤ 7 by omega)
        obtain ⟨m, hm⟩ : ∃ m, m = cn % 128 := ⟨_, rfl⟩
        obtain ⟨y, hy⟩ : ∃ y, y = m * W9 := ⟨_, rfl⟩
        have hy127 : y ≤ 127 * W9 := by rw [hy]; exact Nat.mul_le_mul_right _ (by omega)
        obtain ⟨z, hz⟩ : ∃ z, z = x + y := ⟨_, rfl⟩
        obtain ⟨V, hV⟩ : ∃ V, V = W9 * 128 := ⟨_, rfl⟩
        have q1 : (cn : Int) % 128 = (m : Int) := by omega
        have q2 : (m : Int) * (W9 : Int) = (y : Int) := by rw [hy]; simp
        have q3 : (x : Int) + (y : Int) = (z : Int) := by omega
        have q4 : (W9 : Int) * 128 = (V : Int) := by omega
        have q5 : IntKind.u64.wrap (y : Int) = (y : Int) := by rw [IntKind.wrap_u64]; omega
        have q6 : IntKind.u64.wrap (z : Int) = (z : Int) := by rw [IntKind.wrap_u64]; omega
        have q7 : IntKind.u64.wrap (V : Int) = (V : Int) := by rw [IntKind.wrap_u64]; omega
        have hzb : z < V := by omega
        have hVb : V ≤ 72057594037927936 := by omega
        have HV : Hid (V = 128 ^ (j + 1)) := hide (by rw [hV, HW.out, Nat.pow_succ])
        have HR2 : Hid ((if (cn : Int) < 128 then some (z, j + 1) else rdL (8 - (j + 1)) (b.drop (i + 1)) z (j + 1)) = rdL 8 (b.drop p) 0 0) := hide (by
          have := HR.out
          rw [hdr, show 8 - j = (8 - (j + 1)) + 1 by omega, rdL_cons] at this
          rw [← this]
          have e : x + (cn : Int).toNat % 128 * 128 ^ j = z := by rw [hz, hy, hm, HW.out]; simp
          rw [e])
        have HTL := hide TL
        have Hi := hide hi
        clear HR hdr hcell hm hy hz hV hy127 TL hi hxW hW7 hc0 hc1
        by_cases hc : (cn : Int) < 128
        · have hcd : decide ((cn : Int) < 128) = true := decide_eq_true hc
          have HRX : Hid (X = ((z : Int), ((p + (j + 1) : Nat) : Int), decide (numb z = (b.drop p).take (j + 1)))) := hide (by
            have h1 := HR2.out
            rw [if_pos hc] at h1
            exact RX.out _ h1.symm)
          have hc63 : IntKind.i64.wrap (z : Int) = (z : Int) := by rw [IntKind.wrap_i64]; omega
          have hi1 : IntKind.i64.wrap ((i : Int) + 1) = ((i + 1 : Nat) : Int) := by rw [IntKind.wrap_i64]; omega
          obtain ⟨so, sc, hcut, hcm⟩ := CUT.out (i + 1) (by have := Hi.out; omega) (by omega)
          have e1 : i + 1 - p = j + 1 := by have := Hi.out; omega
          rw [e1] at hcut hcm
          have hcut : ∀ W, (Instr.slice 34 (.slice (some ⟨g, off, none⟩) n cap) (some (.int .i64 (p : Int))) (some (.int .i64 ((i : Int) + 1))) none).run Tryd.prog W = .ok (.slice so (j + 1) sc) W := fun W => by
            have := hcut W
            rwa [Int.natCast_add] at this
          have HCUT := hide hcut
          have HCM := hide hcm
          have C1 := hide (CN.out z · (by omega))
          have S8 := hide (Cg.str_same (numb_in8 z) (DR.out (j + 1)))
          have LT : Hid (((b.drop p).take (j + 1)).length = j + 1) := hide (by have := Hi.out; have := Hn.out; rw [List.length_take, List.length_drop]; omega)
          clear hcut hcm HR2 RX CUT AT DR CN hc
          go_wp2_with fail
          refine wp_region_held (S := Calm wr) (by kernel_rfl) ?_
          have hT0 : Calm wr { wr with drawn := wr.drawn + 1 } := (Touch.refl _ wr).drew
          refine wpAnyH_yield 0 40 (.int .u64 (z : Int)) rfl rfl (by kernel_rfl) (by kernel_rfl) (by kernel_rfl) (fun _ _ _ h => h) (by kernel_rfl) (fun W hW => by kernel_rfl) (by assumption) rfl rfl ?_
          simp only [Act.put, List.setIfInBounds_toArray, List.set_cons_zero, List.set_cons_succ]
          refine wpAnyH_yield 1 41 (.int .i64 (z : Int)) rfl rfl (by kernel_rfl) (by kernel_rfl) (by kernel_rfl) (fun _ _ _ h => h) (by kernel_rfl) (fun W hW => by go_simp) (by assumption) rfl rfl ?_
          simp only [Act.put, List.setIfInBounds_toArray, List.set_cons_zero, List.set_cons_succ]
          refine wpAnyH_yield 2 42 (.int .i64 (i : Int)) rfl rfl (by kernel_rfl) (by kernel_rfl) (by kernel_rfl) (fun _ _ _ h => h) (by kernel_rfl) (fun W hW => by kernel_rfl) (by assumption) rfl rfl ?_
          simp only [Act.put, List.setIfInBounds_toArray, List.set_cons_zero, List.set_cons_succ]
          refine wpAnyH_yield 3 43 (.int .i64 ((i : Int) + 1)) rfl rfl (by kernel_rfl) (by kernel_rfl) (by kernel_rfl) (fun _ _ _ h => h) (by kernel_rfl) (fun W hW => by go_simp) (by assumption) rfl rfl ?_
          simp only [Act.put, List.setIfInBounds_toArray, List.set_cons_zero, List.set_cons_succ]
          refine wpAnyH_yield 4 44 (.int .u64 (z : Int)) rfl rfl (by kernel_rfl) (by kernel_rfl) (by kernel_rfl) (fun _ _ _ h => h) (by kernel_rfl) (fun W hW => by kernel_rfl) (by assumption) rfl rfl ?_
          simp only [Act.put, List.setIfInBounds_toArray, List.set_cons_zero, List.set_cons_succ]
          refine wpAnyH_yield 7 47 (.slice (some ⟨g, off, none⟩) n cap) rfl rfl (by kernel_rfl) (by kernel_rfl) (by kernel_rfl) (fun _ _ _ h => h) (by kernel_rfl) (fun W hW => by kernel_rfl) (by assumption) rfl rfl ?_
          simp only [Act.put, List.setIfInBounds_toArray, List.set_cons_zero, List.set_cons_succ]
          refine wpAnyH_yield 8 48 (.int .i64 (p : Int)) rfl rfl (by kernel_rfl) (by kernel_rfl) (by kernel_rfl) (fun _ _ _ h => h) (by kernel_rfl) (fun W hW => by kernel_rfl) (by assumption) rfl rfl ?_
          simp only [Act.put, List.setIfInBounds_toArray, List.set_cons_zero, List.set_cons_succ]
          refine wpAnyH_yield 9 49 (.int .i64 (i : Int)) rfl rfl (by kernel_rfl) (by kernel_rfl) (by kernel_rfl) (fun _ _ _ h => h) (by kernel_rfl) (fun W hW => by kernel_rfl) (by assumption) rfl rfl ?_
          simp only [Act.put, List.setIfInBounds_toArray, List.set_cons_zero, List.set_cons_succ]
          refine wpAnyH_yield 10 50 (.int .i64 ((i : Int) + 1)) rfl rfl (by kernel_rfl) (by kernel_rfl) (by kernel_rfl) (fun _ _ _ h => h) (by kernel_rfl) (fun W hW => by go_simp) (by assumption) rfl rfl ?_
          simp only [Act.put, List.setIfInBounds_toArray, List.set_cons_zero, List.set_cons_succ]
          refine wpAnyH_yield 11 51 (.slice so (j + 1) sc) rfl rfl (by kernel_rfl) (by kernel_rfl) (by kernel_rfl) (fun _ _ _ h => h) (by kernel_rfl) (fun W hW => by have q := HCUT.out W; go_simp) (by assumption) rfl rfl ?_
          simp only [Act.put, List.setIfInBounds_toArray, List.set_cons_zero, List.set_cons_succ]
          refine wpAnyH_yield 12 52 (.string (strOfNums ((b.drop p).take (j + 1)))) rfl rfl (by kernel_rfl) (by kernel_rfl) (by kernel_rfl) (fun _ _ _ h => h) (by kernel_rfl) (fun W hW => by have q := conv_mem (HCM.out W (HTL.out.tr hW)) sc; rw [LT.out] at q; go_simp) (by assumption) rfl rfl ?_
          simp only [Act.put, List.setIfInBounds_toArray, List.set_cons_zero, List.set_cons_succ]
          refine wpAnyH_enter 5 45 60 #[.int .u64 (z : Int)] rfl rfl (by kernel_rfl) (by kernel_rfl) (by kernel_rfl) ?_
          refine (C1.out _).mono ?_
          rintro r w2 ⟨bo, bc, rfl, ow, T2⟩
          have hT2 : Calm wr w2 := hT0.tr T2
          have hm2 := (Rc.Own.mem ow).2.1
          refine ⟨_, rfl, hT2, ?_⟩
          simp only [Act.put, List.setIfInBounds_toArray, List.set_cons_zero, List.set_cons_succ]
          refine wpAnyH_yield 14 4 (.int .i64 (z : Int)) rfl rfl (by kernel_rfl) (by kernel_rfl) (by kernel_rfl) (fun _ _ _ h => h) (by kernel_rfl) (fun W hW => by kernel_rfl) (by assumption) rfl rfl ?_
          simp only [Act.put, List.setIfInBounds_toArray, List.set_cons_zero, List.set_cons_succ]
          refine wpAnyH_yield 15 5 (.int .i64 ((i : Int) + 1)) rfl rfl (by kernel_rfl) (by kernel_rfl) (by kernel_rfl) (fun _ _ _ h => h) (by kernel_rfl) (fun W hW => by kernel_rfl) (by assumption) rfl rfl ?_
          simp only [Act.put, List.setIfInBounds_toArray, List.set_cons_zero, List.set_cons_succ]
          have hcv := conv_mem hm2 bc
          refine wpAnyH_value 6 46 (.string (strOfNums (numb z))) (w' := w2) rfl rfl (by kernel_rfl) (by kernel_rfl) (by go_simp) hT2 ?_
          simp only [Act.put, List.setIfInBounds_toArray, List.set_cons_zero, List.set_cons_succ]
          refine wpAnyH_yield 13 53 (.bool (decide (numb z = (b.drop p).take (j + 1)))) rfl rfl (by kernel_rfl) (by kernel_rfl) (by kernel_rfl) (fun _ _ _ h => h) (by kernel_rfl) (fun W hW => by have q := S8.out; go_simp) (by assumption) rfl rfl ?_
          simp only [Act.put, List.setIfInBounds_toArray, List.set_cons_zero, List.set_cons_succ]
          refine wpAnyH_yield 16 6 (.bool (decide (numb z = (b.drop p).take (j + 1)))) rfl rfl (by kernel_rfl) (by kernel_rfl) (by kernel_rfl) (fun _ _ _ h => h) (by kernel_rfl) (fun W hW => by kernel_rfl) (by assumption) rfl rfl ?_
          simp only [Act.put, List.setIfInBounds_toArray, List.set_cons_zero, List.set_cons_succ]
          refine wpAnyH_done (by kernel_rfl) ?_ _
          have H4 := hide hT2
          clear hT0 hT2 hm2 ow T2 hcv S8 LT C1 HCM HCUT
          go_wp2_with fail
          go_ret3
          rw [HRX.out]
          exact ⟨by have := Hi.out; simp only [show ((i : Int) + 1) = ((p + (j + 1) : Nat) : Int) by omega]; rfl, HTL.out.tr H4.out⟩
        · have hcd : decide ((cn : Int) < 128) = false := decide_eq_false hc
          have HR3 : Hid (rdL (8 - (j + 1)) (b.drop (p + (j + 1))) z (j + 1) = rdL 8 (b.drop p) 0 0) := hide (by
            have h1 := HR2.out
            rw [if_neg hc, Hi.out] at h1
            exact h1)
          clear HR2 RX CUT AT DR CN hc
          go_wp2_with fail
          go_roundw
          case rel => exact ⟨j + 1, z, V, rfl, rfl, by have := Hi.out; go_num, by omega, by have := Hi.out; omega, HV, hzb, hVb, HR3, HTL.out⟩
          case measure => simp [intOf]; have := Hi.out; omega
      · have hj8z : ¬ (i : Int) < ((p + 8 : Nat) : Int) := by omega
        obtain rfl : j = 8 := by omega
        have HRX : Hid (X = (0, 0, false)) := hide (RX.out none (by rw [← HR.out]; rfl))
        have HTL := hide TL
        clear HR TL RX CUT AT DR CN
        go_wp2_with fail
        go_ret3
        rw [HRX.out]
        exact ⟨rfl, HTL.out⟩
    · have hinz : ¬ (i : Int) < (n : Int) := by omega
      have HRX : Hid (X = (0, 0, false)) := hide (RX.out none (by
        rw [← HR.out, List.drop_of_length_le (by have := Hn.out; omega)]
        cases 8 - j <;> rfl))
      have HTL := hide TL
      clear HR TL RX CUT AT DR CN
      go_wp2_with fail
      go_ret3
      rw [HRX.out]
      exact ⟨rfl, HTL.out⟩

end Go.Proofs.YtjambfncemlenaaDoor

namespace Go.Proofs.YtjambfncemlenaaDoor
open Go.RowKit
open Cg

namespace Cg
theorem heap_put {w : World} {g i : Nat} {c : Array Value} {t : TypeId} {fr : Nat × Nat} (h : w.heap[g]? = some (.cells c t fr)) (v : Value) : (w.setCell ⟨g, i, none⟩ v).heap[g]? = some (.cells (c.setIfInBounds i v) t fr) := by
  obtain ⟨hg, hv⟩ := Array.getElem?_eq_some_iff.1 h
  simp [World.setCell, hg, Array.getElem_modify, hv]
theorem heap_far {w : World} {g g' i : Nat} {o : Obj} (h : w.heap[g]? = some o) (hne : g ≠ g') (v : Value) : (w.setCell ⟨g', i, none⟩ v).heap[g]? = some o := by
  obtain ⟨hg, hv⟩ := Array.getElem?_eq_some_iff.1 h
  have : ¬ g' = g := fun e => hne e.symm
  simp [World.setCell, hg, Array.getElem_modify, hv, this]
end Cg

/-- Numbers of which one is another. -/
def upF (f : Nat → Int) (i : Nat) (x : Int) : Nat → Int := fun k => if k = i then x else f k
theorem f10c_up (f : Nat → Int) (i : Nat) (x : Int) (hi : i < 10) : (f10c f).setIfInBounds i (.int .i64 x) = f10c (upF f i x) := by
  rcases (by omega : i = 0 ∨ i = 1 ∨ i = 2 ∨ i = 3 ∨ i = 4 ∨ i = 5 ∨ i = 6 ∨ i = 7 ∨ i = 8 ∨ i = 9) with rfl | rfl | rfl | rfl | rfl | rfl | rfl | rfl | rfl | rfl <;> rfl

theorem f10_all {w : World} {b : Nat} {f : Nat → Int} {ty : TypeId} (h : w.heap[b]? = some (.cells (f10c f) ty (0, 0))) : (w.cell? ⟨b, 0, none⟩ = some (.int .i64 (f 0)) ∧ w.cell? ⟨b, 1, none⟩ = some (.int .i64 (f 1)) ∧ w.cell? ⟨b, 2, none⟩ = some (.int .i64 (f 2)) ∧ w.cell? ⟨b, 3, none⟩ = some (.int .i64 (f 3)) ∧ w.cell? ⟨b, 4, none⟩ = some (.int .i64 (f 4))) ∧
    w.cell? ⟨b, 5, none⟩ = some (.int .i64 (f 5)) ∧ w.cell? ⟨b, 6, none⟩ = some (.int .i64 (f 6)) ∧ w.cell? ⟨b, 7, none⟩ = some (.int .i64 (f 7)) ∧ w.cell? ⟨b, 8, none⟩ = some (.int .i64 (f 8)) ∧ w.cell? ⟨b, 9, none⟩ = some (.int .i64 (f 9)) := by simp [World.cell?, h]

theorem Cg.items_self {P : Program} {e : TypeId} {k : IntKind} (hu : P.underlying e = some (.int k)) (d : Nat) (xs : Array Value) (hx : ∀ j, j < xs.size → ∃ x, xs[j]? = some (.int .i64 x)) (w : World) : ∀ (is : List Nat), (∀ j ∈ is, j < xs.size) → (Op.eqItems (d + 1) e 1 xs xs is).run P w = .ok true w
  | [], _ => by simp [Op.eqItems]
  | j :: is, h => by
    obtain ⟨x, ex⟩ := hx j (h j (by simp))
    have ih := Cg.items_self hu d xs hx w is fun i hi => h i (by simp [hi])
    have ep : (part e xs j).run P w = .ok (.int .i64 x) w := by simp [part, isAgg, run_underlying hu, ex]
    have ee : (Op.equalIn (d + 1) e (.int .i64 x) (.int .i64 x)).run P w = .ok true w := by simp [Op.equalIn, run_underlying hu]
    simp only [Op.eqItems, Sem.run_bind, Nat.mul_one, ep, ee, Result.andThen_ok]
    simpa using ih
/-- Ten numbers are the same as themselves. -/
theorem eq10 (f : Nat → Int) (w : World) : (Op.equalIn 10000 61 (.agg (f10c f)) (.agg (f10c f))).run Tryd.prog w = .ok true w := by
  obtain ⟨i, hi⟩ : ∃ i, Tryd.prog.info? 2 = some i := Option.isSome_iff_exists.1 (by kernel_rfl)
  have hc : Tryd.prog.cellsOf 2 = 1 := by kernel_rfl
  rw [show (10000 : Nat) = 9999 + 1 from rfl, run_equalIn_array w 9999 _ _ Tryd.underlying61 hi, hc]
  exact Cg.items_self (d := 9998) Tryd.underlying2 _ (fun j hj => by
    have : j < 10 := hj
    rcases (by omega : j = 0 ∨ j = 1 ∨ j = 2 ∨ j = 3 ∨ j = 4 ∨ j = 5 ∨ j = 6 ∨ j = 7 ∨ j = 8 ∨ j = 9) with rfl | rfl | rfl | rfl | rfl | rfl | rfl | rfl | rfl | rfl <;> exact ⟨_, rfl⟩) w _ (fun j hj => by rw [List.mem_range] at hj; exact hj)

/-- The first i numbers that bytes hold, and the place behind them. -/
def rdS (b : List Int) : Nat → Option ((Nat → Int) × Nat)
  | 0 => some (fun _ => 0, 0)
  | i + 1 => match rdS b i with
    | none => none
    | some (f, p) => if (readX b p).2.2 then some (upF f i (readX b p).1, (readX b p).2.1.toNat) else none
def cf0 : Cf := ⟨0, 0, 0, 0, 0, 0, 0, 0, 0, false⟩
/-- What the document's Read answers. -/
def rdJ (b : List Int) : Cf × Int × Bool :=
  match rdS b 10 with
  | none => (cf0, 0, false)
  | some (f, p) => if wrongN (ofF f) = 0 ∧ f 9 ≤ 1 then (ofF f, (p : Int), true) else (cf0, 0, false)

theorem rdL_len : ∀ (k : Nat) (l : List Int) (x j : Nat) {y n : Nat}, rdL k l x j = some (y, n) → n ≤ j + l.length
  | 0, _, _, _, _, _, h => by cases h
  | _ + 1, [], _, _, _, _, h => by cases h
  | k + 1, c :: l, x, j, y, n, h => by
    rw [rdL_cons] at h
    by_cases hc : c < 128
    · rw [if_pos hc] at h; cases h; simp only [List.length_cons]; omega
    · rw [if_neg hc] at h
      have := rdL_len k l _ _ h
      simp only [List.length_cons]; omega
theorem readX_le {b : List Int} {p : Nat} (hp : p ≤ b.length) (h : (readX b p).2.2 = true) : 0 ≤ (readX b p).1 ∧ ∃ q : Nat, (readX b p).2.1 = (q : Int) ∧ q ≤ b.length := by
  unfold readX at *
  cases e : rdL 8 (b.drop p) 0 0 with
  | none => rw [e] at h; cases h
  | some r =>
    obtain ⟨x, n⟩ := r
    have := rdL_len _ _ _ _ e
    rw [List.length_drop] at this
    exact ⟨Int.natCast_nonneg _, p + n, rfl, by omega⟩
theorem rdS_none {b : List Int} {i : Nat} (h : rdS b i = none) : ∀ k, rdS b (i + k) = none
  | 0 => h
  | k + 1 => by rw [← Nat.add_assoc, rdS, rdS_none h k]

/-- A result that lies in a block of its own, two that do not. -/
theorem results_cell_slots {P : Program} {fn : Func} {p u u2 : Tmp} {ty : TypeId} (h : fn.results = #[.cell p ty, .tmp u, .tmp u2]) (tmps : Array Value) (w : World) (g : Nat) (t : TypeId) (cs : Array Value) (fr : Nat × Nat) (d : TypeDesc)
    (hp : tmps.getD p undef = .pointer (some ⟨g, 0, none⟩)) (hg : w.heap[g]? = some (.cells cs t fr)) (hu : P.underlying ty = some d) (hd : (match d with | .struct _ | .array _ _ => true | _ => false) = true) (hi : (P.info? ty).map (·.size) = some cs.size)
    (v v2 : Value) (hv : tmps.getD u undef = v) (hv2 : tmps.getD u2 undef = v2) :
    (results fn tmps).run P w = .ok (.tuple #[.agg cs, v, v2]) w := by
  have hp' : tmps[p]?.getD undef = .pointer (some ⟨g, 0, none⟩) := by simpa using hp
  have hv' : tmps[u]?.getD undef = v := by simpa using hv
  have hv2' : tmps[u2]?.getD undef = v2 := by simpa using hv2
  simp [results, h, hp', hv', hv2', asAddr, run_loadVar_row w g t ty cs fr d hg hu hd hi]

set_option maxRecDepth 100000 in
set_option maxHeartbeats 2000000 in
theorem rRead_any (b : List Int) (ao : Option Addr) (cap : Nat) (w : World) (hs : encB.Sl w ao cap b) (h8 : In8 b) (hl : b.length ≤ 140737488355328) :
    Calls Tryd.prog 15 #[.slice ao b.length cap] w fun e w' => e = .returned (.tuple #[cfv (rdJ b).1, .int .i64 (rdJ b).2.1, .bool (rdJ b).2.2]) ∧ Calm w w' := by
  have CR : Hid (∀ (p : Nat) (W : World), p ≤ b.length → Calm w W → Calls Tryd.prog 35 #[.slice ao b.length cap, .int .i64 (p : Int)] W fun e w' => e = .returned (.tuple #[.int .i64 (readX b p).1, .int .i64 (readX b p).2.1, .bool (readX b p).2.2]) ∧ Calm W w') := hide fun p W hp hW => rread_any b ao cap p W (Rc.Sl.calm hs hW) h8 hp hl
  have CO : Hid (∀ f W, Calls Tryd.prog 36 #[.agg (f10c f)] W fun e w' => e = .returned (cfv (ofF f)) ∧ Calm W w') := hide rof_any
  have CW : Hid (∀ c W, Calls Tryd.prog 9 #[cfv c] W fun e w' => e = .returned (.int .i64 (wrongN c : Nat)) ∧ Calm W w') := hide rwrong_any
  have CF : Hid (∀ c W, Calls Tryd.prog 37 #[cfv c] W fun e w' => e = .returned (.agg (f10c (fldF c))) ∧ Calm W w') := hide rfields_any
  have RJ0 : Hid (∀ i, i ≤ 10 → rdS b i = none → rdJ b = (cf0, 0, false)) := hide fun i hi h => by
    have := rdS_none h (10 - i)
    rw [show i + (10 - i) = 10 by omega] at this
    unfold rdJ; rw [this]
  have RJ1 : Hid (∀ f p, rdS b 10 = some (f, p) → rdJ b = if wrongN (ofF f) = 0 ∧ f 9 ≤ 1 then (ofF f, (p : Int), true) else (cf0, 0, false)) := hide fun f p h => by
    unfold rdJ; rw [h]
  have NX : Hid (∀ i f p, rdS b i = some (f, p) → rdS b (i + 1) = if (readX b p).2.2 then some (upF f i (readX b p).1, (readX b p).2.1.toNat) else none) := hide fun i f p h => by
    rw [rdS, h]
  have LE : Hid (∀ p, p ≤ b.length → (readX b p).2.2 = true → 0 ≤ (readX b p).1 ∧ ∃ q : Nat, (readX b p).2.1 = (q : Int) ∧ q ≤ b.length) := hide fun p hp h => readX_le hp h
  have S0 : Hid (rdS b 0 = some (fun _ => 0, 0)) := hide rfl
  have hi10 : (Tryd.prog.info? 24).map (·.size) = some 10 := by kernel_rfl
  have h1z : Hid ((cfc cf0).all (·.oneCell') = true) := hide (by simp [Value.oneCell'])
  have A0 := hide (al_old (al_new w (.cells (cfc cf0) 24)) (.cells (f10c fun _ => 0) 61))
  have A1 : Hid (((w.alloc (.cells (cfc cf0) 24)).alloc (.cells (f10c fun _ => 0) 61)).heap[w.heap.size + 1]? = some (.cells (f10c fun _ => 0) 61 (0, 0))) := hide (by
    have := al_new (w.alloc (.cells (cfc cf0) 24)) (.cells (f10c fun _ => 0) 61)
    rwa [al_size] at this)
  have T0 := hide (((Touch.refl (fun _ => False) w).alloc (.cells (cfc cf0) 24)).alloc (.cells (f10c fun _ => 0) 61))
  have HZ : Hid (∀ (W : World) (D : Nat), w.heap.size ≤ D → Calm w W → W.heap[D]? = some (.cells (cfc cf0) 24 (0, 0)) → ∀ cs, (W.setRow D cs).heap[D]? = some (.cells cs 24 (0, 0)) ∧ Calm w (W.setRow D cs)) := hide fun W D hD hW hg cs =>
    ⟨setRow_heap _ _ _ _ _ _ hg, hW.trans (S' := fun g => g = D) ⟨rfl, rfl, rfl, by simp, fun j _ hj => setRow_other _ _ j _ hj⟩ (fun g hg e => by omega)⟩
  generalize rdJ b = X at *
  generalize b.length = n at *
  clear hs h8
  go_enter Tryd.func15, Tryd.ntmps15
  go_wp2_with fail
  have hD : Hid (w.heap.size ≤ w.heap.size) := hide (Nat.le_refl _)
  generalize hDe : w.heap.size = D at *
  go_loopw [6, 7] (fun s6 s7 wr => ∃ (i p : Nat) (f : Nat → Int), s6 = .int .i64 (p : Int) ∧ s7 = .int .i64 (i : Int) ∧ i ≤ 10 ∧ p ≤ n ∧ Hid (rdS b i = some (f, p)) ∧ (∀ k, 0 ≤ f k) ∧ wr.heap[D]? = some (.cells (cfc cf0) 24 (0, 0)) ∧ wr.heap[D + 1]? = some (.cells (f10c f) 61 (0, 0)) ∧ Calm w wr) (fun _ s7 _ => 10 - (intOf s7).toNat)
  case atStart => exact ⟨0, 0, fun _ => 0, rfl, rfl, by omega, by omega, S0, fun _ => Int.le_refl _, A0.out, A1.out, T0.out⟩
  case round =>
    obtain ⟨i, p, f, rfl, rfl, hi, hp, HS, hf0, AD, AE, TL⟩ := hrel
    by_cases hlt : i < 10
    · have hltz : (i : Int) < 10 := by omega
      have C1 := hide (CR.out p wr hp TL)
      have NX1 := hide (NX.out i f p HS.out)
      have LE1 := hide (LE.out p hp)
      have HAD := hide AD
      have HAE := hide AE
      have HTL := hide TL
      clear AD AE TL NX LE HS CR CO CW CF S0 A0 A1 T0 RJ1
      generalize readX b p = R at *
      obtain ⟨x, q, ok⟩ := R
      cases ok with
      | false =>
        have HX := hide (RJ0.out (i + 1) (by omega) (by rw [NX1.out]; rfl))
        clear NX1 LE1 RJ0
        go_wp2_with fail
        refine C1.out.mono ?_
        rintro e w2 ⟨rfl, T2⟩
        have A2 := T2.at HAD.out
        have TL2 := HTL.out.tr T2
        have hw2 := hide (HZ.out w2 D hD.out TL2 A2 (cfc cf0))
        have HA2 := hide A2
        clear T2 TL2 A2 C1 HAD HAE HTL HZ
        go_wp2_with (refine wpList_store_rowTo rfl 24 (.tmp 2) (.tmp 25) rfl rfl D (cfc cf0) rfl rfl 24 _ HA2.out hi10 rfl h1z.out ?_)
        refine bodyPost_ret (results_cell_slots rfl _ _ _ _ _ _ _ rfl hw2.out.1 Tryd.underlying24 rfl (by kernel_rfl) _ _ rfl rfl) rfl ?_
        exact ⟨by rw [HX.out]; rfl, hw2.out.2⟩
      | true =>
        obtain ⟨hx0, q', hq, hqn⟩ := LE1.out rfl
        simp only at hx0 hq
        subst hq
        have HS2 : Hid (rdS b (i + 1) = some (upF f i x, q')) := hide (by rw [NX1.out]; rfl)
        clear NX1 LE1 RJ0
        go_wp2_with fail
        refine C1.out.mono ?_
        rintro e w2 ⟨rfl, T2⟩
        have A2 := T2.at HAD.out
        have E2 := T2.at HAE.out
        have TL2 := HTL.out.tr T2
        have hcell := f10_cells E2 i hlt
        have A3 := hide (heap_far (i := i) A2 (show D ≠ D + 1 by omega) (.int .i64 x))
        have E3 := hide (heap_put (i := i) E2 (.int .i64 x))
        have TL3 := hide (TL2.setCell (p := ⟨D + 1, i, none⟩) (fun h => by simp only at h; omega) (.int .i64 x))
        have hfr : w2.frozen? ⟨D + 1, i, none⟩ = false := by simp [World.frozen?, E2]
        clear T2 TL2 A2 C1 HAD HAE HTL HZ E2
        go_wp2_with fail
        go_roundw
        case rel => exact ⟨i + 1, q', upF f i x, rfl, by go_num, by omega, hqn, HS2, fun k => by unfold upF; split; exact hx0; exact hf0 k, A3.out, by rw [← f10c_up f i x hlt]; exact E3.out, TL3.out⟩
        case measure => simp [intOf]; omega
    · have hltz : ¬ (i : Int) < 10 := by omega
      obtain rfl : i = 10 := by omega
      have RX := hide (RJ1.out f p HS.out)
      have C1 := hide (CO.out f)
      have C2 := hide (CW.out (ofF f))
      have C3 := hide (CF.out (ofF f))
      have HAD := hide AD
      have HAE := hide AE
      have HTL := hide TL
      obtain ⟨⟨k0, k1, k2, k3, k4⟩, k5, k6, k7, k8, k9⟩ := f10_all AE
      clear AD AE TL NX LE HS CR CO CW CF S0 A0 A1 T0 RJ1 RJ0
      go_wp2_with fail
      refine (C1.out _).mono ?_
      rintro e w2 ⟨rfl, T2⟩
      have A2 := T2.at HAD.out
      have E2 := T2.at HAE.out
      have HA3 := hide (al_old A2 (.cells (cfc (ofF f)) 24))
      have HE3 := hide (al_old E2 (.cells (cfc (ofF f)) 24))
      have HF3 := hide (al_new w2 (.cells (cfc (ofF f)) 24))
      have HT3 := hide ((HTL.out.tr T2).alloc (.cells (cfc (ofF f)) 24))
      have hf9 := hf0 9
      have h1c : Hid ((cfc (ofF f)).all (·.oneCell') = true) := hide (by simp [Value.oneCell'])
      have HE : Hid (f 9 ≤ 1 → f10c (fldF (ofF f)) = f10c f) := hide fun h => by
        have e : fldF (ofF f) 9 = f 9 := by
          rcases (by omega : f 9 = 0 ∨ f 9 = 1) with h | h <;> simp [fldF, ofF, h]
        show #[Value.int .i64 (f 0), .int .i64 (f 1), .int .i64 (f 2), .int .i64 (f 3), .int .i64 (f 4), .int .i64 (f 5), .int .i64 (f 6), .int .i64 (f 7), .int .i64 (f 8), .int .i64 (fldF (ofF f) 9)] = _
        rw [e]
      clear T2 A2 E2 HAD HAE HTL k0 k1 k2 k3 k4 k5 k6 k7 k8 k9 C1 hf0
      go_wp2_with fail
      generalize w2.alloc (.cells (cfc (ofF f)) 24) = w3 at *
      generalize w2.heap.size = E at *
      refine wp_region_held (S := Calm w3) (by kernel_rfl) ?_
      have hT0 : Calm w3 { w3 with drawn := w3.drawn + 1 } := (Touch.refl (fun _ => False) w3).drew
      refine wpAnyH_yield 0 32 (cfv (ofF f)) rfl rfl (by kernel_rfl) (by kernel_rfl) (by kernel_rfl) (fun _ _ _ h => h) (by kernel_rfl) (fun W hW => by obtain ⟨⟨k0, k1, k2, k3, k4, k5, k6⟩, k7, k8, k9⟩ := cf_cells (hW.at HF3.out); go_simp) (by assumption) rfl rfl ?_
      simp only [Act.put, List.setIfInBounds_toArray, List.set_cons_zero, List.set_cons_succ]
      refine wpAnyH_enter 1 33 9 #[cfv (ofF f)] rfl rfl (by kernel_rfl) (by kernel_rfl) (by kernel_rfl) ?_
      refine (C2.out _).mono ?_
      rintro r w4 ⟨rfl, T4⟩
      have hT4 : Calm w3 w4 := hT0.tr T4
      have HT4 := hide hT4
      refine ⟨_, rfl, hT4, ?_⟩
      simp only [Act.put, List.setIfInBounds_toArray, List.set_cons_zero, List.set_cons_succ]
      generalize hN : wrongN (ofF f) = N9 at *
      by_cases hN0 : N9 = 0
      · subst hN0
        by_cases h91 : f 9 ≤ 1
        · have h9d : decide (1 < f 9) = false := decide_eq_false (by omega)
          have HX := hide (RX.out.trans (if_pos ⟨rfl, h91⟩))
          have HEE := hide (HE.out h91)
          clear RX HE
          refine wpAnyH_yield 2 34 (.bool false) rfl rfl (by kernel_rfl) (by kernel_rfl) (by kernel_rfl) (fun _ _ _ h => h) (by kernel_rfl) (fun W hW => by kernel_rfl) (by assumption) rfl rfl ?_
          simp only [Act.put, List.setIfInBounds_toArray, List.set_cons_zero, List.set_cons_succ]
          refine wpAnyH_yield 3 35 (.bool false) rfl rfl (by kernel_rfl) (by kernel_rfl) (by kernel_rfl) (fun _ _ _ h => h) (by kernel_rfl) (fun W hW => by kernel_rfl) (by assumption) rfl rfl ?_
          simp only [Act.put, List.setIfInBounds_toArray, List.set_cons_zero, List.set_cons_succ]
          refine wpAnyH_yield 4 36 (.pointer (some ⟨D + 1, 9, none⟩)) rfl rfl (by kernel_rfl) (by kernel_rfl) (by kernel_rfl) (fun _ _ _ h => h) (by kernel_rfl) (fun W hW => by go_simp) (by assumption) rfl rfl ?_
          simp only [Act.put, List.setIfInBounds_toArray, List.set_cons_zero, List.set_cons_succ]
          refine wpAnyH_yield 5 37 (.int .i64 (f 9)) rfl rfl (by kernel_rfl) (by kernel_rfl) (by kernel_rfl) (fun _ _ _ h => h) (by kernel_rfl) (fun W hW => by obtain ⟨-, k5, k6, k7, k8, k9⟩ := f10_all (hW.at HE3.out); go_simp) (by assumption) rfl rfl ?_
          simp only [Act.put, List.setIfInBounds_toArray, List.set_cons_zero, List.set_cons_succ]
          refine wpAnyH_yield 6 38 (.bool false) rfl rfl (by kernel_rfl) (by kernel_rfl) (by kernel_rfl) (fun _ _ _ h => h) (by kernel_rfl) (fun W hW => by go_simp) (by assumption) rfl rfl ?_
          simp only [Act.put, List.setIfInBounds_toArray, List.set_cons_zero, List.set_cons_succ]
          refine wpAnyH_yield 7 39 (.bool false) rfl rfl (by kernel_rfl) (by kernel_rfl) (by kernel_rfl) (fun _ _ _ h => h) (by kernel_rfl) (fun W hW => by kernel_rfl) (by assumption) rfl rfl ?_
          simp only [Act.put, List.setIfInBounds_toArray, List.set_cons_zero, List.set_cons_succ]
          refine wpAnyH_yield 8 40 (.bool false) rfl rfl (by kernel_rfl) (by kernel_rfl) (by kernel_rfl) (fun _ _ _ h => h) (by kernel_rfl) (fun W hW => by kernel_rfl) (by assumption) rfl rfl ?_
          simp only [Act.put, List.setIfInBounds_toArray, List.set_cons_zero, List.set_cons_succ]
          refine wpAnyH_yield 9 41 (cfv (ofF f)) rfl rfl (by kernel_rfl) (by kernel_rfl) (by kernel_rfl) (fun _ _ _ h => h) (by kernel_rfl) (fun W hW => by obtain ⟨⟨k0, k1, k2, k3, k4, k5, k6⟩, k7, k8, k9⟩ := cf_cells (hW.at HF3.out); go_simp) (by assumption) rfl rfl ?_
          simp only [Act.put, List.setIfInBounds_toArray, List.set_cons_zero, List.set_cons_succ]
          refine wpAnyH_yield 11 43 (.agg (f10c f)) rfl rfl (by kernel_rfl) (by kernel_rfl) (by kernel_rfl) (fun _ _ _ h => h) (by kernel_rfl) (fun W hW => by obtain ⟨⟨k0, k1, k2, k3, k4⟩, k5, k6, k7, k8, k9⟩ := f10_all (hW.at HE3.out); go_simp) (by assumption) rfl rfl ?_
          simp only [Act.put, List.setIfInBounds_toArray, List.set_cons_zero, List.set_cons_succ]
          refine wpAnyH_enter 10 42 37 #[cfv (ofF f)] rfl rfl (by kernel_rfl) (by kernel_rfl) (by kernel_rfl) ?_
          refine (C3.out _).mono ?_
          rintro r w5 ⟨rfl, T5⟩
          have hT5 : Calm w3 w5 := hT4.tr T5
          refine ⟨_, rfl, hT5, ?_⟩
          rw [HEE.out]
          simp only [Act.put, List.setIfInBounds_toArray, List.set_cons_zero, List.set_cons_succ]
          refine wpAnyH_yield 12 44 (.bool false) rfl rfl (by kernel_rfl) (by kernel_rfl) (by kernel_rfl) (fun _ _ _ h => h) (by kernel_rfl) (fun W hW => by have q := eq10 f W; go_simp) (by assumption) rfl rfl ?_
          simp only [Act.put, List.setIfInBounds_toArray, List.set_cons_zero, List.set_cons_succ]
          refine wpAnyH_yield 13 45 (.bool false) rfl rfl (by kernel_rfl) (by kernel_rfl) (by kernel_rfl) (fun _ _ _ h => h) (by kernel_rfl) (fun W hW => by kernel_rfl) (by assumption) rfl rfl ?_
          simp only [Act.put, List.setIfInBounds_toArray, List.set_cons_zero, List.set_cons_succ]
          refine wpAnyH_done (by kernel_rfl) ?_ _
          have A5 := hT5.at HA3.out
          have hw5 := hide (HZ.out w5 D hD.out (HT3.out.tr hT5) A5 (cfc (ofF f)))
          have HA5 := hide A5
          obtain ⟨⟨k0, k1, k2, k3, k4, k5, k6⟩, k7, k8, k9⟩ := cf_cells (hT5.at HF3.out)
          clear hT0 A5 HA3 HE3 HF3 HT3 HT4 hT4 T4 HZ hT5 T5 HEE
          go_wp2_with (refine wpList_store_rowTo rfl 24 (.tmp 2) (.tmp 47) rfl rfl D (cfc (ofF f)) rfl rfl 24 _ HA5.out hi10 rfl h1c.out ?_)
          refine bodyPost_ret (results_cell_slots rfl _ _ _ _ _ _ _ rfl hw5.out.1 Tryd.underlying24 rfl (by kernel_rfl) _ _ rfl rfl) rfl ?_
          exact ⟨by rw [HX.out]; rfl, hw5.out.2⟩
        · have h9d : decide (1 < f 9) = true := decide_eq_true (by omega)
          have HX := hide (RX.out.trans (if_neg fun h => h91 h.2))
          clear RX HE
          refine wpAnyH_yield 2 34 (.bool false) rfl rfl (by kernel_rfl) (by kernel_rfl) (by kernel_rfl) (fun _ _ _ h => h) (by kernel_rfl) (fun W hW => by kernel_rfl) (by assumption) rfl rfl ?_
          simp only [Act.put, List.setIfInBounds_toArray, List.set_cons_zero, List.set_cons_succ]
          refine wpAnyH_yield 3 35 (.bool false) rfl rfl (by kernel_rfl) (by kernel_rfl) (by kernel_rfl) (fun _ _ _ h => h) (by kernel_rfl) (fun W hW => by kernel_rfl) (by assumption) rfl rfl ?_
          simp only [Act.put, List.setIfInBounds_toArray, List.set_cons_zero, List.set_cons_succ]
          refine wpAnyH_yield 4 36 (.pointer (some ⟨D + 1, 9, none⟩)) rfl rfl (by kernel_rfl) (by kernel_rfl) (by kernel_rfl) (fun _ _ _ h => h) (by kernel_rfl) (fun W hW => by go_simp) (by assumption) rfl rfl ?_
          simp only [Act.put, List.setIfInBounds_toArray, List.set_cons_zero, List.set_cons_succ]
          refine wpAnyH_yield 5 37 (.int .i64 (f 9)) rfl rfl (by kernel_rfl) (by kernel_rfl) (by kernel_rfl) (fun _ _ _ h => h) (by kernel_rfl) (fun W hW => by obtain ⟨-, k5, k6, k7, k8, k9⟩ := f10_all (hW.at HE3.out); go_simp) (by assumption) rfl rfl ?_
          simp only [Act.put, List.setIfInBounds_toArray, List.set_cons_zero, List.set_cons_succ]
          refine wpAnyH_yield 6 38 (.bool true) rfl rfl (by kernel_rfl) (by kernel_rfl) (by kernel_rfl) (fun _ _ _ h => h) (by kernel_rfl) (fun W hW => by go_simp) (by assumption) rfl rfl ?_
          simp only [Act.put, List.setIfInBounds_toArray, List.set_cons_zero, List.set_cons_succ]
          refine wpAnyH_yield 7 39 (.bool true) rfl rfl (by kernel_rfl) (by kernel_rfl) (by kernel_rfl) (fun _ _ _ h => h) (by kernel_rfl) (fun W hW => by kernel_rfl) (by assumption) rfl rfl ?_
          simp only [Act.put, List.setIfInBounds_toArray, List.set_cons_zero, List.set_cons_succ]
          refine wpAnyH_yield 8 40 (.bool true) rfl rfl (by kernel_rfl) (by kernel_rfl) (by kernel_rfl) (fun _ _ _ h => h) (by kernel_rfl) (fun W hW => by kernel_rfl) (by assumption) rfl rfl ?_
          simp only [Act.put, List.setIfInBounds_toArray, List.set_cons_zero, List.set_cons_succ]
          refine wpAnyH_skip 9 41 rfl rfl (by kernel_rfl) (by kernel_rfl) (by kernel_rfl) (fun _ _ _ h => h) (by kernel_rfl) (by assumption) rfl rfl ?_
          simp only [Act.put, List.setIfInBounds_toArray, List.set_cons_zero, List.set_cons_succ]
          refine wpAnyH_skip 10 42 rfl rfl (by kernel_rfl) (by kernel_rfl) (by kernel_rfl) (fun _ _ _ h => h) (by kernel_rfl) (by assumption) rfl rfl ?_
          simp only [Act.put, List.setIfInBounds_toArray, List.set_cons_zero, List.set_cons_succ]
          refine wpAnyH_skip 11 43 rfl rfl (by kernel_rfl) (by kernel_rfl) (by kernel_rfl) (fun _ _ _ h => h) (by kernel_rfl) (by assumption) rfl rfl ?_
          simp only [Act.put, List.setIfInBounds_toArray, List.set_cons_zero, List.set_cons_succ]
          refine wpAnyH_skip 12 44 rfl rfl (by kernel_rfl) (by kernel_rfl) (by kernel_rfl) (fun _ _ _ h => h) (by kernel_rfl) (by assumption) rfl rfl ?_
          simp only [Act.put, List.setIfInBounds_toArray, List.set_cons_zero, List.set_cons_succ]
          refine wpAnyH_yield 13 45 (.bool true) rfl rfl (by kernel_rfl) (by kernel_rfl) (by kernel_rfl) (fun _ _ _ h => h) (by kernel_rfl) (fun W hW => by kernel_rfl) (by assumption) rfl rfl ?_
          simp only [Act.put, List.setIfInBounds_toArray, List.set_cons_zero, List.set_cons_succ]
          refine wpAnyH_done (by kernel_rfl) ?_ _
          have A4 := HT4.out.at HA3.out
          have hw4 := hide (HZ.out w4 D hD.out (HT3.out.tr HT4.out) A4 (cfc cf0))
          have HA4 := hide A4
          clear hT0 A4 HA3 HE3 HF3 HT3 HT4 hT4 T4 HZ
          go_wp2_with (refine wpList_store_rowTo rfl 24 (.tmp 2) (.tmp 46) rfl rfl D (cfc cf0) rfl rfl 24 _ HA4.out hi10 rfl h1z.out ?_)
          refine bodyPost_ret (results_cell_slots rfl _ _ _ _ _ _ _ rfl hw4.out.1 Tryd.underlying24 rfl (by kernel_rfl) _ _ rfl rfl) rfl ?_
          exact ⟨by rw [HX.out]; rfl, hw4.out.2⟩
      · have hNz : ¬ (N9 : Int) = 0 := by omega
        have hNd : decide ((N9 : Int) = 0) = false := decide_eq_false hNz
        have HX := hide (RX.out.trans (if_neg fun h => hN0 h.1))
        clear RX HE
        refine wpAnyH_yield 2 34 (.bool true) rfl rfl (by kernel_rfl) (by kernel_rfl) (by kernel_rfl) (fun _ _ _ h => h) (by kernel_rfl) (fun W hW => by go_simp) (by assumption) rfl rfl ?_
        simp only [Act.put, List.setIfInBounds_toArray, List.set_cons_zero, List.set_cons_succ]
        refine wpAnyH_yield 3 35 (.bool true) rfl rfl (by kernel_rfl) (by kernel_rfl) (by kernel_rfl) (fun _ _ _ h => h) (by kernel_rfl) (fun W hW => by kernel_rfl) (by assumption) rfl rfl ?_
        simp only [Act.put, List.setIfInBounds_toArray, List.set_cons_zero, List.set_cons_succ]
        refine wpAnyH_skip 4 36 rfl rfl (by kernel_rfl) (by kernel_rfl) (by kernel_rfl) (fun _ _ _ h => h) (by kernel_rfl) (by assumption) rfl rfl ?_
        simp only [Act.put, List.setIfInBounds_toArray, List.set_cons_zero, List.set_cons_succ]
        refine wpAnyH_skip 5 37 rfl rfl (by kernel_rfl) (by kernel_rfl) (by kernel_rfl) (fun _ _ _ h => h) (by kernel_rfl) (by assumption) rfl rfl ?_
        simp only [Act.put, List.setIfInBounds_toArray, List.set_cons_zero, List.set_cons_succ]
        refine wpAnyH_skip 6 38 rfl rfl (by kernel_rfl) (by kernel_rfl) (by kernel_rfl) (fun _ _ _ h => h) (by kernel_rfl) (by assumption) rfl rfl ?_
        simp only [Act.put, List.setIfInBounds_toArray, List.set_cons_zero, List.set_cons_succ]
        refine wpAnyH_yield 7 39 (.bool true) rfl rfl (by kernel_rfl) (by kernel_rfl) (by kernel_rfl) (fun _ _ _ h => h) (by kernel_rfl) (fun W hW => by kernel_rfl) (by assumption) rfl rfl ?_
        simp only [Act.put, List.setIfInBounds_toArray, List.set_cons_zero, List.set_cons_succ]
        refine wpAnyH_yield 8 40 (.bool true) rfl rfl (by kernel_rfl) (by kernel_rfl) (by kernel_rfl) (fun _ _ _ h => h) (by kernel_rfl) (fun W hW => by kernel_rfl) (by assumption) rfl rfl ?_
        simp only [Act.put, List.setIfInBounds_toArray, List.set_cons_zero, List.set_cons_succ]
        refine wpAnyH_skip 9 41 rfl rfl (by kernel_rfl) (by kernel_rfl) (by kernel_rfl) (fun _ _ _ h => h) (by kernel_rfl) (by assumption) rfl rfl ?_
        simp only [Act.put, List.setIfInBounds_toArray, List.set_cons_zero, List.set_cons_succ]
        refine wpAnyH_skip 10 42 rfl rfl (by kernel_rfl) (by kernel_rfl) (by kernel_rfl) (fun _ _ _ h => h) (by kernel_rfl) (by assumption) rfl rfl ?_
        simp only [Act.put, List.setIfInBounds_toArray, List.set_cons_zero, List.set_cons_succ]
        refine wpAnyH_skip 11 43 rfl rfl (by kernel_rfl) (by kernel_rfl) (by kernel_rfl) (fun _ _ _ h => h) (by kernel_rfl) (by assumption) rfl rfl ?_
        simp only [Act.put, List.setIfInBounds_toArray, List.set_cons_zero, List.set_cons_succ]
        refine wpAnyH_skip 12 44 rfl rfl (by kernel_rfl) (by kernel_rfl) (by kernel_rfl) (fun _ _ _ h => h) (by kernel_rfl) (by assumption) rfl rfl ?_
        simp only [Act.put, List.setIfInBounds_toArray, List.set_cons_zero, List.set_cons_succ]
        refine wpAnyH_yield 13 45 (.bool true) rfl rfl (by kernel_rfl) (by kernel_rfl) (by kernel_rfl) (fun _ _ _ h => h) (by kernel_rfl) (fun W hW => by kernel_rfl) (by assumption) rfl rfl ?_
        simp only [Act.put, List.setIfInBounds_toArray, List.set_cons_zero, List.set_cons_succ]
        refine wpAnyH_done (by kernel_rfl) ?_ _
        have A4 := HT4.out.at HA3.out
        have hw4 := hide (HZ.out w4 D hD.out (HT3.out.tr HT4.out) A4 (cfc cf0))
        have HA4 := hide A4
        clear hT0 A4 HA3 HE3 HF3 HT3 HT4 hT4 T4 HZ
        go_wp2_with (refine wpList_store_rowTo rfl 24 (.tmp 2) (.tmp 46) rfl rfl D (cfc cf0) rfl rfl 24 _ HA4.out hi10 rfl h1z.out ?_)
        refine bodyPost_ret (results_cell_slots rfl _ _ _ _ _ _ _ rfl hw4.out.1 Tryd.underlying24 rfl (by kernel_rfl) _ _ rfl rfl) rfl ?_
        exact ⟨by rw [HX.out]; rfl, hw4.out.2⟩

end Go.Proofs.YtjambfncemlenaaDoor

namespace Go.Proofs.YtjambfncemlenaaDoor
open Go.RowKit

/-- The number that digits tell, behind i of them that told x; 0: they are none. -/
def digL : List UInt8 → Nat → Nat → Nat
  | [], _, x => x
  | b :: r, i, x => if b.toNat < 48 ∨ 57 < b.toNat ∨ 17 < i then 0 else digL r (i + 1) (10 * x + (b.toNat - 48))
def digB (s : ByteArray) : Nat := digL s.toList 0 0
theorem digL_cons (b : UInt8) (r : List UInt8) (i x : Nat) : digL (b :: r) i x = if b.toNat < 48 ∨ 57 < b.toNat ∨ 17 < i then 0 else digL r (i + 1) (10 * x + (b.toNat - 48)) := rfl

theorem toList_at (s : ByteArray) (i : Nat) (h : i < s.size) : s.toList.drop i = s[i] :: s.toList.drop (i + 1) := by
  rw [ByteArray.toList_eq]
  have h' : i < s.data.toList.length := by rw [Array.length_toList]; exact h
  rw [List.drop_eq_getElem_cons h']
  rfl

set_option maxRecDepth 100000 in
set_option maxHeartbeats 2000000 in
theorem rdigits_any (s : ByteArray) (hs : s.size ≤ 140737488355328) (w : World) : Calls Tryd.prog 41 #[.string s] w fun e w' => e = .returned (.int .i64 (digB s : Nat)) ∧ w' = w := by
  have LA : Hid (∀ i (h : i < s.size), s.toList.drop i = s[i] :: s.toList.drop (i + 1)) := hide (toList_at s)
  have ND : Hid (s.toList.drop s.size = []) := hide (by rw [ByteArray.toList_eq]; exact List.drop_of_length_le (Nat.le_of_eq Array.length_toList))
  have D0 : Hid (digL (s.toList.drop 0) 0 0 = digB s) := hide rfl
  generalize digB s = X at *
  go_enter Tryd.func41, Tryd.ntmps41
  go_wp2_with fail
  go_loopw [3, 4] (fun s3 s4 wr => ∃ i x : Nat, s3 = .int .i64 (x : Int) ∧ s4 = .int .i64 (i : Int) ∧ i ≤ s.size ∧ i ≤ 18 ∧ Hid (x < 10 ^ i) ∧ x < 1000000000000000000 ∧ Hid (digL (s.toList.drop i) i x = X) ∧ wr = w) (fun _ s4 _ => s.size - (intOf s4).toNat)
  case atStart => exact ⟨0, 0, rfl, rfl, by omega, by omega, hide (by decide), by omega, D0, rfl⟩
  case round =>
    obtain ⟨i, x, rfl, rfl, hi, hi8, HX, hx, HD, rfl⟩ := hrel
    by_cases hlt : i < s.size
    · have hltz : (i : Int) < (s.size : Int) := by omega
      have HD2 := HD.out
      rw [LA.out i hlt, digL_cons] at HD2
      have HDD := hide HD2
      clear HD2 HD LA ND D0
      obtain ⟨b, hb⟩ : ∃ b : Nat, (s[i]'hlt).toNat = b := ⟨_, rfl⟩
      rw [hb] at HDD
      have hb255 : b < 256 := by rw [← hb]; exact (s[i]'hlt).toNat_lt
      by_cases h1 : b < 48
      · have h1z : (b : Int) < 48 := by omega
        have HF := hide (HDD.out.symm.trans (if_pos (Or.inl h1)))
        clear HDD
        go_wp2_with fail
        go_ret
        exact ⟨by rw [HF.out]; rfl, rfl⟩
      · have h1z : ¬ (b : Int) < 48 := by omega
        by_cases h2 : 57 < b
        · have h2z : (57 : Int) < (b : Int) := by omega
          have HF := hide (HDD.out.symm.trans (if_pos (Or.inr (Or.inl h2))))
          clear HDD
          go_wp2_with fail
          go_ret
          exact ⟨by rw [HF.out]; rfl, rfl⟩
        · have h2z : ¬ (57 : Int) < (b : Int) := by omega
          by_cases h3 : 17 < i
          · have h3z : (17 : Int) < (i : Int) := by omega
            have HF := hide (HDD.out.symm.trans (if_pos (Or.inr (Or.inr h3))))
            clear HDD
            go_wp2_with fail
            go_ret
            exact ⟨by rw [HF.out]; rfl, rfl⟩
          · have h3z : ¬ (17 : Int) < (i : Int) := by omega
            have HF : Hid (digL (s.toList.drop (i + 1)) (i + 1) (10 * x + (b - 48)) = X) := hide (by
              rw [← HDD.out, if_neg (fun h => by omega)])
            obtain ⟨d, hd⟩ : ∃ d, d = b - 48 := ⟨_, rfl⟩
            obtain ⟨y, hy⟩ : ∃ y, y = 10 * x + d := ⟨_, rfl⟩
            rw [← hd, ← hy] at HF
            have HY : Hid (y < 10 ^ (i + 1)) := hide (by rw [Nat.pow_succ]; have := HX.out; omega)
            have hyb : y < 1000000000000000000 := by
              have h17 : 10 ^ (i + 1) ≤ 10 ^ 18 := Nat.pow_le_pow_right (by omega) (by omega)
              have := HY.out
              have e : (10 : Nat) ^ 18 = 1000000000000000000 := by decide
              omega
            have q1 : IntKind.i64.wrap (10 * (x : Int)) = 10 * (x : Int) := by rw [IntKind.wrap_i64]; omega
            have q2 : IntKind.u8.wrap ((b : Int) - 48) = (d : Int) := by rw [IntKind.wrap_u8]; omega
            have q3 : 10 * (x : Int) + (d : Int) = (y : Int) := by omega
            have q4 : IntKind.i64.wrap (y : Int) = (y : Int) := by rw [IntKind.wrap_i64]; omega
            have q5 : IntKind.i64.wrap (d : Int) = (d : Int) := by rw [IntKind.wrap_i64]; omega
            clear HDD hy hd
            go_wp2_with fail
            go_roundw
            case rel => exact ⟨i + 1, y, by go_num, by go_num, by omega, by omega, HY, hyb, HF, trivial⟩
            case measure => simp [intOf]; omega
    · have hltz : ¬ (i : Int) < (s.size : Int) := by omega
      obtain rfl : i = s.size := by omega
      have HF : Hid ((x : Nat) = X) := hide (by have := HD.out; rw [ND.out] at this; exact this)
      clear HD
      go_wp2_with fail
      go_ret
      exact ⟨by rw [← HF.out]; rfl, rfl⟩

end Go.Proofs.YtjambfncemlenaaDoor

namespace Go.Proofs.YtjambfncemlenaaDoor
open Go.RowKit

/-- What stands between blanks, behind the bytes of the piece under way. -/
def cutL : List UInt8 → List UInt8 → List (List UInt8)
  | cur, [] => [cur]
  | cur, b :: r => if b.toNat = 32 then cur :: cutL [] r else cutL (cur ++ [b]) r
theorem cutL_cons (cur : List UInt8) (b : UInt8) (r : List UInt8) : cutL cur (b :: r) = if b.toNat = 32 then cur :: cutL [] r else cutL (cur ++ [b]) r := rfl
/-- What stands between a text's blanks. -/
def cutB (s : ByteArray) : List (List UInt8) := cutL [] s.toList
theorem cutL_len : ∀ (cur r : List UInt8), (cutL cur r).length ≤ r.length + 1
  | _, [] => by simp [cutL]
  | cur, b :: r => by
    rw [cutL_cons]
    split
    · have := cutL_len [] r; simp only [List.length_cons]; omega
    · have := cutL_len (cur ++ [b]) r; simp only [List.length_cons]; omega

theorem ext_toList (s : ByteArray) (a b : Nat) : (s.extract a b).toList = (s.toList.drop a).take (b - a) := by
  rw [ByteArray.toList_eq, ByteArray.toList_eq, ByteArray.data_extract, Array.toList_extract]

theorem take_next {s : ByteArray} {a i : Nat} (ha : a ≤ i) (h : i < s.size) : (s.toList.drop a).take (i + 1 - a) = (s.toList.drop a).take (i - a) ++ [s[i]] := by
  have e : (s.toList.drop a).drop (i - a) = s[i] :: s.toList.drop (i + 1) := by
    rw [List.drop_drop, show a + (i - a) = i by omega, toList_at s i h]
  have e2 : (s.toList.drop a)[i - a]? = some s[i] := by
    have := congrArg List.head? e
    rw [List.head?_drop] at this
    rw [this]; rfl
  rw [show i + 1 - a = (i - a) + 1 by omega, List.take_add_one, e2]
  rfl

/-- What a function answers that makes texts. -/
def RetZ (w : World) (e : Ending) (w' : World) (C : List (List UInt8)) : Prop := ∃ ao cap L, e = .returned (.slice ao L.length cap) ∧ encZ.Own 9 w' w.heap.size (.slice ao L.length cap) L ∧ L.map (·.toList) = C ∧ Calm w w'

set_option maxRecDepth 100000 in
set_option maxHeartbeats 2000000 in
theorem rparts_any (s : ByteArray) (hs : s.size ≤ 100000000000) (w : World) : Calls Tryd.prog 40 #[.string s] w fun e w' => RetZ w e w' (cutB s) := by
  have LA : Hid (∀ i (h : i < s.size), s.toList.drop i = s[i] :: s.toList.drop (i + 1)) := hide (toList_at s)
  have ND : Hid (s.toList.drop s.size = []) := hide (by rw [ByteArray.toList_eq]; exact List.drop_of_length_le (Nat.le_of_eq Array.length_toList))
  have TN : Hid (∀ a i, a ≤ i → ∀ (h : i < s.size), (s.toList.drop a).take (i + 1 - a) = (s.toList.drop a).take (i - a) ++ [s[i]]) := hide fun a i ha h => take_next ha h
  have EX : Hid (∀ a b, (s.extract a b).toList = (s.toList.drop a).take (b - a)) := hide (ext_toList s)
  have D0 : Hid (([] : List ByteArray).map (·.toList) ++ cutL ((s.toList.drop 0).take (0 - 0)) (s.toList.drop 0) = cutB s) := hide rfl
  have HE : Hid (∀ e w', RetZ w e w' (cutB s) → RetZ w e w' (cutB s)) := hide fun _ _ h => h
  generalize cutB s = X at *
  go_enter Tryd.func40, Tryd.ntmps40
  go_wp2_with fail
  go_loopw [3, 4, 5] (fun s3 s4 s5 wr => ∃ (i a n : Nat) (A : List ByteArray) (ao : Option Addr) (cap : Nat), s3 = .slice ao n cap ∧ n = A.length ∧ s4 = .int .i64 (a : Int) ∧ s5 = .int .i64 (i : Int) ∧ a ≤ i ∧ i ≤ s.size ∧ n ≤ i ∧ Hid (A.map (·.toList) ++ cutL ((s.toList.drop a).take (i - a)) (s.toList.drop i) = X) ∧ encZ.Own 9 wr w.heap.size (.slice ao n cap) A ∧ Calm w wr) (fun _ _ s5 _ => s.size - (intOf s5).toNat)
  case atStart => exact ⟨0, 0, 0, [], none, 0, rfl, rfl, rfl, rfl, by omega, by omega, by omega, D0, Rc.Own.nil _ _ _, Touch.refl _ _⟩
  case round =>
    obtain ⟨i, a, n, A, ao, cap, rfl, hn, rfl, rfl, ha, hi, hni, HD, OA, TL⟩ := hrel
    rw [hn] at OA
    by_cases hlt : i < s.size
    · have hltz : (i : Int) < (s.size : Int) := by omega
      have HD2 := HD.out
      rw [LA.out i hlt, cutL_cons] at HD2
      obtain ⟨b, hb⟩ : ∃ b : Nat, (s[i]'hlt).toNat = b := ⟨_, rfl⟩
      rw [hb] at HD2
      by_cases h32 : b = 32
      · have h32z : (b : Int) = 32 := by omega
        rw [if_pos h32] at HD2
        have HD3 : Hid ((A ++ [s.extract a i]).map (·.toList) ++ cutL ((s.toList.drop (i + 1)).take (i + 1 - (i + 1))) (s.toList.drop (i + 1)) = X) := hide (by
          rw [← HD2, Nat.sub_self, List.take_zero, List.map_append, List.append_assoc, List.map_cons, EX.out]; rfl)
        obtain ⟨a2, p2, w4, hrun, ow, t2⟩ := st_app (s.extract a i) OA TL.size (by omega)
        have T4 : Hid (Calm w w4) := hide (own_calm OA t2 TL (Nat.le_refl _))
        have e2 : (A ++ [s.extract a i]).length = n + 1 := by rw [List.length_append, ← hn]; rfl
        rw [e2] at ow
        rw [← hn] at hrun
        have OW := hide ow
        have E2 := hide e2
        have HRUN := hide hrun
        have haz : (a : Int) ≤ (i : Int) := by omega
        have hiz : (i : Int) ≤ (s.size : Int) := by omega
        clear HD HD2 OA TL t2 ow hrun e2 hn LA ND TN EX D0
        go_wp2_with (at_builtin; refine Rc.wpList_appR rfl (.tmp 16) (.tmp 21) 81 81 rfl _ _ _ rfl rfl HRUN.out ?_)
        go_roundw
        case rel => exact ⟨i + 1, i + 1, n + 1, A ++ [s.extract a i], a2, p2, rfl, E2.out.symm, by go_num, by go_num, by omega, by omega, by omega, HD3, OW.out, T4.out⟩
        case measure => simp [intOf]; omega
      · have h32z : ¬ (b : Int) = 32 := by omega
        rw [if_neg h32] at HD2
        have HD3 : Hid (A.map (·.toList) ++ cutL ((s.toList.drop a).take (i + 1 - a)) (s.toList.drop (i + 1)) = X) := hide (by rw [TN.out a i ha hlt]; exact HD2)
        have HO := hide OA
        have HT := hide TL
        have Hn := hide hn
        clear HD HD2 OA TL hn LA ND TN EX D0
        go_wp2_with fail
        go_roundw
        case rel => exact ⟨i + 1, a, n, A, ao, cap, rfl, Hn.out, rfl, by go_num, by omega, by omega, by omega, HD3, by rw [Hn.out]; exact HO.out, HT.out⟩
        case measure => simp [intOf]; omega
    · have hltz : ¬ (i : Int) < (s.size : Int) := by omega
      obtain rfl : i = s.size := by omega
      have HD2 := HD.out
      rw [ND.out] at HD2
      obtain ⟨a2, p2, w4, hrun, ow, t2⟩ := st_app (s.extract a s.size) OA TL.size (by omega)
      have T4 : Calm w w4 := own_calm OA t2 TL (Nat.le_refl _)
      have e2 : (A ++ [s.extract a s.size]).length = n + 1 := by rw [List.length_append, ← hn]; rfl
      have HF : Hid (RetZ w (.returned (.slice a2 (n + 1) p2)) w4 X) := hide ⟨a2, p2, A ++ [s.extract a s.size], by rw [e2], ow, by rw [← HD2, List.map_append, List.map_cons, EX.out]; rfl, T4⟩
      rw [← hn] at hrun
      have HRUN := hide hrun
      have haz : (a : Int) ≤ (s.size : Int) := by omega
      clear HD HD2 OA TL t2 ow hrun e2 hn LA ND TN EX D0 T4
      go_wp2_with (at_builtin; refine Rc.wpList_appR rfl (.tmp 25) (.tmp 29) 81 81 rfl _ _ _ rfl rfl HRUN.out ?_)
      go_ret
      exact HF.out

end Go.Proofs.YtjambfncemlenaaDoor

namespace Go.Proofs.YtjambfncemlenaaDoor
open Go.RowKit

set_option maxRecDepth 100000 in
theorem rnames_any (w : World) : Calls Tryd.prog 65 #[] w fun e w' => e = .returned (.slice (some ⟨w.heap.size, 0, none⟩) 10 10) ∧ w' = w.alloc (.cells nms 9) := by
  go_enter Tryd.func65, Tryd.ntmps65
  go_wp2_with fail
  go_ret
  exact ⟨rfl, rfl⟩

set_option maxRecDepth 100000 in
theorem rvalue_2_1 (w : World) : Calls Tryd.prog 42 #[.int .i64 2, .int .i64 1] w fun e w' => e = .returned (.string (valB 2 1)) ∧ Calm w w' := by
  have T0 : Hid (∀ o, Calm w (w.alloc o)) := hide fun o => (Touch.refl _ w).alloc o
  go_enter Tryd.func42, Tryd.ntmps42
  go_wp2_with fail
  go_ret
  exact ⟨rfl, T0.out _⟩

set_option maxRecDepth 100000 in
theorem rvalue_2_2 (w : World) : Calls Tryd.prog 42 #[.int .i64 2, .int .i64 2] w fun e w' => e = .returned (.string (valB 2 2)) ∧ Calm w w' := by
  have T0 : Hid (∀ o, Calm w (w.alloc o)) := hide fun o => (Touch.refl _ w).alloc o
  go_enter Tryd.func42, Tryd.ntmps42
  go_wp2_with fail
  go_ret
  exact ⟨rfl, T0.out _⟩

set_option maxRecDepth 100000 in
theorem rvalue_2_3 (w : World) : Calls Tryd.prog 42 #[.int .i64 2, .int .i64 3] w fun e w' => e = .returned (.string (valB 2 3)) ∧ Calm w w' := by
  have T0 : Hid (∀ o, Calm w (w.alloc o)) := hide fun o => (Touch.refl _ w).alloc o
  go_enter Tryd.func42, Tryd.ntmps42
  go_wp2_with fail
  go_ret
  exact ⟨rfl, T0.out _⟩

set_option maxRecDepth 100000 in
theorem rvalue_9_0 (w : World) : Calls Tryd.prog 42 #[.int .i64 9, .int .i64 0] w fun e w' => e = .returned (.string (valB 9 0)) ∧ Calm w w' := by
  have T0 : Hid (∀ o, Calm w (w.alloc o)) := hide fun o => (Touch.refl _ w).alloc o
  go_enter Tryd.func42, Tryd.ntmps42
  go_wp2_with fail
  go_ret
  exact ⟨rfl, T0.out _⟩

set_option maxRecDepth 100000 in
theorem rvalue_9_1 (w : World) : Calls Tryd.prog 42 #[.int .i64 9, .int .i64 1] w fun e w' => e = .returned (.string (valB 9 1)) ∧ Calm w w' := by
  have T0 : Hid (∀ o, Calm w (w.alloc o)) := hide fun o => (Touch.refl _ w).alloc o
  go_enter Tryd.func42, Tryd.ntmps42
  go_wp2_with fail
  go_ret
  exact ⟨rfl, T0.out _⟩

set_option maxRecDepth 100000 in
theorem rvalue_any (i : Nat) (x : Int) (hi : i < 10) (hx : ValOk i x) (w : World) (ht : Tab w) : Calls Tryd.prog 42 #[.int .i64 (i : Int), .int .i64 x] w fun e w' => e = .returned (.string (valB i x)) ∧ Calm w w' := by
  obtain ⟨v1, v2, v3, v4⟩ := hx
  by_cases h2 : i = 2
  · subst h2
    obtain ⟨a, b⟩ := v1 rfl
    rcases (by omega : x = 1 ∨ x = 2 ∨ x = 3) with rfl | rfl | rfl
    · exact rvalue_2_1 w
    · exact rvalue_2_2 w
    · exact rvalue_2_3 w
  · by_cases h9 : i = 9
    · subst h9
      obtain ⟨a, b⟩ := v2 rfl
      rcases (by omega : x = 0 ∨ x = 1) with rfl | rfl
      · exact rvalue_9_0 w
      · exact rvalue_9_1 w
    · have HV : Hid (valB i x = ⟨(Lib.itoa x).toArray⟩) := hide (by unfold valB; rw [if_neg h2, if_neg h9])
      have CF := hide (format_any x v3 v4 w ht)
      have z2 : ¬ (i : Int) = 2 := by omega
      have z9 : ¬ (i : Int) = 9 := by omega
      clear v1 v2 h2 h9
      go_enter Tryd.func42, Tryd.ntmps42
      go_wp2_with fail
      refine CF.out.mono ?_
      rintro e w1 ⟨rfl, T1⟩
      have HT := hide T1
      clear T1 CF
      go_wp2_with fail
      go_ret
      exact ⟨by rw [HV.out]; rfl, HT.out⟩

end Go.Proofs.YtjambfncemlenaaDoor

namespace Go.Proofs.YtjambfncemlenaaDoor
open Go.RowKit

theorem rnames_words (w : World) : Calls Tryd.prog 65 #[] w fun e w' => ∃ g, e = .returned (.slice (some ⟨g, 0, none⟩) 10 10) ∧ Calm w w' ∧ Words w' g := by
  refine (rnames_any w).mono ?_
  rintro e w' ⟨rfl, rfl⟩
  exact ⟨w.heap.size, rfl, (Touch.refl _ w).alloc _, fun W hW i hi => nms_cell (hW.at (al_new w _)) i hi⟩

set_option maxRecDepth 100000 in
set_option maxHeartbeats 1000000 in
theorem rtext_any (c : Cf) (hc : TxtOk c) (w : World) (ht : Tab w) : Calls Tryd.prog 43 #[cfv c] w fun e w' => e = .returned (.string (txtS c 10)) ∧ Calm w w' := by
  have CF := fun w => hide (rfields_any c w)
  have CN := fun w => hide (rnames_words w)
  have CV : Hid (∀ i : Nat, i < 10 → ∀ W, Calm w W → Calls Tryd.prog 42 #[.int .i64 (i : Int), .int .i64 (fldF c i)] W fun e w' => e = .returned (.string (valB i (fldF c i))) ∧ Calm W w') := hide fun i hi W hW => rvalue_any i _ hi (hc i hi) W (ht.calm hW)
  have LN := hide (fun i (hi : i ≤ 10) => txtS_size hc i hi)
  have LV := hide (fun i (hi : i < 10) => valB_size (hc i hi))
  have NX : Hid (∀ i, txtS c (i + 1) = (((if i = 0 then txtS c i else txtS c i ++ spB) ++ nm i) ++ spB) ++ valB i (fldF c i)) := hide fun _ => rfl
  have Z0 : Hid (txtS c 0 = ⟨#[]⟩) := hide rfl
  have T0 := hide ((Touch.refl (fun _ => False) w).alloc (.cells (cfc c) 24))
  clear hc ht
  go_enter Tryd.func43, Tryd.ntmps43
  go_wp2_with fail
  refine (CF _).out.mono ?_
  rintro e w1 ⟨rfl, T1⟩
  have A1 := hide (al_new w1 (.cells (f10c (fldF c)) 61))
  have TA := hide ((T0.out.tr T1).alloc (.cells (f10c (fldF c)) 61))
  clear T1 CF T0
  generalize hF : fldF c = F at *
  go_wp2_with fail
  generalize w1.alloc (.cells (f10c F) 61) = wS at *
  generalize w1.heap.size = D at *
  refine (CN _).out.mono ?_
  rintro e w3 ⟨E, rfl, T2, hw⟩
  have A3 := hide (T2.at A1.out)
  have TL3 := hide (TA.out.tr T2)
  have HW := hide hw
  clear A1 TA CN T2 hw
  go_wp2_with fail
  have SPX : spB = (⟨#[32]⟩ : ByteArray) := rfl
  have Hi3 := hide SPX
  go_loopw [5, 6] (fun s5 s6 wr => ∃ i : Nat, s5 = .string (txtS c i) ∧ s6 = .int .i64 (i : Int) ∧ i ≤ 10 ∧ Calm w3 wr) (fun _ s6 _ => 10 - (intOf s6).toNat)
  case atStart => exact ⟨0, by rw [Z0.out], rfl, by omega, Touch.refl _ _⟩
  case round =>
    obtain ⟨i, rfl, rfl, hi, TL⟩ := hrel
    by_cases hlt : i < 10
    · have hltz : (i : Int) < 10 := by omega
      have l1 := LN.out i (by omega)
      have l2 := LV.out i hlt
      have l3 := nm_size i
      have C1 := hide (CV.out i hlt)
      have NX1 := hide (NX.out i)
      have FC : Hid (∀ W, Calm w3 W → W.cell? ⟨E, i, none⟩ = some (.string (nm i)) ∧ W.cell? ⟨D, i, none⟩ = some (.int .i64 (F i))) := hide fun W hW => ⟨HW.out W hW i hlt, f10_cells (hW.at A3.out) i hlt⟩
      have HTL := hide TL
      clear TL CV NX LN LV
      generalize nm i = nn at *
      generalize valB i (F i) = v at *
      generalize txtS c i = s at *
      obtain ⟨s0, hs0⟩ : ∃ s0, s0 = if i = 0 then s else s ++ spB := ⟨_, rfl⟩
      rw [← hs0] at NX1
      have lb : spB.size = 1 := rfl
      have l0 : s0.size ≤ 302 := by
        rw [hs0]
        split
        · omega
        · rw [ByteArray.size_append]; omega
      obtain ⟨s1, hs1⟩ : ∃ s1, s1 = s0 ++ nn := ⟨_, rfl⟩
      obtain ⟨s2, hs2⟩ : ∃ s2, s2 = s1 ++ spB := ⟨_, rfl⟩
      obtain ⟨s3, hs3⟩ : ∃ s3, s3 = s2 ++ v := ⟨_, rfl⟩
      have e1 : s1.size = s0.size + nn.size := by rw [hs1, ByteArray.size_append]
      have e2 : s2.size = s1.size + spB.size := by rw [hs2, ByteArray.size_append]
      have G0 : Hid (binOp .add 9 (.string s) (.string ⟨#[32]⟩) = pure (.string (s ++ spB))) := hide (str_add _ s spB (by omega))
      have G1 : Hid (binOp .add 9 (.string s0) (.string nn) = pure (.string s1)) := hide (by rw [hs1]; exact str_add _ s0 nn (by omega))
      have G2 : Hid (binOp .add 9 (.string s1) (.string ⟨#[32]⟩) = pure (.string s2)) := hide (by rw [hs2]; exact str_add _ s1 spB (by omega))
      have G3 : Hid (binOp .add 9 (.string s2) (.string v) = pure (.string s3)) := hide (by rw [hs3]; exact str_add _ s2 v (by omega))
      have NX2 : Hid (txtS c (i + 1) = s3) := hide (by rw [NX1.out, hs3, hs2, hs1])
      have Hs0 := hide hs0
      clear NX1 hs0 hs1 hs2 hs3 e1 e2 l0 l1 l2 l3 lb
      by_cases hi0 : i = 0
      · have hs : s0 = s := by rw [Hs0.out, if_pos hi0]
        subst hs
        have hi0z : ¬ (0 : Int) < (i : Int) := by omega
        clear hi0 G0 Hs0
        go_wp2_with fail
        clear hi0z
        refine wp_region_held (S := Calm w3) (by kernel_rfl) ?_
        have hT0 : Calm w3 { wr with drawn := wr.drawn + 1 } := HTL.out.drew
        refine wpAnyH_yield 0 18 (.string s0) rfl rfl (by kernel_rfl) (by kernel_rfl) (by kernel_rfl) (fun _ _ _ h => h) (by kernel_rfl) (fun W hW => by kernel_rfl) (by assumption) rfl rfl ?_
        simp only [Act.put, List.setIfInBounds_toArray, List.set_cons_zero, List.set_cons_succ]
        refine wpAnyH_yield 1 19 (.slice (some ⟨E, 0, none⟩) 10 10) rfl rfl (by kernel_rfl) (by kernel_rfl) (by kernel_rfl) (fun _ _ _ h => h) (by kernel_rfl) (fun W hW => by kernel_rfl) (by assumption) rfl rfl ?_
        simp only [Act.put, List.setIfInBounds_toArray, List.set_cons_zero, List.set_cons_succ]
        refine wpAnyH_yield 2 20 (.int .i64 (i : Int)) rfl rfl (by kernel_rfl) (by kernel_rfl) (by kernel_rfl) (fun _ _ _ h => h) (by kernel_rfl) (fun W hW => by kernel_rfl) (by assumption) rfl rfl ?_
        simp only [Act.put, List.setIfInBounds_toArray, List.set_cons_zero, List.set_cons_succ]
        refine wpAnyH_yield 3 21 (.pointer (some ⟨E, i, none⟩)) rfl rfl (by kernel_rfl) (by kernel_rfl) (by kernel_rfl) (fun _ _ _ h => h) (by kernel_rfl) (fun W hW => by go_simp) (by assumption) rfl rfl ?_
        simp only [Act.put, List.setIfInBounds_toArray, List.set_cons_zero, List.set_cons_succ]
        refine wpAnyH_yield 4 22 (.string nn) rfl rfl (by kernel_rfl) (by kernel_rfl) (by kernel_rfl) (fun _ _ _ h => h) (by kernel_rfl) (fun W hW => by obtain ⟨c0, -⟩ := FC.out W hW; go_simp) (by assumption) rfl rfl ?_
        simp only [Act.put, List.setIfInBounds_toArray, List.set_cons_zero, List.set_cons_succ]
        refine wpAnyH_yield 5 23 (.string s1) rfl rfl (by kernel_rfl) (by kernel_rfl) (by kernel_rfl) (fun _ _ _ h => h) (by kernel_rfl) (fun W hW => by have q := G1.out; go_simp) (by assumption) rfl rfl ?_
        simp only [Act.put, List.setIfInBounds_toArray, List.set_cons_zero, List.set_cons_succ]
        refine wpAnyH_yield 6 24 (.string s2) rfl rfl (by kernel_rfl) (by kernel_rfl) (by kernel_rfl) (fun _ _ _ h => h) (by kernel_rfl) (fun W hW => by have q := G2.out; go_simp) (by assumption) rfl rfl ?_
        simp only [Act.put, List.setIfInBounds_toArray, List.set_cons_zero, List.set_cons_succ]
        refine wpAnyH_yield 7 25 (.int .i64 (i : Int)) rfl rfl (by kernel_rfl) (by kernel_rfl) (by kernel_rfl) (fun _ _ _ h => h) (by kernel_rfl) (fun W hW => by kernel_rfl) (by assumption) rfl rfl ?_
        simp only [Act.put, List.setIfInBounds_toArray, List.set_cons_zero, List.set_cons_succ]
        refine wpAnyH_yield 8 26 (.int .i64 (i : Int)) rfl rfl (by kernel_rfl) (by kernel_rfl) (by kernel_rfl) (fun _ _ _ h => h) (by kernel_rfl) (fun W hW => by kernel_rfl) (by assumption) rfl rfl ?_
        simp only [Act.put, List.setIfInBounds_toArray, List.set_cons_zero, List.set_cons_succ]
        refine wpAnyH_yield 9 27 (.pointer (some ⟨D, i, none⟩)) rfl rfl (by kernel_rfl) (by kernel_rfl) (by kernel_rfl) (fun _ _ _ h => h) (by kernel_rfl) (fun W hW => by go_simp) (by assumption) rfl rfl ?_
        simp only [Act.put, List.setIfInBounds_toArray, List.set_cons_zero, List.set_cons_succ]
        refine wpAnyH_yield 10 28 (.int .i64 (F i)) rfl rfl (by kernel_rfl) (by kernel_rfl) (by kernel_rfl) (fun _ _ _ h => h) (by kernel_rfl) (fun W hW => by obtain ⟨-, c1⟩ := FC.out W hW; go_simp) (by assumption) rfl rfl ?_
        simp only [Act.put, List.setIfInBounds_toArray, List.set_cons_zero, List.set_cons_succ]
        refine wpAnyH_enter 11 29 42 #[.int .i64 (i : Int), .int .i64 (F i)] rfl rfl (by kernel_rfl) (by kernel_rfl) (by kernel_rfl) ?_
        refine (C1.out _ (TL3.out.tr hT0)).mono ?_
        rintro r w5 ⟨rfl, T5⟩
        have h5 := hT0.tr T5
        refine ⟨_, rfl, h5, ?_⟩
        simp only [Act.put, List.setIfInBounds_toArray, List.set_cons_zero, List.set_cons_succ]
        refine wpAnyH_yield 12 30 (.string s3) rfl rfl (by kernel_rfl) (by kernel_rfl) (by kernel_rfl) (fun _ _ _ h => h) (by kernel_rfl) (fun W hW => by have q := G3.out; go_simp) (by assumption) rfl rfl ?_
        simp only [Act.put, List.setIfInBounds_toArray, List.set_cons_zero, List.set_cons_succ]
        refine wpAnyH_yield 13 5 (.string s3) rfl rfl (by kernel_rfl) (by kernel_rfl) (by kernel_rfl) (fun _ _ _ h => h) (by kernel_rfl) (fun W hW => by kernel_rfl) (by assumption) rfl rfl ?_
        simp only [Act.put, List.setIfInBounds_toArray, List.set_cons_zero, List.set_cons_succ]
        refine wpAnyH_done (by kernel_rfl) ?_ _
        have H5 := hide h5
        clear h5 T5 hT0 C1 FC G1 G2 G3 HTL
        go_wp2_with fail
        go_roundw
        case rel => exact ⟨i + 1, by rw [NX2.out], by go_num, by omega, H5.out⟩
        case measure => simp [intOf]; omega
      · have hs : s ++ spB = s0 := by rw [Hs0.out, if_neg hi0]
        have g0 := G0.out
        rw [hs] at g0
        have hi0z : (0 : Int) < (i : Int) := by omega
        clear hi0 G0 Hs0 hs
        go_wp2_with fail
        clear hi0z g0
        refine wp_region_held (S := Calm w3) (by kernel_rfl) ?_
        have hT0 : Calm w3 { wr with drawn := wr.drawn + 1 } := HTL.out.drew
        refine wpAnyH_yield 0 18 (.string s0) rfl rfl (by kernel_rfl) (by kernel_rfl) (by kernel_rfl) (fun _ _ _ h => h) (by kernel_rfl) (fun W hW => by kernel_rfl) (by assumption) rfl rfl ?_
        simp only [Act.put, List.setIfInBounds_toArray, List.set_cons_zero, List.set_cons_succ]
        refine wpAnyH_yield 1 19 (.slice (some ⟨E, 0, none⟩) 10 10) rfl rfl (by kernel_rfl) (by kernel_rfl) (by kernel_rfl) (fun _ _ _ h => h) (by kernel_rfl) (fun W hW => by kernel_rfl) (by assumption) rfl rfl ?_
        simp only [Act.put, List.setIfInBounds_toArray, List.set_cons_zero, List.set_cons_succ]
        refine wpAnyH_yield 2 20 (.int .i64 (i : Int)) rfl rfl (by kernel_rfl) (by kernel_rfl) (by kernel_rfl) (fun _ _ _ h => h) (by kernel_rfl) (fun W hW => by kernel_rfl) (by assumption) rfl rfl ?_
        simp only [Act.put, List.setIfInBounds_toArray, List.set_cons_zero, List.set_cons_succ]
        refine wpAnyH_yield 3 21 (.pointer (some ⟨E, i, none⟩)) rfl rfl (by kernel_rfl) (by kernel_rfl) (by kernel_rfl) (fun _ _ _ h => h) (by kernel_rfl) (fun W hW => by go_simp) (by assumption) rfl rfl ?_
        simp only [Act.put, List.setIfInBounds_toArray, List.set_cons_zero, List.set_cons_succ]
        refine wpAnyH_yield 4 22 (.string nn) rfl rfl (by kernel_rfl) (by kernel_rfl) (by kernel_rfl) (fun _ _ _ h => h) (by kernel_rfl) (fun W hW => by obtain ⟨c0, -⟩ := FC.out W hW; go_simp) (by assumption) rfl rfl ?_
        simp only [Act.put, List.setIfInBounds_toArray, List.set_cons_zero, List.set_cons_succ]
        refine wpAnyH_yield 5 23 (.string s1) rfl rfl (by kernel_rfl) (by kernel_rfl) (by kernel_rfl) (fun _ _ _ h => h) (by kernel_rfl) (fun W hW => by have q := G1.out; go_simp) (by assumption) rfl rfl ?_
        simp only [Act.put, List.setIfInBounds_toArray, List.set_cons_zero, List.set_cons_succ]
        refine wpAnyH_yield 6 24 (.string s2) rfl rfl (by kernel_rfl) (by kernel_rfl) (by kernel_rfl) (fun _ _ _ h => h) (by kernel_rfl) (fun W hW => by have q := G2.out; go_simp) (by assumption) rfl rfl ?_
        simp only [Act.put, List.setIfInBounds_toArray, List.set_cons_zero, List.set_cons_succ]
        refine wpAnyH_yield 7 25 (.int .i64 (i : Int)) rfl rfl (by kernel_rfl) (by kernel_rfl) (by kernel_rfl) (fun _ _ _ h => h) (by kernel_rfl) (fun W hW => by kernel_rfl) (by assumption) rfl rfl ?_
        simp only [Act.put, List.setIfInBounds_toArray, List.set_cons_zero, List.set_cons_succ]
        refine wpAnyH_yield 8 26 (.int .i64 (i : Int)) rfl rfl (by kernel_rfl) (by kernel_rfl) (by kernel_rfl) (fun _ _ _ h => h) (by kernel_rfl) (fun W hW => by kernel_rfl) (by assumption) rfl rfl ?_
        simp only [Act.put, List.setIfInBounds_toArray, List.set_cons_zero, List.set_cons_succ]
        refine wpAnyH_yield 9 27 (.pointer (some ⟨D, i, none⟩)) rfl rfl (by kernel_rfl) (by kernel_rfl) (by kernel_rfl) (fun _ _ _ h => h) (by kernel_rfl) (fun W hW => by go_simp) (by assumption) rfl rfl ?_
        simp only [Act.put, List.setIfInBounds_toArray, List.set_cons_zero, List.set_cons_succ]
        refine wpAnyH_yield 10 28 (.int .i64 (F i)) rfl rfl (by kernel_rfl) (by kernel_rfl) (by kernel_rfl) (fun _ _ _ h => h) (by kernel_rfl) (fun W hW => by obtain ⟨-, c1⟩ := FC.out W hW; go_simp) (by assumption) rfl rfl ?_
        simp only [Act.put, List.setIfInBounds_toArray, List.set_cons_zero, List.set_cons_succ]
        refine wpAnyH_enter 11 29 42 #[.int .i64 (i : Int), .int .i64 (F i)] rfl rfl (by kernel_rfl) (by kernel_rfl) (by kernel_rfl) ?_
        refine (C1.out _ (TL3.out.tr hT0)).mono ?_
        rintro r w5 ⟨rfl, T5⟩
        have h5 := hT0.tr T5
        refine ⟨_, rfl, h5, ?_⟩
        simp only [Act.put, List.setIfInBounds_toArray, List.set_cons_zero, List.set_cons_succ]
        refine wpAnyH_yield 12 30 (.string s3) rfl rfl (by kernel_rfl) (by kernel_rfl) (by kernel_rfl) (fun _ _ _ h => h) (by kernel_rfl) (fun W hW => by have q := G3.out; go_simp) (by assumption) rfl rfl ?_
        simp only [Act.put, List.setIfInBounds_toArray, List.set_cons_zero, List.set_cons_succ]
        refine wpAnyH_yield 13 5 (.string s3) rfl rfl (by kernel_rfl) (by kernel_rfl) (by kernel_rfl) (fun _ _ _ h => h) (by kernel_rfl) (fun W hW => by kernel_rfl) (by assumption) rfl rfl ?_
        simp only [Act.put, List.setIfInBounds_toArray, List.set_cons_zero, List.set_cons_succ]
        refine wpAnyH_done (by kernel_rfl) ?_ _
        have H5 := hide h5
        clear h5 T5 hT0 C1 FC G1 G2 G3 HTL
        go_wp2_with fail
        go_roundw
        case rel => exact ⟨i + 1, by rw [NX2.out], by go_num, by omega, H5.out⟩
        case measure => simp [intOf]; omega
    · have hltz : ¬ (i : Int) < 10 := by omega
      obtain rfl : i = 10 := by omega
      have HTL := hide (TL3.out.tr TL)
      clear TL CV NX LN LV
      go_wp2_with fail
      go_ret
      exact ⟨rfl, HTL.out⟩

end Go.Proofs.YtjambfncemlenaaDoor

namespace Go.Proofs.YtjambfncemlenaaDoor
open Go.RowKit
open Cg

/-- No text. -/
abbrev z0 : ByteArray := ⟨#[]⟩
/-- The kind that a word tells, of the first k; x: none of them. -/
def kinS (z : List UInt8) (x : Int) : Nat → Int
  | 0 => x
  | k + 1 => if ((valB 2 ((k + 1 : Nat) : Int)).toList == z) then ((k + 1 : Nat) : Int) else kinS z x k
/-- A field's number, out of a text's pieces. -/
def pfX (L : List ByteArray) (i : Nat) : Int :=
  if i = 2 then kinS (L.getD 5 z0).toList (digB (L.getD (2 * i + 1) z0) : Nat) 3
  else if i = 9 ∧ ((L.getD 19 z0).toList == [121, 101, 115]) = true then 1 else (digB (L.getD (2 * i + 1) z0) : Nat)
/-- The first i of them. -/
def pfF (L : List ByteArray) (i : Nat) : Nat → Int := fun k => if k < i then pfX L k else 0
theorem pfF_next (L : List ByteArray) (i : Nat) : upF (pfF L i) i (pfX L i) = pfF L (i + 1) := by
  funext k
  unfold upF pfF
  by_cases h : k = i
  · rw [if_pos h, h, if_pos (by omega)]
  · rw [if_neg h]
    by_cases h2 : k < i
    · rw [if_pos h2, if_pos (by omega)]
    · rw [if_neg h2, if_neg (by omega)]
theorem pfF_zero (L : List ByteArray) : pfF L 0 = fun _ => 0 := by
  funext k
  unfold pfF
  rw [if_neg (by omega)]

theorem digL_lt : ∀ (l : List UInt8) (i x : Nat), i ≤ 18 → x < 10 ^ i → digL l i x < 1000000000000000000
  | [], i, x, hi, hx => by
    have h : 10 ^ i ≤ 10 ^ 18 := Nat.pow_le_pow_right (by omega) hi
    have e : (10 : Nat) ^ 18 = 1000000000000000000 := by decide
    show x < _
    omega
  | b :: r, i, x, hi, hx => by
    rw [digL_cons]
    split
    · omega
    · refine digL_lt r (i + 1) _ (by omega) ?_
      rw [Nat.pow_succ]
      omega
theorem kinS_in (z : List UInt8) {x : Int} (h : 0 ≤ x ∧ x < 1000000000000000000) : ∀ k, k ≤ 3 → 0 ≤ kinS z x k ∧ kinS z x k < 1000000000000000000
  | 0, _ => h
  | k + 1, hk => by
    unfold kinS
    split
    · omega
    · exact kinS_in z h k (by omega)
theorem pfX_in (L : List ByteArray) (i : Nat) : 0 ≤ pfX L i ∧ pfX L i < 1000000000000000000 := by
  have h : ∀ s, 0 ≤ ((digB s : Nat) : Int) ∧ ((digB s : Nat) : Int) < 1000000000000000000 := fun s => by
    have := digL_lt s.toList 0 0 (by omega) (by decide)
    unfold digB
    omega
  unfold pfX
  split
  · exact kinS_in _ (h _) 3 (by omega)
  · split
    · omega
    · exact h _
theorem wrong_kind {c : Cf} (h : wrongN c = 0) : 1 ≤ c.ki ∧ c.ki ≤ 3 := by
  have st : ∀ n k, wrongF c n (k + 1) = if fieldB c n then wrongF c (n + 1) k else n := fun _ _ => rfl
  unfold wrongN at h
  rw [st, st, st] at h
  split at h
  · split at h
    · split at h
      · rename_i h3
        unfold fieldB at h3
        simp at h3
        omega
      · cases h
    · cases h
  · cases h
theorem txtOk_of {f : Nat → Int} (h : ∀ k, 0 ≤ f k ∧ f k < 1000000000000000000) (hw : wrongN (ofF f) = 0) : TxtOk (ofF f) := fun i hi => by
  have hk := wrong_kind hw
  have e : ∀ j, j < 9 → fldF (ofF f) j = f j := fun j hj => by
    rcases (by omega : j = 0 ∨ j = 1 ∨ j = 2 ∨ j = 3 ∨ j = 4 ∨ j = 5 ∨ j = 6 ∨ j = 7 ∨ j = 8) with rfl | rfl | rfl | rfl | rfl | rfl | rfl | rfl | rfl <;> rfl
  by_cases h9 : i = 9
  · subst h9
    have : fldF (ofF f) 9 = if (ofF f).di then 1 else 0 := rfl
    rw [this]
    refine ⟨fun h => by omega, fun _ => ?_, ?_, ?_⟩ <;> split <;> omega
  · rw [e i (by omega)]
    have := h i
    refine ⟨fun h2 => ?_, fun h => absurd h h9, by omega, by omega⟩
    subst h2
    exact hk

/-- What the document's Parse answers. -/
def prsJ (L : List ByteArray) (s : ByteArray) : Cf × Bool :=
  if L.length = 20 then if wrongN (ofF (pfF L 10)) = 0 ∧ ((txtS (ofF (pfF L 10)) 10).toList == s.toList) = true then (ofF (pfF L 10), true) else (cf0, false) else (cf0, false)

end Go.Proofs.YtjambfncemlenaaDoor

namespace Go.Proofs.YtjambfncemlenaaDoor
open Go.RowKit
open Cg

/-- A result that lies in a block of its own, one that does not. -/
theorem results_cell_one {P : Program} {fn : Func} {p u : Tmp} {ty : TypeId} (h : fn.results = #[.cell p ty, .tmp u]) (tmps : Array Value) (w : World) (g : Nat) (t : TypeId) (cs : Array Value) (fr : Nat × Nat) (d : TypeDesc)
    (hp : tmps.getD p undef = .pointer (some ⟨g, 0, none⟩)) (hg : w.heap[g]? = some (.cells cs t fr)) (hu : P.underlying ty = some d) (hd : (match d with | .struct _ | .array _ _ => true | _ => false) = true) (hi : (P.info? ty).map (·.size) = some cs.size) (v : Value) (hv : tmps.getD u undef = v) :
    (results fn tmps).run P w = .ok (.tuple #[.agg cs, v]) w := by
  have hp' : tmps[p]?.getD undef = .pointer (some ⟨g, 0, none⟩) := by simpa using hp
  have hv' : tmps[u]?.getD undef = v := by simpa using hv
  simp [results, h, hp', hv', asAddr, run_loadVar_row w g t ty cs fr d hg hu hd hi]

/-- The pieces are no longer than the text. -/
theorem cutL_le : ∀ (cur r : List UInt8), ∀ z ∈ cutL cur r, z.length ≤ cur.length + r.length
  | cur, [], z, h => by simp [cutL] at h; subst h; simp
  | cur, b :: r, z, h => by
    rw [cutL_cons] at h
    split at h
    · rcases List.mem_cons.1 h with rfl | h
      · omega
      · have := cutL_le [] r z h
        simp only [List.length_nil, List.length_cons] at *
        omega
    · have := cutL_le (cur ++ [b]) r z h
      simp only [List.length_append, List.length_cons, List.length_nil] at *
      omega
theorem len_toList (s : ByteArray) : s.toList.length = s.size := by rw [ByteArray.toList_eq]; exact Array.length_toList
theorem piece_size {L : List ByteArray} {s : ByteArray} (h : L.map (·.toList) = cutB s) (hs : s.size ≤ 100000000000) (j : Nat) : (L.getD j z0).size ≤ 140737488355328 := by
  rw [List.getD_eq_getElem?_getD]
  by_cases hj : j < L.length
  · rw [List.getElem?_eq_getElem hj]
    have hm : L[j].toList ∈ cutB s := by rw [← h]; exact List.mem_map.2 ⟨L[j], List.getElem_mem hj, rfl⟩
    have := cutL_le _ _ _ hm
    rw [len_toList, len_toList] at this
    simp only [List.length_nil] at this
    show L[j].size ≤ _
    omega
  · rw [List.getElem?_eq_none (by omega)]
    show (0 : Nat) ≤ _
    omega

set_option maxRecDepth 100000 in
set_option maxHeartbeats 4000000 in
theorem rparse_any (s : ByteArray) (hs : s.size ≤ 100000000000) (w : World) (ht : Tab w) : Calls Tryd.prog 18 #[.string s] w fun e w' => ∃ L, L.map (·.toList) = cutB s ∧ e = .returned (.tuple #[cfv (prsJ L s).1, .bool (prsJ L s).2]) ∧ Calm w w' := by
  have CP := fun w => hide (rparts_any s hs w)
  have hi10 : (Tryd.prog.info? 24).map (·.size) = some 10 := by kernel_rfl
  have h1z : Hid ((cfc cf0).all (·.oneCell') = true) := hide (by simp [Value.oneCell'])
  have A0 := hide (al_new w (.cells (cfc cf0) 24))
  have T0 := hide ((Touch.refl (fun _ => False) w).alloc (.cells (cfc cf0) 24))
  have S0 := hide (al_size w (.cells (cfc cf0) 24))
  have HZ : Hid (∀ (W : World) (D : Nat), w.heap.size ≤ D → Calm w W → W.heap[D]? = some (.cells (cfc cf0) 24 (0, 0)) → ∀ cs, (W.setRow D cs).heap[D]? = some (.cells cs 24 (0, 0)) ∧ Calm w (W.setRow D cs)) := hide fun W D hD hW hg cs =>
    ⟨setRow_heap _ _ _ _ _ _ hg, hW.trans (S' := fun g => g = D) ⟨rfl, rfl, rfl, by simp, fun j _ hj => setRow_other _ _ j _ hj⟩ (fun g hg e => by omega)⟩
  have HT := hide ht
  clear ht
  go_enter Tryd.func18, Tryd.ntmps18
  go_wp2_with fail
  refine (CP _).out.mono ?_
  rintro e w2 ⟨lo, cap, L, rfl, ow, hL, T2⟩
  have AM : Hid (∀ j, j < L.length → ∃ g off, lo = some ⟨g, off, none⟩ ∧ ∀ W, Calm w2 W → W.cell? ⟨g, off + j, none⟩ = some (.string (L.getD j z0))) := hide fun j hj => by
    have hm := (Rc.Own.mem ow).2.1
    obtain ⟨g, off, e, -⟩ := st_at hm j hj
    refine ⟨g, off, e, fun W hW => ?_⟩
    obtain ⟨g', off', e', h⟩ := st_at (Rc.Mem.calm hm hW) j hj
    rw [e] at e'
    injection e' with e'
    injection e' with e1 e2
    subst e1 e2
    exact h
  have HL := hide hL
  have AD := hide (T2.at A0.out)
  have TL2 := hide (T0.out.tr T2)
  generalize hD : w.heap.size = D at *
  have hD2 : Hid (D < w2.heap.size) := hide (lt_of_heap AD.out)
  clear ow hL T2 A0 T0 S0 CP
  have PJ : Hid (∀ X, prsJ L s = X → L.map (·.toList) = cutB s) := hide fun _ _ => HL.out
  by_cases hn : L.length = 20
  · have PJ1 : Hid (prsJ L s = if wrongN (ofF (pfF L 10)) = 0 ∧ ((txtS (ofF (pfF L 10)) 10).toList == s.toList) = true then (ofF (pfF L 10), true) else (cf0, false)) := hide (if_pos hn)
    rw [hn] at AM ⊢
    have AE := hide (al_new w2 (.cells (f10c fun _ => 0) 61))
    have AD2 := hide (al_old AD.out (.cells (f10c fun _ => 0) 61))
    have TA := hide ((Touch.refl (fun _ => False) w2).alloc (.cells (f10c fun _ => 0) 61))
    go_wp2_with fail
    generalize hE : w2.heap.size = E at *
    obtain ⟨g, off, hlo, -⟩ := AM.out 0 (by omega)
    subst hlo
    have AC : Hid (∀ j, j < 20 → ∀ W, Calm w2 W → W.cell? ⟨g, off + j, none⟩ = some (.string (L.getD j z0))) := hide fun j hj W hW => by
      obtain ⟨g', off', e, h⟩ := AM.out j hj
      injection e with e
      injection e with e1 e2
      subst e1 e2
      exact h W hW
    have CG : Hid (∀ j, ∀ W, Calls Tryd.prog 41 #[.string (L.getD j z0)] W fun e w' => e = .returned (.int .i64 (digB (L.getD j z0) : Nat)) ∧ w' = W) := hide fun j W => rdigits_any _ (piece_size HL.out hs j) W
    have CV : Hid (∀ k : Nat, 1 ≤ k → k ≤ 3 → ∀ W, Calm w2 W → Calls Tryd.prog 42 #[.int .i64 2, .int .i64 (k : Int)] W fun e w' => e = .returned (.string (valB 2 (k : Int))) ∧ Calm W w') := hide fun k hk1 hk W hW => rvalue_any 2 _ (by omega) ⟨fun _ => by omega, fun h => by omega, by omega, by omega⟩ W (HT.out.calm (TL2.out.tr hW))
    clear AM
    go_loopw [6] (fun s6 wr => ∃ i : Nat, s6 = .int .i64 (i : Int) ∧ i ≤ 10 ∧ wr.heap[E]? = some (.cells (f10c (pfF L i)) 61 (0, 0)) ∧ Calm w2 wr) (fun s6 _ => 10 - (intOf s6).toNat)
    case atStart => exact ⟨0, rfl, by omega, by rw [pfF_zero]; exact AE.out, TA.out⟩
    case round =>
      obtain ⟨i, rfl, hi, AF, TL⟩ := hrel
      clear AE TA AD2
      by_cases hlt : i < 10
      · have hltz : (i : Int) < 10 := by omega
        obtain ⟨m0, hm0⟩ : ∃ m, m = 2 * i := ⟨_, rfl⟩
        obtain ⟨m, hm⟩ : ∃ m', m' = m0 + 1 := ⟨_, rfl⟩
        have q0 : 2 * (i : Int) = (m0 : Int) := by omega
        have q1 : (m0 : Int) + 1 = (m : Int) := by omega
        have q2 : (m : Int) < 20 := by omega
        have cm := AC.out m (by omega) wr TL
        have C1 := hide (CG.out m)
        have PX : Hid (pfX L i = if i = 2 then kinS (L.getD 5 z0).toList (digB (L.getD m z0) : Nat) 3 else if i = 9 ∧ ((L.getD 19 z0).toList == [121, 101, 115]) = true then 1 else (digB (L.getD m z0) : Nat)) := hide (by rw [hm, hm0]; rfl)
        have AC5 := hide (AC.out 5 (by omega))
        have AC19 := hide (AC.out 19 (by omega))
        have HE2 := hide AF
        have HT2 := hide TL
        clear AF TL AC CG hm hm0
        generalize L.getD m z0 = z at *
        generalize L.getD 5 z0 = l5 at *
        generalize L.getD 19 z0 = l19 at *
        go_wp2_with fail
        refine (C1.out _).mono ?_
        rintro e w3 ⟨rfl, rfl⟩
        clear C1 cm q0 q1 q2
        generalize digB z = x0 at *
        go_wp2_with fail
        go_loopw [7, 8] (fun s7 s8 wz => ∃ (k : Nat) (y : Int), s7 = .int .i64 y ∧ s8 = .int .i64 (k : Int) ∧ 1 ≤ k ∧ k ≤ 4 ∧ Hid (y = kinS l5.toList (x0 : Int) (k - 1)) ∧ (i ≠ 2 → k = 1) ∧ wz.heap[E]? = some (.cells (f10c (pfF L i)) 61 (0, 0)) ∧ Calm w2 wz) (fun _ s8 _ => 4 - (intOf s8).toNat)
        case atStart => exact ⟨1, (x0 : Int), rfl, rfl, by omega, by omega, hide rfl, fun _ => rfl, HE2.out, HT2.out⟩
        case round =>
          obtain ⟨k, y, rfl, rfl, hk1, hk, HK, hk0, AF, TL⟩ := hrel
          obtain ⟨wz, hwz⟩ : ∃ x, x = wr := ⟨_, rfl⟩
          subst hwz
          clear HE2 HT2
          have HE3 := hide AF
          have HT3 := hide TL
          clear AF TL
          by_cases h2 : i = 2
          · subst h2
            by_cases h3 : k ≤ 3
            · have h3z : (k : Int) ≤ 3 := by omega
              have C2 := hide (CV.out k hk1 h3)
              have KS : Hid (kinS l5.toList (x0 : Int) k = if ((valB 2 (k : Int)).toList == l5.toList) then (k : Int) else y) := hide (by
                obtain ⟨q, rfl⟩ : ∃ q, k = q + 1 := ⟨k - 1, by omega⟩
                rw [HK.out]; rfl)
              generalize valB 2 (k : Int) = v at *
              have GS := binOp_string_eql 9 v l5
              generalize hkb : (v.toList == l5.toList) = kb at *
              clear hkb PX CV AC19 HK hk0
              go_wp2_with fail
              refine wp_region_held (S := Calm w2) (by kernel_rfl) ?_
              have hT0 : Calm w2 { wz with drawn := wz.drawn + 1 } := HT3.out.drew
              have hW0 : Calm wz { wz with drawn := wz.drawn + 1 } := (Touch.refl (fun _ => False) wz).drew
              refine wpAnyH_yield 0 35 (.int .i64 (k : Int)) rfl rfl (by kernel_rfl) (by kernel_rfl) (by kernel_rfl) (fun _ _ _ h => h) (by kernel_rfl) (fun W hW => by kernel_rfl) (by assumption) rfl rfl ?_
              simp only [Act.put, List.setIfInBounds_toArray, List.set_cons_zero, List.set_cons_succ]
              refine wpAnyH_yield 2 37 (.slice (some ⟨g, off, none⟩) 20 cap) rfl rfl (by kernel_rfl) (by kernel_rfl) (by kernel_rfl) (fun _ _ _ h => h) (by kernel_rfl) (fun W hW => by kernel_rfl) (by assumption) rfl rfl ?_
              simp only [Act.put, List.setIfInBounds_toArray, List.set_cons_zero, List.set_cons_succ]
              refine wpAnyH_yield 3 38 (.pointer (some ⟨g, off + 5, none⟩)) rfl rfl (by kernel_rfl) (by kernel_rfl) (by kernel_rfl) (fun _ _ _ h => h) (by kernel_rfl) (fun W hW => by go_simp) (by assumption) rfl rfl ?_
              simp only [Act.put, List.setIfInBounds_toArray, List.set_cons_zero, List.set_cons_succ]
              refine wpAnyH_yield 4 39 (.string l5) rfl rfl (by kernel_rfl) (by kernel_rfl) (by kernel_rfl) (fun _ _ _ h => h) (by kernel_rfl) (fun W hW => by have q := AC5.out W hW; go_simp) (by assumption) rfl rfl ?_
              simp only [Act.put, List.setIfInBounds_toArray, List.set_cons_zero, List.set_cons_succ]
              refine wpAnyH_enter 1 36 42 #[.int .i64 2, .int .i64 (k : Int)] rfl rfl (by kernel_rfl) (by kernel_rfl) (by kernel_rfl) ?_
              refine (C2.out _ hT0).mono ?_
              rintro r w5 ⟨rfl, T5⟩
              have h5 := hT0.tr T5
              refine ⟨_, rfl, h5, ?_⟩
              simp only [Act.put, List.setIfInBounds_toArray, List.set_cons_zero, List.set_cons_succ]
              refine wpAnyH_yield 5 40 (.bool kb) rfl rfl (by kernel_rfl) (by kernel_rfl) (by kernel_rfl) (fun _ _ _ h => h) (by kernel_rfl) (fun W hW => by go_simp) (by assumption) rfl rfl ?_
              simp only [Act.put, List.setIfInBounds_toArray, List.set_cons_zero, List.set_cons_succ]
              refine wpAnyH_done (by kernel_rfl) ?_ _
              have H5 := hide h5
              have E5 := hide ((hW0.tr T5).at HE3.out)
              clear h5 T5 hT0 hW0 C2 GS HE3 HT3
              cases kb with
              | true =>
                have KS2 := hide (KS.out.trans (if_pos rfl))
                clear KS
                go_wp2_with fail
                go_roundw
                case rel => exact ⟨k + 1, (k : Int), rfl, by go_num, by omega, by omega, hide (by rw [Nat.add_sub_cancel]; exact KS2.out.symm), fun h => absurd rfl h, E5.out, H5.out⟩
                case measure => simp [intOf]; omega
              | false =>
                have KS2 := hide (KS.out.trans (if_neg (by decide)))
                clear KS
                go_wp2_with fail
                go_roundw
                case rel => exact ⟨k + 1, y, rfl, by go_num, by omega, by omega, hide (by rw [Nat.add_sub_cancel]; exact KS2.out.symm), fun h => absurd rfl h, E5.out, H5.out⟩
                case measure => simp [intOf]; omega
            · obtain rfl : k = 4 := by omega
              have PE : Hid (pfX L 2 = y) := hide (by rw [PX.out, if_pos rfl, HK.out])
              clear PX CV AC5 AC19 hk0 HK
              have hcell := f10_cells HE3.out 2 hlt
              have hfr : wz.frozen? ⟨E, 2, none⟩ = false := by simp [World.frozen?, HE3.out]
              have E4 : Hid ((wz.setCell ⟨E, 2, none⟩ (.int .i64 (y))).heap[E]? = some (.cells (f10c (pfF L (2 + 1))) 61 (0, 0))) := hide (by
                rw [← pfF_next L 2, PE.out, ← f10c_up (pfF L 2) 2 _ hlt]
                exact heap_put (i := 2) HE3.out _)
              have T4 : Hid (Calm w2 (wz.setCell ⟨E, 2, none⟩ (.int .i64 (y)))) := hide (HT3.out.setCell (p := ⟨E, 2, none⟩) (fun h => by simp only at h; omega) _)
              go_wp2_with fail
              go_roundw
              case rel => exact ⟨2 + 1, by first | rfl | go_num, by omega, E4.out, T4.out⟩
              case measure => simp [intOf] <;> omega
          · obtain rfl : k = 1 := hk0 h2
            have h2z : ¬ (i : Int) = 2 := by omega
            by_cases h9 : i = 9
            · subst h9
              have c19 := AC19.out wz HT3.out
              have GS := binOp_string_eql 9 l19 ⟨#[121, 101, 115]⟩
              have e3 : (⟨#[121, 101, 115]⟩ : ByteArray).toList = [121, 101, 115] := by rw [ByteArray.toList_eq]
              rw [e3] at GS
              clear e3
              generalize hyb : (l19.toList == [121, 101, 115]) = yb at *
              cases yb with
              | true =>
                have PE : Hid (pfX L 9 = 1) := hide (by rw [PX.out, if_neg (by decide), if_pos ⟨rfl, rfl⟩])
                clear PX CV AC5 AC19 hk0 HK hyb
                have hcell := f10_cells HE3.out 9 hlt
                have hfr : wz.frozen? ⟨E, 9, none⟩ = false := by simp [World.frozen?, HE3.out]
                have E4 : Hid ((wz.setCell ⟨E, 9, none⟩ (.int .i64 (1))).heap[E]? = some (.cells (f10c (pfF L (9 + 1))) 61 (0, 0))) := hide (by
                  rw [← pfF_next L 9, PE.out, ← f10c_up (pfF L 9) 9 _ hlt]
                  exact heap_put (i := 9) HE3.out _)
                have T4 : Hid (Calm w2 (wz.setCell ⟨E, 9, none⟩ (.int .i64 (1)))) := hide (HT3.out.setCell (p := ⟨E, 9, none⟩) (fun h => by simp only at h; omega) _)
                go_wp2_with fail
                go_roundw
                case rel => exact ⟨9 + 1, by first | rfl | go_num, by omega, E4.out, T4.out⟩
                case measure => simp [intOf] <;> omega
              | false =>
                have PE : Hid (pfX L 9 = y) := hide (by rw [PX.out, if_neg (by decide), if_neg (fun h => Bool.noConfusion h.2), HK.out]; rfl)
                clear PX CV AC5 AC19 hk0 HK hyb
                have hcell := f10_cells HE3.out 9 hlt
                have hfr : wz.frozen? ⟨E, 9, none⟩ = false := by simp [World.frozen?, HE3.out]
                have E4 : Hid ((wz.setCell ⟨E, 9, none⟩ (.int .i64 (y))).heap[E]? = some (.cells (f10c (pfF L (9 + 1))) 61 (0, 0))) := hide (by
                  rw [← pfF_next L 9, PE.out, ← f10c_up (pfF L 9) 9 _ hlt]
                  exact heap_put (i := 9) HE3.out _)
                have T4 : Hid (Calm w2 (wz.setCell ⟨E, 9, none⟩ (.int .i64 (y)))) := hide (HT3.out.setCell (p := ⟨E, 9, none⟩) (fun h => by simp only at h; omega) _)
                go_wp2_with fail
                go_roundw
                case rel => exact ⟨9 + 1, by first | rfl | go_num, by omega, E4.out, T4.out⟩
                case measure => simp [intOf] <;> omega
            · have h9z : ¬ (i : Int) = 9 := by omega
              have PE : Hid (pfX L i = y) := hide (by rw [PX.out, if_neg h2, if_neg (fun h => h9 h.1), HK.out]; rfl)
              clear PX CV AC5 AC19 hk0 HK
              have hcell := f10_cells HE3.out i hlt
              have hfr : wz.frozen? ⟨E, i, none⟩ = false := by simp [World.frozen?, HE3.out]
              have E4 : Hid ((wz.setCell ⟨E, i, none⟩ (.int .i64 (y))).heap[E]? = some (.cells (f10c (pfF L (i + 1))) 61 (0, 0))) := hide (by
                rw [← pfF_next L i, PE.out, ← f10c_up (pfF L i) i _ hlt]
                exact heap_put (i := i) HE3.out _)
              have T4 : Hid (Calm w2 (wz.setCell ⟨E, i, none⟩ (.int .i64 (y)))) := hide (HT3.out.setCell (p := ⟨E, i, none⟩) (fun h => by simp only at h; omega) _)
              go_wp2_with fail
              go_roundw
              case rel => exact ⟨i + 1, by first | rfl | go_num, by omega, E4.out, T4.out⟩
              case measure => simp [intOf] <;> omega
      · have hltz : ¬ (i : Int) < 10 := by omega
        obtain rfl : i = 10 := by omega
        have RG : Hid (∀ k, 0 ≤ pfF L 10 k ∧ pfF L 10 k < 1000000000000000000) := hide fun k => by
          unfold pfF
          split
          · exact pfX_in L k
          · omega
        generalize pfF L 10 = f at *
        have C1 := hide (rof_any f)
        have C2 := hide (rwrong_any (ofF f))
        have C3 : Hid (wrongN (ofF f) = 0 → ∀ W, Calm w2 W → Calls Tryd.prog 43 #[cfv (ofF f)] W fun e w' => e = .returned (.string (txtS (ofF f) 10)) ∧ Calm W w') := hide fun h W hW => rtext_any (ofF f) (txtOk_of RG.out h) W (HT.out.calm (TL2.out.tr hW))
        have HAD := hide (TL.at AD.out)
        have HTL := hide TL
        obtain ⟨⟨k0, k1, k2, k3, k4⟩, k5, k6, k7, k8, k9⟩ := f10_all AF
        have h1c : Hid ((cfc (ofF f)).all (·.oneCell') = true) := hide (by simp [Value.oneCell'])
        clear AF TL CV CG AC RG AD HT
        go_wp2_with fail
        refine (C1.out _).mono ?_
        rintro e w4 ⟨rfl, T4⟩
        have HA5 := hide (al_old (T4.at HAD.out) (.cells (cfc (ofF f)) 24))
        have HF5 := hide (al_new w4 (.cells (cfc (ofF f)) 24))
        have HT5 := hide ((HTL.out.tr T4).alloc (.cells (cfc (ofF f)) 24))
        clear T4 HAD HTL k0 k1 k2 k3 k4 k5 k6 k7 k8 k9 C1
        go_wp2_with fail
        generalize w4.alloc (.cells (cfc (ofF f)) 24) = w5 at *
        generalize w4.heap.size = G at *
        refine (C2.out _).mono ?_
        rintro e w6 ⟨rfl, T6⟩
        have HA6 := hide (T6.at HA5.out)
        have HF6 := hide (T6.at HF5.out)
        have HT6 := hide (HT5.out.tr T6)
        obtain ⟨⟨k0, k1, k2, k3, k4, k5, k6⟩, k7, k8, k9⟩ := cf_cells HF6.out
        clear T6 HA5 HF5 HT5 C2
        by_cases hN0 : wrongN (ofF f) = 0
        · have C4 := hide (C3.out hN0)
          rw [hN0]
          go_wp2_with fail
          refine (C4.out _ HT6.out).mono ?_
          rintro e w7 ⟨rfl, T7⟩
          have HA7 := hide (T7.at HA6.out)
          have HF7 := hide (T7.at HF6.out)
          have HT7 := hide (HT6.out.tr T7)
          clear k0 k1 k2 k3 k4 k5 k6 k7 k8 k9
          obtain ⟨⟨k0, k1, k2, k3, k4, k5, k6⟩, k7, k8, k9⟩ := cf_cells HF7.out
          generalize txtS (ofF f) 10 = tx at *
          have GS := binOp_string_neq 9 tx s
          generalize htb : (tx.toList == s.toList) = tb at *
          clear T7 HA6 HF6 HT6 C4 C3 htb
          cases tb with
          | true =>
            have HX : Hid (prsJ L s = (ofF f, true)) := hide (PJ1.out.trans (if_pos ⟨hN0, rfl⟩))
            have hw7 := hide (HZ.out w7 D (Nat.le_refl _) (TL2.out.tr HT7.out) HA7.out (cfc (ofF f)))
            clear PJ1 hN0
            go_wp2_with (refine wpList_store_rowTo rfl 24 (.tmp 2) (.tmp 65) rfl rfl D (cfc (ofF f)) rfl rfl 24 _ HA7.out hi10 rfl h1c.out ?_)
            refine bodyPost_ret (results_cell_one rfl _ _ _ _ _ _ _ rfl hw7.out.1 Tryd.underlying24 rfl (by kernel_rfl) _ rfl) rfl ?_
            exact ⟨L, HL.out, by rw [HX.out]; rfl, hw7.out.2⟩
          | false =>
            have HX : Hid (prsJ L s = (cf0, false)) := hide (PJ1.out.trans (if_neg fun h => Bool.noConfusion h.2))
            have hw7 := hide (HZ.out w7 D (Nat.le_refl _) (TL2.out.tr HT7.out) HA7.out (cfc cf0))
            clear PJ1 hN0
            go_wp2_with (refine wpList_store_rowTo rfl 24 (.tmp 2) (.tmp 64) rfl rfl D (cfc cf0) rfl rfl 24 _ HA7.out hi10 rfl h1z.out ?_)
            refine bodyPost_ret (results_cell_one rfl _ _ _ _ _ _ _ rfl hw7.out.1 Tryd.underlying24 rfl (by kernel_rfl) _ rfl) rfl ?_
            exact ⟨L, HL.out, by rw [HX.out]; rfl, hw7.out.2⟩
        · have HX : Hid (prsJ L s = (cf0, false)) := hide (PJ1.out.trans (if_neg fun h => hN0 h.1))
          have hw6 := hide (HZ.out w6 D (Nat.le_refl _) (TL2.out.tr HT6.out) HA6.out (cfc cf0))
          clear PJ1 C3
          generalize wrongN (ofF f) = N9 at *
          have hNz : ¬ (N9 : Int) = 0 := by omega
          go_wp2_with (refine wpList_store_rowTo rfl 24 (.tmp 2) (.tmp 64) rfl rfl D (cfc cf0) rfl rfl 24 _ HA6.out hi10 rfl h1z.out ?_)
          refine bodyPost_ret (results_cell_one rfl _ _ _ _ _ _ _ rfl hw6.out.1 Tryd.underlying24 rfl (by kernel_rfl) _ rfl) rfl ?_
          exact ⟨L, HL.out, by rw [HX.out]; rfl, hw6.out.2⟩
  · have hnz : ¬ (L.length : Int) = 20 := by omega
    have HX : Hid (prsJ L s = (cf0, false)) := hide (if_neg hn)
    have hw2 := hide (HZ.out w2 D (Nat.le_refl _) TL2.out AD.out (cfc cf0))
    clear hn AM
    go_wp2_with (refine wpList_store_rowTo rfl 24 (.tmp 2) (.tmp 15) rfl rfl D (cfc cf0) rfl rfl 24 _ AD.out hi10 rfl h1z.out ?_)
    refine bodyPost_ret (results_cell_one rfl _ _ _ _ _ _ _ rfl hw2.out.1 Tryd.underlying24 rfl (by kernel_rfl) _ rfl) rfl ?_
    exact ⟨L, HL.out, by rw [HX.out]; rfl, hw2.out.2⟩

end Go.Proofs.YtjambfncemlenaaDoor

namespace Go.Proofs.YtjambfncemlenaaDoor
open Go.RowKit

/-- A digit. -/
def Dig (b : UInt8) : Prop := 48 ≤ b.toNat ∧ b.toNat ≤ 57
theorem digL_snoc : ∀ (l : List UInt8) (i x : Nat) (b : UInt8), (∀ c ∈ l, Dig c) → Dig b → i + l.length ≤ 17 → digL (l ++ [b]) i x = 10 * digL l i x + (b.toNat - 48)
  | [], i, x, b, _, hb, hi => by
    have hb1 := hb.1
    have hb2 := hb.2
    simp only [List.length_nil] at hi
    show digL [b] i x = _
    rw [digL_cons, if_neg (by omega)]
    rfl
  | c :: l, i, x, b, hl, hb, hi => by
    have hc := hl c (by simp)
    have hc1 := hc.1
    have hc2 := hc.2
    simp only [List.length_cons] at hi
    rw [List.cons_append, digL_cons, digL_cons, if_neg (by omega), if_neg (by omega)]
    exact digL_snoc l (i + 1) _ b (fun d hd => hl d (by simp [hd])) hb (by omega)
theorem dig_ofNat {d : Nat} (h : d < 10) : Dig (UInt8.ofNat (48 + d)) ∧ (UInt8.ofNat (48 + d)).toNat = 48 + d := by
  have e : (UInt8.ofNat (48 + d)).toNat = 48 + d := by rw [UInt8.toNat_ofNat']; omega
  exact ⟨⟨by omega, by omega⟩, e⟩
theorem dec_dig (u : Nat) : ∀ c ∈ Lib.decDigits u, Dig c := by
  induction u using Nat.strongRecOn with
  | ind u ih =>
    rw [Lib.decDigits]
    split
    · intro c hc
      rw [List.mem_singleton] at hc
      rw [hc]
      exact (dig_ofNat (by omega)).1
    · intro c hc
      rcases List.mem_append.1 hc with h | h
      · exact ih (u / 10) (by omega) c h
      · rw [List.mem_singleton] at h
        rw [h]
        exact (dig_ofNat (by omega)).1
theorem nDigits_le : ∀ (k u : Nat), u < 10 ^ (k + 1) → Lib.nDigits u ≤ k + 1
  | 0, u, h => by rw [Lib.nDigits_small (by omega)]; omega
  | k + 1, u, h => by
    by_cases h1 : u < 10
    · rw [Lib.nDigits_small h1]; omega
    · rw [Lib.nDigits_big h1]
      have := nDigits_le k (u / 10) (by rw [Nat.pow_succ] at h; omega)
      omega
/-- The digits of a number tell it. -/
theorem digL_dec (u : Nat) (h : u < 1000000000000000000) : digL (Lib.decDigits u) 0 0 = u := by
  induction u using Nat.strongRecOn with
  | ind u ih =>
    rw [Lib.decDigits]
    split
    · rename_i h1
      have e := (dig_ofNat h1)
      have e1 := e.1.1
      have e2 := e.1.2
      rw [digL_cons, if_neg (by omega), e.2]
      show 10 * 0 + (48 + u - 48) = u
      omega
    · rename_i h1
      have e := dig_ofNat (show u % 10 < 10 by omega)
      have hl : (Lib.decDigits (u / 10)).length ≤ 17 := by
        rw [Lib.decDigits_length]
        exact nDigits_le 16 (u / 10) (by have : (10 : Nat) ^ (16 + 1) = 100000000000000000 := by decide
                                         omega)
      rw [digL_snoc _ 0 0 _ (dec_dig _) e.1 (by omega), ih (u / 10) (by omega) (by omega), e.2]
      omega

/-- No blank. -/
def NoSp (l : List UInt8) : Prop := ∀ b ∈ l, b.toNat ≠ 32
theorem cut_last : ∀ (cur p : List UInt8), NoSp p → cutL cur p = [cur ++ p]
  | cur, [], _ => by simp [cutL]
  | cur, b :: p, h => by
    rw [cutL_cons, if_neg (h b (by simp)), cut_last (cur ++ [b]) p (fun c hc => h c (by simp [hc]))]
    simp
theorem cut_sp : ∀ (cur p r : List UInt8), NoSp p → cutL cur (p ++ 32 :: r) = (cur ++ p) :: cutL [] r
  | cur, [], r, _ => by
    rw [List.nil_append, cutL_cons, if_pos (by decide), List.append_nil]
  | cur, b :: p, r, h => by
    rw [List.cons_append, cutL_cons, if_neg (h b (by simp)), cut_sp (cur ++ [b]) p r (fun c hc => h c (by simp [hc]))]
    simp
theorem app_toList (a b : ByteArray) : (a ++ b).toList = a.toList ++ b.toList := by
  rw [ByteArray.toList_eq, ByteArray.toList_eq, ByteArray.toList_eq, ByteArray.data_append, Array.toList_append]
theorem nm_nosp (i : Nat) : NoSp (nm i).toList := by
  rw [ByteArray.toList_eq]
  unfold nm NoSp
  split <;> decide
theorem val_nosp {i : Nat} {x : Int} (h : 0 ≤ x) : NoSp (valB i x).toList := by
  rw [ByteArray.toList_eq]
  unfold valB
  split
  · split
    · unfold NoSp; decide
    · split <;> (unfold NoSp; decide)
  · split
    · split <;> (unfold NoSp; decide)
    · intro b hb
      have e : Lib.itoa x = Lib.decDigits x.toNat := by unfold Lib.itoa; rw [if_neg (by omega)]
      have hb' : b ∈ Lib.decDigits x.toNat := by rw [← e]; simpa using hb
      have := dec_dig _ b hb'
      have h1 := this.1
      omega

/-- The pieces of the text of the first i fields. -/
def pcs (c : Cf) (i : Nat) : List (List UInt8) := (List.range i).flatMap fun j => [(nm j).toList, (valB j (fldF c j)).toList]
theorem pcs_next (c : Cf) (i : Nat) : pcs c (i + 1) = pcs c i ++ [(nm i).toList, (valB i (fldF c i)).toList] := by
  unfold pcs
  rw [List.range_succ, List.flatMap_append]
  simp
theorem sp_toList : spB.toList = [32] := by rw [ByteArray.toList_eq]; rfl
theorem txt_one (c : Cf) : (txtS c 1).toList = (nm 0).toList ++ 32 :: (valB 0 (fldF c 0)).toList := by
  have : txtS c 1 = (((txtS c 0) ++ nm 0) ++ spB) ++ valB 0 (fldF c 0) := rfl
  rw [this, app_toList, app_toList, app_toList, sp_toList]
  have e : (txtS c 0).toList = [] := by rw [ByteArray.toList_eq]; rfl
  rw [e]
  simp
theorem txt_next (c : Cf) {i : Nat} (hi : 1 ≤ i) : (txtS c (i + 1)).toList = (txtS c i).toList ++ 32 :: ((nm i).toList ++ 32 :: (valB i (fldF c i)).toList) := by
  have : txtS c (i + 1) = (((if i = 0 then txtS c i else txtS c i ++ spB) ++ nm i) ++ spB) ++ valB i (fldF c i) := rfl
  rw [this, if_neg (by omega), app_toList, app_toList, app_toList, app_toList, sp_toList]
  simp
theorem cut_txt (c : Cf) (h : ∀ j, j < 10 → 0 ≤ fldF c j) : ∀ i, i < 10 → (∀ r, cutL [] ((txtS c (i + 1)).toList ++ 32 :: r) = pcs c (i + 1) ++ cutL [] r) ∧ cutB (txtS c (i + 1)) = pcs c (i + 1)
  | 0, _ => by
    have v := val_nosp (i := 0) (h 0 (by omega))
    have p1 : pcs c 1 = [(nm 0).toList, (valB 0 (fldF c 0)).toList] := rfl
    refine ⟨fun r => ?_, ?_⟩
    · rw [txt_one, List.append_assoc, List.cons_append, cut_sp [] _ _ (nm_nosp 0), cut_sp [] _ _ v, p1]
      simp
    · unfold cutB
      rw [txt_one, cut_sp [] _ _ (nm_nosp 0), cut_last [] _ v, p1]
      simp
  | i + 1, hi => by
    have ih := (cut_txt c h i (by omega)).1
    have v := val_nosp (i := i + 1) (h (i + 1) hi)
    refine ⟨fun r => ?_, ?_⟩
    · rw [txt_next c (by omega), List.append_assoc, List.cons_append, List.append_assoc, List.cons_append, ih, cut_sp [] _ _ (nm_nosp _), cut_sp [] _ _ v, pcs_next c (i + 1)]
      simp
    · unfold cutB
      rw [txt_next c (by omega), ih, cut_sp [] _ _ (nm_nosp _), cut_last [] _ v, pcs_next c (i + 1)]
      simp

end Go.Proofs.YtjambfncemlenaaDoor

namespace Go.Proofs.YtjambfncemlenaaDoor
open Go.RowKit

theorem getD_map {L : List ByteArray} {C : List (List UInt8)} (h : L.map (·.toList) = C) (j : Nat) (hj : j < C.length) : (L.getD j z0).toList = C.getD j [] := by
  subst h
  rw [List.length_map] at hj
  rw [List.getD_eq_getElem?_getD, List.getD_eq_getElem?_getD, List.getElem?_map, List.getElem?_eq_getElem hj]
  rfl
theorem pcs_ten (c : Cf) : pcs c 10 = [(nm 0).toList, (valB 0 (fldF c 0)).toList, (nm 1).toList, (valB 1 (fldF c 1)).toList, (nm 2).toList, (valB 2 (fldF c 2)).toList, (nm 3).toList, (valB 3 (fldF c 3)).toList, (nm 4).toList, (valB 4 (fldF c 4)).toList, (nm 5).toList, (valB 5 (fldF c 5)).toList, (nm 6).toList, (valB 6 (fldF c 6)).toList, (nm 7).toList, (valB 7 (fldF c 7)).toList, (nm 8).toList, (valB 8 (fldF c 8)).toList, (nm 9).toList, (valB 9 (fldF c 9)).toList] := rfl
theorem pcs_at (c : Cf) (i : Nat) (hi : i < 10) : (pcs c 10).getD (2 * i + 1) [] = (valB i (fldF c i)).toList := by
  rw [pcs_ten]
  rcases (by omega : i = 0 ∨ i = 1 ∨ i = 2 ∨ i = 3 ∨ i = 4 ∨ i = 5 ∨ i = 6 ∨ i = 7 ∨ i = 8 ∨ i = 9) with rfl | rfl | rfl | rfl | rfl | rfl | rfl | rfl | rfl | rfl <;> rfl

/-- A plain field's digits tell it. -/
theorem dig_val {i : Nat} {x : Int} (h2 : i ≠ 2) (h9 : i ≠ 9) (h0 : 0 ≤ x) (h1 : x < 1000000000000000000) : ((digL (valB i x).toList 0 0 : Nat) : Int) = x := by
  have e : (valB i x).toList = Lib.decDigits x.toNat := by
    unfold valB
    rw [if_neg h2, if_neg h9, ByteArray.toList_eq]
    show (Lib.itoa x).toArray.toList = _
    unfold Lib.itoa
    rw [if_neg (by omega), List.toList_toArray]
  rw [e, digL_dec _ (by omega)]
  omega
theorem kin_val {k : Int} (h1 : 1 ≤ k) (h3 : k ≤ 3) (x : Int) : kinS (valB 2 k).toList x 3 = k := by
  have a1 : (valB 2 1).toList = [116, 117, 109, 98, 108, 105, 110, 103] := by rw [ByteArray.toList_eq]; rfl
  have a2 : (valB 2 2).toList = [115, 108, 105, 100, 105, 110, 103] := by rw [ByteArray.toList_eq]; rfl
  have a3 : (valB 2 3).toList = [115, 101, 115, 115, 105, 111, 110] := by rw [ByteArray.toList_eq]; rfl
  have st : ∀ z, kinS z x 3 = if ((valB 2 3).toList == z) then 3 else if ((valB 2 2).toList == z) then 2 else if ((valB 2 1).toList == z) then 1 else x := fun z => rfl
  rw [st, a1, a2, a3]
  rcases (by omega : k = 1 ∨ k = 2 ∨ k = 3) with rfl | rfl | rfl
  · rw [a1]; rfl
  · rw [a2]; rfl
  · rw [a3]; rfl

/-- The numbers of a job's own text are the job's. -/
theorem pfX_text {c : Cf} {L : List ByteArray} (hw : wrongN c = 0) (hin : ∀ j, j < 9 → 0 ≤ fldF c j ∧ fldF c j < 1000000000000000000) (hL : L.map (·.toList) = pcs c 10) (i : Nat) (hi : i < 10) : pfX L i = fldF c i := by
  have hg : ∀ j, j < 10 → (L.getD (2 * j + 1) z0).toList = (valB j (fldF c j)).toList := fun j hj => by
    rw [getD_map hL _ (by rw [pcs_ten]; simp; omega), pcs_at c j hj]
  have hd : ∀ j, j < 10 → digB (L.getD (2 * j + 1) z0) = digL (valB j (fldF c j)).toList 0 0 := fun j hj => by unfold digB; rw [hg j hj]
  unfold pfX
  by_cases h2 : i = 2
  · subst h2
    rw [if_pos rfl]
    have e5 := hg 2 (by omega)
    rw [e5]
    have hk := wrong_kind hw
    exact kin_val hk.1 hk.2 _
  · rw [if_neg h2]
    by_cases h9 : i = 9
    · subst h9
      have e19 := hg 9 (by omega)
      rw [hd 9 (by omega)]
      have e19' : (L.getD 19 z0).toList = (valB 9 (fldF c 9)).toList := e19
      rw [e19']
      have ef : fldF c 9 = if c.di then 1 else 0 := rfl
      have y1 : (valB 9 1).toList = [121, 101, 115] := by rw [ByteArray.toList_eq]; rfl
      have y0 : (valB 9 0).toList = [110, 111] := by rw [ByteArray.toList_eq]; rfl
      rw [ef]
      cases c.di with
      | true =>
        have e : (if (true : Bool) = true then (1 : Int) else 0) = 1 := rfl
        rw [e, y1]; rfl
      | false =>
        have e : (if (false : Bool) = true then (1 : Int) else 0) = 0 := rfl
        rw [e, y0]; rfl
    · rw [if_neg (fun h => h9 h.1), hd i hi]
      exact dig_val h2 h9 (hin i (by omega)).1 (hin i (by omega)).2

theorem fld_pos {c : Cf} (hin : ∀ j, j < 9 → 0 ≤ fldF c j ∧ fldF c j < 1000000000000000000) (j : Nat) (hj : j < 10) : 0 ≤ fldF c j := by
  by_cases h9 : j = 9
  · subst h9
    have ef : fldF c 9 = if c.di then 1 else 0 := rfl
    rw [ef]
    split <;> omega
  · exact (hin j (by omega)).1

/-- The fields of a job that may be. -/
theorem wrong_fields {c : Cf} (h : wrongN c = 0) : ∀ n, 1 ≤ n → n ≤ 9 → fieldB c n = true := by
  have st : ∀ n k, wrongF c n (k + 1) = if fieldB c n then wrongF c (n + 1) k else n := fun _ _ => rfl
  have key : ∀ k n, 1 ≤ n → wrongF c n k = 0 → ∀ m, n ≤ m → m < n + k → fieldB c m = true := by
    intro k
    induction k with
    | zero => intro n _ _ m h1 h2; omega
    | succ k ih =>
      intro n hn h m h1 h2
      rw [st] at h
      split at h
      · rename_i hf
        by_cases e : m = n
        · rw [e]; exact hf
        · exact ih (n + 1) (by omega) h m (by omega) (by omega)
      · omega
  intro n h1 h9
  exact key 9 1 (by omega) h n h1 (by omega)
theorem wrong_in {c : Cf} (h : wrongN c = 0) : ∀ j, j < 9 → 0 ≤ fldF c j ∧ fldF c j < 1000000000000000000 := by
  have hk := wrong_kind h
  have f1 := wrong_fields h 1 (by omega) (by omega)
  have f2 := wrong_fields h 2 (by omega) (by omega)
  have f4 := wrong_fields h 4 (by omega) (by omega)
  have f5 := wrong_fields h 5 (by omega) (by omega)
  have f6 := wrong_fields h 6 (by omega) (by omega)
  have f7 := wrong_fields h 7 (by omega) (by omega)
  have f8 := wrong_fields h 8 (by omega) (by omega)
  have f9 := wrong_fields h 9 (by omega) (by omega)
  unfold fieldB inB at f1 f2 f4 f5 f6 f7 f8 f9
  simp only [Bool.and_eq_true, decide_eq_true_eq] at f1 f2 f8 f9
  have e4 : 0 ≤ c.sz ∧ c.sz ≤ 1099511627776 := by
    simp only at f4
    split at f4
    · have := beq_iff_eq.1 f4; omega
    · simp only [Bool.and_eq_true, decide_eq_true_eq] at f4; omega
  have e5 : 0 ≤ c.sl ∧ c.sl ≤ 1099511627776 := by
    simp only at f5
    split at f5
    · have := beq_iff_eq.1 f5; omega
    · simp only [Bool.and_eq_true, decide_eq_true_eq] at f5; omega
  have e6 : 0 ≤ c.of ∧ c.of ≤ 1099511627776 := by
    simp only at f6
    split at f6
    · simp only [Bool.and_eq_true, decide_eq_true_eq, wrap64] at f6; omega
    · split at f6
      · simp only [Bool.and_eq_true, decide_eq_true_eq, wrap64] at f6; omega
      · have := beq_iff_eq.1 f6; omega
  have e7 : 0 ≤ c.gp ∧ c.gp ≤ 1099511627776 := by
    simp only at f7
    split at f7
    · have := beq_iff_eq.1 f7; omega
    · simp only [Bool.and_eq_true, decide_eq_true_eq] at f7; omega
  intro j hj
  rcases (by omega : j = 0 ∨ j = 1 ∨ j = 2 ∨ j = 3 ∨ j = 4 ∨ j = 5 ∨ j = 6 ∨ j = 7 ∨ j = 8) with rfl | rfl | rfl | rfl | rfl | rfl | rfl | rfl | rfl
  · show 0 ≤ c.gr ∧ c.gr < _; omega
  · show 0 ≤ c.so ∧ c.so < _; omega
  · show 0 ≤ c.ki ∧ c.ki < _; omega
  · show 0 ≤ c.sz ∧ c.sz < _; omega
  · show 0 ≤ c.sl ∧ c.sl < _; omega
  · show 0 ≤ c.of ∧ c.of < _; omega
  · show 0 ≤ c.gp ∧ c.gp < _; omega
  · show 0 ≤ c.lt ∧ c.lt < _; omega
  · show 0 ≤ c.ea ∧ c.ea < _; omega

/-- Parse gives a job's own text back. -/
theorem prs_text {c : Cf} {L : List ByteArray} (hw : wrongN c = 0) (hin : ∀ j, j < 9 → 0 ≤ fldF c j ∧ fldF c j < 1000000000000000000) (hL : L.map (·.toList) = cutB (txtS c 10)) : prsJ L (txtS c 10) = (c, true) := by
  rw [(cut_txt c (fld_pos hin) 9 (by omega)).2] at hL
  have hlen : L.length = 20 := by
    have := congrArg List.length hL
    rw [List.length_map, pcs_ten] at this
    exact this
  have hf : ∀ i, i < 10 → pfF L 10 i = fldF c i := fun i hi => by
    unfold pfF
    rw [if_pos hi]
    exact pfX_text hw hin hL i hi
  have hc : ofF (pfF L 10) = c := by
    unfold ofF
    rw [hf 0 (by omega), hf 1 (by omega), hf 2 (by omega), hf 3 (by omega), hf 4 (by omega), hf 5 (by omega), hf 6 (by omega), hf 7 (by omega), hf 8 (by omega), hf 9 (by omega)]
    have ef : fldF c 9 = if c.di then 1 else 0 := rfl
    have e9 : (fldF c 9 == 1) = c.di := by
      rw [ef]
      cases c.di <;> rfl
    rw [e9]
    rfl
  unfold prsJ
  rw [if_pos hlen, hc, if_pos ⟨hw, by simp⟩]
/-- What Parse gives is the job whose text it is. -/
theorem prs_is {L : List ByteArray} {s : ByteArray} (h : (prsJ L s).2 = true) : wrongN (prsJ L s).1 = 0 ∧ (txtS (prsJ L s).1 10).toList = s.toList := by
  unfold prsJ at *
  split at h
  · split at h
    · rename_i h1 h2
      rw [if_pos h1, if_pos h2]
      exact ⟨h2.1, by simpa using h2.2⟩
    · cases h
  · cases h
theorem prs_none {L : List ByteArray} {s : ByteArray} (h : (prsJ L s).2 = false) : (prsJ L s).1 = cf0 := by
  unfold prsJ at *
  split at h
  · split at h
    · cases h
    · rename_i h1 h2
      rw [if_pos h1, if_neg h2]
  · rename_i h1
    rw [if_neg h1]

end Go.Proofs.YtjambfncemlenaaDoor
