/- A number at a place (the document's read). -/
import Derived.Test.YtjambfncemlenaaDoorCD0
import Derived.Test.YtjambfncemlenaaDoorCB
namespace Go.Proofs.YtjambfncemlenaaDoor
open Go.RowKit
open Cg

/-- The number that bytes begin with, k of them at most: what it is, how many bytes it takes. -/
def rdL : Nat → List Int → Nat → Nat → Option (Nat × Nat)
  | 0, _, _, _ => none
  | _ + 1, [], _, _ => none
  | k + 1, c :: l, x, j => if c < 128 then some (x + c.toNat % 128 * 128 ^ j, j + 1) else rdL k l (x + c.toNat % 128 * 128 ^ j) (j + 1)
/-- What the document's read answers. -/
def readX (b : List Int) (p : Nat) : Int × Int × Bool :=
  match rdL 8 (b.drop p) 0 0 with
  | none => (0, 0, false)
  | some (x, n) => ((x : Int), ((p + n : Nat) : Int), decide (numb x = (b.drop p).take n))

theorem rdL_cons (k : Nat) (c : Int) (l : List Int) (x j : Nat) : rdL (k + 1) (c :: l) x j = if c < 128 then some (x + c.toNat % 128 * 128 ^ j, j + 1) else rdL k l (x + c.toNat % 128 * 128 ^ j) (j + 1) := rfl

set_option maxRecDepth 100000 in
set_option maxHeartbeats 2000000 in
theorem rread_any (b : List Int) (ao : Option Addr) (cap p : Nat) (w : World) (hs : encB.Sl w ao cap b) (h8 : In8 b) (hp : p ≤ b.length) (hl : b.length ≤ 140737488355328) :
    Calls Tryd.prog 35 #[.slice ao b.length cap, .int .i64 (p : Int)] w fun e w' => e = .returned (.tuple #[.int .i64 (readX b p).1, .int .i64 (readX b p).2.1, .bool (readX b p).2.2]) ∧ Calm w w' := by
  have CN : Hid (∀ (x : Nat) (W : World), x < 18446744073709551616 → Calls Tryd.prog 60 #[.int .u64 (x : Int)] W fun e w' => RetB W e w' (numb x)) := hide fun x W hx => rnumber_any x hx W
  obtain ⟨i0, hi, -, hsz, -⟩ := Rc.info_parts infoByte
  have CUT : Hid (∀ q, p ≤ q → q ≤ b.length → ∃ so sc, (∀ W, (Instr.slice 34 (.slice ao b.length cap) (some (.int .i64 (p : Nat))) (some (.int .i64 (q : Nat))) none).run Tryd.prog W = .ok (.slice so (q - p) sc) W) ∧ ∀ W, Calm w W → encB.Mem W so ((b.drop p).take (q - p))) := hide fun q h1 h2 => by
    obtain ⟨so, sc, c1, c2, -⟩ := Rc.Sl.cut (t := 34) Tryd.underlying34 elemByte hi hsz hs h1 h2
    exact ⟨so, sc, c1, fun W hW => Rc.Mem.calm c2 hW⟩
  have AT : Hid (∀ j, j < b.length → ∃ g off c, ao = some ⟨g, off, none⟩ ∧ b.drop j = (c : Int) :: b.drop (j + 1) ∧ 0 ≤ (c : Int) ∧ (c : Int) ≤ 255 ∧ ∀ W, Calm w W → W.cell? ⟨g, off + j, none⟩ = some (.int .u8 c)) := hide fun j hj => by
    obtain ⟨g, off, e, -⟩ := by_at hs.mem j hj
    have hm := h8 b[j] (List.getElem_mem hj)
    refine ⟨g, off, b[j], e, List.drop_eq_getElem_cons hj, hm.1, hm.2, fun W hW => ?_⟩
    obtain ⟨g', off', e', c'⟩ := by_at (Rc.Mem.calm hs.mem hW) j hj
    rw [e] at e'
    injection e' with e'
    injection e' with e1 e2
    subst e1 e2
    rw [List.getD_eq_getElem?_getD, List.getElem?_eq_getElem hj] at c'
    exact c'
  have DR : Hid (∀ n, In8 ((b.drop p).take n)) := hide fun n x hx => h8 x (List.mem_of_mem_drop (List.mem_of_mem_take hx))
  have RX : Hid (∀ r, rdL 8 (b.drop p) 0 0 = r → readX b p = match r with | none => (0, 0, false) | some (x, n) => ((x : Int), ((p + n : Nat) : Int), decide (numb x = (b.drop p).take n))) := hide fun r h => by unfold readX; rw [h]
  generalize readX b p = X at *
  obtain ⟨n, hn⟩ : ∃ n, n = b.length := ⟨_, rfl⟩
  rw [← hn] at CUT AT hp hl ⊢
  have Hn := hide hn
  clear hi hsz hs h8 hn
  go_enter Tryd.func35, Tryd.ntmps35
  go_wp2_with fail
  go_loopw [7, 8, 9] (fun s7 s8 s9 wr => ∃ (j x W9 : Nat), s7 = .int .u64 (x : Int) ∧ s8 = .int .u64 (W9 : Int) ∧ s9 = .int .i64 ((p + j : Nat) : Int) ∧ j ≤ 8 ∧ p + j ≤ n ∧ Hid (W9 = 128 ^ j) ∧ x < W9 ∧ W9 ≤ 72057594037927936 ∧ Hid (rdL (8 - j) (b.drop (p + j)) x j = rdL 8 (b.drop p) 0 0) ∧ Calm w wr) (fun _ _ s9 _ => p + 9 - (intOf s9).toNat)
  case atStart => exact ⟨0, 0, 1, rfl, rfl, rfl, by omega, hp, hide rfl, by omega, by omega, hide rfl, Touch.refl _ _⟩
  case round =>
    obtain ⟨j, x, W9, rfl, rfl, rfl, hj, hpj, HW, hxW, hW9, HR, TL⟩ := hrel
    obtain ⟨i, hi⟩ : ∃ i, i = p + j := ⟨_, rfl⟩
    rw [← hi] at hpj HR ⊢
    have r8 : IntKind.i64.wrap ((p : Int) + 8) = ((p + 8 : Nat) : Int) := by rw [IntKind.wrap_i64]; omega
    by_cases hin : i < n
    · have hinz : (i : Int) < (n : Int) := by omega
      by_cases hj8 : j < 8
      · have hj8z : (i : Int) < ((p + 8 : Nat) : Int) := by omega
        obtain ⟨g, off, c, rfl, hdr, hc0, hc1, hcell⟩ := AT.out i hin
        have cc := hcell wr TL
        obtain ⟨cn, hcn⟩ : ∃ cn : Nat, c = (cn : Int) := ⟨c.toNat, by omega⟩
        subst hcn
        have hcn1 : cn ≤ 255 := by omega
        have hW7 : W9 ≤ 562949953421312 := by
          rw [HW.out]
          exact Nat.pow_le_pow_right (by omega) (show j ≤ 7 by omega)
        obtain ⟨m, hm⟩ : ∃ m, m = cn % 128 := ⟨_, rfl⟩
        obtain ⟨y, hy⟩ : ∃ y, y = m * W9 := ⟨_, rfl⟩
        have hy127 : y ≤ 127 * W9 := by rw [hy]; exact Nat.mul_le_mul_right _ (by omega)
        obtain ⟨z, hz⟩ : ∃ z, z = x + y := ⟨_, rfl⟩
        obtain ⟨V, hV⟩ : ∃ V, V = W9 * 128 := ⟨_, rfl⟩
        have q1 : (cn : Int) % 128 = (m : Int) := by omega
        have q2 : (m : Int) * (W9 : Int) = (y : Int) := by rw [hy]; simp
        have q3 : (x : Int) + (y : Int) = (z : Int) := by omega
        have q4 : (W9 : Int) * 128 = (V : Int) := by omega
        have q5 : IntKind.u64.wrap (y : Int) = (y : Int) := by rw [IntKind.wrap_u64]; omega
        have q6 : IntKind.u64.wrap (z : Int) = (z : Int) := by rw [IntKind.wrap_u64]; omega
        have q7 : IntKind.u64.wrap (V : Int) = (V : Int) := by rw [IntKind.wrap_u64]; omega
        have hzb : z < V := by omega
        have hVb : V ≤ 72057594037927936 := by omega
        have HV : Hid (V = 128 ^ (j + 1)) := hide (by rw [hV, HW.out, Nat.pow_succ])
        have HR2 : Hid ((if (cn : Int) < 128 then some (z, j + 1) else rdL (8 - (j + 1)) (b.drop (i + 1)) z (j + 1)) = rdL 8 (b.drop p) 0 0) := hide (by
          have := HR.out
          rw [hdr, show 8 - j = (8 - (j + 1)) + 1 by omega, rdL_cons] at this
          rw [← this]
          have e : x + (cn : Int).toNat % 128 * 128 ^ j = z := by rw [hz, hy, hm, HW.out]; simp
          rw [e])
        have HTL := hide TL
        have Hi := hide hi
        clear HR hdr hcell hm hy hz hV hy127 TL hi hxW hW7 hc0 hc1
        by_cases hc : (cn : Int) < 128
        · have hcd : decide ((cn : Int) < 128) = true := decide_eq_true hc
          have HRX : Hid (X = ((z : Int), ((p + (j + 1) : Nat) : Int), decide (numb z = (b.drop p).take (j + 1)))) := hide (by
            have h1 := HR2.out
            rw [if_pos hc] at h1
            exact RX.out _ h1.symm)
          have hc63 : IntKind.i64.wrap (z : Int) = (z : Int) := by rw [IntKind.wrap_i64]; omega
          have hi1 : IntKind.i64.wrap ((i : Int) + 1) = ((i + 1 : Nat) : Int) := by rw [IntKind.wrap_i64]; omega
          obtain ⟨so, sc, hcut, hcm⟩ := CUT.out (i + 1) (by have := Hi.out; omega) (by omega)
          have e1 : i + 1 - p = j + 1 := by have := Hi.out; omega
          rw [e1] at hcut hcm
          have hcut : ∀ W, (Instr.slice 34 (.slice (some ⟨g, off, none⟩) n cap) (some (.int .i64 (p : Int))) (some (.int .i64 ((i : Int) + 1))) none).run Tryd.prog W = .ok (.slice so (j + 1) sc) W := fun W => by
            have := hcut W
            rwa [Int.natCast_add] at this
          have HCUT := hide hcut
          have HCM := hide hcm
          have C1 := hide (CN.out z · (by omega))
          have S8 := hide (Cg.str_same (numb_in8 z) (DR.out (j + 1)))
          have LT : Hid (((b.drop p).take (j + 1)).length = j + 1) := hide (by have := Hi.out; have := Hn.out; rw [List.length_take, List.length_drop]; omega)
          clear hcut hcm HR2 RX CUT AT DR CN hc
          go_wp2_with fail
          refine wp_region_held (S := Calm wr) (by kernel_rfl) ?_
          have hT0 : Calm wr { wr with drawn := wr.drawn + 1 } := (Touch.refl _ wr).drew
          refine wpAnyH_yield 0 40 (.int .u64 (z : Int)) rfl rfl (by kernel_rfl) (by kernel_rfl) (by kernel_rfl) (fun _ _ _ h => h) (by kernel_rfl) (fun W hW => by kernel_rfl) (by assumption) rfl rfl ?_
          simp only [Act.put, List.setIfInBounds_toArray, List.set_cons_zero, List.set_cons_succ]
          refine wpAnyH_yield 1 41 (.int .i64 (z : Int)) rfl rfl (by kernel_rfl) (by kernel_rfl) (by kernel_rfl) (fun _ _ _ h => h) (by kernel_rfl) (fun W hW => by go_simp) (by assumption) rfl rfl ?_
          simp only [Act.put, List.setIfInBounds_toArray, List.set_cons_zero, List.set_cons_succ]
          refine wpAnyH_yield 2 42 (.int .i64 (i : Int)) rfl rfl (by kernel_rfl) (by kernel_rfl) (by kernel_rfl) (fun _ _ _ h => h) (by kernel_rfl) (fun W hW => by kernel_rfl) (by assumption) rfl rfl ?_
          simp only [Act.put, List.setIfInBounds_toArray, List.set_cons_zero, List.set_cons_succ]
          refine wpAnyH_yield 3 43 (.int .i64 ((i : Int) + 1)) rfl rfl (by kernel_rfl) (by kernel_rfl) (by kernel_rfl) (fun _ _ _ h => h) (by kernel_rfl) (fun W hW => by go_simp) (by assumption) rfl rfl ?_
          simp only [Act.put, List.setIfInBounds_toArray, List.set_cons_zero, List.set_cons_succ]
          refine wpAnyH_yield 4 44 (.int .u64 (z : Int)) rfl rfl (by kernel_rfl) (by kernel_rfl) (by kernel_rfl) (fun _ _ _ h => h) (by kernel_rfl) (fun W hW => by kernel_rfl) (by assumption) rfl rfl ?_
          simp only [Act.put, List.setIfInBounds_toArray, List.set_cons_zero, List.set_cons_succ]
          refine wpAnyH_yield 7 47 (.slice (some ⟨g, off, none⟩) n cap) rfl rfl (by kernel_rfl) (by kernel_rfl) (by kernel_rfl) (fun _ _ _ h => h) (by kernel_rfl) (fun W hW => by kernel_rfl) (by assumption) rfl rfl ?_
          simp only [Act.put, List.setIfInBounds_toArray, List.set_cons_zero, List.set_cons_succ]
          refine wpAnyH_yield 8 48 (.int .i64 (p : Int)) rfl rfl (by kernel_rfl) (by kernel_rfl) (by kernel_rfl) (fun _ _ _ h => h) (by kernel_rfl) (fun W hW => by kernel_rfl) (by assumption) rfl rfl ?_
          simp only [Act.put, List.setIfInBounds_toArray, List.set_cons_zero, List.set_cons_succ]
          refine wpAnyH_yield 9 49 (.int .i64 (i : Int)) rfl rfl (by kernel_rfl) (by kernel_rfl) (by kernel_rfl) (fun _ _ _ h => h) (by kernel_rfl) (fun W hW => by kernel_rfl) (by assumption) rfl rfl ?_
          simp only [Act.put, List.setIfInBounds_toArray, List.set_cons_zero, List.set_cons_succ]
          refine wpAnyH_yield 10 50 (.int .i64 ((i : Int) + 1)) rfl rfl (by kernel_rfl) (by kernel_rfl) (by kernel_rfl) (fun _ _ _ h => h) (by kernel_rfl) (fun W hW => by go_simp) (by assumption) rfl rfl ?_
          simp only [Act.put, List.setIfInBounds_toArray, List.set_cons_zero, List.set_cons_succ]
          refine wpAnyH_yield 11 51 (.slice so (j + 1) sc) rfl rfl (by kernel_rfl) (by kernel_rfl) (by kernel_rfl) (fun _ _ _ h => h) (by kernel_rfl) (fun W hW => by have q := HCUT.out W; go_simp) (by assumption) rfl rfl ?_
          simp only [Act.put, List.setIfInBounds_toArray, List.set_cons_zero, List.set_cons_succ]
          refine wpAnyH_yield 12 52 (.string (strOfNums ((b.drop p).take (j + 1)))) rfl rfl (by kernel_rfl) (by kernel_rfl) (by kernel_rfl) (fun _ _ _ h => h) (by kernel_rfl) (fun W hW => by have q := conv_mem (HCM.out W (HTL.out.tr hW)) sc; rw [LT.out] at q; go_simp) (by assumption) rfl rfl ?_
          simp only [Act.put, List.setIfInBounds_toArray, List.set_cons_zero, List.set_cons_succ]
          refine wpAnyH_enter 5 45 60 #[.int .u64 (z : Int)] rfl rfl (by kernel_rfl) (by kernel_rfl) (by kernel_rfl) ?_
          refine (C1.out _).mono ?_
          rintro r w2 ⟨bo, bc, rfl, ow, T2⟩
          have hT2 : Calm wr w2 := hT0.tr T2
          have hm2 := (Rc.Own.mem ow).2.1
          refine ⟨_, rfl, hT2, ?_⟩
          simp only [Act.put, List.setIfInBounds_toArray, List.set_cons_zero, List.set_cons_succ]
          refine wpAnyH_yield 14 4 (.int .i64 (z : Int)) rfl rfl (by kernel_rfl) (by kernel_rfl) (by kernel_rfl) (fun _ _ _ h => h) (by kernel_rfl) (fun W hW => by kernel_rfl) (by assumption) rfl rfl ?_
          simp only [Act.put, List.setIfInBounds_toArray, List.set_cons_zero, List.set_cons_succ]
          refine wpAnyH_yield 15 5 (.int .i64 ((i : Int) + 1)) rfl rfl (by kernel_rfl) (by kernel_rfl) (by kernel_rfl) (fun _ _ _ h => h) (by kernel_rfl) (fun W hW => by kernel_rfl) (by assumption) rfl rfl ?_
          simp only [Act.put, List.setIfInBounds_toArray, List.set_cons_zero, List.set_cons_succ]
          have hcv := conv_mem hm2 bc
          refine wpAnyH_value 6 46 (.string (strOfNums (numb z))) (w' := w2) rfl rfl (by kernel_rfl) (by kernel_rfl) (by go_simp) hT2 ?_
          simp only [Act.put, List.setIfInBounds_toArray, List.set_cons_zero, List.set_cons_succ]
          refine wpAnyH_yield 13 53 (.bool (decide (numb z = (b.drop p).take (j + 1)))) rfl rfl (by kernel_rfl) (by kernel_rfl) (by kernel_rfl) (fun _ _ _ h => h) (by kernel_rfl) (fun W hW => by have q := S8.out; go_simp) (by assumption) rfl rfl ?_
          simp only [Act.put, List.setIfInBounds_toArray, List.set_cons_zero, List.set_cons_succ]
          refine wpAnyH_yield 16 6 (.bool (decide (numb z = (b.drop p).take (j + 1)))) rfl rfl (by kernel_rfl) (by kernel_rfl) (by kernel_rfl) (fun _ _ _ h => h) (by kernel_rfl) (fun W hW => by kernel_rfl) (by assumption) rfl rfl ?_
          simp only [Act.put, List.setIfInBounds_toArray, List.set_cons_zero, List.set_cons_succ]
          refine wpAnyH_done (by kernel_rfl) ?_ _
          have H4 := hide hT2
          clear hT0 hT2 hm2 ow T2 hcv S8 LT C1 HCM HCUT
          go_wp2_with fail
          go_ret3
          rw [HRX.out]
          exact ⟨by have := Hi.out; simp only [show ((i : Int) + 1) = ((p + (j + 1) : Nat) : Int) by omega]; rfl, HTL.out.tr H4.out⟩
        · have hcd : decide ((cn : Int) < 128) = false := decide_eq_false hc
          have HR3 : Hid (rdL (8 - (j + 1)) (b.drop (p + (j + 1))) z (j + 1) = rdL 8 (b.drop p) 0 0) := hide (by
            have h1 := HR2.out
            rw [if_neg hc, Hi.out] at h1
            exact h1)
          clear HR2 RX CUT AT DR CN hc
          go_wp2_with fail
          go_roundw
          case rel => exact ⟨j + 1, z, V, rfl, rfl, by have := Hi.out; go_num, by omega, by have := Hi.out; omega, HV, hzb, hVb, HR3, HTL.out⟩
          case measure => simp [intOf]; have := Hi.out; omega
      · have hj8z : ¬ (i : Int) < ((p + 8 : Nat) : Int) := by omega
        obtain rfl : j = 8 := by omega
        have HRX : Hid (X = (0, 0, false)) := hide (RX.out none (by rw [← HR.out]; rfl))
        have HTL := hide TL
        clear HR TL RX CUT AT DR CN
        go_wp2_with fail
        go_ret3
        rw [HRX.out]
        exact ⟨rfl, HTL.out⟩
    · have hinz : ¬ (i : Int) < (n : Int) := by omega
      have HRX : Hid (X = (0, 0, false)) := hide (RX.out none (by
        rw [← HR.out, List.drop_of_length_le (by have := Hn.out; omega)]
        cases 8 - j <;> rfl))
      have HTL := hide TL
      clear HR TL RX CUT AT DR CN
      go_wp2_with fail
      go_ret3
      rw [HRX.out]
      exact ⟨rfl, HTL.out⟩

end Go.Proofs.YtjambfncemlenaaDoor
