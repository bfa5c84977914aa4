/- The law's stands: the program's router and the document's tell the same. -/
import Derived.Test.YtapnjofplilefaaGreatZ3
import Derived.Test.YtapnjofplilefaaGreatZB
namespace Go.Proofs.YtapnjofplilefaaGreat
open Go.RowKit

/-- A number of a row of one's own turned. -/
theorem jn_at {w : World} {base : Nat} {a : Option Addr} {n k : Nat} {L : List Int} (h : encJ.Own 2 w base (.slice a n k) L) (i : Nat) (hi : i < n) : ∃ b, a = some ⟨b, 0, none⟩ ∧ base ≤ b ∧ b < w.heap.size ∧ (∃ u, w.cell? ⟨b, i, none⟩ = some u) ∧ w.frozen? ⟨b, i, none⟩ = false ∧ ∀ x, encJ.Own 2 (w.setCell ⟨b, i, none⟩ (.int .i64 x)) base (.slice a n k) (L.set i x) ∧ Touch (fun g => g = b) w (w.setCell ⟨b, i, none⟩ (.int .i64 x)) := by
  obtain ⟨e, m, -, -, -, k5⟩ := Rc.Own.mem h
  obtain ⟨b, off, rfl, c⟩ := ints_at m i (by omega)
  obtain ⟨-, h0, h1, h2⟩ := k5 _ rfl
  have h0 : off = 0 := h0
  subst h0
  obtain ⟨-, cur, hc⟩ := Rc.own_block h (g := b) rfl
  rw [Nat.zero_add] at c
  exact ⟨b, rfl, h1, h2, ⟨_, c⟩, hd_frozen hc i, fun x => ⟨jn_set h i x, (Touch.refl (fun g => g = b) w).setCell (p := ⟨b, i, none⟩) (fun _ => rfl) _⟩⟩

section
variable {Pk : World → Nat → (Nat → Prop) → Cf → Nat → List Int → Int → Prop}

set_option maxRecDepth 100000 in
set_option maxHeartbeats 4000000 in
theorem stands_any (I : Rpi Pk) {w : World} {q r : Nat} {G F : Nat → Prop} {c : Cf} {p : Nat} {L : List Int} {s : Int} (hp : Pk w q G c p L s) (hr : Rr w r F c p L s) : Calls Tryz.prog 8 #[cp q, rp r] w fun e w' => e = .returned (.bool true) ∧ Calm w w' := by
  have C1 := hide (I.marks hp)
  have hl := hr.len
  have CM : Hid (∀ W, Calm w W → ∃ lo lc, encJ.Mem W lo L ∧ W.cell? ⟨r, 11, none⟩ = some (.slice lo L.length lc)) := hide fun W hW => by
    obtain ⟨lo, lc, h1, h2, -⟩ := (hr.calm hW).ex
    exact ⟨lo, lc, (Rc.Own.mem h2).2.1, (rr_cells h1).2.2.1⟩
  have CS : Hid (∀ a k lo lc W, encJ.Mem W a L → encJ.Mem W lo L → Calls Tryz.prog 26 #[.slice a L.length k, .slice lo L.length lc] W fun e w' => e = .returned (.bool true) ∧ Calm W w') := hide fun a k lo lc W h1 h2 => sameMarks_any L a lo k lc W h1 h2 (by omega)
  have CW : Hid (∀ W, Calm w W → Calls Tryz.prog 15 #[cp q] W fun e w' => e = .returned (.int .i64 (mkN L)) ∧ Calm W w') := hide fun W hW => I.water (I.calm hp hW)
  have CX : Hid (∀ W, Calm w W → Calls Tryz.prog 27 #[rp r] W fun e w' => e = .returned (.int .i64 (mkN L)) ∧ w' = W) := hide fun W hW => rwater_any (hr.calm hW)
  have CQ : Hid (∀ W, Calm w W → Calls Tryz.prog 16 #[cp q] W fun e w' => e = .returned (.int .i64 s) ∧ Calm W w') := hide fun W hW => I.seq (I.calm hp hW)
  have KS : Hid (∀ W, Calm w W → W.cell? ⟨r, 12, none⟩ = some (.int .i64 s)) := hide fun W hW => by
    obtain ⟨lo, lc, h1, -⟩ := (hr.calm hW).ex
    exact (rr_cells h1).2.2.2
  clear hp hr
  generalize mkN L = m at *
  obtain ⟨n, hn⟩ : ∃ n, n = L.length := ⟨_, rfl⟩
  rw [← hn] at C1 hl CM CS
  have HN := hide hn.symm
  clear hn
  go_enter Tryz.func8, Tryz.ntmps8
  go_wp2_with fail
  refine C1.out.mono ?_
  rintro e w1 ⟨a, k, rfl, O1, T1⟩
  obtain ⟨lo, lc, m1, k1⟩ := CM.out w1 T1
  have C2 := hide (CS.out a k lo lc w1 (Rc.Own.mem O1).2.1 m1)
  have O1 := hide O1
  have T1 := hide T1
  clear C1 CM CS m1
  go_wp2_with fail
  refine C2.out.mono ?_
  rintro e w2 ⟨rfl, T2⟩
  have O2 := hide (Rc.Own.calm O1.out T2)
  have T2 := hide (T1.out.tr T2)
  clear C2 O1 T1 k1
  go_wp2_with fail
  go_loopw [7] (fun s7 wr => ∃ i : Nat, s7 = .int .i64 (i : Int) ∧ i ≤ n ∧ Hid (∃ X, encJ.Own 2 wr w.heap.size (.slice a n k) X) ∧ Calm w wr) (fun s7 _ => n - (intOf s7).toNat)
  case atStart => exact ⟨0, rfl, by omega, hide ⟨L, O2.out⟩, T2.out⟩
  case round =>
    obtain ⟨i, rfl, hi, HX, TE⟩ := hrel
    by_cases hlt : i < n
    · have hltz : (i : Int) < (n : Int) := by omega
      have z0 : ¬ (n : Int) ≤ (i : Int) := by omega
      obtain ⟨X, hX⟩ := HX.out
      obtain ⟨b, rfl, hb1, hb2, ⟨u, hu⟩, hf, hs⟩ := jn_at hX i hlt
      obtain ⟨o3, t3⟩ := hs 99
      have O3 := hide o3
      have T3 : Hid (Calm w (wr.setCell ⟨b, i, none⟩ (.int .i64 99))) := hide (TE.trans t3 fun g hg e => by omega)
      clear HX hX o3 t3 hs TE O2
      go_wp2_with fail
      go_roundw
      case rel => exact ⟨i + 1, by go_num, by omega, hide ⟨_, O3.out⟩, T3.out⟩
      case measure => simp [intOf]; omega
    · have hltz : ¬ (i : Int) < (n : Int) := by omega
      obtain rfl : i = n := by omega
      have HT := hide TE
      clear HX TE O2 T2
      go_wp2_with fail
      refine wp_region_held (S := Calm w) (by kernel_rfl) ?_
      have hT0 : Calm w { wr with drawn := wr.drawn + 1 } := HT.out.drew
      refine wpAnyH_yield 0 25 (.bool true) rfl rfl (by kernel_rfl) (by kernel_rfl) (by kernel_rfl) (fun _ _ _ h => h) (by kernel_rfl) (fun W hW => by kernel_rfl) (by assumption) rfl rfl ?_
      simp only [Act.put, List.setIfInBounds_toArray, List.set_cons_zero, List.set_cons_succ]
      refine wpAnyH_yield 1 26 (.bool true) rfl rfl (by kernel_rfl) (by kernel_rfl) (by kernel_rfl) (fun _ _ _ h => h) (by kernel_rfl) (fun W hW => by kernel_rfl) (by assumption) rfl rfl ?_
      simp only [Act.put, List.setIfInBounds_toArray, List.set_cons_zero, List.set_cons_succ]
      refine wpAnyH_yield 2 27 (cp q) rfl rfl (by kernel_rfl) (by kernel_rfl) (by kernel_rfl) (fun _ _ _ h => h) (by kernel_rfl) (fun W hW => by kernel_rfl) (by assumption) rfl rfl ?_
      simp only [Act.put, List.setIfInBounds_toArray, List.set_cons_zero, List.set_cons_succ]
      refine wpAnyH_yield 4 29 (rp r) rfl rfl (by kernel_rfl) (by kernel_rfl) (by kernel_rfl) (fun _ _ _ h => h) (by kernel_rfl) (fun W hW => by kernel_rfl) (by assumption) rfl rfl ?_
      simp only [Act.put, List.setIfInBounds_toArray, List.set_cons_zero, List.set_cons_succ]
      refine wpAnyH_enter 3 28 15 #[cp q] rfl rfl (by kernel_rfl) (by kernel_rfl) (by kernel_rfl) ?_
      refine ((CW.out _ hT0)).mono ?_
      rintro r w3 ⟨rfl, T3⟩
      refine ⟨_, rfl, hT0.tr T3, ?_⟩
      simp only [Act.put, List.setIfInBounds_toArray, List.set_cons_zero, List.set_cons_succ]
      have hT1 := hT0.tr T3
      refine wpAnyH_enter 5 30 27 #[rp r] rfl rfl (by kernel_rfl) (by kernel_rfl) (by kernel_rfl) ?_
      refine ((CX.out _ hT1)).mono ?_
      rintro r w4 ⟨rfl, rfl⟩
      refine ⟨_, rfl, hT1, ?_⟩
      simp only [Act.put, List.setIfInBounds_toArray, List.set_cons_zero, List.set_cons_succ]
      refine wpAnyH_yield 6 31 (.bool true) rfl rfl (by kernel_rfl) (by kernel_rfl) (by kernel_rfl) (fun _ _ _ h => h) (by kernel_rfl) (fun W hW => by go_simp) (by assumption) rfl rfl ?_
      simp only [Act.put, List.setIfInBounds_toArray, List.set_cons_zero, List.set_cons_succ]
      refine wpAnyH_yield 7 32 (.bool true) rfl rfl (by kernel_rfl) (by kernel_rfl) (by kernel_rfl) (fun _ _ _ h => h) (by kernel_rfl) (fun W hW => by go_simp) (by assumption) rfl rfl ?_
      simp only [Act.put, List.setIfInBounds_toArray, List.set_cons_zero, List.set_cons_succ]
      refine wpAnyH_yield 8 33 (.bool true) rfl rfl (by kernel_rfl) (by kernel_rfl) (by kernel_rfl) (fun _ _ _ h => h) (by kernel_rfl) (fun W hW => by kernel_rfl) (by assumption) rfl rfl ?_
      simp only [Act.put, List.setIfInBounds_toArray, List.set_cons_zero, List.set_cons_succ]
      refine wpAnyH_yield 9 34 (cp q) rfl rfl (by kernel_rfl) (by kernel_rfl) (by kernel_rfl) (fun _ _ _ h => h) (by kernel_rfl) (fun W hW => by kernel_rfl) (by assumption) rfl rfl ?_
      simp only [Act.put, List.setIfInBounds_toArray, List.set_cons_zero, List.set_cons_succ]
      refine wpAnyH_yield 11 36 (rp r) rfl rfl (by kernel_rfl) (by kernel_rfl) (by kernel_rfl) (fun _ _ _ h => h) (by kernel_rfl) (fun W hW => by kernel_rfl) (by assumption) rfl rfl ?_
      simp only [Act.put, List.setIfInBounds_toArray, List.set_cons_zero, List.set_cons_succ]
      refine wpAnyH_yield 12 37 (rp r) rfl rfl (by kernel_rfl) (by kernel_rfl) (by kernel_rfl) (fun _ _ _ h => h) (by kernel_rfl) (fun W hW => by go_simp) (by assumption) rfl rfl ?_
      simp only [Act.put, List.setIfInBounds_toArray, List.set_cons_zero, List.set_cons_succ]
      refine wpAnyH_yield 13 38 (.pointer (some ⟨r, 12, none⟩)) rfl rfl (by kernel_rfl) (by kernel_rfl) (by kernel_rfl) (fun _ _ _ h => h) (by kernel_rfl) (fun W hW => by go_simp) (by assumption) rfl rfl ?_
      simp only [Act.put, List.setIfInBounds_toArray, List.set_cons_zero, List.set_cons_succ]
      refine wpAnyH_yield 14 39 (.int .i64 s) rfl rfl (by kernel_rfl) (by kernel_rfl) (by kernel_rfl) (fun _ _ _ h => h) (by kernel_rfl) (fun W hW => by have k0 := KS.out W hW; go_simp) (by assumption) rfl rfl ?_
      simp only [Act.put, List.setIfInBounds_toArray, List.set_cons_zero, List.set_cons_succ]
      refine wpAnyH_enter 10 35 16 #[cp q] rfl rfl (by kernel_rfl) (by kernel_rfl) (by kernel_rfl) ?_
      refine ((CQ.out _ hT1)).mono ?_
      rintro r w5 ⟨rfl, T5⟩
      refine ⟨_, rfl, hT1.tr T5, ?_⟩
      simp only [Act.put, List.setIfInBounds_toArray, List.set_cons_zero, List.set_cons_succ]
      have hT2 := hT1.tr T5
      refine wpAnyH_yield 15 40 (.bool true) rfl rfl (by kernel_rfl) (by kernel_rfl) (by kernel_rfl) (fun _ _ _ h => h) (by kernel_rfl) (fun W hW => by go_simp) (by assumption) rfl rfl ?_
      simp only [Act.put, List.setIfInBounds_toArray, List.set_cons_zero, List.set_cons_succ]
      refine wpAnyH_yield 16 41 (.bool true) rfl rfl (by kernel_rfl) (by kernel_rfl) (by kernel_rfl) (fun _ _ _ h => h) (by kernel_rfl) (fun W hW => by go_simp) (by assumption) rfl rfl ?_
      simp only [Act.put, List.setIfInBounds_toArray, List.set_cons_zero, List.set_cons_succ]
      refine wpAnyH_yield 17 4 (.bool true) rfl rfl (by kernel_rfl) (by kernel_rfl) (by kernel_rfl) (fun _ _ _ h => h) (by kernel_rfl) (fun W hW => by kernel_rfl) (by assumption) rfl rfl ?_
      simp only [Act.put, List.setIfInBounds_toArray, List.set_cons_zero, List.set_cons_succ]
      refine wpAnyH_done (by kernel_rfl) ?_ _
      have HF := hide hT2
      clear hT0 hT1 hT2 T3 T5 CW CX CQ KS HT
      go_wp2_with fail
      go_ret
      exact ⟨rfl, HF.out⟩
end

end Go.Proofs.YtapnjofplilefaaGreat
