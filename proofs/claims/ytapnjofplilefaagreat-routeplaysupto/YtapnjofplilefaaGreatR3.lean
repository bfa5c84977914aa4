/- The program's router: which jobs and items may be (one for both sides); the router in memory; isThere, Worker, Marks, Watermark, Seq. The program's router in memory; isThere, Marks, Watermark, Seq. The program's router: take, all kinds; Items. The program's router: Item. -/
import Derived.Test.YtapnjofplilefaaGreatR2
import Derived.Test.YtapnjofplilefaaGreatE2
import Derived.Test.YtapnjofplilefaaGreatZC
import Derived.Test.YtapnjofplilefaaGreatZ3
import Derived.Test.YtapnjofplilefaaGreatZ1
import Derived.Test.YtapnjofplilefaaGreatCJ0
namespace Go.Proofs.YtapnjofplilefaaGreat
open Go.RowKit

theorem w64_in (n : Int) (h : -9223372036854775808 ≤ n ∧ n ≤ 9223372036854775807) : wrap64 n = n := by unfold wrap64; omega
theorem inB_iff (x lo hi : Int) : inB x lo hi = true ↔ lo ≤ x ∧ x ≤ hi := by unfold inB; simp
/-- A job has no wrong field just where it may be. -/
theorem wrong_job (c : Cf) : wrongN c = 0 ↔ jobB c = true := by
  have E2 : wrongN c = if fieldB c 1 then (if fieldB c 2 then (if fieldB c 3 then (if fieldB c 4 then (if fieldB c 5 then (if fieldB c 6 then (if fieldB c 7 then (if fieldB c 8 then (if fieldB c 9 then 0 else 9) else 8) else 7) else 6) else 5) else 4) else 3) else 2) else 1 := rfl
  have A : wrongN c = 0 ↔ fieldB c 1 = true ∧ fieldB c 2 = true ∧ fieldB c 3 = true ∧ fieldB c 4 = true ∧ fieldB c 5 = true ∧ fieldB c 6 = true ∧ fieldB c 7 = true ∧ fieldB c 8 = true ∧ fieldB c 9 = true := by
    rw [E2]
    cases fieldB c 1 <;> cases fieldB c 2 <;> cases fieldB c 3 <;> cases fieldB c 4 <;> cases fieldB c 5 <;> cases fieldB c 6 <;> cases fieldB c 7 <;> cases fieldB c 8 <;> cases fieldB c 9 <;> simp
  rw [A]
  have f1 : fieldB c 1 = true ↔ 1 ≤ c.gr ∧ c.gr ≤ 32768 := inB_iff _ _ _
  have f2 : fieldB c 2 = true ↔ 1 ≤ c.so ∧ c.so ≤ 64 := inB_iff _ _ _
  have f3 : fieldB c 3 = true ↔ c.ki = 1 ∨ c.ki = 2 ∨ c.ki = 3 := by
    show ((c.ki == 1 || c.ki == 2) || c.ki == 3) = true ↔ _
    simp [or_assoc]
  have f4 : fieldB c 4 = true ↔ (c.ki = 3 ∧ c.sz = 0) ∨ (c.ki ≠ 3 ∧ 1 ≤ c.sz ∧ c.sz ≤ 1099511627776) := by
    show (if c.ki = 3 then c.sz == 0 else inB c.sz 1 1099511627776) = true ↔ _
    split
    · rename_i h; simp [h]
    · rename_i h; rw [inB_iff]; simp [h]
  have f5 : fieldB c 5 = true ↔ (c.ki ≠ 2 ∧ c.sl = 0) ∨ (c.ki = 2 ∧ (1 ≤ c.sl ∧ c.sl ≤ c.sz) ∧ c.sz ≤ wrap64 (64 * c.sl)) := by
    show (if ¬ c.ki = 2 then c.sl == 0 else (inB c.sl 1 c.sz && decide (c.sz ≤ wrap64 (64 * c.sl)))) = true ↔ _
    split
    · rename_i h; simp [h]
    · rename_i h; rw [Bool.and_eq_true, inB_iff]; simp [h]; omega
  have f6 : fieldB c 6 = true ↔ (c.ki = 1 ∧ 0 ≤ c.of ∧ c.of ≤ wrap64 (c.sz - 1)) ∨ (c.ki = 2 ∧ 0 ≤ c.of ∧ c.of ≤ wrap64 (c.sl - 1)) ∨ (c.ki ≠ 1 ∧ c.ki ≠ 2 ∧ c.of = 0) := by
    show (if c.ki = 1 then inB c.of 0 (wrap64 (c.sz - 1)) else if c.ki = 2 then inB c.of 0 (wrap64 (c.sl - 1)) else c.of == 0) = true ↔ _
    split
    · rename_i h; rw [inB_iff]; simp [h]
    · split
      · rename_i h1 h2; rw [inB_iff]; simp [h2]
      · rename_i h1 h2; simp [h1, h2]
  have f7 : fieldB c 7 = true ↔ (c.ki ≠ 3 ∧ c.gp = 0) ∨ (c.ki = 3 ∧ 1 ≤ c.gp ∧ c.gp ≤ 1099511627776) := by
    show (if ¬ c.ki = 3 then c.gp == 0 else inB c.gp 1 1099511627776) = true ↔ _
    split
    · rename_i h; simp [h]
    · rename_i h; rw [inB_iff]; simp at h; simp [h]
  have f8 : fieldB c 8 = true ↔ 0 ≤ c.lt ∧ c.lt ≤ 1099511627776 := inB_iff _ _ _
  have f9 : fieldB c 9 = true ↔ 0 ≤ c.ea ∧ c.ea ≤ 2147483647 := inB_iff _ _ _
  rw [f1, f2, f3, f4, f5, f6, f7, f8, f9]
  have w1 : wrap64 (64 * c.sl) = 64 * c.sl ∨ ¬ (1 ≤ c.sl ∧ c.sl ≤ 1099511627776) := by
    by_cases h : 1 ≤ c.sl ∧ c.sl ≤ 1099511627776
    · exact .inl (w64_in _ (by omega))
    · exact .inr h
  have w2 : wrap64 (c.sz - 1) = c.sz - 1 ∨ ¬ (1 ≤ c.sz ∧ c.sz ≤ 1099511627776) := by
    by_cases h : 1 ≤ c.sz ∧ c.sz ≤ 1099511627776
    · exact .inl (w64_in _ (by omega))
    · exact .inr h
  have w3 : wrap64 (c.sl - 1) = c.sl - 1 ∨ ¬ (1 ≤ c.sl ∧ c.sl ≤ 1099511627776) := by
    by_cases h : 1 ≤ c.sl ∧ c.sl ≤ 1099511627776
    · exact .inl (w64_in _ (by omega))
    · exact .inr h
  generalize wrap64 (64 * c.sl) = a at *
  generalize wrap64 (c.sz - 1) = b at *
  generalize wrap64 (c.sl - 1) = d at *
  unfold jobB
  rw [decide_eq_true_iff]
  unfold jobP
  clear f1 f2 f3 f4 f5 f6 f7 f8 f9 A E2
  constructor
  · rintro ⟨g1, g2, g3, g4, g5, g6, g7, g8, g9⟩
    refine ⟨by omega, ?_⟩
    rcases g3 with h | h | h
    · exact .inl (by omega)
    · exact .inr (.inl (by omega))
    · exact .inr (.inr (by omega))
  · rintro ⟨h0, h | h | h⟩
    · refine ⟨by omega, by omega, by omega, by omega, by omega, by omega, by omega, by omega, by omega⟩
    · refine ⟨by omega, by omega, by omega, by omega, by omega, by omega, by omega, by omega, by omega⟩
    · refine ⟨by omega, by omega, by omega, by omega, by omega, by omega, by omega, by omega, by omega⟩
theorem wrong_job0 {c : Cf} (h : jobB c = true) : wrongN c = 0 := (wrong_job c).2 h
theorem wrong_no {c : Cf} (h : jobB c = false) : wrongN c ≠ 0 := fun e => by have := (wrong_job c).1 e; rw [h] at this; cases this
theorem tim_is (t : Int) : timeB t = timZ t := rfl
/-- Both say the same of an item. -/
theorem item_is (c : Cf) (x : It) : itemB c x = itemZ c x := by
  unfold itemB itemZ
  by_cases h1 : x.ki = 1
  · rw [if_pos h1, if_pos h1, tim_is]
    cases decide (x.ke.size ≤ 256) <;> cases timZ x.tm <;> cases x.sr == 0 <;> rfl
  · by_cases h2 : x.ki = 2
    · rw [if_neg h1, if_pos h2, if_neg h1, if_pos h2, tim_is]
      cases decide (0 ≤ x.sr) <;> cases decide (x.sr < c.so) <;> cases timZ x.tm <;> cases x.ke.toList == [] <;> cases x.va == 0 <;> rfl
    · rw [if_neg h1, if_neg h2, if_neg h1, if_neg h2]

end Go.Proofs.YtapnjofplilefaaGreat

namespace Go.Proofs.YtapnjofplilefaaGreat
open Go.RowKit

/-- The program's router at q, in the blocks G: its job is c, it has p workers, its marks are L, the next number is s. -/
structure Pr (w : World) (q : Nat) (G : Nat → Prop) (c : Cf) (p : Nat) (L : List Int) (s : Int) : Prop where
  ex : ∃ k Gk, w.heap[q]? = some (.cells #[cp k] 91 (0, 0)) ∧ Kno w k Gk c p L s ∧ ∀ g, Gk g → G g ∧ g ≠ q
  job : jobB c = true
  at_ : G q
  lt : ∀ g, G g → g < w.heap.size
theorem Pr.touch {w w' : World} {q : Nat} {G S : Nat → Prop} {c : Cf} {p : Nat} {L : List Int} {s : Int} (h : Pr w q G c p L s) (ht : Touch S w w') (hS : ∀ g, G g → ¬ S g) : Pr w' q G c p L s := by
  obtain ⟨k, Gk, h1, h2, h3⟩ := h.ex
  exact ⟨⟨k, Gk, ht.heap h1 (hS q h.at_), h2.touch ht (fun g hg => hS g (h3 g hg).1), h3⟩, h.job, h.at_, fun g hg => Nat.lt_of_lt_of_le (h.lt g hg) ht.size⟩
theorem Pr.calm {w w' : World} {q : Nat} {G : Nat → Prop} {c : Cf} {p : Nat} {L : List Int} {s : Int} (h : Pr w q G c p L s) (ht : Calm w w') : Pr w' q G c p L s := h.touch ht fun _ _ h => h
/-- What is read of it. -/
theorem Pr.see {w : World} {q : Nat} {G : Nat → Prop} {c : Cf} {p : Nat} {L : List Int} {s : Int} (h : Pr w q G c p L s) : ∃ k qc Gc, (∀ W, Calm w W → W.cell? ⟨q, 0, none⟩ = some (cp k) ∧ W.heap[k]? = some (.cells (rrc c (p : Int) (cp qc) s) 89 (0, 0))) ∧ Clk w qc Gc L [] := by
  obtain ⟨k, Gk, h1, h2, -⟩ := h.ex
  obtain ⟨qc, Gc, h3, h4, -⟩ := h2.ex
  exact ⟨k, qc, Gc, fun W hW => ⟨(one_cell (hW.at h1)).1, hW.at h3⟩, h4⟩

theorem thereR_at (q k : Nat) (w : World) (hc : w.cell? ⟨q, 0, none⟩ = some (cp k)) : Calls Tryz.prog 31 #[cp q] w fun e w' => e = .returned (.bool true) ∧ w' = w := by
  go_enter Tryz.func31, Tryz.ntmps31
  go_wp2_with fail
  go_ret
  exact ⟨rfl, rfl⟩
theorem thereR_nil (w : World) : Calls Tryz.prog 31 #[.pointer none] w fun e w' => e = .returned (.bool false) ∧ w' = w := by
  go_enter Tryz.func31, Tryz.ntmps31
  go_wp2_with fail
  go_ret
  exact ⟨rfl, rfl⟩
theorem thereR_zero (q : Nat) (w : World) (hc : w.cell? ⟨q, 0, none⟩ = some (.pointer none)) : Calls Tryz.prog 31 #[cp q] w fun e w' => e = .returned (.bool false) ∧ w' = w := by
  go_enter Tryz.func31, Tryz.ntmps31
  go_wp2_with fail
  go_ret
  exact ⟨rfl, rfl⟩

set_option maxRecDepth 100000 in
theorem waterR_any {w : World} {q : Nat} {G : Nat → Prop} {c : Cf} {p : Nat} {L : List Int} {s : Int} (h : Pr w q G c p L s) : Calls Tryz.prog 15 #[cp q] w fun e w' => e = .returned (.int .i64 (mkN L)) ∧ Calm w w' := by
  obtain ⟨k, qc, Gc, hc, ck⟩ := h.see
  obtain ⟨c0, hk⟩ := hc w (Touch.refl _ _)
  obtain ⟨-, -, k11, -⟩ := rr_cells hk
  have CT := hide (thereR_at q k w c0)
  have CM := hide (mark_any ck)
  clear h hc hk ck
  generalize mkN L = R at *
  go_enter Tryz.func15, Tryz.ntmps15
  go_wp2_with fail
  refine CT.out.mono ?_
  rintro e w9 ⟨rfl, rfl⟩
  clear CT
  go_wp2_with fail
  refine CM.out.mono ?_
  rintro e w9 ⟨rfl, rfl⟩
  clear CM
  go_wp2_with fail
  go_ret
  exact ⟨rfl, Touch.refl _ _⟩

set_option maxRecDepth 100000 in
theorem seqR_any {w : World} {q : Nat} {G : Nat → Prop} {c : Cf} {p : Nat} {L : List Int} {s : Int} (h : Pr w q G c p L s) : Calls Tryz.prog 16 #[cp q] w fun e w' => e = .returned (.int .i64 s) ∧ Calm w w' := by
  obtain ⟨k, qc, Gc, hc, ck⟩ := h.see
  obtain ⟨c0, hk⟩ := hc w (Touch.refl _ _)
  obtain ⟨-, -, -, k12⟩ := rr_cells hk
  have CT := hide (thereR_at q k w c0)
  clear h hc hk ck
  go_enter Tryz.func16, Tryz.ntmps16
  go_wp2_with fail
  refine CT.out.mono ?_
  rintro e w9 ⟨rfl, rfl⟩
  clear CT
  go_wp2_with fail
  go_ret
  exact ⟨rfl, Touch.refl _ _⟩

set_option maxRecDepth 100000 in
theorem marksR_any {w : World} {q : Nat} {G : Nat → Prop} {c : Cf} {p : Nat} {L : List Int} {s : Int} (h : Pr w q G c p L s) : Calls Tryz.prog 23 #[cp q] w fun e w' => ∃ a k, e = .returned (.slice a L.length k) ∧ encJ.Own 2 w' w.heap.size (.slice a L.length k) L ∧ Calm w w' := by
  obtain ⟨k, qc, Gc, hc, ck⟩ := h.see
  obtain ⟨c0, hk⟩ := hc w (Touch.refl _ _)
  obtain ⟨-, -, k11, -⟩ := rr_cells hk
  have CT := hide (thereR_at q k w c0)
  have CM := hide (marks_any ck)
  clear h hc hk ck
  generalize L.length = n at *
  go_enter Tryz.func23, Tryz.ntmps23
  go_wp2_with fail
  refine CT.out.mono ?_
  rintro e w9 ⟨rfl, rfl⟩
  clear CT
  go_wp2_with fail
  refine CM.out.mono ?_
  rintro e w9 ⟨a, k, rfl, ow, t9⟩
  have OW := hide ow
  have TT := hide t9
  clear CM ow t9
  go_wp2_with fail
  go_ret
  exact ⟨a, k, rfl, OW.out, TT.out⟩

set_option maxRecDepth 100000 in
set_option maxHeartbeats 1000000 in
theorem workR_any {w : World} {q : Nat} {G : Nat → Prop} {c : Cf} {p g : Nat} {L : List Int} {s : Int} (x : ByteArray) (h : Pr w q G c p L s) (hS : Sit c p g L) (hx : x.size < 9223372036854775808) : Calls Tryz.prog 21 #[cp q, .string x] w fun e w' => e = .returned (if x.size ≤ 256 then .tuple #[.int .i64 (wk p g (hsh x % g) : Nat), .int .i64 0] else .tuple #[.int .i64 0, .int .i64 5]) ∧ Calm w w' := by
  obtain ⟨k, qc, Gc, hc, ck⟩ := h.see
  obtain ⟨c0, hk⟩ := hc w (Touch.refl _ _)
  have CT := hide (thereR_at q k w c0)
  have CO := hide (fun W => ofP_any x ⟨hx⟩ p g hS.may W)
  have KQ := hide hc
  have hg := hS.gr
  clear h hc hk ck hS
  by_cases hl : x.size ≤ 256
  · simp only [if_pos hl] at CO ⊢
    generalize wk p g (hsh x % g) = K at *
    clear hl
    go_enter Tryz.func21, Tryz.ntmps21
    go_wp2_with fail
    refine CT.out.mono ?_
    rintro e w9 ⟨rfl, rfl⟩
    clear CT c0
    go_wp2_with fail
    refine wp_region_held (S := Calm w9) (by kernel_rfl) ?_
    have hT0 : Calm w9 { w9 with drawn := w9.drawn + 1 } := (Touch.refl _ w9).drew
    refine wpAnyH_yield 0 12 (.string x) rfl rfl (by kernel_rfl) (by kernel_rfl) (by kernel_rfl) (fun _ _ _ h => h) (by kernel_rfl) (fun W hW => by kernel_rfl) (by assumption) rfl rfl ?_
    simp only [Act.put, List.setIfInBounds_toArray, List.set_cons_zero, List.set_cons_succ]
    refine wpAnyH_yield 1 13 (cp q) rfl rfl (by kernel_rfl) (by kernel_rfl) (by kernel_rfl) (fun _ _ _ h => h) (by kernel_rfl) (fun W hW => by kernel_rfl) (by assumption) rfl rfl ?_
    simp only [Act.put, List.setIfInBounds_toArray, List.set_cons_zero, List.set_cons_succ]
    refine wpAnyH_yield 2 14 (cp q) rfl rfl (by kernel_rfl) (by kernel_rfl) (by kernel_rfl) (fun _ _ _ h => h) (by kernel_rfl) (fun W hW => by go_simp) (by assumption) rfl rfl ?_
    simp only [Act.put, List.setIfInBounds_toArray, List.set_cons_zero, List.set_cons_succ]
    refine wpAnyH_yield 3 15 (.pointer (some ⟨q, 0, none⟩)) rfl rfl (by kernel_rfl) (by kernel_rfl) (by kernel_rfl) (fun _ _ _ h => h) (by kernel_rfl) (fun W hW => by go_simp) (by assumption) rfl rfl ?_
    simp only [Act.put, List.setIfInBounds_toArray, List.set_cons_zero, List.set_cons_succ]
    refine wpAnyH_yield 4 16 (cp k) rfl rfl (by kernel_rfl) (by kernel_rfl) (by kernel_rfl) (fun _ _ _ h => h) (by kernel_rfl) (fun W hW => by obtain ⟨k0, -⟩ := KQ.out W hW; go_simp) (by assumption) rfl rfl ?_
    simp only [Act.put, List.setIfInBounds_toArray, List.set_cons_zero, List.set_cons_succ]
    refine wpAnyH_yield 5 17 (cp k) rfl rfl (by kernel_rfl) (by kernel_rfl) (by kernel_rfl) (fun _ _ _ h => h) (by kernel_rfl) (fun W hW => by go_simp) (by assumption) rfl rfl ?_
    simp only [Act.put, List.setIfInBounds_toArray, List.set_cons_zero, List.set_cons_succ]
    refine wpAnyH_yield 6 18 (.pointer (some ⟨k, 10, none⟩)) rfl rfl (by kernel_rfl) (by kernel_rfl) (by kernel_rfl) (fun _ _ _ h => h) (by kernel_rfl) (fun W hW => by go_simp) (by assumption) rfl rfl ?_
    simp only [Act.put, List.setIfInBounds_toArray, List.set_cons_zero, List.set_cons_succ]
    refine wpAnyH_yield 7 19 (.int .i64 (p : Int)) rfl rfl (by kernel_rfl) (by kernel_rfl) (by kernel_rfl) (fun _ _ _ h => h) (by kernel_rfl) (fun W hW => by obtain ⟨-, k0, -⟩ := rr_cells (KQ.out W hW).2; go_simp) (by assumption) rfl rfl ?_
    simp only [Act.put, List.setIfInBounds_toArray, List.set_cons_zero, List.set_cons_succ]
    refine wpAnyH_yield 8 20 (cp q) rfl rfl (by kernel_rfl) (by kernel_rfl) (by kernel_rfl) (fun _ _ _ h => h) (by kernel_rfl) (fun W hW => by kernel_rfl) (by assumption) rfl rfl ?_
    simp only [Act.put, List.setIfInBounds_toArray, List.set_cons_zero, List.set_cons_succ]
    refine wpAnyH_yield 9 21 (cp q) rfl rfl (by kernel_rfl) (by kernel_rfl) (by kernel_rfl) (fun _ _ _ h => h) (by kernel_rfl) (fun W hW => by go_simp) (by assumption) rfl rfl ?_
    simp only [Act.put, List.setIfInBounds_toArray, List.set_cons_zero, List.set_cons_succ]
    refine wpAnyH_yield 10 22 (.pointer (some ⟨q, 0, none⟩)) rfl rfl (by kernel_rfl) (by kernel_rfl) (by kernel_rfl) (fun _ _ _ h => h) (by kernel_rfl) (fun W hW => by go_simp) (by assumption) rfl rfl ?_
    simp only [Act.put, List.setIfInBounds_toArray, List.set_cons_zero, List.set_cons_succ]
    refine wpAnyH_yield 11 23 (cp k) rfl rfl (by kernel_rfl) (by kernel_rfl) (by kernel_rfl) (fun _ _ _ h => h) (by kernel_rfl) (fun W hW => by obtain ⟨k0, -⟩ := KQ.out W hW; go_simp) (by assumption) rfl rfl ?_
    simp only [Act.put, List.setIfInBounds_toArray, List.set_cons_zero, List.set_cons_succ]
    refine wpAnyH_yield 12 24 (cp k) rfl rfl (by kernel_rfl) (by kernel_rfl) (by kernel_rfl) (fun _ _ _ h => h) (by kernel_rfl) (fun W hW => by go_simp) (by assumption) rfl rfl ?_
    simp only [Act.put, List.setIfInBounds_toArray, List.set_cons_zero, List.set_cons_succ]
    refine wpAnyH_yield 13 25 (.pointer (some ⟨k, 0, none⟩)) rfl rfl (by kernel_rfl) (by kernel_rfl) (by kernel_rfl) (fun _ _ _ h => h) (by kernel_rfl) (fun W hW => by go_simp) (by assumption) rfl rfl ?_
    simp only [Act.put, List.setIfInBounds_toArray, List.set_cons_zero, List.set_cons_succ]
    refine wpAnyH_yield 14 26 (.pointer (some ⟨k, 0, none⟩)) rfl rfl (by kernel_rfl) (by kernel_rfl) (by kernel_rfl) (fun _ _ _ h => h) (by kernel_rfl) (fun W hW => by go_simp) (by assumption) rfl rfl ?_
    simp only [Act.put, List.setIfInBounds_toArray, List.set_cons_zero, List.set_cons_succ]
    refine wpAnyH_yield 15 27 (.int .i64 (g : Int)) rfl rfl (by kernel_rfl) (by kernel_rfl) (by kernel_rfl) (fun _ _ _ h => h) (by kernel_rfl) (fun W hW => by obtain ⟨⟨k0, -⟩, -⟩ := rr_cells (KQ.out W hW).2; rw [hg] at k0; go_simp) (by assumption) rfl rfl ?_
    simp only [Act.put, List.setIfInBounds_toArray, List.set_cons_zero, List.set_cons_succ]
    refine wpAnyH_enter 16 28 37 #[.string x, .int .i64 (p : Int), .int .i64 (g : Int)] rfl rfl (by kernel_rfl) (by kernel_rfl) (by kernel_rfl) ?_
    refine ((CO.out _)).mono ?_
    rintro r w4 ⟨rfl, rfl⟩
    refine ⟨_, rfl, hT0, ?_⟩
    simp only [Act.put, List.setIfInBounds_toArray, List.set_cons_zero, List.set_cons_succ]
    refine wpAnyH_yield 17 11 (.tuple #[.int .i64 (K : Int), .int .i64 0]) rfl rfl (by kernel_rfl) (by kernel_rfl) (by kernel_rfl) (fun _ _ _ h => h) (by kernel_rfl) (fun W hW => by kernel_rfl) (by assumption) rfl rfl ?_
    simp only [Act.put, List.setIfInBounds_toArray, List.set_cons_zero, List.set_cons_succ]
    refine wpAnyH_yield 18 29 (.int .i64 (K : Int)) rfl rfl (by kernel_rfl) (by kernel_rfl) (by kernel_rfl) (fun _ _ _ h => h) (by kernel_rfl) (fun W hW => by kernel_rfl) (by assumption) rfl rfl ?_
    simp only [Act.put, List.setIfInBounds_toArray, List.set_cons_zero, List.set_cons_succ]
    refine wpAnyH_yield 19 30 (.int .i64 0) rfl rfl (by kernel_rfl) (by kernel_rfl) (by kernel_rfl) (fun _ _ _ h => h) (by kernel_rfl) (fun W hW => by kernel_rfl) (by assumption) rfl rfl ?_
    simp only [Act.put, List.setIfInBounds_toArray, List.set_cons_zero, List.set_cons_succ]
    refine wpAnyH_yield 20 6 (.int .i64 (K : Int)) rfl rfl (by kernel_rfl) (by kernel_rfl) (by kernel_rfl) (fun _ _ _ h => h) (by kernel_rfl) (fun W hW => by kernel_rfl) (by assumption) rfl rfl ?_
    simp only [Act.put, List.setIfInBounds_toArray, List.set_cons_zero, List.set_cons_succ]
    refine wpAnyH_yield 21 7 (.int .i64 0) rfl rfl (by kernel_rfl) (by kernel_rfl) (by kernel_rfl) (fun _ _ _ h => h) (by kernel_rfl) (fun W hW => by kernel_rfl) (by assumption) rfl rfl ?_
    simp only [Act.put, List.setIfInBounds_toArray, List.set_cons_zero, List.set_cons_succ]
    refine wpAnyH_done (by kernel_rfl) ?_ _
    have HT := hide hT0
    clear hT0 KQ CO
    go_wp2_with fail
    go_ret2
    exact ⟨rfl, HT.out⟩
  · simp only [if_neg hl] at CO ⊢
    clear hl
    go_enter Tryz.func21, Tryz.ntmps21
    go_wp2_with fail
    refine CT.out.mono ?_
    rintro e w9 ⟨rfl, rfl⟩
    clear CT c0
    go_wp2_with fail
    refine wp_region_held (S := Calm w9) (by kernel_rfl) ?_
    have hT0 : Calm w9 { w9 with drawn := w9.drawn + 1 } := (Touch.refl _ w9).drew
    refine wpAnyH_yield 0 12 (.string x) rfl rfl (by kernel_rfl) (by kernel_rfl) (by kernel_rfl) (fun _ _ _ h => h) (by kernel_rfl) (fun W hW => by kernel_rfl) (by assumption) rfl rfl ?_
    simp only [Act.put, List.setIfInBounds_toArray, List.set_cons_zero, List.set_cons_succ]
    refine wpAnyH_yield 1 13 (cp q) rfl rfl (by kernel_rfl) (by kernel_rfl) (by kernel_rfl) (fun _ _ _ h => h) (by kernel_rfl) (fun W hW => by kernel_rfl) (by assumption) rfl rfl ?_
    simp only [Act.put, List.setIfInBounds_toArray, List.set_cons_zero, List.set_cons_succ]
    refine wpAnyH_yield 2 14 (cp q) rfl rfl (by kernel_rfl) (by kernel_rfl) (by kernel_rfl) (fun _ _ _ h => h) (by kernel_rfl) (fun W hW => by go_simp) (by assumption) rfl rfl ?_
    simp only [Act.put, List.setIfInBounds_toArray, List.set_cons_zero, List.set_cons_succ]
    refine wpAnyH_yield 3 15 (.pointer (some ⟨q, 0, none⟩)) rfl rfl (by kernel_rfl) (by kernel_rfl) (by kernel_rfl) (fun _ _ _ h => h) (by kernel_rfl) (fun W hW => by go_simp) (by assumption) rfl rfl ?_
    simp only [Act.put, List.setIfInBounds_toArray, List.set_cons_zero, List.set_cons_succ]
    refine wpAnyH_yield 4 16 (cp k) rfl rfl (by kernel_rfl) (by kernel_rfl) (by kernel_rfl) (fun _ _ _ h => h) (by kernel_rfl) (fun W hW => by obtain ⟨k0, -⟩ := KQ.out W hW; go_simp) (by assumption) rfl rfl ?_
    simp only [Act.put, List.setIfInBounds_toArray, List.set_cons_zero, List.set_cons_succ]
    refine wpAnyH_yield 5 17 (cp k) rfl rfl (by kernel_rfl) (by kernel_rfl) (by kernel_rfl) (fun _ _ _ h => h) (by kernel_rfl) (fun W hW => by go_simp) (by assumption) rfl rfl ?_
    simp only [Act.put, List.setIfInBounds_toArray, List.set_cons_zero, List.set_cons_succ]
    refine wpAnyH_yield 6 18 (.pointer (some ⟨k, 10, none⟩)) rfl rfl (by kernel_rfl) (by kernel_rfl) (by kernel_rfl) (fun _ _ _ h => h) (by kernel_rfl) (fun W hW => by go_simp) (by assumption) rfl rfl ?_
    simp only [Act.put, List.setIfInBounds_toArray, List.set_cons_zero, List.set_cons_succ]
    refine wpAnyH_yield 7 19 (.int .i64 (p : Int)) rfl rfl (by kernel_rfl) (by kernel_rfl) (by kernel_rfl) (fun _ _ _ h => h) (by kernel_rfl) (fun W hW => by obtain ⟨-, k0, -⟩ := rr_cells (KQ.out W hW).2; go_simp) (by assumption) rfl rfl ?_
    simp only [Act.put, List.setIfInBounds_toArray, List.set_cons_zero, List.set_cons_succ]
    refine wpAnyH_yield 8 20 (cp q) rfl rfl (by kernel_rfl) (by kernel_rfl) (by kernel_rfl) (fun _ _ _ h => h) (by kernel_rfl) (fun W hW => by kernel_rfl) (by assumption) rfl rfl ?_
    simp only [Act.put, List.setIfInBounds_toArray, List.set_cons_zero, List.set_cons_succ]
    refine wpAnyH_yield 9 21 (cp q) rfl rfl (by kernel_rfl) (by kernel_rfl) (by kernel_rfl) (fun _ _ _ h => h) (by kernel_rfl) (fun W hW => by go_simp) (by assumption) rfl rfl ?_
    simp only [Act.put, List.setIfInBounds_toArray, List.set_cons_zero, List.set_cons_succ]
    refine wpAnyH_yield 10 22 (.pointer (some ⟨q, 0, none⟩)) rfl rfl (by kernel_rfl) (by kernel_rfl) (by kernel_rfl) (fun _ _ _ h => h) (by kernel_rfl) (fun W hW => by go_simp) (by assumption) rfl rfl ?_
    simp only [Act.put, List.setIfInBounds_toArray, List.set_cons_zero, List.set_cons_succ]
    refine wpAnyH_yield 11 23 (cp k) rfl rfl (by kernel_rfl) (by kernel_rfl) (by kernel_rfl) (fun _ _ _ h => h) (by kernel_rfl) (fun W hW => by obtain ⟨k0, -⟩ := KQ.out W hW; go_simp) (by assumption) rfl rfl ?_
    simp only [Act.put, List.setIfInBounds_toArray, List.set_cons_zero, List.set_cons_succ]
    refine wpAnyH_yield 12 24 (cp k) rfl rfl (by kernel_rfl) (by kernel_rfl) (by kernel_rfl) (fun _ _ _ h => h) (by kernel_rfl) (fun W hW => by go_simp) (by assumption) rfl rfl ?_
    simp only [Act.put, List.setIfInBounds_toArray, List.set_cons_zero, List.set_cons_succ]
    refine wpAnyH_yield 13 25 (.pointer (some ⟨k, 0, none⟩)) rfl rfl (by kernel_rfl) (by kernel_rfl) (by kernel_rfl) (fun _ _ _ h => h) (by kernel_rfl) (fun W hW => by go_simp) (by assumption) rfl rfl ?_
    simp only [Act.put, List.setIfInBounds_toArray, List.set_cons_zero, List.set_cons_succ]
    refine wpAnyH_yield 14 26 (.pointer (some ⟨k, 0, none⟩)) rfl rfl (by kernel_rfl) (by kernel_rfl) (by kernel_rfl) (fun _ _ _ h => h) (by kernel_rfl) (fun W hW => by go_simp) (by assumption) rfl rfl ?_
    simp only [Act.put, List.setIfInBounds_toArray, List.set_cons_zero, List.set_cons_succ]
    refine wpAnyH_yield 15 27 (.int .i64 (g : Int)) rfl rfl (by kernel_rfl) (by kernel_rfl) (by kernel_rfl) (fun _ _ _ h => h) (by kernel_rfl) (fun W hW => by obtain ⟨⟨k0, -⟩, -⟩ := rr_cells (KQ.out W hW).2; rw [hg] at k0; go_simp) (by assumption) rfl rfl ?_
    simp only [Act.put, List.setIfInBounds_toArray, List.set_cons_zero, List.set_cons_succ]
    refine wpAnyH_enter 16 28 37 #[.string x, .int .i64 (p : Int), .int .i64 (g : Int)] rfl rfl (by kernel_rfl) (by kernel_rfl) (by kernel_rfl) ?_
    refine ((CO.out _)).mono ?_
    rintro r w4 ⟨rfl, rfl⟩
    refine ⟨_, rfl, hT0, ?_⟩
    simp only [Act.put, List.setIfInBounds_toArray, List.set_cons_zero, List.set_cons_succ]
    refine wpAnyH_yield 17 11 (.tuple #[.int .i64 0, .int .i64 3]) rfl rfl (by kernel_rfl) (by kernel_rfl) (by kernel_rfl) (fun _ _ _ h => h) (by kernel_rfl) (fun W hW => by kernel_rfl) (by assumption) rfl rfl ?_
    simp only [Act.put, List.setIfInBounds_toArray, List.set_cons_zero, List.set_cons_succ]
    refine wpAnyH_yield 18 29 (.int .i64 0) rfl rfl (by kernel_rfl) (by kernel_rfl) (by kernel_rfl) (fun _ _ _ h => h) (by kernel_rfl) (fun W hW => by kernel_rfl) (by assumption) rfl rfl ?_
    simp only [Act.put, List.setIfInBounds_toArray, List.set_cons_zero, List.set_cons_succ]
    refine wpAnyH_yield 19 30 (.int .i64 3) rfl rfl (by kernel_rfl) (by kernel_rfl) (by kernel_rfl) (fun _ _ _ h => h) (by kernel_rfl) (fun W hW => by kernel_rfl) (by assumption) rfl rfl ?_
    simp only [Act.put, List.setIfInBounds_toArray, List.set_cons_zero, List.set_cons_succ]
    refine wpAnyH_yield 20 6 (.int .i64 0) rfl rfl (by kernel_rfl) (by kernel_rfl) (by kernel_rfl) (fun _ _ _ h => h) (by kernel_rfl) (fun W hW => by kernel_rfl) (by assumption) rfl rfl ?_
    simp only [Act.put, List.setIfInBounds_toArray, List.set_cons_zero, List.set_cons_succ]
    refine wpAnyH_yield 21 7 (.int .i64 3) rfl rfl (by kernel_rfl) (by kernel_rfl) (by kernel_rfl) (fun _ _ _ h => h) (by kernel_rfl) (fun W hW => by kernel_rfl) (by assumption) rfl rfl ?_
    simp only [Act.put, List.setIfInBounds_toArray, List.set_cons_zero, List.set_cons_succ]
    refine wpAnyH_done (by kernel_rfl) ?_ _
    have HT := hide hT0
    clear hT0 KQ CO
    go_wp2_with fail
    go_ret2
    exact ⟨rfl, HT.out⟩

end Go.Proofs.YtapnjofplilefaaGreat

namespace Go.Proofs.YtapnjofplilefaaGreat
open Go.RowKit

theorem take_any {w : World} {k : Nat} {G : Nat → Prop} {c : Cf} {p g : Nat} {L : List Int} {s : Int} (x : It) (h : Kno w k G c p L s) (hS : Sit c p g L) (hz : itemZ c x = true) : Calls Tryz.prog 36 #[cp k, itv x] w fun e w' => ∃ a kc, e = .returned (.slice a (itemA p g L s x).length kc) ∧ encSn.Own 65 w' w.heap.size (.slice a (itemA p g L s x).length kc) (itemA p g L s x) ∧ Touch G w w' ∧ Kno w' k G c p (itemL L x) (nxt s) := by
  rcases itemZ_k hz with e | e | e
  · exact take_1 x h hS hz e
  · exact take_2 x h hS hz e
  · exact take_3 x h hS e

theorem Pr.taken {w w' : World} {q k : Nat} {G Gk : Nat → Prop} {c : Cf} {p : Nat} {L L' : List Int} {s s' : Int} (h : Pr w q G c p L s) (hq : w.heap[q]? = some (.cells #[cp k] 91 (0, 0))) (hg : ∀ g, Gk g → G g ∧ g ≠ q) (ht : Touch Gk w w') (hk : Kno w' k Gk c p L' s') : Pr w' q G c p L' s' :=
  ⟨⟨k, Gk, ht.heap hq (fun e => (hg q e).2 rfl), hk, hg⟩, h.job, h.at_, fun g hh => Nat.lt_of_lt_of_le (h.lt g hh) ht.size⟩

set_option maxRecDepth 100000 in
set_option maxHeartbeats 4000000 in
theorem itemsR_any {w : World} {q : Nat} {G : Nat → Prop} {c : Cf} {p g : Nat} {L : List Int} {s : Int} (M : List It) (mo : Option Addr) (mc : Nat) (h : Pr w q G c p L s) (hS : Sit c p g L) (hM : encI.Sl w mo mc M) (hF : ∀ a, mo = some a → M ≠ [] → ¬ G a.block) (hl : M.length ≤ 10000000) : Calls Tryz.prog 19 #[cp q, .slice mo M.length mc] w fun e w' => ∃ a k, e = .returned (.tuple #[.slice a (goA p g L s (taken c M)).length k, .int .i64 ((taken c M).length : Nat), .int .i64 (itemsE c M : Nat)]) ∧ encSn.Own 65 w' w.heap.size (.slice a (goA p g L s (taken c M)).length k) (goA p g L s (taken c M)) ∧ Touch G w w' ∧ Pr w' q G c p (goL L (taken c M)) (goS s (taken c M)) ∧ ((taken c M).length = 0 → Calm w w') := by
  have LT := hide h.lt
  have H0Q := hide h.at_
  have KI : Hid (∀ j, j < M.length → ∃ g off, mo = some ⟨g, off, none⟩ ∧ ∀ W, Touch G w W →
    W.cell? ⟨g, off + j * 5, none⟩ = some (.int .i64 (M.getD j it0).ki) ∧ W.cell? ⟨g, off + j * 5 + 1, none⟩ = some (.string (M.getD j it0).ke) ∧ W.cell? ⟨g, off + j * 5 + 2, none⟩ = some (.int .i64 (M.getD j it0).tm) ∧ W.cell? ⟨g, off + j * 5 + 3, none⟩ = some (.int .i64 (M.getD j it0).va) ∧ W.cell? ⟨g, off + j * 5 + 4, none⟩ = some (.int .i64 (M.getD j it0).sr)) := hide fun j hj => items_W hM.mem hF j hj
  obtain ⟨A, hA⟩ : ∃ A, A = goA p g L s (taken c M) := ⟨_, rfl⟩
  obtain ⟨T, hT⟩ : ∃ T : Nat, T = (taken c M).length := ⟨_, rfl⟩
  obtain ⟨E, hE⟩ : ∃ E : Nat, E = itemsE c M := ⟨_, rfl⟩
  obtain ⟨L9, hL9⟩ : ∃ L9, L9 = goL L (taken c M) := ⟨_, rfl⟩
  obtain ⟨s9, hs9⟩ : ∃ s9, s9 = goS s (taken c M) := ⟨_, rfl⟩
  simp only [← hA, ← hT, ← hE, ← hL9, ← hs9]
  have HA := hide hA
  have HT := hide hT
  have HE := hide hE
  have HL9 := hide hL9
  have HS9 := hide hs9
  have H0 := hide h
  have CI : Hid (∀ x W, Calls Tryz.prog 35 #[cfv c, itv x] W fun e w' => e = .returned (.int .i64 (if itemZ c x then 0 else 5)) ∧ Calm W w') := hide fun x W => by
    have := item_any c x W
    unfold itemN at this
    rw [if_neg (fun hh => hh (wrong_job0 h.job)), item_is] at this
    refine this.mono fun e w' hh => ⟨?_, hh.2⟩
    rw [hh.1]
    cases itemZ c x <;> rfl
  have CT : Hid (Calls Tryz.prog 31 #[cp q] w fun e w' => e = .returned (.bool true) ∧ w' = w) := hide (by
    obtain ⟨k, qc, Gc, hc, -⟩ := h.see
    exact thereR_at q k w (hc w (Touch.refl _ _)).1)
  clear hA hT hE hL9 hs9 hM hF h
  obtain ⟨n, hn⟩ : ∃ n, n = M.length := ⟨_, rfl⟩
  rw [← hn] at KI hl ⊢
  have HN := hide hn
  clear hn
  go_enter Tryz.func19, Tryz.ntmps19
  go_wp2_with fail
  refine CT.out.mono ?_
  rintro e w9 ⟨rfl, rfl⟩
  clear CT
  go_wp2_with fail
  go_loopw [7, 8, 9, 10, 16] (fun s7 s8 s9 s10 s16 wr => ∃ (i : Nat) (a : Option Addr) (m k : Nat), s16 = .int .i64 (i : Int) ∧ i ≤ n ∧ s7 = .slice a m k ∧ Hid (m = (goA p g L s (M.take i)).length ∧ (∀ j, j < i → itemZ c (M.getD j it0) = true)) ∧ Hid (encSn.Own 65 wr w9.heap.size (.slice a m k) (goA p g L s (M.take i))) ∧ Hid (Pr wr q G c p (goL L (M.take i)) (goS s (M.take i))) ∧ Hid (Touch G w9 wr ∧ (i = 0 → Calm w9 wr))) (fun _ _ _ _ s16 _ => n - (intOf s16).toNat)
  case atStart => exact ⟨0, none, 0, 0, rfl, by omega, rfl, hide ⟨rfl, fun j hj => absurd hj (by omega)⟩, hide (Rc.Own.nil _ _ _), hide H0.out, hide ⟨Touch.refl _ _, fun _ => Touch.refl _ _⟩⟩
  case round =>
    obtain ⟨i, a, m, k, rfl, hi, rfl, HM, HO, HR, HTT⟩ := hrel
    have HT2 := hide HTT.out.1
    have HTZ := hide HTT.out.2
    clear HTT
    by_cases hlt : i < n
    · have hltz : (i : Int) < (n : Int) := by omega
      have z0 : ¬ (n : Int) ≤ (i : Int) := by omega
      obtain ⟨gg, off, rfl, ci⟩ := KI.out i hlt
      obtain ⟨i0, i1, i2, i3, i4⟩ := ci wr HT2.out
      have HiM : Hid (i < M.length) := hide (by have := HN.out; omega)
      have zw : IntKind.i64.wrap ((i : Int) + 1) = ((i + 1 : Nat) : Int) := by rw [IntKind.wrap_i64]; omega
      have CI1 := hide (CI.out (M.getD i it0))
      obtain ⟨kk, Gk, hq, hk, hgk⟩ := HR.out.ex
      obtain ⟨qc, Gc, hk3, -, -⟩ := hk.ex
      have HQ := hide hq
      have HK := hide hk
      have HGK := hide hgk
      have HK3 := hide hk3
      clear hq hk hgk hk3
      cases hz : itemZ c (M.getD i it0) with
      | false =>
        rw [hz] at CI1
        have F1 := hide (taken_stop c M i HiM.out HM.out.2 hz)
        have FIN : Hid (m = A.length ∧ i = T ∧ 5 = E ∧ encSn.Own 65 wr w9.heap.size (.slice a m k) A ∧ Pr wr q G c p L9 s9) := hide (by
          obtain ⟨f1, f2⟩ := F1.out
          refine ⟨?_, ?_, ?_, ?_, ?_⟩
          · rw [HA.out, f1]; exact HM.out.1
          · rw [HT.out, f1, List.length_take]; have := HiM.out; omega
          · rw [HE.out, f2]
          · rw [HA.out, f1]; exact HO.out
          · rw [HL9.out, HS9.out, f1]; exact HR.out)
        have OL : Hid (∀ W, Calm wr W → encSn.Own 65 W w9.heap.size (.slice a A.length k) A ∧ Touch G w9 W ∧ Pr W q G c p L9 s9 ∧ (T = 0 → Calm w9 W)) := hide fun W hW => ⟨by rw [← FIN.out.1]; exact Rc.Own.calm FIN.out.2.2.2.1 hW, Touch.trans HT2.out (hW.mono (S' := G) fun _ _ h => h.elim) fun _ _ h => h, FIN.out.2.2.2.2.calm hW, fun e => (HTZ.out (FIN.out.2.1.trans e)).tr hW⟩
        generalize M.getD i it0 = x at *
        obtain ⟨ki, ke, tm, va, sr⟩ := x
        have A0 := hide (al_new wr (.cells (itc ⟨ki, ke, tm, va, sr⟩) 60))
        have TA := hide ((Touch.refl (fun _ => False) wr).alloc (.cells (itc ⟨ki, ke, tm, va, sr⟩) 60))
        clear ci F1 HM HO HR HT2 HTZ hz H0 LT KI CI
        go_wp2_with fail
        generalize wr.alloc (.cells (itc ⟨ki, ke, tm, va, sr⟩) 60) = w1 at *
        generalize hD : wr.heap.size = D at *
        have HD := hide hD
        clear hD i0 i1 i2 i3 i4
        refine wp_region_held (S := Calm w1) (by kernel_rfl) ?_
        have hT0 : Calm w1 { w1 with drawn := w1.drawn + 1 } := (Touch.refl _ w1).drew
        refine wpAnyH_yield 0 21 (cp q) rfl rfl (by kernel_rfl) (by kernel_rfl) (by kernel_rfl) (fun _ _ _ h => h) (by kernel_rfl) (fun W hW => by kernel_rfl) (by assumption) rfl rfl ?_
        simp only [Act.put, List.setIfInBounds_toArray, List.set_cons_zero, List.set_cons_succ]
        refine wpAnyH_yield 1 22 (cp q) rfl rfl (by kernel_rfl) (by kernel_rfl) (by kernel_rfl) (fun _ _ _ h => h) (by kernel_rfl) (fun W hW => by go_simp) (by assumption) rfl rfl ?_
        simp only [Act.put, List.setIfInBounds_toArray, List.set_cons_zero, List.set_cons_succ]
        refine wpAnyH_yield 2 23 (.pointer (some ⟨q, 0, none⟩)) rfl rfl (by kernel_rfl) (by kernel_rfl) (by kernel_rfl) (fun _ _ _ h => h) (by kernel_rfl) (fun W hW => by go_simp) (by assumption) rfl rfl ?_
        simp only [Act.put, List.setIfInBounds_toArray, List.set_cons_zero, List.set_cons_succ]
        refine wpAnyH_yield 3 24 (cp kk) rfl rfl (by kernel_rfl) (by kernel_rfl) (by kernel_rfl) (fun _ _ _ h => h) (by kernel_rfl) (fun W hW => by have k0 := (one_cell ((TA.out.tr hW).at HQ.out)).1; go_simp) (by assumption) rfl rfl ?_
        simp only [Act.put, List.setIfInBounds_toArray, List.set_cons_zero, List.set_cons_succ]
        refine wpAnyH_yield 4 25 (cp kk) rfl rfl (by kernel_rfl) (by kernel_rfl) (by kernel_rfl) (fun _ _ _ h => h) (by kernel_rfl) (fun W hW => by go_simp) (by assumption) rfl rfl ?_
        simp only [Act.put, List.setIfInBounds_toArray, List.set_cons_zero, List.set_cons_succ]
        refine wpAnyH_yield 5 26 (.pointer (some ⟨kk, 0, none⟩)) rfl rfl (by kernel_rfl) (by kernel_rfl) (by kernel_rfl) (fun _ _ _ h => h) (by kernel_rfl) (fun W hW => by go_simp) (by assumption) rfl rfl ?_
        simp only [Act.put, List.setIfInBounds_toArray, List.set_cons_zero, List.set_cons_succ]
        refine wpAnyH_yield 6 27 (cfv c) rfl rfl (by kernel_rfl) (by kernel_rfl) (by kernel_rfl) (fun _ _ _ h => h) (by kernel_rfl) (fun W hW => by obtain ⟨⟨k0, k1, k2, k3, k4, k5, k6, k7, k8, k9⟩, -⟩ := rr_cells ((TA.out.tr hW).at HK3.out); go_simp) (by assumption) rfl rfl ?_
        simp only [Act.put, List.setIfInBounds_toArray, List.set_cons_zero, List.set_cons_succ]
        refine wpAnyH_yield 7 28 (itv ⟨ki, ke, tm, va, sr⟩) rfl rfl (by kernel_rfl) (by kernel_rfl) (by kernel_rfl) (fun _ _ _ h => h) (by kernel_rfl) (fun W hW => by obtain ⟨k0, k1, k2, k3, k4⟩ := it_cells (hW.at A0.out); go_simp) (by assumption) rfl rfl ?_
        simp only [Act.put, List.setIfInBounds_toArray, List.set_cons_zero, List.set_cons_succ]
        refine wpAnyH_enter 8 29 35 #[cfv c, itv ⟨ki, ke, tm, va, sr⟩] rfl rfl (by kernel_rfl) (by kernel_rfl) (by kernel_rfl) ?_
        refine ((CI1.out _)).mono ?_
        rintro r w2 ⟨rfl, T2⟩
        refine ⟨_, rfl, hT0.tr T2, ?_⟩
        simp only [Act.put, List.setIfInBounds_toArray, List.set_cons_zero, List.set_cons_succ]
        have T3 := hT0.tr T2
        refine wpAnyH_yield 9 10 (.int .i64 5) rfl rfl (by kernel_rfl) (by kernel_rfl) (by kernel_rfl) (fun _ _ _ h => h) (by kernel_rfl) (fun W hW => by kernel_rfl) (by assumption) rfl rfl ?_
        simp only [Act.put, List.setIfInBounds_toArray, List.set_cons_zero, List.set_cons_succ]
        refine wpAnyH_done (by kernel_rfl) ?_ _
        have HF := hide (OL.out _ (TA.out.tr T3))
        clear T2 T3 hT0 OL CI1 A0 TA HQ HK HGK HK3
        go_wp2_with fail
        go_ret3
        obtain ⟨f1, f2, f3, -⟩ := FIN.out
        obtain ⟨g1, g2, g3⟩ := HF.out
        exact ⟨a, k, by rw [← f2, ← f3, ← f1]; rfl, g1, g2, g3⟩
      | true =>
        rw [hz] at CI1
        have SI := hide (hS.go (M.take i))
        obtain ⟨B, hB⟩ : ∃ B, B = itemA p g (goL L (M.take i)) (goS s (M.take i)) (M.getD i it0) := ⟨_, rfl⟩
        have TK : Hid (∀ W, Kno W kk Gk c p (goL L (M.take i)) (goS s (M.take i)) → Calls Tryz.prog 36 #[cp kk, itv (M.getD i it0)] W fun e w' => ∃ a kc, e = .returned (.slice a B.length kc) ∧ encSn.Own 65 w' W.heap.size (.slice a B.length kc) B ∧ Touch Gk W w' ∧ Kno w' kk Gk c p (goL L (M.take (i + 1))) (goS s (M.take (i + 1)))) := hide fun W hW => by
          have := take_any (M.getD i it0) hW SI.out hz
          rw [← hB] at this
          rw [take_snoc M i HiM.out, goL_snoc, goS_snoc]
          exact this
        have HG : Hid (goA p g L s (M.take (i + 1)) = goA p g L s (M.take i) ++ B ∧ (∀ j, j < i + 1 → itemZ c (M.getD j it0) = true)) := hide (by
          rw [take_snoc M i HiM.out, goA_snoc, hB]
          refine ⟨rfl, fun j hj => ?_⟩
          by_cases h : j < i
          · exact HM.out.2 j h
          · obtain rfl : j = i := by omega
            exact hz)
        have HBL : Hid (B.length ≤ 32768 ∧ (goA p g L s (M.take i)).length ≤ 10000000 * 32768) := hide (by
          refine ⟨by rw [hB]; exact itemA_len SI.out _ _, ?_⟩
          have h1 := goA_len (M.take i) s hS
          have h2 : (M.take i).length ≤ 10000000 := by rw [List.length_take]; omega
          have := Nat.mul_le_mul_right 32768 h2
          omega)
        clear hB
        have OM : Hid (m = (goA p g L s (M.take i)).length) := hide HM.out.1
        generalize hA1 : goA p g L s (M.take i) = A1 at *
        have HA1 := hide hA1
        generalize M.getD i it0 = x at *
        obtain ⟨ki, ke, tm, va, sr⟩ := x
        have A0 := hide (al_new wr (.cells (itc ⟨ki, ke, tm, va, sr⟩) 60))
        have TA := hide ((Touch.refl (fun _ => False) wr).alloc (.cells (itc ⟨ki, ke, tm, va, sr⟩) 60))
        clear ci hz H0 KI HM SI CI hA1
        go_wp2_with fail
        generalize wr.alloc (.cells (itc ⟨ki, ke, tm, va, sr⟩) 60) = w1 at *
        generalize hD : wr.heap.size = D at *
        have HD := hide hD
        clear hD i0 i1 i2 i3 i4
        refine wp_region_held (S := Calm w1) (by kernel_rfl) ?_
        have hT0 : Calm w1 { w1 with drawn := w1.drawn + 1 } := (Touch.refl _ w1).drew
        refine wpAnyH_yield 0 21 (cp q) rfl rfl (by kernel_rfl) (by kernel_rfl) (by kernel_rfl) (fun _ _ _ h => h) (by kernel_rfl) (fun W hW => by kernel_rfl) (by assumption) rfl rfl ?_
        simp only [Act.put, List.setIfInBounds_toArray, List.set_cons_zero, List.set_cons_succ]
        refine wpAnyH_yield 1 22 (cp q) rfl rfl (by kernel_rfl) (by kernel_rfl) (by kernel_rfl) (fun _ _ _ h => h) (by kernel_rfl) (fun W hW => by go_simp) (by assumption) rfl rfl ?_
        simp only [Act.put, List.setIfInBounds_toArray, List.set_cons_zero, List.set_cons_succ]
        refine wpAnyH_yield 2 23 (.pointer (some ⟨q, 0, none⟩)) rfl rfl (by kernel_rfl) (by kernel_rfl) (by kernel_rfl) (fun _ _ _ h => h) (by kernel_rfl) (fun W hW => by go_simp) (by assumption) rfl rfl ?_
        simp only [Act.put, List.setIfInBounds_toArray, List.set_cons_zero, List.set_cons_succ]
        refine wpAnyH_yield 3 24 (cp kk) rfl rfl (by kernel_rfl) (by kernel_rfl) (by kernel_rfl) (fun _ _ _ h => h) (by kernel_rfl) (fun W hW => by have k0 := (one_cell ((TA.out.tr hW).at HQ.out)).1; go_simp) (by assumption) rfl rfl ?_
        simp only [Act.put, List.setIfInBounds_toArray, List.set_cons_zero, List.set_cons_succ]
        refine wpAnyH_yield 4 25 (cp kk) rfl rfl (by kernel_rfl) (by kernel_rfl) (by kernel_rfl) (fun _ _ _ h => h) (by kernel_rfl) (fun W hW => by go_simp) (by assumption) rfl rfl ?_
        simp only [Act.put, List.setIfInBounds_toArray, List.set_cons_zero, List.set_cons_succ]
        refine wpAnyH_yield 5 26 (.pointer (some ⟨kk, 0, none⟩)) rfl rfl (by kernel_rfl) (by kernel_rfl) (by kernel_rfl) (fun _ _ _ h => h) (by kernel_rfl) (fun W hW => by go_simp) (by assumption) rfl rfl ?_
        simp only [Act.put, List.setIfInBounds_toArray, List.set_cons_zero, List.set_cons_succ]
        refine wpAnyH_yield 6 27 (cfv c) rfl rfl (by kernel_rfl) (by kernel_rfl) (by kernel_rfl) (fun _ _ _ h => h) (by kernel_rfl) (fun W hW => by obtain ⟨⟨k0, k1, k2, k3, k4, k5, k6, k7, k8, k9⟩, -⟩ := rr_cells ((TA.out.tr hW).at HK3.out); go_simp) (by assumption) rfl rfl ?_
        simp only [Act.put, List.setIfInBounds_toArray, List.set_cons_zero, List.set_cons_succ]
        refine wpAnyH_yield 7 28 (itv ⟨ki, ke, tm, va, sr⟩) rfl rfl (by kernel_rfl) (by kernel_rfl) (by kernel_rfl) (fun _ _ _ h => h) (by kernel_rfl) (fun W hW => by obtain ⟨k0, k1, k2, k3, k4⟩ := it_cells (hW.at A0.out); go_simp) (by assumption) rfl rfl ?_
        simp only [Act.put, List.setIfInBounds_toArray, List.set_cons_zero, List.set_cons_succ]
        refine wpAnyH_enter 8 29 35 #[cfv c, itv ⟨ki, ke, tm, va, sr⟩] rfl rfl (by kernel_rfl) (by kernel_rfl) (by kernel_rfl) ?_
        refine ((CI1.out _)).mono ?_
        rintro r w2 ⟨rfl, T2⟩
        refine ⟨_, rfl, hT0.tr T2, ?_⟩
        simp only [Act.put, List.setIfInBounds_toArray, List.set_cons_zero, List.set_cons_succ]
        have T3 := hT0.tr T2
        refine wpAnyH_yield 9 10 (.int .i64 0) rfl rfl (by kernel_rfl) (by kernel_rfl) (by kernel_rfl) (fun _ _ _ h => h) (by kernel_rfl) (fun W hW => by kernel_rfl) (by assumption) rfl rfl ?_
        simp only [Act.put, List.setIfInBounds_toArray, List.set_cons_zero, List.set_cons_succ]
        refine wpAnyH_done (by kernel_rfl) ?_ _
        have TW2 := hide (TA.out.tr T3)
        have A2 := hide (T3.at A0.out)
        clear T2 T3 hT0 CI1 A0 TA
        go_wp2_with fail
        have OWB : Hid (∀ g, (Value.slice a m k).ownBlock = some g → w9.heap.size ≤ g ∧ g < D) := hide fun g hg => by have := own_lt HO.out hg; rw [HD.out] at this; exact this
        have GKL : Hid (∀ g, Gk g → g < w9.heap.size ∧ g ≠ q) := hide fun g hg => ⟨LT.out g (HGK.out g hg).1, (HGK.out g hg).2⟩
        have SZD : Hid (w9.heap.size ≤ D) := hide (by have := HT2.out.size; rw [HD.out] at this; exact this)
        have QL : Hid (q < w9.heap.size) := hide (LT.out q H0Q.out)
        have Q2 := hide (TW2.out.at HQ.out)
        refine wp_region_held (S := Touch (fun g => Gk g ∨ (Value.slice a m k).ownBlock = some g) w2) (by kernel_rfl) ?_
        have cT0 : Calm w2 { w2 with drawn := w2.drawn + 1 } := (Touch.refl _ w2).drew
        have hT0 : Touch (fun g => Gk g ∨ (Value.slice a m k).ownBlock = some g) w2 { w2 with drawn := w2.drawn + 1 } := (Touch.refl _ w2).drew
        refine wpAnyH_yield 0 35 (.slice a m k) rfl rfl (by kernel_rfl) (by kernel_rfl) (by kernel_rfl) (fun _ _ _ h => h) (by kernel_rfl) (fun W hW => by kernel_rfl) (by assumption) rfl rfl ?_
        simp only [Act.put, List.setIfInBounds_toArray, List.set_cons_zero, List.set_cons_succ]
        refine wpAnyH_yield 1 36 (cp q) rfl rfl (by kernel_rfl) (by kernel_rfl) (by kernel_rfl) (fun _ _ _ h => h) (by kernel_rfl) (fun W hW => by kernel_rfl) (by assumption) rfl rfl ?_
        simp only [Act.put, List.setIfInBounds_toArray, List.set_cons_zero, List.set_cons_succ]
        refine wpAnyH_yield 2 37 (cp q) rfl rfl (by kernel_rfl) (by kernel_rfl) (by kernel_rfl) (fun _ _ _ h => h) (by kernel_rfl) (fun W hW => by go_simp) (by assumption) rfl rfl ?_
        simp only [Act.put, List.setIfInBounds_toArray, List.set_cons_zero, List.set_cons_succ]
        refine wpAnyH_yield 3 38 (.pointer (some ⟨q, 0, none⟩)) rfl rfl (by kernel_rfl) (by kernel_rfl) (by kernel_rfl) (fun _ _ _ h => h) (by kernel_rfl) (fun W hW => by go_simp) (by assumption) rfl rfl ?_
        simp only [Act.put, List.setIfInBounds_toArray, List.set_cons_zero, List.set_cons_succ]
        refine wpAnyH_yield 4 39 (cp kk) rfl rfl (by kernel_rfl) (by kernel_rfl) (by kernel_rfl) (fun _ _ _ h => h) (by kernel_rfl) (fun W hW => by have k0 := (one_cell (Touch.heap hW Q2.out (fun h => h.elim (fun h => (GKL.out _ h).2 rfl) (fun h => by have := (OWB.out _ h).1; have := QL.out; omega)))).1; go_simp) (by assumption) rfl rfl ?_
        simp only [Act.put, List.setIfInBounds_toArray, List.set_cons_zero, List.set_cons_succ]
        refine wpAnyH_yield 5 40 (itv ⟨ki, ke, tm, va, sr⟩) rfl rfl (by kernel_rfl) (by kernel_rfl) (by kernel_rfl) (fun _ _ _ h => h) (by kernel_rfl) (fun W hW => by obtain ⟨k0, k1, k2, k3, k4⟩ := it_cells (Touch.heap hW A2.out (fun h => h.elim (fun h => by have := (GKL.out _ h).1; have := SZD.out; omega) (fun h => by have := (OWB.out _ h).2; omega))); go_simp) (by assumption) rfl rfl ?_
        simp only [Act.put, List.setIfInBounds_toArray, List.set_cons_zero, List.set_cons_succ]
        refine wpAnyH_enter 6 41 36 #[cp kk, itv ⟨ki, ke, tm, va, sr⟩] rfl rfl (by kernel_rfl) (by kernel_rfl) (by kernel_rfl) ?_
        refine (TK.out _ (HK.out.calm (TW2.out.tr cT0))).mono ?_
        rintro r w3 ⟨a2, k2, rfl, O2, T3, K3⟩
        have T23 : Touch Gk w2 w3 := (cT0.mono (S' := Gk) fun _ _ h => h.elim).trans T3 fun _ _ h => h
        have O1 : encSn.Own 65 w3 w9.heap.size (.slice a A1.length k) A1 := by
          rw [← OM.out]
          exact Rc.Own.touch (Rc.Own.calm HO.out TW2.out) T23 fun gb hg hf => by have := (OWB.out gb hg).1; have := (GKL.out gb hf).1; omega
        have TR3 : Touch Gk wr w3 := (TW2.out.mono (S' := Gk) fun _ _ h => h.elim).trans T23 fun _ _ h => h
        have P3 := HR.out.taken HQ.out HGK.out TR3 K3
        have S3 : w9.heap.size ≤ w3.heap.size := by have := T23.size; have := TW2.out.size; have := HT2.out.size; omega
        obtain ⟨a4, p4, w4, hr, ow, t4⟩ := sn_apps O1 O2 S3 (by have := HBL.out; omega)
        rw [← OM.out] at hr t4
        have h3 : Touch (fun g => Gk g ∨ (Value.slice a m k).ownBlock = some g) w2 w3 := T23.mono fun _ _ h => .inl h
        have h4 : Touch (fun g => Gk g ∨ (Value.slice a m k).ownBlock = some g) w2 w4 := h3.trans (t4.mono fun _ _ h => .inr h) fun _ _ h => h
        have P4 := hide (P3.touch t4 fun gb hg hf => by have := (OWB.out gb hf).1; have := LT.out gb hg; omega)
        have TG4 : Hid (Touch G w9 w4) := hide ((HT2.out.trans TR3 fun g _ hg => (HGK.out g hg).1).trans t4 fun gb hk hf => by have := (OWB.out gb hf).1; omega)
        have HOW := hide ow
        refine ⟨_, rfl, h3, ?_⟩
        simp only [Act.put, List.setIfInBounds_toArray, List.set_cons_zero, List.set_cons_succ]
        refine wpAnyH_value 7 42 (.slice a4 (A1 ++ B).length p4) (w' := w4) rfl rfl (by kernel_rfl) (by kernel_rfl) (exec_apk (.tmp 35) (.tmp 41) 55 55 rfl _ _ _ rfl rfl hr) h4 ?_
        simp only [Act.put, List.setIfInBounds_toArray, List.set_cons_zero, List.set_cons_succ]
        refine wpAnyH_yield 8 7 (.slice a4 (A1 ++ B).length p4) rfl rfl (by kernel_rfl) (by kernel_rfl) (by kernel_rfl) (fun _ _ _ h => h) (by kernel_rfl) (fun W hW => by kernel_rfl) (by assumption) rfl rfl ?_
        simp only [Act.put, List.setIfInBounds_toArray, List.set_cons_zero, List.set_cons_succ]
        refine wpAnyH_done (by kernel_rfl) ?_ _
        clear T23 O1 O2 TR3 P3 S3 hr ow t4 h3 h4 hT0 cT0 T3 K3 HO HR HT2 HTZ TK TW2 A2 Q2 OWB GKL HQ HK HGK HK3
        go_wp2_with fail
        go_roundw
        case rel =>
          obtain ⟨g1, g4⟩ := HG.out
          exact ⟨i + 1, a4, _, p4, by first | rfl | go_num, by omega, rfl, hide ⟨by rw [g1], g4⟩, hide (by rw [g1]; exact HOW.out), hide P4.out, hide ⟨TG4.out, fun e => absurd e (by omega)⟩⟩
        case measure => simp [intOf]; omega
    · have hltz : ¬ (i : Int) < (n : Int) := by omega
      obtain rfl : i = n := by omega
      have FIN : Hid (m = A.length ∧ i = T ∧ 0 = E ∧ encSn.Own 65 wr w9.heap.size (.slice a A.length k) A ∧ Touch G w9 wr ∧ Pr wr q G c p L9 s9 ∧ (T = 0 → Calm w9 wr)) := hide (by
        obtain ⟨f1, f2⟩ := taken_all c M (fun j hj => HM.out.2 j (by have := HN.out; omega))
        have hT : M.take i = M := by rw [HN.out]; exact List.take_length
        have e1 := HM.out.1
        have o1 := HO.out
        have r1 := HR.out
        rw [hT] at e1 o1 r1
        rw [HA.out, HT.out, HE.out, HL9.out, HS9.out, f1]
        exact ⟨e1, HN.out, f2.symm, by rw [← e1]; exact o1, HT2.out, r1, fun e => HTZ.out (HN.out.trans e)⟩)
      clear HM HO HR HT2 HTZ H0 LT KI CI
      go_wp2_with fail
      go_ret3
      obtain ⟨f1, f2, f3, f4, f5, f6⟩ := FIN.out
      exact ⟨a, k, by rw [← f2, ← f3, ← f1]; rfl, f4, f5, f6⟩

end Go.Proofs.YtapnjofplilefaaGreat

namespace Go.Proofs.YtapnjofplilefaaGreat
open Go.RowKit

theorem one_item (w : World) (x : It) : encI.Sl (w.alloc (.cells (itc x) 60)) (some ⟨w.heap.size, 0, none⟩) 1 [x] :=
  ⟨Rc.Mem.new w [x] 60, fun h => (nomatch h), Nat.le_refl _⟩
theorem taken_one (c : Cf) (x : It) : taken c [x] = if itemZ c x then [x] else [] := by
  unfold taken
  cases h : itemZ c x <;> simp [h]

set_option maxRecDepth 100000 in
set_option maxHeartbeats 1000000 in
theorem itemR_run {w : World} {q : Nat} {G : Nat → Prop} {c : Cf} {p g : Nat} {L : List Int} {s : Int} (x : It) (h : Pr w q G c p L s) (hS : Sit c p g L) : Calls Tryz.prog 14 #[cp q, itv x] w fun e w' => ∃ a k, e = .returned (.tuple #[.slice a (goA p g L s (taken c [x])).length k, .int .i64 (itemsE c [x] : Nat)]) ∧ encSn.Own 65 w' w.heap.size (.slice a (goA p g L s (taken c [x])).length k) (goA p g L s (taken c [x])) ∧ Touch G w w' ∧ Pr w' q G c p (goL L (taken c [x])) (goS s (taken c [x])) ∧ ((taken c [x]).length = 0 → Calm w w') := by
  have CI : Hid (∀ w0 w1, Calm w w0 → w0.alloc (.cells (itc x) 60) = w1 → Calls Tryz.prog 19 #[cp q, .slice (some ⟨w0.heap.size, 0, none⟩) 1 1] w1 fun e w' => ∃ a k, e = .returned (.tuple #[.slice a (goA p g L s (taken c [x])).length k, .int .i64 ((taken c [x]).length : Nat), .int .i64 (itemsE c [x] : Nat)]) ∧ encSn.Own 65 w' w.heap.size (.slice a (goA p g L s (taken c [x])).length k) (goA p g L s (taken c [x])) ∧ Touch G w w' ∧ Pr w' q G c p (goL L (taken c [x])) (goS s (taken c [x])) ∧ ((taken c [x]).length = 0 → Calm w w')) := hide fun w0 w1 t0 e1 => by
    subst e1
    have t1 : Calm w (w0.alloc (.cells (itc x) 60)) := t0.alloc _
    refine (itemsR_any [x] _ 1 (h.calm t1) hS (one_item w0 x) (fun a ha _ hg => ?_) (by simp)).mono fun e w' ⟨a, k, e1, o, t, pr, z⟩ => ⟨a, k, e1, Rc.Own.base o t1.size, Touch.trans (t1.mono (S' := G) fun _ _ h => h.elim) t fun _ _ h => h, pr, fun e => t1.tr (z e)⟩
    injection ha with ha
    subst ha
    have h1 := h.lt _ hg
    have h2 := t0.size
    have h1 : w0.heap.size < w.heap.size := h1
    omega
  have A0 := hide (al_new w (.cells (itc x) 60))
  have T0 := hide ((Touch.refl (fun _ => False) w).alloc (.cells (itc x) 60))
  generalize goA p g L s (taken c [x]) = A at *
  generalize goL L (taken c [x]) = L9 at *
  generalize goS s (taken c [x]) = s9 at *
  generalize (taken c [x]).length = T at *
  generalize itemsE c [x] = E at *
  clear h hS
  obtain ⟨ki, ke, tm, va, sr⟩ := x
  obtain ⟨i0, i1, i2, i3, i4⟩ := it_cells A0.out
  go_enter Tryz.func14, Tryz.ntmps14
  go_wp2_with fail
  have C := hide (CI.out _ _ T0.out rfl)
  rw [al_size] at C
  refine C.out.mono ?_
  rintro e w9 ⟨a, k, rfl, h1⟩
  have H1 := hide h1
  clear C CI A0 T0 i0 i1 i2 i3 i4 h1
  go_wp2_with fail
  go_ret2
  exact ⟨a, k, rfl, H1.out⟩

theorem itemR_yes {w : World} {q : Nat} {G : Nat → Prop} {c : Cf} {p g : Nat} {L : List Int} {s : Int} (x : It) (h : Pr w q G c p L s) (hS : Sit c p g L) (hz : itemZ c x = true) : Calls Tryz.prog 14 #[cp q, itv x] w fun e w' => ∃ a k, e = .returned (.tuple #[.slice a (itemA p g L s x).length k, .int .i64 0]) ∧ encSn.Own 65 w' w.heap.size (.slice a (itemA p g L s x).length k) (itemA p g L s x) ∧ Touch G w w' ∧ Pr w' q G c p (itemL L x) (nxt s) := by
  have e1 : taken c [x] = [x] := by rw [taken_one, hz]; rfl
  have e2 : goA p g L s [x] = itemA p g L s x := by simp [goA]
  have e3 : itemsE c [x] = 0 := by unfold itemsE; rw [e1, if_pos rfl]
  have C := itemR_run x h hS
  rw [e1, e2, e3] at C
  exact C.mono fun e w' ⟨a, k, h1, h2, h3, h4, _⟩ => ⟨a, k, h1, h2, h3, h4⟩
theorem itemR_no {w : World} {q : Nat} {G : Nat → Prop} {c : Cf} {p g : Nat} {L : List Int} {s : Int} (x : It) (h : Pr w q G c p L s) (hS : Sit c p g L) (hz : itemZ c x = false) : Calls Tryz.prog 14 #[cp q, itv x] w fun e w' => ∃ a k, e = .returned (.tuple #[.slice a 0 k, .int .i64 5]) ∧ encSn.Own 65 w' w.heap.size (.slice a 0 k) [] ∧ Calm w w' := by
  have e1 : taken c [x] = [] := by rw [taken_one, hz]; rfl
  have e3 : itemsE c [x] = 5 := by unfold itemsE; rw [e1]; rfl
  have C := itemR_run x h hS
  rw [e1, e3] at C
  exact C.mono fun e w' ⟨a, k, h1, h2, h3, h4, h5⟩ => ⟨a, k, h1, h2, h5 rfl⟩

end Go.Proofs.YtapnjofplilefaaGreat
