/- How 32 bits move: byteMoves, moved, squared, Carry. -/
import Derived.Test.YtmmeglpglaogeaaDoorCrc1
import Derived.Deep.WholeRow
namespace Go.Proofs.YtmmeglpglaogeaaDoor
open Go.RowKit Crcx

/-- An array of 32 numbers. -/
structure Arr (c : Array Value) (m : Nat → Nat) : Prop where
  size : c.size = 32
  at_ : ∀ i, i < 32 → c[i]? = some (.int .u32 ((m i : Nat) : Int))

theorem Arr.info {c : Array Value} {m : Nat → Nat} (h : Arr c m) : (Tryd.prog.info? 57).map (·.size) = some c.size := by
  rw [h.size]; kernel_rfl

theorem shr_bit (x i : Nat) (hx : x < 4294967296) : bits .and .u32 ((x : Int) / 2 ^ i) 1 = ((x / 2 ^ i % 2 : Nat) : Int) := by
  rw [show ((x : Int) / 2 ^ i) = ((x / 2 ^ i : Nat) : Int) by rw [Int.natCast_ediv, Int.natCast_pow]; rfl]
  have := u32_and_nat (x / 2 ^ i) 1 (Nat.lt_of_le_of_lt (Nat.div_le_self _ _) hx) (by omega)
  rw [show ((1 : Nat) : Int) = 1 by rfl] at this
  rw [this, Nat.and_one_is_mod]

theorem run_index_moves (w : World) (c : Array Value) (n : Nat) (v : Value) (hn : n < 32) (hv : c[n]? = some v) : (Instr.index 57 (.agg c) (.int .i64 n)).run Tryd.prog w = .ok v w := by
  have hu := Tryd.underlying57
  have h1 : (0 : Int) ≤ (n : Int) ∧ (n : Int) < 32 := by omega
  simp [Instr.index, run_underlying hu, asIntOf, h1, go_sem, part, hv]
  intro h; omega

set_option maxRecDepth 100000 in
theorem moved_any (c : Array Value) (m : Nat → Nat) (hc : Arr c m) (hm : ∀ i, i < 32 → m i < 4294967296) (x : Nat) (hx : x < 4294967296) (w : World) :
    Calls Tryd.prog 28 #[.agg c, .int .u32 x] w fun e w' => e = .returned (.int .u32 ((moved m x 32 : Nat) : Int)) ∧ Touch (fun _ => False) w w' := by
  have hi := hc.info
  have hlt : ∀ n, n ≤ 32 → moved m x n < 4294967296 := fun n hn => moved_lt (fun i hi => hm i (by omega))
  go_enter Tryd.func28, Tryd.ntmps28
  go_wp2_with (refine wpList_load_row rfl 57 (.tmp 2) rfl _ rfl 57 c (0, 0) _ (heap_alloc_last w _) Tryd.underlying57 rfl hi ?_)
  go_loopw [5, 9] (fun y i wr => ∃ n : Nat, i = .int .i64 n ∧ n ≤ 32 ∧ y = .int .u32 ((moved m x n : Nat) : Int) ∧ wr = w.alloc (.cells c 57)) (fun _ i _ => 32 - (intOf i).toNat)
  case atStart => exact ⟨0, rfl, Nat.zero_le _, rfl, rfl⟩
  case round =>
    obtain ⟨n, rfl, hn, rfl, rfl⟩ := hrel
    by_cases hlast : n < 32
    · have hcn := hc.at_ n hlast
      have hix := fun W => run_index_moves W c n _ hlast hcn
      have hxor := u32_xor_nat (moved m x n) (m n) (hlt n hn) (hm n hlast)
      rcases Nat.mod_two_eq_zero_or_one (x / 2 ^ n) with h2 | h2
      · have hb := shr_bit x n hx
        rw [h2] at hb
        have he := hide (show moved m x (n + 1) = moved m x n by rw [moved_succ, if_neg (by omega), Nat.xor_zero])
        clear h2 hxor
        go_wp2_with fail
        go_roundw
        case rel => exact ⟨n + 1, by go_num, by omega, by rw [he.out], trivial⟩
        case measure => simp [intOf]; omega
      · have hb := shr_bit x n hx
        rw [h2] at hb
        have he := hide (show moved m x (n + 1) = moved m x n ^^^ m n by rw [moved_succ, if_pos h2])
        clear h2
        go_wp2_with fail
        go_roundw
        case rel => exact ⟨n + 1, by go_num, by omega, by rw [he.out], trivial⟩
        case measure => simp [intOf]; omega
    · have e : n = 32 := by omega
      subst e
      go_wp2_with fail
      go_ret
      exact ⟨rfl, (Touch.refl _ _).alloc _⟩

/-- A block of N numbers, the first n of them laid. -/
structure Fill (w : World) (g : Nat) (t : TypeId) (N n : Nat) (m : Nat → Nat) : Prop where
  block : ∃ c, w.heap[g]? = some (.cells c t (0, 0)) ∧ c.size = N ∧ (∀ i, i < N → ∃ x : Int, c[i]? = some (.int .u32 x)) ∧ ∀ i, i < n → c[i]? = some (.int .u32 ((m i : Nat) : Int))

theorem heap_setCell_row {w : World} {g i : Nat} {c : Array Value} {t : TypeId} {fr : Nat × Nat} (h : w.heap[g]? = some (.cells c t fr)) (v : Value) : (w.setCell ⟨g, i, none⟩ v).heap[g]? = some (.cells (c.setIfInBounds i v) t fr) := by
  have hg : g < w.heap.size := (Array.getElem?_eq_some_iff.1 h).1
  have hv : w.heap[g] = .cells c t fr := (Array.getElem?_eq_some_iff.1 h).2
  simp [World.setCell, hg, Array.getElem_modify, hv]

theorem Fill.put {w : World} {g : Nat} {t : TypeId} {N n : Nat} {m : Nat → Nat} (h : Fill w g t N n m) (hn : n < N) : Fill (w.setCell ⟨g, n, none⟩ (.int .u32 ((m n : Nat) : Int))) g t N (n + 1) m := by
  obtain ⟨c, h1, h2, h4, h3⟩ := h.block
  refine ⟨_, heap_setCell_row h1 _, by simp [h2], fun i hi => ?_, fun i hi => ?_⟩
  · by_cases e : n = i
    · subst e; exact ⟨_, Array.getElem?_setIfInBounds_self_of_lt (by omega)⟩
    · rw [Array.getElem?_setIfInBounds_ne e]; exact h4 i hi
  · by_cases e : n = i
    · subst e; exact Array.getElem?_setIfInBounds_self_of_lt (by omega)
    · rw [Array.getElem?_setIfInBounds_ne e]; exact h3 i (by omega)

theorem Fill.touch {S : Nat → Prop} {w w' : World} {g : Nat} {t : TypeId} {N n : Nat} {m : Nat → Nat} (h : Fill w g t N n m) (ht : Touch S w w') (hn : ¬ S g) : Fill w' g t N n m := by
  obtain ⟨c, h1, h2, h3⟩ := h.block
  exact ⟨c, (ht.block g (Array.getElem?_eq_some_iff.1 h1).1 hn).trans h1, h2, h3⟩

theorem Fill.cell {w : World} {g : Nat} {t : TypeId} {N n : Nat} {m : Nat → Nat} (h : Fill w g t N n m) (i : Nat) (hi : i < N) : ∃ v, w.cell? ⟨g, i, none⟩ = some v := by
  obtain ⟨c, h1, h2, _⟩ := h.block
  exact ⟨c[i], by rw [cell_of_row w g i c t _ h1]; exact Array.getElem?_eq_getElem (by omega)⟩

theorem Fill.frozen {w : World} {g : Nat} {t : TypeId} {N n : Nat} {m : Nat → Nat} (h : Fill w g t N n m) (i : Nat) : w.frozen? ⟨g, i, none⟩ = false := by
  obtain ⟨c, h1, _⟩ := h.block
  simp [World.frozen?, h1]

theorem Fill.zero (w : World) (t : TypeId) (N : Nat) (m : Nat → Nat) (c : Array Value) (g : Nat) (hg : g = w.heap.size) (hc : c = Array.replicate N (.int .u32 0)) : Fill (w.alloc (.cells c t)) g t N 0 m := by
  subst hg hc
  exact ⟨_, heap_alloc_last w _, by simp, fun i hi => ⟨0, by simp [hi]⟩, fun i hi => (nomatch hi)⟩

theorem all_one {c : Array Value} {N : Nat} (h2 : c.size = N) (h4 : ∀ i, i < N → ∃ x : Int, c[i]? = some (.int .u32 x)) : c.all (·.oneCell') = true := by
  rw [Array.all_eq_true]
  intro i hi
  obtain ⟨x, hx⟩ := h4 i (by omega)
  rw [Array.getElem?_eq_getElem hi] at hx
  injection hx with hx
  rw [hx]; rfl

set_option maxRecDepth 100000 in
theorem byteMoves_any (w : World) (ht : Tab w) :
    Calls Tryd.prog 27 #[] w fun e w' => ∃ c, e = .returned (.agg c) ∧ Arr c (fun i => stps 8 (2 ^ i)) ∧ Touch (fun _ => False) w w' := by
  go_enter Tryd.func27, Tryd.ntmps27
  go_wp2_with fail
  go_loopw [3] (fun i wr => ∃ n : Nat, i = .int .i64 n ∧ n ≤ 32 ∧ Fill wr (w.heap.size + 1) 57 32 n (fun i => stps 8 (2 ^ i)) ∧ Fill wr w.heap.size 57 32 0 (fun _ => 0) ∧ Touch (fun _ => False) w wr) (fun i _ => 32 - (intOf i).toNat)
  case atStart => exact ⟨0, rfl, Nat.zero_le _, Fill.zero _ _ _ _ _ _ (by simp) rfl, (Fill.zero w _ _ _ _ _ rfl rfl).touch ((Touch.refl (fun _ => False) _).alloc _) (fun h => h), ((Touch.refl _ _).alloc _).alloc _⟩
  case round =>
    obtain ⟨n, rfl, hn, hf, hf0, htw⟩ := hrel
    by_cases hlast : n < 32
    · have hT := ht.touch htw (fun h => h)
      have hp : 2 ^ n < 4294967296 := Nat.pow_lt_pow_right (by omega) (show n < 32 by omega)
      obtain ⟨v, hv⟩ := hf.cell n hlast
      have hfz := hf.frozen n
      have OB := hide (fun W h => overByte_any (2 ^ n) hp W h)
      have hput := hide (hf.put hlast)
      have hput0 := hide (hf0.touch ((Touch.refl (fun k => k = w.heap.size + 1) wr).setCell (p := ⟨w.heap.size + 1, n, none⟩) (fun _ => rfl) (.int .u32 ((stps 8 (2 ^ n) : Nat) : Int))) (by omega))
      have htw1 := hide (htw.setCell (p := ⟨w.heap.size + 1, n, none⟩) (fun h => absurd h (by simp)) (.int .u32 ((stps 8 (2 ^ n) : Nat) : Int)))
      have hpw : (2 : Int) ^ n % 4294967296 = ((2 ^ n : Nat) : Int) := by
        have : ((2 ^ n : Nat) : Int) = (2 : Int) ^ n := by rw [Int.natCast_pow]; rfl
        rw [← this]; exact Int.emod_eq_of_lt (Int.natCast_nonneg _) (Int.ofNat_lt.2 hp)
      generalize stps 8 (2 ^ n) = y at *
      generalize (2 ^ n : Nat) = p at *
      clear hf hf0 htw
      go_wp2_with fail
      refine (OB.out _ hT).mono ?_
      rintro e w' ⟨rfl, rfl⟩
      go_wp2_with fail
      go_roundw
      case rel => exact ⟨n + 1, by go_num, by omega, hput.out, hput0.out, htw1.out⟩
      case measure => simp [intOf]; omega
    · have e : n = 32 := by omega
      subst e
      obtain ⟨c, h1, h2, h4, h3⟩ := hf.block
      obtain ⟨c0, g1, g2, g4, g3⟩ := hf0.block
      have hi : (Tryd.prog.info? 57).map (·.size) = some c.size := by rw [h2]; kernel_rfl
      have hone := all_one h2 h4
      have ha : Arr c (fun i => stps 8 (2 ^ i)) := ⟨h2, h3⟩
      have hset := setRow_heap wr w.heap.size c0 c 57 (0, 0) g1
      have htw1 : Touch (fun _ => False) w (wr.setRow w.heap.size c) := htw.trans (S' := fun k => k = w.heap.size) ⟨rfl, rfl, rfl, by simp, fun j _ hj => setRow_other wr _ j _ hj⟩ (fun k hk h => by omega)
      have hsz : c0.size = c.size := by omega
      clear h4 h3 g4 g3 hf hf0 htw h2 g2
      go_wp2_with (first | refine wpList_load_row rfl 57 (.tmp 1) rfl _ rfl 57 c (0, 0) _ h1 Tryd.underlying57 rfl hi ?_ | refine wpList_store_row rfl 57 (.tmp 0) (.tmp 12) rfl _ c rfl rfl 57 c0 g1 hi hsz hone ?_)
      refine bodyPost_ret (results_cell_row rfl _ _ _ _ _ _ _ rfl hset Tryd.underlying57 rfl hi) rfl ?_
      exact ⟨c, rfl, ha, htw1⟩

end Go.Proofs.YtmmeglpglaogeaaDoor
