/- Groups and workers: which numbers may be, stretches, whose a group is. -/
import Derived.Test.YtmhobdcnohhaaaaGHash
import Derived.BigQuiet
import Derived.Deep.WholeRow
namespace Go.Proofs.Ytmhobdcnohhaaaa
open Go.RowKit

/-- So many groups may be. -/
def mayG (g : Int) : Bool := decide (1 ≤ g ∧ g ≤ 32768)
/-- So many workers may be, of so many groups. -/
def mayW (p g : Int) : Bool := decide (1 ≤ g ∧ g ≤ 32768 ∧ 1 ≤ p ∧ p ≤ g)

set_option maxRecDepth 100000 in
theorem may_any (g : Int) (w : World) : Calls Try.prog 28 #[.int .i64 g] w fun e w' => e = .returned (.bool (mayG g)) ∧ w' = w := by
  go_enter Try.func28, Try.ntmps28
  by_cases h : (1 : Int) ≤ g
  · have HH := hide h
    go_wp2_with fail
    go_ret
    exact ⟨by have := HH.out; simp [mayG, this], rfl⟩
  · have HH := hide h
    go_wp2_with fail
    go_ret
    exact ⟨by have := HH.out; simp [mayG]; omega, rfl⟩

set_option maxRecDepth 100000 in
theorem rmay_any (g : Int) (w : World) : Calls Try.prog 30 #[.int .i64 g] w fun e w' => e = .returned (.bool (mayG g)) ∧ w' = w := by
  go_enter Try.func30, Try.ntmps30
  by_cases h : (1 : Int) ≤ g
  · have HH := hide h
    go_wp2_with fail
    go_ret
    exact ⟨by have := HH.out; simp [mayG, this], rfl⟩
  · have HH := hide h
    go_wp2_with fail
    go_ret
    exact ⟨by have := HH.out; simp [mayG]; omega, rfl⟩

theorem mayG_yes {g : Int} (h : mayG g = true) : 1 ≤ g ∧ g ≤ 32768 := of_decide_eq_true h
theorem mayW_yes {p g : Int} (h : mayW p g = true) : 1 ≤ g ∧ g ≤ 32768 ∧ 1 ≤ p ∧ p ≤ g := of_decide_eq_true h
theorem mayW_g {p g : Int} (h : mayW p g = true) : mayG g = true := by have := mayW_yes h; unfold mayG; exact decide_eq_true (by omega)

theorem mayW_no {p g : Int} (h : mayG g = false) : mayW p g = false := by
  have h' : ¬ (1 ≤ g ∧ g ≤ 32768) := of_decide_eq_false h
  exact decide_eq_false (by omega)

theorem mayW_is {p g : Int} (h : mayG g = true) (hp : 1 ≤ p) : decide (p ≤ g) = mayW p g := by
  have := mayG_yes h
  unfold mayW
  exact decide_eq_decide.2 (by omega)

set_option maxRecDepth 100000 in
theorem mays_any (p g : Int) (w : World) : Calls Try.prog 31 #[.int .i64 p, .int .i64 g] w fun e w' => e = .returned (.bool (mayW p g)) ∧ w' = w := by
  have M := hide (may_any g)
  go_enter Try.func31, Try.ntmps31
  go_wp2_with fail
  refine (M.out _).mono ?_
  rintro e w' ⟨rfl, rfl⟩
  cases hg : mayG g with
  | false =>
    go_wp2_with fail
    go_ret
    exact ⟨by rw [mayW_no hg]; rfl, rfl⟩
  | true =>
    have HG := hide hg
    by_cases h : (1 : Int) ≤ p
    · have HH := hide h
      go_wp2_with fail
      go_ret
      exact ⟨by rw [← mayW_is HG.out HH.out]; rfl, rfl⟩
    · have HH := hide h
      go_wp2_with fail
      go_ret
      exact ⟨by have := HH.out; simp [mayW]; omega, rfl⟩

set_option maxRecDepth 100000 in
theorem rmays_any (p g : Int) (w : World) : Calls Try.prog 21 #[.int .i64 p, .int .i64 g] w fun e w' => e = .returned (.bool (mayW p g)) ∧ w' = w := by
  have M := hide (rmay_any g)
  go_enter Try.func21, Try.ntmps21
  go_wp2_with fail
  refine (M.out _).mono ?_
  rintro e w' ⟨rfl, rfl⟩
  cases hg : mayG g with
  | false =>
    go_wp2_with fail
    go_ret
    exact ⟨by rw [mayW_no hg]; rfl, rfl⟩
  | true =>
    have HG := hide hg
    by_cases h : (1 : Int) ≤ p
    · have HH := hide h
      go_wp2_with fail
      go_ret
      exact ⟨by rw [← mayW_is HG.out HH.out]; rfl, rfl⟩
    · have HH := hide h
      go_wp2_with fail
      go_ret
      exact ⟨by have := HH.out; simp [mayW]; omega, rfl⟩

/-- Where the stretch of a worker begins. -/
def st (p g w : Nat) : Nat := w * g / p
/-- Whose a group is. -/
def wk (p g k : Nat) : Nat := ((k + 1) * p - 1) / g

/-- Numbers that may be. -/
structure May (p g : Nat) : Prop where
  g1 : 1 ≤ g
  g2 : g ≤ 32768
  p1 : 1 ≤ p
  p2 : p ≤ g

theorem may_of {p g : Int} (h : mayW p g = true) : ∃ P G : Nat, p = P ∧ g = G ∧ May P G := by
  have := mayW_yes h
  exact ⟨p.toNat, g.toNat, by omega, by omega, ⟨by omega, by omega, by omega, by omega⟩⟩

theorem May.may {p g : Nat} (h : May p g) : mayW p g = true := by
  obtain ⟨a, b, c, d⟩ := h
  exact decide_eq_true (by omega)

theorem mul_le {a b : Nat} (ha : a ≤ 32769) (hb : b ≤ 32769) : a * b ≤ 1073807361 := by
  have := Nat.mul_le_mul ha hb
  omega

theorem mul_wrap {a b : Nat} (ha : a ≤ 32769) (hb : b ≤ 32769) : wrap64 ((a : Int) * (b : Int)) = ((a * b : Nat) : Int) := by
  have := mul_le ha hb
  rw [← Int.natCast_mul]
  unfold wrap64
  omega

theorem st_wrap {p g k : Nat} (h : May p g) (hk : k ≤ p) : wrap64 ((wrap64 ((k : Int) * (g : Int))).tdiv (p : Int)) = (st p g k : Int) := by
  have h1 := h.p2
  have h2 := h.g2
  rw [mul_wrap (by omega) (by omega), ← Int.ofNat_tdiv]
  have h3 := mul_le (a := k) (b := g) (by omega) (by omega)
  have h4 := Nat.div_le_self (k * g) p
  unfold st wrap64
  generalize k * g / p = q at *
  omega

theorem succ_wrap {k : Nat} (hk : k ≤ 32768) : wrap64 ((k : Int) + 1) = ((k + 1 : Nat) : Int) := by unfold wrap64; omega

theorem st_wrap1 {p g k : Nat} (h : May p g) (hk : k < p) : wrap64 ((wrap64 (wrap64 ((k : Int) + 1) * (g : Int))).tdiv (p : Int)) = (st p g (k + 1) : Int) := by
  have h1 := h.p2
  have h2 := h.g2
  rw [succ_wrap (by omega)]
  exact st_wrap h hk

theorem wk_wrap {p g k : Nat} (h : May p g) (hk : k < g) : wrap64 ((wrap64 (wrap64 (wrap64 ((k : Int) + 1) * (p : Int)) - 1)).tdiv (g : Int)) = (wk p g k : Int) := by
  have h1 := h.p2
  have h2 := h.g2
  have h0 := h.p1
  have h3 := mul_le (a := k + 1) (b := p) (by omega) (by omega)
  have h5 : 1 ≤ (k + 1) * p := Nat.mul_pos (by omega) (by omega)
  rw [succ_wrap (by omega), mul_wrap (by omega) (by omega)]
  have h6 : wrap64 ((((k + 1) * p : Nat) : Int) - 1) = (((k + 1) * p - 1 : Nat) : Int) := by unfold wrap64; omega
  rw [h6, ← Int.ofNat_tdiv]
  have h4 := Nat.div_le_self ((k + 1) * p - 1) g
  unfold wk wrap64
  generalize ((k + 1) * p - 1) / g = q at *
  omega

theorem st_zero (p g : Nat) : st p g 0 = 0 := by unfold st; simp
theorem st_all {p g : Nat} (h : May p g) : st p g p = g := by unfold st; exact Nat.mul_div_cancel_left g h.p1
theorem st_mono {p g a b : Nat} (h : a ≤ b) : st p g a ≤ st p g b := Nat.div_le_div_right (Nat.mul_le_mul_right g h)
theorem st_le {p g k : Nat} (h : May p g) (hk : k ≤ p) : st p g k ≤ g := by have := st_mono (p := p) (g := g) hk; rwa [st_all h] at this

/-- The group lies below the end of its worker's stretch. -/
theorem wk_below {p g k : Nat} (h : May p g) : k < st p g (wk p g k + 1) := by
  have h1 := h.p1
  have h2 := h.g1
  show k + 1 ≤ (wk p g k + 1) * g / p
  rw [Nat.le_div_iff_mul_le (by omega)]
  have h3 := Nat.lt_div_mul_add (a := (k + 1) * p - 1) (b := g) (by omega)
  have h5 : 1 ≤ (k + 1) * p := Nat.mul_pos (by omega) (by omega)
  show (k + 1) * p ≤ (((k + 1) * p - 1) / g + 1) * g
  generalize ((k + 1) * p - 1) / g = q at *
  rw [Nat.add_mul q 1 g]
  omega

/-- A worker below it has only groups below. -/
theorem wk_above {p g k m : Nat} (h : May p g) (hm : m ≤ wk p g k) : st p g m ≤ k := by
  have h1 := h.p1
  have h2 := h.g1
  refine Nat.le_trans (st_mono hm) ?_
  show wk p g k * g / p ≤ k
  have h5 : 1 ≤ (k + 1) * p := Nat.mul_pos (by omega) (by omega)
  have h3 : wk p g k * g ≤ (k + 1) * p - 1 := Nat.div_mul_le_self _ _
  rw [← Nat.lt_add_one_iff, Nat.div_lt_iff_lt_mul (by omega)]
  omega

theorem wk_lt {p g k : Nat} (h : May p g) (hk : k < g) : wk p g k < p := by
  have := h.p1
  by_cases hh : wk p g k < p
  · exact hh
  · have h1 := wk_above h (k := k) (m := p) (by omega)
    rw [st_all h] at h1
    omega

theorem wk_uniq {p g k m : Nat} (h : May p g) (h1 : st p g m ≤ k) (h2 : k < st p g (m + 1)) : wk p g k = m := by
  have h3 := wk_below h (k := k)
  by_cases ha : wk p g k < m
  · have := st_mono (p := p) (g := g) (show wk p g k + 1 ≤ m by omega); omega
  · by_cases hb : m < wk p g k
    · have := wk_above h (k := k) (m := m + 1) hb; omega
    · omega

theorem st_rise {p g k : Nat} (h : May p g) : st p g k < st p g (k + 1) := by
  have h1 := h.p1
  have h2 := h.p2
  show k * g / p < (k + 1) * g / p
  rw [← Nat.add_one_le_iff, Nat.le_div_iff_mul_le (by omega), Nat.add_mul, Nat.one_mul, Nat.add_mul, Nat.one_mul]
  have := Nat.div_mul_le_self (k * g) p
  omega

set_option maxRecDepth 100000 in
theorem stretch_any (p g k : Nat) (h : May p g) (hk : k < p) (w : World) : Calls Try.prog 32 #[.int .i64 k, .int .i64 p, .int .i64 g] w fun e w' => e = .returned (.agg #[.int .i64 (st p g k : Nat), .int .i64 (st p g (k + 1) : Nat)]) ∧ Touch (fun _ => False) w w' := by
  have hp : ¬ (p : Int) = 0 := by have := h.p1; omega
  have e1 := st_wrap h (Nat.le_of_lt hk)
  have e2 := st_wrap1 h hk
  generalize st p g k = a at *
  generalize st p g (k + 1) = b at *
  go_enter Try.func32, Try.ntmps32
  go_wp2_with fail
  go_region
  rw [e1, e2]
  go_wp2_with fail
  refine bodyPost_ret (results_cell_row rfl _ _ _ _ _ _ _ rfl (show (w.alloc _).drew.heap[w.heap.size]? = _ from heap_alloc_last w _) Try.underlying45 rfl (by kernel_rfl)) rfl ?_
  exact ⟨rfl, ((Touch.refl _ _).alloc _).drew⟩

set_option maxRecDepth 100000 in
theorem workerOf_any (p g k : Nat) (h : May p g) (hk : k < g) (w : World) : Calls Try.prog 33 #[.int .i64 k, .int .i64 p, .int .i64 g] w fun e w' => e = .returned (.int .i64 (wk p g k : Nat)) ∧ w' = w := by
  have hp : ¬ (g : Int) = 0 := by have := h.g1; omega
  have e1 := wk_wrap h hk
  go_enter Try.func33, Try.ntmps33
  go_wp2_with fail
  go_ret
  exact ⟨by rw [← e1]; rfl, rfl⟩

set_option maxRecDepth 100000 in
theorem num_any (x : Int) (w : World) : Calls Try.prog 18 #[.int .i64 x] w fun e w' => e = .returned (.int .i64 x) ∧ w' = w := by
  go_enter Try.func18, Try.ntmps18
  go_wp2_with fail
  go_ret
  exact ⟨rfl, rfl⟩

theorem rem_wrap (h g : Nat) (g1 : 1 ≤ g) (g2 : g ≤ 32768) : wrap64 ((h : Int) % (g : Int)) = ((h % g : Nat) : Int) := by
  rw [← Int.natCast_emod]
  have := Nat.mod_lt h (show g > 0 by omega)
  unfold wrap64
  omega

set_option maxRecDepth 100000 in
theorem groupOf_any (s : ByteArray) (hs : Shrt s) (g : Nat) (g1 : 1 ≤ g) (g2 : g ≤ 32768) (w : World) : Calls Try.prog 29 #[.string s, .int .i64 g] w fun e w' => e = .returned (.int .i64 (hsh s % g : Nat)) ∧ w' = w := by
  have HA := hide (hash_any s hs)
  have HL := hide (hsh_lt s)
  generalize hsh s = x at *
  go_enter Try.func29, Try.ntmps29
  go_wp2_with fail
  refine (HA.out _).mono ?_
  rintro e w' ⟨rfl, rfl⟩
  have hg0 : ¬ ((g : Int) % 4294967296 = 0) := by omega
  go_wp2_with fail
  go_ret
  exact ⟨by rw [← rem_wrap x g g1 g2]; rfl, rfl⟩

end Go.Proofs.Ytmhobdcnohhaaaa
