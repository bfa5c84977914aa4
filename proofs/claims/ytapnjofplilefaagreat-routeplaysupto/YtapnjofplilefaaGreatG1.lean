/- The hash of a text: the notions. Groups and workers: the notions. The hash of a text, in the program. Groups and workers: the program's. The program's groups.Of. -/
import Derived.Test.YtapnjofplilefaaGreatBase
import Derived.Test.YtapnjofplilefaaGreatProg
import Derived.Laws.BitsAllLaws
import Derived.BigQuiet
import Derived.Deep.WholeRow
namespace Go.Proofs.YtapnjofplilefaaGreat
open Go.RowKit

/-- A text whose length an int can be. -/
structure Shrt (s : ByteArray) : Prop where
  le : s.size < 9223372036854775808

theorem wrap_up {n m : Nat} (h : n < m) (hm : m < 9223372036854775808) : wrap64 ((n : Int) + 1) = ((n + 1 : Nat) : Int) := by
  unfold wrap64; omega

/-- One byte more. -/
def fnv (h : Nat) (b : UInt8) : Nat := (h ^^^ b.toNat) * 16777619 % 4294967296

/-- The hash of a text's first bytes. -/
def hshUp (s : ByteArray) (n : Nat) : Nat := (s.data.toList.take n).foldl fnv 2166136261

/-- The hash of a text. -/
def hsh (s : ByteArray) : Nat := s.data.toList.foldl fnv 2166136261

theorem fnv_lt (h : Nat) (b : UInt8) : fnv h b < 4294967296 := Nat.mod_lt _ (by omega)

theorem fold_lt : ∀ (l : List UInt8) (h : Nat), h < 4294967296 → l.foldl fnv h < 4294967296
  | [], _, hh => hh
  | b :: l, h, _ => by rw [List.foldl_cons]; exact fold_lt l _ (fnv_lt h b)

theorem hshUp_lt (s : ByteArray) (n : Nat) : hshUp s n < 4294967296 := fold_lt _ _ (by omega)
theorem hsh_lt (s : ByteArray) : hsh s < 4294967296 := fold_lt _ _ (by omega)

theorem hshUp_all (s : ByteArray) : hshUp s s.size = hsh s := by
  unfold hshUp hsh
  rw [List.take_of_length_le (by show s.data.toList.length ≤ s.data.size; simp)]

theorem hshUp_succ (s : ByteArray) (n : Nat) (h : n < s.size) : hshUp s (n + 1) = fnv (hshUp s n) s[n] := by
  unfold hshUp
  have hl : n < s.data.toList.length := by simpa using h
  have e : s.data.toList[n] = s[n] := by rw [Array.getElem_toList]; rfl
  rw [List.take_succ_eq_append_getElem hl, List.foldl_append, List.foldl_cons, List.foldl_nil, e]

theorem xor_byte (h : Nat) (hh : h < 4294967296) (b : UInt8) : bits .xor .u32 (h : Int) ((b.toNat : Int) % 4294967296) * 16777619 % 4294967296 = (fnv h b : Int) := by
  have hb := b.toNat_lt
  rw [show ((b.toNat : Int) % 4294967296) = (b.toNat : Int) by omega, u32_xor_nat _ _ hh (by omega)]
  unfold fnv
  omega

end Go.Proofs.YtapnjofplilefaaGreat

namespace Go.Proofs.YtapnjofplilefaaGreat
open Go.RowKit

/-- So many groups may be. -/
def mayG (g : Int) : Bool := decide (1 ≤ g ∧ g ≤ 32768)

/-- So many workers may be, of so many groups. -/
def mayW (p g : Int) : Bool := decide (1 ≤ g ∧ g ≤ 32768 ∧ 1 ≤ p ∧ p ≤ g)

theorem mayG_yes {g : Int} (h : mayG g = true) : 1 ≤ g ∧ g ≤ 32768 := of_decide_eq_true h

theorem mayW_yes {p g : Int} (h : mayW p g = true) : 1 ≤ g ∧ g ≤ 32768 ∧ 1 ≤ p ∧ p ≤ g := of_decide_eq_true h

theorem mayW_g {p g : Int} (h : mayW p g = true) : mayG g = true := by have := mayW_yes h; unfold mayG; exact decide_eq_true (by omega)

theorem mayW_no {p g : Int} (h : mayG g = false) : mayW p g = false := by
  have h' : ¬ (1 ≤ g ∧ g ≤ 32768) := of_decide_eq_false h
  exact decide_eq_false (by omega)

theorem mayW_is {p g : Int} (h : mayG g = true) (hp : 1 ≤ p) : decide (p ≤ g) = mayW p g := by
  have := mayG_yes h
  unfold mayW
  exact decide_eq_decide.2 (by omega)

/-- Where the stretch of a worker begins. -/
def st (p g w : Nat) : Nat := w * g / p

/-- Whose a group is. -/
def wk (p g k : Nat) : Nat := ((k + 1) * p - 1) / g

/-- Numbers that may be. -/
structure May (p g : Nat) : Prop where
  g1 : 1 ≤ g
  g2 : g ≤ 32768
  p1 : 1 ≤ p
  p2 : p ≤ g

theorem may_of {p g : Int} (h : mayW p g = true) : ∃ P G : Nat, p = P ∧ g = G ∧ May P G := by
  have := mayW_yes h
  exact ⟨p.toNat, g.toNat, by omega, by omega, ⟨by omega, by omega, by omega, by omega⟩⟩

theorem May.may {p g : Nat} (h : May p g) : mayW p g = true := by
  obtain ⟨a, b, c, d⟩ := h
  exact decide_eq_true (by omega)

theorem mul_le {a b : Nat} (ha : a ≤ 32769) (hb : b ≤ 32769) : a * b ≤ 1073807361 := by
  have := Nat.mul_le_mul ha hb
  omega

theorem mul_wrap {a b : Nat} (ha : a ≤ 32769) (hb : b ≤ 32769) : wrap64 ((a : Int) * (b : Int)) = ((a * b : Nat) : Int) := by
  have := mul_le ha hb
  rw [← Int.natCast_mul]
  unfold wrap64
  omega

theorem st_wrap {p g k : Nat} (h : May p g) (hk : k ≤ p) : wrap64 ((wrap64 ((k : Int) * (g : Int))).tdiv (p : Int)) = (st p g k : Int) := by
  have h1 := h.p2
  have h2 := h.g2
  rw [mul_wrap (by omega) (by omega), ← Int.ofNat_tdiv]
  have h3 := mul_le (a := k) (b := g) (by omega) (by omega)
  have h4 := Nat.div_le_self (k * g) p
  unfold st wrap64
  generalize k * g / p = q at *
  omega

theorem succ_wrap {k : Nat} (hk : k ≤ 32768) : wrap64 ((k : Int) + 1) = ((k + 1 : Nat) : Int) := by unfold wrap64; omega

theorem st_wrap1 {p g k : Nat} (h : May p g) (hk : k < p) : wrap64 ((wrap64 (wrap64 ((k : Int) + 1) * (g : Int))).tdiv (p : Int)) = (st p g (k + 1) : Int) := by
  have h1 := h.p2
  have h2 := h.g2
  rw [succ_wrap (by omega)]
  exact st_wrap h hk

theorem wk_wrap {p g k : Nat} (h : May p g) (hk : k < g) : wrap64 ((wrap64 (wrap64 (wrap64 ((k : Int) + 1) * (p : Int)) - 1)).tdiv (g : Int)) = (wk p g k : Int) := by
  have h1 := h.p2
  have h2 := h.g2
  have h0 := h.p1
  have h3 := mul_le (a := k + 1) (b := p) (by omega) (by omega)
  have h5 : 1 ≤ (k + 1) * p := Nat.mul_pos (by omega) (by omega)
  rw [succ_wrap (by omega), mul_wrap (by omega) (by omega)]
  have h6 : wrap64 ((((k + 1) * p : Nat) : Int) - 1) = (((k + 1) * p - 1 : Nat) : Int) := by unfold wrap64; omega
  rw [h6, ← Int.ofNat_tdiv]
  have h4 := Nat.div_le_self ((k + 1) * p - 1) g
  unfold wk wrap64
  generalize ((k + 1) * p - 1) / g = q at *
  omega

theorem st_zero (p g : Nat) : st p g 0 = 0 := by unfold st; simp

theorem st_all {p g : Nat} (h : May p g) : st p g p = g := by unfold st; exact Nat.mul_div_cancel_left g h.p1

theorem st_mono {p g a b : Nat} (h : a ≤ b) : st p g a ≤ st p g b := Nat.div_le_div_right (Nat.mul_le_mul_right g h)

theorem st_le {p g k : Nat} (h : May p g) (hk : k ≤ p) : st p g k ≤ g := by have := st_mono (p := p) (g := g) hk; rwa [st_all h] at this

/-- The group lies below the end of its worker's stretch. -/
theorem wk_below {p g k : Nat} (h : May p g) : k < st p g (wk p g k + 1) := by
  have h1 := h.p1
  have h2 := h.g1
  show k + 1 ≤ (wk p g k + 1) * g / p
  rw [Nat.le_div_iff_mul_le (by omega)]
  have h3 := Nat.lt_div_mul_add (a := (k + 1) * p - 1) (b := g) (by omega)
  have h5 : 1 ≤ (k + 1) * p := Nat.mul_pos (by omega) (by omega)
  show (k + 1) * p ≤ (((k + 1) * p - 1) / g + 1) * g
  generalize ((k + 1) * p - 1) / g = q at *
  rw [Nat.add_mul q 1 g]
  omega

/-- A worker below it has only groups below. -/
theorem wk_above {p g k m : Nat} (h : May p g) (hm : m ≤ wk p g k) : st p g m ≤ k := by
  have h1 := h.p1
  have h2 := h.g1
  refine Nat.le_trans (st_mono hm) ?_
  show wk p g k * g / p ≤ k
  have h5 : 1 ≤ (k + 1) * p := Nat.mul_pos (by omega) (by omega)
  have h3 : wk p g k * g ≤ (k + 1) * p - 1 := Nat.div_mul_le_self _ _
  rw [← Nat.lt_add_one_iff, Nat.div_lt_iff_lt_mul (by omega)]
  omega

theorem wk_lt {p g k : Nat} (h : May p g) (hk : k < g) : wk p g k < p := by
  have := h.p1
  by_cases hh : wk p g k < p
  · exact hh
  · have h1 := wk_above h (k := k) (m := p) (by omega)
    rw [st_all h] at h1
    omega

theorem wk_uniq {p g k m : Nat} (h : May p g) (h1 : st p g m ≤ k) (h2 : k < st p g (m + 1)) : wk p g k = m := by
  have h3 := wk_below h (k := k)
  by_cases ha : wk p g k < m
  · have := st_mono (p := p) (g := g) (show wk p g k + 1 ≤ m by omega); omega
  · by_cases hb : m < wk p g k
    · have := wk_above h (k := k) (m := m + 1) hb; omega
    · omega

theorem st_rise {p g k : Nat} (h : May p g) : st p g k < st p g (k + 1) := by
  have h1 := h.p1
  have h2 := h.p2
  show k * g / p < (k + 1) * g / p
  rw [← Nat.add_one_le_iff, Nat.le_div_iff_mul_le (by omega), Nat.add_mul, Nat.one_mul, Nat.add_mul, Nat.one_mul]
  have := Nat.div_mul_le_self (k * g) p
  omega

theorem rem_wrap (h g : Nat) (g1 : 1 ≤ g) (g2 : g ≤ 32768) : wrap64 ((h : Int) % (g : Int)) = ((h % g : Nat) : Int) := by
  rw [← Int.natCast_emod]
  have := Nat.mod_lt h (show g > 0 by omega)
  unfold wrap64
  omega

end Go.Proofs.YtapnjofplilefaaGreat

namespace Go.Proofs.YtapnjofplilefaaGreat
open Go.RowKit

set_option maxRecDepth 100000 in
theorem hash_any (s : ByteArray) (hs : Shrt s) (w : World) : Calls Tryz.prog 66 #[.string s] w fun e w' => e = .returned (.int .u32 (hsh s : Int)) ∧ w' = w := by
  go_enter Tryz.func66, Tryz.ntmps66
  go_wp2_with fail
  go_loop [3, 7] (fun h i => ∃ n : Nat, h = .int .u32 (hshUp s n : Int) ∧ i = .int .i64 n ∧ n ≤ s.size) (fun h i => s.size - (intOf i).toNat)
  case atStart => exact ⟨0, rfl, rfl, Nat.zero_le _⟩
  case round =>
    obtain ⟨n, rfl, rfl, hn⟩ := hrel
    by_cases hlt : n < s.size
    · have hlt' : (n : Int) < (s.size : Int) := by omega
      have HS := hide (hshUp_succ s n hlt)
      have HL := hide (hshUp_lt s n)
      generalize hshUp s n = h at *
      go_wp2_with fail
      go_round
      case rel => exact ⟨n + 1, by rw [HS.out, xor_byte h HL.out], by rw [wrap_up hlt hs.le], by omega⟩
      case measure => rw [wrap_up hlt hs.le]; simp [intOf]; omega
    · have e : n = s.size := by omega
      subst e
      rw [hshUp_all]
      go_wp2_with fail
      go_ret
      exact ⟨rfl, rfl⟩

end Go.Proofs.YtapnjofplilefaaGreat

namespace Go.Proofs.YtapnjofplilefaaGreat
open Go.RowKit

set_option maxRecDepth 100000 in
theorem may_any (g : Int) (w : World) : Calls Tryz.prog 65 #[.int .i64 g] w fun e w' => e = .returned (.bool (mayG g)) ∧ w' = w := by
  go_enter Tryz.func65, Tryz.ntmps65
  by_cases h : (1 : Int) ≤ g
  · have HH := hide h
    go_wp2_with fail
    go_ret
    exact ⟨by have := HH.out; simp [mayG, this], rfl⟩
  · have HH := hide h
    go_wp2_with fail
    go_ret
    exact ⟨by have := HH.out; simp [mayG]; omega, rfl⟩

set_option maxRecDepth 100000 in
theorem mays_any (p g : Int) (w : World) : Calls Tryz.prog 56 #[.int .i64 p, .int .i64 g] w fun e w' => e = .returned (.bool (mayW p g)) ∧ w' = w := by
  have M := hide (may_any g)
  go_enter Tryz.func56, Tryz.ntmps56
  go_wp2_with fail
  refine (M.out _).mono ?_
  rintro e w' ⟨rfl, rfl⟩
  cases hg : mayG g with
  | false =>
    go_wp2_with fail
    go_ret
    exact ⟨by rw [mayW_no hg]; rfl, rfl⟩
  | true =>
    have HG := hide hg
    by_cases h : (1 : Int) ≤ p
    · have HH := hide h
      go_wp2_with fail
      go_ret
      exact ⟨by rw [← mayW_is HG.out HH.out]; rfl, rfl⟩
    · have HH := hide h
      go_wp2_with fail
      go_ret
      exact ⟨by have := HH.out; simp [mayW]; omega, rfl⟩

set_option maxRecDepth 100000 in
theorem workerOf_any (p g k : Nat) (h : May p g) (hk : k < g) (w : World) : Calls Tryz.prog 57 #[.int .i64 k, .int .i64 p, .int .i64 g] w fun e w' => e = .returned (.int .i64 (wk p g k : Nat)) ∧ w' = w := by
  have hp : ¬ (g : Int) = 0 := by have := h.g1; omega
  have e1 := wk_wrap h hk
  go_enter Tryz.func57, Tryz.ntmps57
  go_wp2_with fail
  go_ret
  exact ⟨by rw [← e1]; rfl, rfl⟩

set_option maxRecDepth 100000 in
theorem groupOf_any (s : ByteArray) (hs : Shrt s) (g : Nat) (g1 : 1 ≤ g) (g2 : g ≤ 32768) (w : World) : Calls Tryz.prog 58 #[.string s, .int .i64 g] w fun e w' => e = .returned (.int .i64 (hsh s % g : Nat)) ∧ w' = w := by
  have HA := hide (hash_any s hs)
  have HL := hide (hsh_lt s)
  generalize hsh s = x at *
  go_enter Tryz.func58, Tryz.ntmps58
  go_wp2_with fail
  refine (HA.out _).mono ?_
  rintro e w' ⟨rfl, rfl⟩
  have hg0 : ¬ ((g : Int) % 4294967296 = 0) := by omega
  go_wp2_with fail
  go_ret
  exact ⟨by rw [← rem_wrap x g g1 g2]; rfl, rfl⟩

end Go.Proofs.YtapnjofplilefaaGreat

namespace Go.Proofs.YtapnjofplilefaaGreat
open Go.RowKit

set_option maxRecDepth 100000 in
theorem ofP_any (s : ByteArray) (hs : Shrt s) (p g : Nat) (m : May p g) (w : World) : Calls Tryz.prog 37 #[.string s, .int .i64 (p : Int), .int .i64 (g : Int)] w fun e w' => e = .returned (if s.size ≤ 256 then .tuple #[.int .i64 (wk p g (hsh s % g) : Nat), .int .i64 0] else .tuple #[.int .i64 0, .int .i64 3]) ∧ w' = w := by
  have M := hide (mays_any (p : Int) (g : Int))
  rw [m.may] at M
  by_cases hl : s.size ≤ 256
  · rw [if_pos hl]
    have S := hide (groupOf_any s hs g m.g1 m.g2)
    have S2 := hide (workerOf_any p g (hsh s % g) m (Nat.mod_lt _ m.g1))
    have hl' : ¬ (256 : Int) < (s.size : Int) := by omega
    have hl2 : ¬ 256 < s.size := by omega
    generalize hsh s % g = x at *
    go_enter Tryz.func37, Tryz.ntmps37
    go_wp2_with fail
    refine (M.out _).mono ?_
    rintro e w' ⟨rfl, rfl⟩
    go_wp2_with fail
    refine (S.out _).mono ?_
    rintro e w' ⟨rfl, rfl⟩
    go_wp2_with fail
    refine (S2.out _).mono ?_
    rintro e w' ⟨rfl, rfl⟩
    go_wp2_with fail
    go_ret2
    exact ⟨rfl, rfl⟩
  · rw [if_neg hl]
    have hl' : (256 : Int) < (s.size : Int) := by omega
    have hl2 : 256 < s.size := by omega
    clear hl
    go_enter Tryz.func37, Tryz.ntmps37
    go_wp2_with fail
    refine (M.out _).mono ?_
    rintro e w' ⟨rfl, rfl⟩
    go_wp2_with fail
    go_ret2
    exact ⟨rfl, rfl⟩

end Go.Proofs.YtapnjofplilefaaGreat
