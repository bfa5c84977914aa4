/- The program's and the document's Group, Stretch, Worker, Of. -/
import Derived.Test.YtmhobdcnohhaaaaGNum
namespace Go.Proofs.Ytmhobdcnohhaaaa
open Go.RowKit

/-- The numbers of a stretch. -/
def okS (n p g : Int) : Bool := decide (mayW p g = true ∧ 0 ≤ n ∧ n < p)
def sA (n p g : Int) : Int := if okS n p g = true then (st p.toNat g.toNat n.toNat : Nat) else 0
def sB (n p g : Int) : Int := if okS n p g = true then (st p.toNat g.toNat (n.toNat + 1) : Nat) else 0
def sE (n p g : Int) : Int := if okS n p g = true then 0 else 2
/-- The numbers of a worker. -/
def okK (n p g : Int) : Bool := decide (mayW p g = true ∧ 0 ≤ n ∧ n < g)
def kA (n p g : Int) : Int := if okK n p g = true then (wk p.toNat g.toNat n.toNat : Nat) else 0
def kE (n p g : Int) : Int := if okK n p g = true then 0 else 2
/-- A key's group. -/
def gA (s : ByteArray) (g : Int) : Int := if mayG g = true ∧ s.size ≤ 256 then (hsh s % g.toNat : Nat) else 0
def gE (s : ByteArray) (g : Int) : Int := if mayG g = true then (if s.size ≤ 256 then 0 else 3) else 2
/-- A key's worker. -/
def oA (s : ByteArray) (p g : Int) : Int := if mayW p g = true ∧ s.size ≤ 256 then (wk p.toNat g.toNat (hsh s % g.toNat) : Nat) else 0
def oE (s : ByteArray) (p g : Int) : Int := if mayW p g = true then (if s.size ≤ 256 then 0 else 3) else 2

theorem s_yes {n p g : Nat} (h : May p g) (hn : n < p) : sA n p g = (st p g n : Nat) ∧ sB n p g = (st p g (n + 1) : Nat) ∧ sE n p g = 0 := by
  have e : okS n p g = true := decide_eq_true ⟨h.may, by omega, by omega⟩
  unfold sA sB sE
  rw [if_pos e, if_pos e, if_pos e]
  exact ⟨rfl, rfl, rfl⟩

theorem s_no {n p g : Int} (h : okS n p g = false) : sA n p g = 0 ∧ sB n p g = 0 ∧ sE n p g = 2 := by
  unfold sA sB sE
  simp [h]

theorem k_yes {n p g : Nat} (h : May p g) (hn : n < g) : kA n p g = (wk p g n : Nat) ∧ kE n p g = 0 := by
  have e : okK n p g = true := decide_eq_true ⟨h.may, by omega, by omega⟩
  unfold kA kE
  rw [if_pos e, if_pos e]
  exact ⟨rfl, rfl⟩

theorem k_no {n p g : Int} (h : okK n p g = false) : kA n p g = 0 ∧ kE n p g = 2 := by
  unfold kA kE
  simp [h]

theorem okS_of {n p g : Int} (h : okS n p g = true) : ∃ N P G : Nat, n = N ∧ p = P ∧ g = G ∧ May P G ∧ N < P := by
  obtain ⟨h1, h2, h3⟩ : mayW p g = true ∧ 0 ≤ n ∧ n < p := of_decide_eq_true h
  obtain ⟨P, G, rfl, rfl, m⟩ := may_of h1
  exact ⟨n.toNat, P, G, by omega, rfl, rfl, m, by omega⟩

theorem okK_of {n p g : Int} (h : okK n p g = true) : ∃ N P G : Nat, n = N ∧ p = P ∧ g = G ∧ May P G ∧ N < G := by
  obtain ⟨h1, h2, h3⟩ : mayW p g = true ∧ 0 ≤ n ∧ n < g := of_decide_eq_true h
  obtain ⟨P, G, rfl, rfl, m⟩ := may_of h1
  exact ⟨n.toNat, P, G, by omega, rfl, rfl, m, by omega⟩

set_option maxRecDepth 100000 in
theorem stretch0_no (n p g : Int) (h : okS n p g = false) (w : World) : Calls Try.prog 10 #[.int .i64 n, .int .i64 p, .int .i64 g] w fun e w' => e = .returned (.tuple #[.int .i64 0, .int .i64 0, .int .i64 2]) ∧ w' = w := by
  have M := hide (mays_any p g)
  have HH : Hid (¬ (mayW p g = true ∧ 0 ≤ n ∧ n < p)) := hide (of_decide_eq_false h)
  clear h
  go_enter Try.func10, Try.ntmps10
  go_wp2_with fail
  refine (M.out _).mono ?_
  rintro e w' ⟨rfl, rfl⟩
  cases hm : mayW p g with
  | false =>
    go_wp2_with fail
    go_ret3
    exact ⟨rfl, rfl⟩
  | true =>
    have H2 : Hid (¬ (0 ≤ n ∧ n < p)) := hide (fun hx => HH.out ⟨hm, hx⟩)
    by_cases h0 : n < 0
    · go_wp2_with fail
      go_ret3
      exact ⟨rfl, rfl⟩
    · have h1 : p ≤ n := by have := H2.out; omega
      go_wp2_with fail
      go_ret3
      exact ⟨rfl, rfl⟩

set_option maxRecDepth 100000 in
theorem rstretch_no (n p g : Int) (h : okS n p g = false) (w : World) : Calls Try.prog 11 #[.int .i64 n, .int .i64 p, .int .i64 g] w fun e w' => e = .returned (.tuple #[.int .i64 0, .int .i64 0, .int .i64 2]) ∧ w' = w := by
  have M := hide (rmays_any p g)
  have HH : Hid (¬ (mayW p g = true ∧ 0 ≤ n ∧ n < p)) := hide (of_decide_eq_false h)
  clear h
  go_enter Try.func11, Try.ntmps11
  go_wp2_with fail
  refine (M.out _).mono ?_
  rintro e w' ⟨rfl, rfl⟩
  cases hm : mayW p g with
  | false =>
    go_wp2_with fail
    go_ret3
    exact ⟨rfl, rfl⟩
  | true =>
    have H2 : Hid (¬ (0 ≤ n ∧ n < p)) := hide (fun hx => HH.out ⟨hm, hx⟩)
    by_cases h0 : n < 0
    · go_wp2_with fail
      go_ret3
      exact ⟨rfl, rfl⟩
    · have h1 : p ≤ n := by have := H2.out; omega
      go_wp2_with fail
      go_ret3
      exact ⟨rfl, rfl⟩

set_option maxRecDepth 100000 in
theorem worker0_no (n p g : Int) (h : okK n p g = false) (w : World) : Calls Try.prog 12 #[.int .i64 n, .int .i64 p, .int .i64 g] w fun e w' => e = .returned (.tuple #[.int .i64 0, .int .i64 2]) ∧ w' = w := by
  have M := hide (mays_any p g)
  have HH : Hid (¬ (mayW p g = true ∧ 0 ≤ n ∧ n < g)) := hide (of_decide_eq_false h)
  clear h
  go_enter Try.func12, Try.ntmps12
  go_wp2_with fail
  refine (M.out _).mono ?_
  rintro e w' ⟨rfl, rfl⟩
  cases hm : mayW p g with
  | false =>
    go_wp2_with fail
    go_ret2
    exact ⟨rfl, rfl⟩
  | true =>
    have H2 : Hid (¬ (0 ≤ n ∧ n < g)) := hide (fun hx => HH.out ⟨hm, hx⟩)
    by_cases h0 : n < 0
    · go_wp2_with fail
      go_ret2
      exact ⟨rfl, rfl⟩
    · have h1 : g ≤ n := by have := H2.out; omega
      go_wp2_with fail
      go_ret2
      exact ⟨rfl, rfl⟩

set_option maxRecDepth 100000 in
theorem rworker_no (n p g : Int) (h : okK n p g = false) (w : World) : Calls Try.prog 13 #[.int .i64 n, .int .i64 p, .int .i64 g] w fun e w' => e = .returned (.tuple #[.int .i64 0, .int .i64 2]) ∧ w' = w := by
  have M := hide (rmays_any p g)
  have HH : Hid (¬ (mayW p g = true ∧ 0 ≤ n ∧ n < g)) := hide (of_decide_eq_false h)
  clear h
  go_enter Try.func13, Try.ntmps13
  go_wp2_with fail
  refine (M.out _).mono ?_
  rintro e w' ⟨rfl, rfl⟩
  cases hm : mayW p g with
  | false =>
    go_wp2_with fail
    go_ret2
    exact ⟨rfl, rfl⟩
  | true =>
    have H2 : Hid (¬ (0 ≤ n ∧ n < g)) := hide (fun hx => HH.out ⟨hm, hx⟩)
    by_cases h0 : n < 0
    · go_wp2_with fail
      go_ret2
      exact ⟨rfl, rfl⟩
    · have h1 : g ≤ n := by have := H2.out; omega
      go_wp2_with fail
      go_ret2
      exact ⟨rfl, rfl⟩

set_option maxRecDepth 100000 in
theorem stretch0_yes (n p g : Nat) (h : May p g) (hn : n < p) (w : World) : Calls Try.prog 10 #[.int .i64 n, .int .i64 p, .int .i64 g] w fun e w' => e = .returned (.tuple #[.int .i64 (st p g n : Nat), .int .i64 (st p g (n + 1) : Nat), .int .i64 0]) ∧ Touch (fun _ => False) w w' := by
  have M := hide (mays_any p g)
  have S := hide (stretch_any p g n h hn)
  have hm := h.may
  have h0 : ¬ (n : Int) < 0 := by omega
  have h1 : ¬ (p : Int) ≤ (n : Int) := by omega
  generalize st p g n = a at *
  generalize st p g (n + 1) = b at *
  go_enter Try.func10, Try.ntmps10
  go_wp2_with fail
  refine (M.out _).mono ?_
  rintro e w' ⟨rfl, rfl⟩
  go_wp2_with fail
  refine (S.out _).mono ?_
  rintro e w1 ⟨rfl, t1⟩
  go_wp2_with fail
  go_region
  go_wp2_with fail
  go_ret3
  exact ⟨rfl, (t1.alloc _).drew⟩

set_option maxRecDepth 100000 in
theorem rstretch_yes (n p g : Nat) (h : May p g) (hn : n < p) (w : World) : Calls Try.prog 11 #[.int .i64 n, .int .i64 p, .int .i64 g] w fun e w' => e = .returned (.tuple #[.int .i64 (st p g n : Nat), .int .i64 (st p g (n + 1) : Nat), .int .i64 0]) ∧ w' = w.drew := by
  have M := hide (rmays_any p g)
  have hm := h.may
  have h0 : ¬ (n : Int) < 0 := by omega
  have h1 : ¬ (p : Int) ≤ (n : Int) := by omega
  have hp : ¬ (p : Int) = 0 := by have := h.p1; omega
  have e1 := st_wrap h (Nat.le_of_lt hn)
  have e2 := st_wrap1 h hn
  generalize st p g n = a at *
  generalize st p g (n + 1) = b at *
  go_enter Try.func11, Try.ntmps11
  go_wp2_with fail
  refine (M.out _).mono ?_
  rintro e w' ⟨rfl, rfl⟩
  go_wp2_with fail
  go_region
  rw [e1, e2]
  go_wp2_with fail
  go_ret3
  exact ⟨rfl, rfl⟩

set_option maxRecDepth 100000 in
theorem worker0_yes (n p g : Nat) (h : May p g) (hn : n < g) (w : World) : Calls Try.prog 12 #[.int .i64 n, .int .i64 p, .int .i64 g] w fun e w' => e = .returned (.tuple #[.int .i64 (wk p g n : Nat), .int .i64 0]) ∧ w' = w := by
  have M := hide (mays_any p g)
  have S := hide (workerOf_any p g n h hn)
  have hm := h.may
  have h0 : ¬ (n : Int) < 0 := by omega
  have h1 : ¬ (g : Int) ≤ (n : Int) := by omega
  generalize wk p g n = a at *
  go_enter Try.func12, Try.ntmps12
  go_wp2_with fail
  refine (M.out _).mono ?_
  rintro e w' ⟨rfl, rfl⟩
  go_wp2_with fail
  refine (S.out _).mono ?_
  rintro e w' ⟨rfl, rfl⟩
  go_wp2_with fail
  go_ret2
  exact ⟨rfl, rfl⟩

set_option maxRecDepth 100000 in
theorem rworker_yes (n p g : Nat) (h : May p g) (hn : n < g) (w : World) : Calls Try.prog 13 #[.int .i64 n, .int .i64 p, .int .i64 g] w fun e w' => e = .returned (.tuple #[.int .i64 (wk p g n : Nat), .int .i64 0]) ∧ ∃ k, w' = w.drewN k := by
  have M := hide (rmays_any p g)
  have S := hide (fun k (hk : k < p) => rstretch_yes k p g h hk)
  have hm := h.may
  have HB := hide (wk_below h (k := n))
  have HA := hide (fun m (hm : m ≤ wk p g n) => wk_above h hm)
  have HL := hide (wk_lt h hn)
  have HP := hide (show p ≤ 32768 from Nat.le_trans h.p2 h.g2)
  have h0 : ¬ (n : Int) < 0 := by omega
  have h1 : ¬ (g : Int) ≤ (n : Int) := by omega
  have hd : decide (g ≤ n) = false := decide_eq_false (by omega)
  generalize wk p g n = a at *
  go_enter Try.func13, Try.ntmps13
  go_wp2_with fail
  refine (M.out _).mono ?_
  rintro e w' ⟨rfl, rfl⟩
  go_wp2_with fail
  go_loopw [8] (fun i wr => ∃ m : Nat, i = .int .i64 m ∧ m ≤ a ∧ ∃ k, wr = w'.drewN k) (fun i _ => a - (intOf i).toNat)
  case atStart => exact ⟨0, rfl, Nat.zero_le _, 0, rfl⟩
  case round =>
    obtain ⟨m, rfl, hma, k, rfl⟩ := hrel
    have SM := hide (S.out m (by have := HL.out; omega))
    by_cases hlt : m < a
    · have hc : ¬ (n : Int) < ((st p g (m + 1) : Nat) : Int) := by have := HA.out (m + 1) hlt; omega
      generalize st p g m = x at *
      generalize st p g (m + 1) = y at *
      go_wp2_with fail
      refine (SM.out _).mono ?_
      rintro e w2 ⟨rfl, rfl⟩
      go_wp2_with fail
      go_roundw
      case rel => exact ⟨m + 1, by rw [succ_wrap (by have := HL.out; have := HP.out; omega)], hlt, k + 1, rfl⟩
      case measure => rw [succ_wrap (by have := HL.out; have := HP.out; omega)]; simp [intOf]; omega
    · have e : m = a := by omega
      subst e
      have hc : (n : Int) < ((st p g (m + 1) : Nat) : Int) := by have := HB.out; omega
      generalize st p g m = x at *
      generalize st p g (m + 1) = y at *
      go_wp2_with fail
      refine (SM.out _).mono ?_
      rintro e w2 ⟨rfl, rfl⟩
      go_wp2_with fail
      go_ret2
      exact ⟨rfl, k + 1, rfl⟩

end Go.Proofs.Ytmhobdcnohhaaaa
