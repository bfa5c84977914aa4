/- Lists of moves held against each other; the document's Moves of numbers that may not be. -/
import Derived.Test.YtmhobdcnohhaaaaGRMov
namespace Go.Proofs.Ytmhobdcnohhaaaa
open Go.RowKit

theorem neq_move (a b c d : Int) (W : World) : (binOp .neq 54 (.agg #[.int .i64 a, .int .i64 b, .int .i64 c, .int .i64 d]) (.agg #[.int .i64 a, .int .i64 b, .int .i64 c, .int .i64 d])).run Try.prog W = .ok (.bool false) W := by
  simp [go_sem]

/-- A list of moves that can be read. -/
structure SegM (w : World) (ao : Option Addr) (l : List Mv) : Prop where
  addr : 0 < l.length → ∃ b off, ao = some ⟨b, off, none⟩
  cell : ∀ b off, ao = some ⟨b, off, none⟩ → ∀ i (h : i < l.length), w.cell? ⟨b, off + i * 4, none⟩ = some (.int .i64 (l[i].a : Int)) ∧ w.cell? ⟨b, off + i * 4 + 1, none⟩ = some (.int .i64 (l[i].b : Int)) ∧ w.cell? ⟨b, off + i * 4 + 2, none⟩ = some (.int .i64 (l[i].f : Int)) ∧ w.cell? ⟨b, off + i * 4 + 3, none⟩ = some (.int .i64 (l[i].t : Int))

theorem SegM.of_own {w : World} {base n c : Nat} {ao : Option Addr} {l : List Mv} (h : w.ownsRow base 54 4 (.slice ao n c) l.length (mcells l)) : SegM w ao l := by
  refine ⟨fun h0 => ?_, fun b off e i hi => ?_⟩
  · rcases h.2 with ⟨h1, h2⟩ | ⟨b, cap, cur, h1, _⟩
    · omega
    · injection h1 with h1 _ _; exact ⟨b, 0, h1⟩
  · subst e
    rcases h.2 with ⟨h1, h2⟩ | ⟨b', cap, cur, h1, _⟩
    · cases h1
    · injection h1 with h1 _ _; injection h1 with h1; injection h1 with h1 h2 _
      subst h1 h2
      have hcs := h.cells (g := b) rfl
      obtain ⟨m0, m1, m2, m3⟩ := mcell_at l i hi
      have a0 := hcs _ _ m0
      have a1 := hcs _ _ m1
      have a2 := hcs _ _ m2
      have a3 := hcs _ _ m3
      rw [Addr.add_lit, Nat.zero_add] at a0 a1 a2 a3
      rw [Nat.zero_add]
      exact ⟨a0, a1, a2, a3⟩

theorem SegM.touch {S : Nat → Prop} {w w' : World} {ao : Option Addr} {l : List Mv} (h : SegM w ao l) (ht : Touch S w w') (hn : ∀ b off, ao = some ⟨b, off, none⟩ → 0 < l.length → ¬ S b) : SegM w' ao l := by
  refine ⟨h.addr, fun b off e i hi => ?_⟩
  obtain ⟨h0, h1, h2, h3⟩ := h.cell b off e i hi
  have hs := hn b off e (by omega)
  have lt := lt_of_cell h0
  exact ⟨(ht.cell (p := ⟨b, _, none⟩) lt hs).trans h0, (ht.cell (p := ⟨b, _, none⟩) lt hs).trans h1, (ht.cell (p := ⟨b, _, none⟩) lt hs).trans h2, (ht.cell (p := ⟨b, _, none⟩) lt hs).trans h3⟩

set_option maxRecDepth 100000 in
set_option maxHeartbeats 2000000 in
theorem sameMoves_any (a1 a2 : Option Addr) (c1 c2 : Nat) (l : List Mv) (n : Nat) (hn : l.length = n) (hb : n ≤ 32768) (w : World) (h1 : SegM w a1 l) (h2 : SegM w a2 l) : Calls Try.prog 24 #[.slice a1 n c1, .slice a2 n c2] w fun e w' => e = .returned (.bool true) ∧ ∃ k, w' = w.drewN k := by
  have H1 := hide h1
  have H2 := hide h2
  have HN := hide hn
  clear h1 h2 hn
  go_enter Try.func24, Try.ntmps24
  go_wp2_with fail
  go_loopw [5] (fun i wr => ∃ k : Nat, i = .int .i64 (k : Int) ∧ k ≤ n ∧ ∃ j, wr = w.drewN j) (fun i _ => n - (intOf i).toNat)
  case atStart => exact ⟨0, rfl, Nat.zero_le _, 0, rfl⟩
  case round =>
    obtain ⟨k, rfl, hk, j, rfl⟩ := hrel
    by_cases hlt : k < n
    · have hlt' : (k : Int) < (n : Int) := by omega
      have hkl : k < l.length := by have := HN.out; omega
      obtain ⟨b1, o1, rfl⟩ := H1.out.addr (by omega)
      obtain ⟨b2, o2, rfl⟩ := H2.out.addr (by omega)
      obtain ⟨p0, p1, p2, p3⟩ := H1.out.cell b1 o1 rfl k hkl
      obtain ⟨q0, q1, q2, q3⟩ := H2.out.cell b2 o2 rfl k hkl
      generalize l[k] = m at *
      have NE := neq_move (m.a : Int) (m.b : Int) (m.f : Int) (m.t : Int)
      clear hkl
      go_wp2_with fail
      go_quiet (fail)
      go_wp2_with fail
      go_roundw
      case rel => exact ⟨k + 1, by simp, hlt, _, rfl⟩
      case measure => simp [intOf]; omega
    · have e : k = n := by omega
      subst e
      go_wp2_with fail
      go_ret
      exact ⟨rfl, j, rfl⟩

set_option maxRecDepth 100000 in
theorem rmoves_no (p q g : Int) (h : ¬ (mayW p g = true ∧ mayW q g = true)) (w : World) : Calls Try.prog 23 #[.int .i64 p, .int .i64 q, .int .i64 g] w fun e w' => e = .returned (.tuple #[.slice none 0 0, .int .i64 2]) ∧ w' = w := by
  have M1 := hide (rmays_any p g)
  have M2 := hide (rmays_any q g)
  cases h1 : mayW p g with
  | false =>
    clear h
    go_enter Try.func23, Try.ntmps23
    go_wp2_with fail
    refine (M1.out _).mono ?_
    rintro e w' ⟨rfl, rfl⟩
    go_wp2_with fail
    go_ret2
    exact ⟨rfl, rfl⟩
  | true =>
    have h2 : mayW q g = false := by
      cases h2 : mayW q g with
      | false => rfl
      | true => exact absurd ⟨h1, h2⟩ h
    clear h
    go_enter Try.func23, Try.ntmps23
    go_wp2_with fail
    refine (M1.out _).mono ?_
    rintro e w' ⟨rfl, rfl⟩
    go_wp2_with fail
    refine (M2.out _).mono ?_
    rintro e w' ⟨rfl, rfl⟩
    go_wp2_with fail
    go_ret2
    exact ⟨rfl, rfl⟩

end Go.Proofs.Ytmhobdcnohhaaaa
