/- The program's and the document's Group and Of; all answers by one name each. -/
import Derived.Test.YtmhobdcnohhaaaaGFun
namespace Go.Proofs.Ytmhobdcnohhaaaa
open Go.RowKit

theorem lt_of_heap {w : World} {g : Nat} {o : Obj} (h : w.heap[g]? = some o) : g < w.heap.size := (Array.getElem?_eq_some_iff.1 h).1

theorem Touch.heap {S : Nat → Prop} {w w' : World} (ht : Touch S w w') {g : Nat} {o : Obj} (h : w.heap[g]? = some o) (hn : ¬ S g) : w'.heap[g]? = some o := (ht.block g (lt_of_heap h) hn).trans h

theorem tags {w : World} {g h : Nat} {c c' : Array Value} {t t' : TypeId} {f f' : Nat × Nat} (a : w.heap[g]? = some (.cells c t f)) (b : w.heap[h]? = some (.cells c' t' f')) (ht : t ≠ t') : g ≠ h := by
  intro e; subst e; rw [a] at b; injection b with b; injection b with _ h2 _; exact ht h2

theorem cells2 {w : World} {b : Nat} {u v : Value} {t : TypeId} (h : w.heap[b]? = some (.cells #[u, v] t (0, 0))) : w.cell? ⟨b, 0, none⟩ = some u ∧ w.cell? ⟨b, 1, none⟩ = some v := by simp [World.cell?, h]

theorem heap_setCell_row {w : World} {g i : Nat} {c : Array Value} {t : TypeId} {fr : Nat × Nat} (h : w.heap[g]? = some (.cells c t fr)) (v : Value) : (w.setCell ⟨g, i, none⟩ v).heap[g]? = some (.cells (c.setIfInBounds i v) t fr) := by
  have hg : g < w.heap.size := (Array.getElem?_eq_some_iff.1 h).1
  have hv : w.heap[g] = .cells c t fr := (Array.getElem?_eq_some_iff.1 h).2
  simp [World.setCell, hg, Array.getElem_modify, hv]

theorem set_one {W : World} {B : Nat} {t : TypeId} {v : Value} (v' : Value) (h : W.heap[B]? = some (.cells #[v] t (0, 0))) : (W.setCell ⟨B, 0, none⟩ v').heap[B]? = some (.cells #[v'] t (0, 0)) := by
  have := heap_setCell_row (i := 0) h v'
  simpa using this

theorem one_cell {W : World} {B : Nat} {t : TypeId} {v : Value} (h : W.heap[B]? = some (.cells #[v] t (0, 0))) : W.cell? ⟨B, 0, none⟩ = some v ∧ W.frozen? ⟨B, 0, none⟩ = false := by simp [World.cell?, World.frozen?, h]

theorem Touch.drewN {S : Nat → Prop} {a w : World} (h : Touch S a w) (n : Nat) : Touch S a (w.drewN n) := ⟨h.os, h.tape, h.output, h.size, h.block⟩

theorem mayG_of {g : Int} (h : mayG g = true) : ∃ G : Nat, g = G ∧ 1 ≤ G ∧ G ≤ 32768 := by
  have := mayG_yes h
  exact ⟨g.toNat, by omega, by omega, by omega⟩

theorem gA_no {s : ByteArray} {g : Int} (h : mayG g = false) : gA s g = 0 ∧ gE s g = 2 := by unfold gA gE; simp [h]
theorem gA_long {s : ByteArray} {g : Int} (h : mayG g = true) (hs : ¬ s.size ≤ 256) : gA s g = 0 ∧ gE s g = 3 := by unfold gA gE; simp only [h, hs]; simp
theorem gA_yes {s : ByteArray} {g : Nat} (h : mayG g = true) (hs : s.size ≤ 256) : gA s g = (hsh s % g : Nat) ∧ gE s g = 0 := by unfold gA gE; simp only [h, hs]; simp
theorem oA_no {s : ByteArray} {p g : Int} (h : mayW p g = false) : oA s p g = 0 ∧ oE s p g = 2 := by unfold oA oE; simp [h]
theorem oA_long {s : ByteArray} {p g : Int} (h : mayW p g = true) (hs : ¬ s.size ≤ 256) : oA s p g = 0 ∧ oE s p g = 3 := by unfold oA oE; simp only [h, hs]; simp
theorem oA_yes {s : ByteArray} {p g : Nat} (h : mayW p g = true) (hs : s.size ≤ 256) : oA s p g = (wk p g (hsh s % g) : Nat) ∧ oE s p g = 0 := by unfold oA oE; simp only [h, hs]; simp

set_option maxRecDepth 100000 in
theorem group_any (s : ByteArray) (hs : Shrt s) (g : Int) (w : World) : Calls Try.prog 8 #[.string s, .int .i64 g] w fun e w' => e = .returned (.tuple #[.int .i64 (gA s g), .int .i64 (gE s g)]) ∧ w' = w := by
  have M := hide (may_any g)
  cases hm : mayG g with
  | false =>
    rw [(gA_no hm).1, (gA_no hm).2]
    go_enter Try.func8, Try.ntmps8
    go_wp2_with fail
    refine (M.out _).mono ?_
    rintro e w' ⟨rfl, rfl⟩
    go_wp2_with fail
    go_ret2
    exact ⟨rfl, rfl⟩
  | true =>
    obtain ⟨G, rfl, g1, g2⟩ := mayG_of hm
    by_cases hl : s.size ≤ 256
    · rw [(gA_yes hm hl).1, (gA_yes hm hl).2]
      have S := hide (groupOf_any s hs G g1 g2)
      have hl' : ¬ (256 : Int) < (s.size : Int) := by omega
      have hl2 : ¬ 256 < s.size := by omega
      go_enter Try.func8, Try.ntmps8
      go_wp2_with fail
      refine (M.out _).mono ?_
      rintro e w' ⟨rfl, rfl⟩
      go_wp2_with fail
      refine (S.out _).mono ?_
      rintro e w' ⟨rfl, rfl⟩
      go_wp2_with fail
      go_ret2
      exact ⟨rfl, rfl⟩
    · rw [(gA_long hm hl).1, (gA_long hm hl).2]
      have hl' : (256 : Int) < (s.size : Int) := by omega
      have hl2 : 256 < s.size := by omega
      clear hl
      go_enter Try.func8, Try.ntmps8
      go_wp2_with fail
      refine (M.out _).mono ?_
      rintro e w' ⟨rfl, rfl⟩
      go_wp2_with fail
      go_ret2
      exact ⟨rfl, rfl⟩

set_option maxRecDepth 100000 in
theorem rgroup_any (s : ByteArray) (hs : Shrt s) (g : Int) (w : World) : Calls Try.prog 9 #[.string s, .int .i64 g] w fun e w' => e = .returned (.tuple #[.int .i64 (gA s g), .int .i64 (gE s g)]) ∧ w' = w := by
  have M := hide (rmay_any g)
  cases hm : mayG g with
  | false =>
    rw [(gA_no hm).1, (gA_no hm).2]
    go_enter Try.func9, Try.ntmps9
    go_wp2_with fail
    refine (M.out _).mono ?_
    rintro e w' ⟨rfl, rfl⟩
    go_wp2_with fail
    go_ret2
    exact ⟨rfl, rfl⟩
  | true =>
    obtain ⟨G, rfl, g1, g2⟩ := mayG_of hm
    by_cases hl : s.size ≤ 256
    · rw [(gA_yes hm hl).1, (gA_yes hm hl).2]
      have S := hide (rhash_any s hs)
      have hl' : ¬ (256 : Int) < (s.size : Int) := by omega
      have hl2 : ¬ 256 < s.size := by omega
      generalize hsh s = x at *
      have hg0 : ¬ ((G : Int) % 4294967296 = 0) := by omega
      go_enter Try.func9, Try.ntmps9
      go_wp2_with fail
      refine (M.out _).mono ?_
      rintro e w' ⟨rfl, rfl⟩
      go_wp2_with fail
      refine (S.out _).mono ?_
      rintro e w' ⟨rfl, rfl⟩
      go_wp2_with fail
      go_ret2
      exact ⟨by rw [← rem_wrap x G g1 g2]; rfl, rfl⟩
    · rw [(gA_long hm hl).1, (gA_long hm hl).2]
      have hl' : (256 : Int) < (s.size : Int) := by omega
      have hl2 : 256 < s.size := by omega
      clear hl
      go_enter Try.func9, Try.ntmps9
      go_wp2_with fail
      refine (M.out _).mono ?_
      rintro e w' ⟨rfl, rfl⟩
      go_wp2_with fail
      go_ret2
      exact ⟨rfl, rfl⟩

theorem rem_lt (x : Nat) {p g : Nat} (h : May p g) : x % g < g := Nat.mod_lt _ h.g1

set_option maxRecDepth 100000 in
theorem of_any (s : ByteArray) (hs : Shrt s) (p g : Int) (w : World) : Calls Try.prog 14 #[.string s, .int .i64 p, .int .i64 g] w fun e w' => e = .returned (.tuple #[.int .i64 (oA s p g), .int .i64 (oE s p g)]) ∧ w' = w := by
  have M := hide (mays_any p g)
  cases hm : mayW p g with
  | false =>
    rw [(oA_no hm).1, (oA_no hm).2]
    go_enter Try.func14, Try.ntmps14
    go_wp2_with fail
    refine (M.out _).mono ?_
    rintro e w' ⟨rfl, rfl⟩
    go_wp2_with fail
    go_ret2
    exact ⟨rfl, rfl⟩
  | true =>
    obtain ⟨P, G, rfl, rfl, m⟩ := may_of hm
    by_cases hl : s.size ≤ 256
    · rw [(oA_yes hm hl).1, (oA_yes hm hl).2]
      have S := hide (groupOf_any s hs G m.g1 m.g2)
      have S2 := hide (workerOf_any P G (hsh s % G) m (rem_lt _ m))
      have hl' : ¬ (256 : Int) < (s.size : Int) := by omega
      have hl2 : ¬ 256 < s.size := by omega
      generalize hsh s % G = x at *
      go_enter Try.func14, Try.ntmps14
      go_wp2_with fail
      refine (M.out _).mono ?_
      rintro e w' ⟨rfl, rfl⟩
      go_wp2_with fail
      refine (S.out _).mono ?_
      rintro e w' ⟨rfl, rfl⟩
      go_wp2_with fail
      refine (S2.out _).mono ?_
      rintro e w' ⟨rfl, rfl⟩
      go_wp2_with fail
      go_ret2
      exact ⟨rfl, rfl⟩
    · rw [(oA_long hm hl).1, (oA_long hm hl).2]
      have hl' : (256 : Int) < (s.size : Int) := by omega
      have hl2 : 256 < s.size := by omega
      clear hl
      go_enter Try.func14, Try.ntmps14
      go_wp2_with fail
      refine (M.out _).mono ?_
      rintro e w' ⟨rfl, rfl⟩
      go_wp2_with fail
      go_ret2
      exact ⟨rfl, rfl⟩

set_option maxRecDepth 100000 in
theorem rof_any (s : ByteArray) (hs : Shrt s) (p g : Int) (w : World) : Calls Try.prog 15 #[.string s, .int .i64 p, .int .i64 g] w fun e w' => e = .returned (.tuple #[.int .i64 (oA s p g), .int .i64 (oE s p g)]) ∧ ∃ k, w' = w.drewN k := by
  have M := hide (rmays_any p g)
  have GA := hide (rgroup_any s hs g)
  cases hm : mayW p g with
  | false =>
    rw [(oA_no hm).1, (oA_no hm).2]
    go_enter Try.func15, Try.ntmps15
    go_wp2_with fail
    refine (M.out _).mono ?_
    rintro e w' ⟨rfl, rfl⟩
    go_wp2_with fail
    go_ret2
    exact ⟨rfl, 0, rfl⟩
  | true =>
    obtain ⟨P, G, rfl, rfl, m⟩ := may_of hm
    by_cases hl : s.size ≤ 256
    · rw [(oA_yes hm hl).1, (oA_yes hm hl).2]
      rw [(gA_yes (mayW_g hm) hl).1, (gA_yes (mayW_g hm) hl).2] at GA
      have S2 := hide (rworker_yes (hsh s % G) P G m (rem_lt _ m))
      generalize hsh s % G = x at *
      go_enter Try.func15, Try.ntmps15
      go_wp2_with fail
      refine (M.out _).mono ?_
      rintro e w' ⟨rfl, rfl⟩
      go_wp2_with fail
      refine (GA.out _).mono ?_
      rintro e w' ⟨rfl, rfl⟩
      go_wp2_with fail
      refine (S2.out _).mono ?_
      rintro e w' ⟨rfl, k, rfl⟩
      go_wp2_with fail
      go_ret2
      exact ⟨rfl, k, rfl⟩
    · rw [(oA_long hm hl).1, (oA_long hm hl).2]
      rw [(gA_long (mayW_g hm) hl).1, (gA_long (mayW_g hm) hl).2] at GA
      clear hl
      go_enter Try.func15, Try.ntmps15
      go_wp2_with fail
      refine (M.out _).mono ?_
      rintro e w' ⟨rfl, rfl⟩
      go_wp2_with fail
      refine (GA.out _).mono ?_
      rintro e w' ⟨rfl, rfl⟩
      go_wp2_with fail
      go_ret2
      exact ⟨rfl, 0, rfl⟩

theorem stretch0_any (n p g : Int) (w : World) : Calls Try.prog 10 #[.int .i64 n, .int .i64 p, .int .i64 g] w fun e w' => e = .returned (.tuple #[.int .i64 (sA n p g), .int .i64 (sB n p g), .int .i64 (sE n p g)]) ∧ Touch (fun _ => False) w w' := by
  cases h : okS n p g with
  | false =>
    rw [(s_no h).1, (s_no h).2.1, (s_no h).2.2]
    exact (stretch0_no n p g h w).mono fun e w' ⟨a, b⟩ => ⟨a, by rw [b]; exact Touch.refl _ _⟩
  | true =>
    obtain ⟨N, P, G, rfl, rfl, rfl, m, hN⟩ := okS_of h
    rw [(s_yes m hN).1, (s_yes m hN).2.1, (s_yes m hN).2.2]
    exact stretch0_yes N P G m hN w

theorem rstretch_any (n p g : Int) (w : World) : Calls Try.prog 11 #[.int .i64 n, .int .i64 p, .int .i64 g] w fun e w' => e = .returned (.tuple #[.int .i64 (sA n p g), .int .i64 (sB n p g), .int .i64 (sE n p g)]) ∧ ∃ k, w' = w.drewN k := by
  cases h : okS n p g with
  | false =>
    rw [(s_no h).1, (s_no h).2.1, (s_no h).2.2]
    exact (rstretch_no n p g h w).mono fun e w' ⟨a, b⟩ => ⟨a, 0, b⟩
  | true =>
    obtain ⟨N, P, G, rfl, rfl, rfl, m, hN⟩ := okS_of h
    rw [(s_yes m hN).1, (s_yes m hN).2.1, (s_yes m hN).2.2]
    exact (rstretch_yes N P G m hN w).mono fun e w' ⟨a, b⟩ => ⟨a, 1, b⟩

theorem worker0_any (n p g : Int) (w : World) : Calls Try.prog 12 #[.int .i64 n, .int .i64 p, .int .i64 g] w fun e w' => e = .returned (.tuple #[.int .i64 (kA n p g), .int .i64 (kE n p g)]) ∧ w' = w := by
  cases h : okK n p g with
  | false =>
    rw [(k_no h).1, (k_no h).2]
    exact worker0_no n p g h w
  | true =>
    obtain ⟨N, P, G, rfl, rfl, rfl, m, hN⟩ := okK_of h
    rw [(k_yes m hN).1, (k_yes m hN).2]
    exact worker0_yes N P G m hN w

theorem rworker_any (n p g : Int) (w : World) : Calls Try.prog 13 #[.int .i64 n, .int .i64 p, .int .i64 g] w fun e w' => e = .returned (.tuple #[.int .i64 (kA n p g), .int .i64 (kE n p g)]) ∧ ∃ k, w' = w.drewN k := by
  cases h : okK n p g with
  | false =>
    rw [(k_no h).1, (k_no h).2]
    exact (rworker_no n p g h w).mono fun e w' ⟨a, b⟩ => ⟨a, 0, b⟩
  | true =>
    obtain ⟨N, P, G, rfl, rfl, rfl, m, hN⟩ := okK_of h
    rw [(k_yes m hN).1, (k_yes m hN).2]
    exact rworker_yes N P G m hN w

end Go.Proofs.Ytmhobdcnohhaaaa
