/- The document's router: how it lies in memory; Watermark, SameMarks, Copy. -/
import Derived.Test.YtapnjofplilefaaGreatK1
import Derived.Test.YtapnjofplilefaaGreatV2
import Derived.BigQuiet
namespace Go.Proofs.YtapnjofplilefaaGreat
open Go.RowKit

abbrev rrc (c : Cf) (wk : Int) (m : Value) (s : Int) : Array Value := #[.int .i64 c.gr, .int .i64 c.so, .int .i64 c.ki, .int .i64 c.sz, .int .i64 c.sl, .int .i64 c.of, .int .i64 c.gp, .int .i64 c.lt, .int .i64 c.ea, .bool c.di, .int .i64 wk, m, .int .i64 s]
theorem rr_cells {w : World} {q : Nat} {c : Cf} {wk s : Int} {m : Value} {ty : TypeId} (h : w.heap[q]? = some (.cells (rrc c wk m s) ty (0, 0))) :
    (w.cell? ⟨q, 0, none⟩ = some (.int .i64 c.gr) ∧ w.cell? ⟨q, 1, none⟩ = some (.int .i64 c.so) ∧ w.cell? ⟨q, 2, none⟩ = some (.int .i64 c.ki) ∧ w.cell? ⟨q, 3, none⟩ = some (.int .i64 c.sz) ∧ w.cell? ⟨q, 4, none⟩ = some (.int .i64 c.sl) ∧ w.cell? ⟨q, 5, none⟩ = some (.int .i64 c.of) ∧ w.cell? ⟨q, 6, none⟩ = some (.int .i64 c.gp) ∧ w.cell? ⟨q, 7, none⟩ = some (.int .i64 c.lt) ∧ w.cell? ⟨q, 8, none⟩ = some (.int .i64 c.ea) ∧ w.cell? ⟨q, 9, none⟩ = some (.bool c.di)) ∧
    w.cell? ⟨q, 10, none⟩ = some (.int .i64 wk) ∧ w.cell? ⟨q, 11, none⟩ = some m ∧ w.cell? ⟨q, 12, none⟩ = some (.int .i64 s) := by simp [World.cell?, h]

/-- The document's router at q, in the blocks F. -/
structure Rr (w : World) (q : Nat) (F : Nat → Prop) (c : Cf) (wk : Int) (L : List Int) (s : Int) : Prop where
  ex : ∃ lo lc, w.heap[q]? = some (.cells (rrc c wk (.slice lo L.length lc) s) 53 (0, 0)) ∧ encJ.Own 2 w 0 (.slice lo L.length lc) L ∧ ∀ g, (Value.slice lo L.length lc).ownBlock = some g → F g
  at_ : F q
  lt : ∀ g, F g → g < w.heap.size
  ne : L ≠ []
  len : L.length ≤ 64
theorem Rr.touch {w w' : World} {q : Nat} {F S : Nat → Prop} {c : Cf} {wk s : Int} {L : List Int} (h : Rr w q F c wk L s) (ht : Touch S w w') (hS : ∀ g, F g → ¬ S g) : Rr w' q F c wk L s := by
  obtain ⟨lo, lc, h1, h2, h3⟩ := h.ex
  exact ⟨⟨lo, lc, ht.heap h1 (hS q h.at_), Rc.Own.touch h2 ht (fun g hg => hS g (h3 g hg)), h3⟩, h.at_, fun g hg => Nat.lt_of_lt_of_le (h.lt g hg) ht.size, h.ne, h.len⟩
theorem Rr.calm {w w' : World} {q : Nat} {F : Nat → Prop} {c : Cf} {wk s : Int} {L : List Int} (h : Rr w q F c wk L s) (ht : Calm w w') : Rr w' q F c wk L s := h.touch ht fun _ _ h => h

abbrev rp (q : Nat) : Value := .pointer (some ⟨q, 0, none⟩)

set_option maxRecDepth 100000 in
set_option maxHeartbeats 1000000 in
theorem rwater_any {w : World} {q : Nat} {F : Nat → Prop} {c : Cf} {wk s : Int} {L : List Int} (h : Rr w q F c wk L s) : Calls Tryz.prog 27 #[rp q] w fun e w' => e = .returned (.int .i64 (mkN L)) ∧ w' = w := by
  obtain ⟨lo, lc, h1, h2, -⟩ := h.ex
  have hpos : 0 < L.length := List.length_pos_iff.2 h.ne
  have hl := h.len
  obtain ⟨m, f, hM, f0, fs, fl⟩ : ∃ (m f : Nat → Int), (∀ j, m j = L.getD j 0) ∧ f 1 = m 0 ∧ (∀ i, i < L.length → f (i + 1) = min (f i) (m i)) ∧ f L.length = mkN L := ⟨fun j => L.getD j 0, fun i => (L.take i).foldl min (L.getD 0 0), fun _ => rfl, by
    have := mk_next L 0 hpos
    simp only [Nat.zero_add, List.take_zero, List.foldl_nil] at this
    show List.foldl min (L.getD 0 0) (List.take 1 L) = _
    rw [this]
    exact Int.min_self _, fun i hi => mk_next L i hi, by simp only [List.take_length]; rfl⟩
  have MW : Hid (∀ j, j < L.length → ∃ g off, lo = some ⟨g, off, none⟩ ∧ w.cell? ⟨g, off + j, none⟩ = some (.int .i64 (m j))) := hide fun j hj => by
    obtain ⟨g, off, e, c⟩ := ints_W (Rc.Own.mem h2).2.1 j hj
    exact ⟨g, off, e, by rw [hM]; exact c w (Touch.refl _ _)⟩
  have c0 := (rr_cells h1).2.2.1
  obtain ⟨g, off, rfl, m0⟩ := MW.out 0 hpos
  rw [Nat.add_zero] at m0
  have FS := hide fs
  have FL := hide fl
  have F0 := hide f0
  clear h h1 h2 hM fs fl f0
  generalize mkN L = R at *
  generalize hn : L.length = n at *
  have hpz : (0 : Int) < (n : Int) := by omega
  go_enter Tryz.func27, Tryz.ntmps27
  go_wp2_with fail
  go_loopw [3, 4] (fun s3 s4 wr => ∃ i : Nat, s4 = .int .i64 (i : Int) ∧ 1 ≤ i ∧ i ≤ n ∧ s3 = .int .i64 (f i) ∧ wr = w) (fun _ s4 _ => n - (intOf s4).toNat)
  case atStart => exact ⟨1, rfl, by omega, by omega, by rw [F0.out], rfl⟩
  case round =>
    obtain ⟨i, rfl, hi1, hi, rfl, rfl⟩ := hrel
    by_cases hlt : i < n
    · have hltz : (i : Int) < (n : Int) := by omega
      obtain ⟨g', off', e, ci⟩ := MW.out i hlt
      injection e with e
      injection e with e1 e2
      subst e1 e2
      have HZ := hide (FS.out i hlt)
      clear MW FS FL F0 m0
      go_wp2_with fail
      go_roundw
      case rel => exact ⟨i + 1, by go_num, by omega, by omega, by rw [HZ.out], by first | rfl | trivial⟩
      case measure => simp [intOf]; omega
    · have hltz : ¬ (i : Int) < (n : Int) := by omega
      obtain rfl : i = n := by omega
      clear MW FS m0
      go_wp2_with fail
      go_ret
      exact ⟨by rw [← FL.out]; rfl, rfl⟩

set_option maxRecDepth 100000 in
set_option maxHeartbeats 1000000 in
/-- The same marks. -/
theorem sameMarks_any (L : List Int) (ao bo : Option Addr) (ac bc : Nat) (w : World) (ha : encJ.Mem w ao L) (hb : encJ.Mem w bo L) (hl : L.length ≤ 140737488355328) : Calls Tryz.prog 26 #[.slice ao L.length ac, .slice bo L.length bc] w fun e w' => e = .returned (.bool true) ∧ Calm w w' := by
  obtain ⟨x, hx⟩ : ∃ x : Nat → Int, ∀ i, x i = L.getD i 0 := ⟨fun i => L.getD i 0, fun _ => rfl⟩
  have SA : Hid (∀ j, j < L.length → ∃ g off, ao = some ⟨g, off, none⟩ ∧ ∀ W, Calm w W → W.cell? ⟨g, off + j, none⟩ = some (.int .i64 (x j))) := hide fun j hj => by
    obtain ⟨g, off, e, c⟩ := ints_W ha j hj
    exact ⟨g, off, e, by rw [hx]; exact c⟩
  have SB : Hid (∀ j, j < L.length → ∃ g off, bo = some ⟨g, off, none⟩ ∧ ∀ W, Calm w W → W.cell? ⟨g, off + j, none⟩ = some (.int .i64 (x j))) := hide fun j hj => by
    obtain ⟨g, off, e, c⟩ := ints_W hb j hj
    exact ⟨g, off, e, by rw [hx]; exact c⟩
  clear ha hb hx
  generalize hn : L.length = n at *
  go_enter Tryz.func26, Tryz.ntmps26
  go_wp2_with fail
  go_loopw [5] (fun s5 wr => ∃ i : Nat, s5 = .int .i64 (i : Int) ∧ i ≤ n ∧ Calm w wr) (fun s5 _ => n - (intOf s5).toNat)
  case atStart => exact ⟨0, rfl, by omega, Touch.refl _ _⟩
  case round =>
    obtain ⟨i, rfl, hi, hC⟩ := hrel
    by_cases hlt : i < n
    · have hltz : (i : Int) < (n : Int) := by omega
      obtain ⟨ga, oa, rfl, ca⟩ := SA.out i hlt
      obtain ⟨gb, ob, rfl, cb⟩ := SB.out i hlt
      have k1 := ca wr hC
      have k2 := cb wr hC
      have zw : wrap64 ((i : Int) + 1) = ((i + 1 : Nat) : Int) := by unfold wrap64; omega
      have HC := hide hC
      generalize x i = y at *
      clear SA SB ca cb hC
      go_wp2_with fail
      go_quiet (fail)
      go_wp2_with fail
      go_roundw
      case rel => exact ⟨i + 1, by first | rw [zw] | go_num, by omega, HC.out.drewK _⟩
      case measure => first | (rw [zw]; simp [intOf]; omega) | (simp [intOf]; omega)
    · have hltz : ¬ (i : Int) < (n : Int) := by omega
      obtain rfl : i = n := by omega
      have HC := hide hC
      clear SA SB hC
      go_wp2_with fail
      go_ret
      exact ⟨rfl, HC.out⟩

end Go.Proofs.YtapnjofplilefaaGreat
