/- A slice of puts that came in, opened. -/
import Derived.Test.YthhajlbnnffgnaaRows
import Derived.Test.YthhajlbnnffgnaaWrs
import Derived.ProofKit
import Derived.OpenShut
import Derived.JoinedCond
import Derived.Deep.Slices
namespace Go.Proofs.Ythhajlbnnffgnaa
open Go.ChangeShapes Go.WideShapes Go.ChangeAt Go.RowKit

theorem bulk_pos {H : Type} (d : DataW H) : 1 ≤ Rows.uptoBulk d := by
  cases d with
  | lit l => cases l <;> simp [Rows.uptoBulk]
  | nil => simp [Rows.uptoBulk]
  | ptr d => simp [Rows.uptoBulk]
  | slice e s => simp [Rows.uptoBulk]
  | agg p => simp [Rows.uptoBulk]
  | iface t d => simp [Rows.uptoBulk]
  | map e => simp [Rows.uptoBulk]
  | held h => simp [Rows.uptoBulk]

theorem bulk_len {H : Type} : ∀ (l : List (DataW H)), l.length ≤ Rows.uptoBulkAll l
  | [] => Nat.zero_le _
  | d :: r => by
    have a := bulk_pos d
    have b := bulk_len r
    simp only [Rows.uptoBulkAll, List.length_cons]; omega

theorem bulk_mem {H : Type} : ∀ (l : List (DataW H)) (d : DataW H), d ∈ l → Rows.uptoBulk d ≤ Rows.uptoBulkAll l
  | d' :: r, d, h => by
    simp only [Rows.uptoBulkAll]
    rcases List.mem_cons.1 h with rfl | h
    · omega
    · have := bulk_mem r d h; omega

/-- A slice of integers that came in, as a segment. -/
theorem seg_ints {W : World} {k : IntKind} {x : Addr} {len : Nat} {zs : List Int} (hcell : ∀ i, i < zs.length → W.cell? (x.add i) = some (.int k (zs.getD i 0))) :
    Seg W k (some x) (zs.take len) := by
  refine ⟨fun e => (nomatch e), fun y hy hne => ?_, fun y hy j hj => ?_⟩
  · injection hy with hy
    subst hy
    have hz : 0 < zs.length := by
      rcases Nat.eq_zero_or_pos zs.length with h | h
      · exact absurd (by rw [List.eq_nil_of_length_eq_zero h]; simp) hne
      · exact h
    obtain ⟨b, off, rfl, _⟩ := ints_at hcell hz
    rfl
  · injection hy with hy
    subst hy
    have hj' : j < len ∧ j < zs.length := by simpa [List.length_take, Nat.lt_min] using hj
    rw [hcell j hj'.2, List.getD_eq_getElem?_getD, List.getElem?_eq_getElem hj'.2]
    simp [List.getElem_take]

/-- A field that is a slice of integers. -/
theorem ints_came {H : Type} {enc : TypeId × Value → H} {P : Program} {W : World} {base : Nat} {spare : Nat → Bool} {held : Bool} {t e : TypeId} {k : IntKind} {fuel : Nat} {v : Value} {x : DataW H × List MemPlace} (ht : P.underlying t = some (.slice e)) (he : P.underlying e = some (.int k)) (hc : P.cellsOf e = 1)
    (h : DataW.trod enc P W base spare held fuel t [v] = some x) :
    ∃ (ao : Option Addr) (xs : List Int) (cap : Nat), v = .slice ao xs.length cap ∧ Seg W k ao xs ∧ (∀ z ∈ xs, (Lit.int k z).wf = true) ∧ xs.length < Rows.uptoBulk x.1 := by
  rcases open_ints ht he hc h with ⟨hcs, hx⟩ | ⟨y, l, c, zs, hcs, _, hl, hm, hz, hx, hcell, hwz⟩
  · injection hcs with hcs
    exact ⟨none, [], 0, hcs, ⟨fun _ => rfl, fun _ h => (nomatch h), fun _ h => (nomatch h)⟩, fun _ h => (nomatch h), by rw [hx]; simp [Rows.uptoBulk]⟩
  · injection hcs with hcs
    have hzl : l ≤ zs.length := by rw [hz]; split <;> omega
    have hlen : (zs.take l).length = l := by simp; omega
    refine ⟨some y, zs.take l, c, by rw [hlen]; exact hcs, seg_ints hcell, fun z hz => hwz z (List.mem_of_mem_take hz), ?_⟩
    have := bulk_len (lits (H := H) k (zs.take l))
    rw [hx]
    simp only [Rows.uptoBulk]
    simp only [lits, List.length_map] at this
    simp only [lits]
    omega

set_option maxRecDepth 100000 in
theorem puts_came {H : Type} {enc : TypeId × Value → H} {W : World} {spare : Nat → Bool} {held : Bool} {base fuel : Nat} {ao : Option Addr} {len cap : Nat} {x : DataW H × List MemPlace}
    (h : DataW.trod enc Try.prog W base spare held fuel 22 [.slice ao len cap] = some x) (hk : Rows.uptoBulk x.1 ≤ 1048576) : ∃ D, SegP W ao len D ∧ len ≤ 1048576 := by
  rcases Go.Deep.open_slice Try.underlying22 h with ⟨hcs, _⟩ | ⟨a, l, c, m, n, DD, Pl, hcs, _, hl, _, hmm, hx, hel⟩
  · simp at hcs
    obtain ⟨rfl, rfl, rfl⟩ := hcs
    exact ⟨fun _ => ⟨0, 0, .empty, none, [], 0, none, [], 0⟩, ⟨fun h => absurd h (by omega), fun b off h => (nomatch h), fun i hi => absurd hi (by omega)⟩, by omega⟩
  · simp at hcs
    obtain ⟨rfl, rfl, rfl⟩ := hcs
    have hlm : len ≤ m := by rw [hmm]; split <;> omega
    have hb : Rows.uptoBulkAll ((List.range len).map DD) ≤ 1048575 := by
      rw [hx] at hk
      simp only [Rows.uptoBulk] at hk
      omega
    have ce : Try.prog.cellsOf 36 = 5 := by kernel_rfl
    have each : ∀ i, i < len → ∃ d : PutD, W.cell? (a.add (i * 5)) = some (.int .i64 d.kind) ∧ W.cell? (a.add (i * 5 + 1)) = some (.int .u64 d.X) ∧ W.cell? (a.add (i * 5 + 2)) = some (.string d.s) ∧ W.cell? (a.add (i * 5 + 3)) = some (.slice d.bo d.B.length d.bc) ∧ W.cell? (a.add (i * 5 + 4)) = some (.slice d.lo d.L.length d.lc) ∧ d.Ok W := by
      intro i hi
      obtain ⟨cs', h1, h2⟩ := hel i (by omega)
      rw [ce] at h1
      obtain ⟨_, hlen, hcell⟩ := World.cells?_some h1
      obtain ⟨xs, k, hk2, hxy, _, hxl, hf⟩ := DataW.trod_struct Try.underlying36 h2
      have hbi := bulk_mem _ (DD i) (List.mem_map.2 ⟨i, List.mem_range.2 hi, rfl⟩)
      match xs, hxl, cs', hlen with
      | [y0, y1, y2, y3, y4], _, [v0, v1, v2, v3, v4], _ =>
        have g0 := hf 0 _ rfl
        have g1 := hf 1 _ rfl
        have g2 := hf 2 _ rfl
        have g3 := hf 3 _ rfl
        have g4 := hf 4 _ rfl
        have c0 : Try.prog.cellsOf 3 = 1 := by kernel_rfl
        have c1 : Try.prog.cellsOf 33 = 1 := by kernel_rfl
        have c2 : Try.prog.cellsOf 9 = 1 := by kernel_rfl
        have c3 : Try.prog.cellsOf 25 = 1 := by kernel_rfl
        have c4 : Try.prog.cellsOf 34 = 1 := by kernel_rfl
        simp [c0, c1, c2, c3, c4] at g0 g1 g2 g3 g4
        have e0 := hcell 0 (by omega)
        have e1 := hcell 1 (by omega)
        have e2 := hcell 2 (by omega)
        have e3 := hcell 3 (by omega)
        have e4 := hcell 4 (by omega)
        rw [Go.Deep.add_add] at e0 e1 e2 e3 e4
        simp at e0 e1 e2 e3 e4
        simp only [Prod.mk.injEq] at hxy
        rw [hxy.1] at hbi
        simp only [List.map_cons, List.map_nil, Rows.uptoBulk, Rows.uptoBulkAll] at hbi
        obtain ⟨kd, q0, _, _⟩ := DataW.trod_int Try.underlying3 g0
        obtain ⟨xx, q1, _, wx⟩ := DataW.trod_int Try.underlying33 g1
        obtain ⟨s, q2, r2, _⟩ := DataW.trod_string Try.underlying9 g2
        obtain ⟨bo, B, bc, q3, hB, wB, lB⟩ := ints_came Try.underlying25 Try.underlying5 (by kernel_rfl) g3
        obtain ⟨lo, L, lc, q4, hL, wL, lL⟩ := ints_came Try.underlying34 Try.underlying2 (by kernel_rfl) g4
        injection q0 with q0
        injection q1 with q1
        injection q2 with q2
        have bx := bounds_u64 wx
        have hs : s.size < Rows.uptoBulk y2.1 := by
          rw [r2]
          simp only [Rows.uptoBulk]
          have : s.data.toList.length = s.size := by rw [Array.length_toList]; rfl
          omega
        refine ⟨⟨kd, xx.toNat, s, bo, B, bc, lo, L, lc⟩, by rw [e0, q0], ?_, by rw [e2, q2], by rw [e3, q3], by rw [e4, q4], ⟨?_, ?_, hB, fun z hz => bounds_u8 (wB z hz), ?_, hL, fun j hj => ?_, ?_⟩⟩
        · rw [e1, q1]
          have : ((xx.toNat : Nat) : Int) = xx := by omega
          simp only [this]
        · show xx.toNat < _
          omega
        · show s.size ≤ _
          omega
        · show B.length ≤ _
          omega
        · have := bounds_i64 (wL (L.getD j 0) (by rw [List.getD_eq_getElem?_getD, List.getElem?_eq_getElem hj]; exact List.getElem_mem _))
          exact this
        · show L.length ≤ _
          omega
    have each' : ∀ i, ∃ d : PutD, i < len → W.cell? (a.add (i * 5)) = some (.int .i64 d.kind) ∧ W.cell? (a.add (i * 5 + 1)) = some (.int .u64 d.X) ∧ W.cell? (a.add (i * 5 + 2)) = some (.string d.s) ∧ W.cell? (a.add (i * 5 + 3)) = some (.slice d.bo d.B.length d.bc) ∧ W.cell? (a.add (i * 5 + 4)) = some (.slice d.lo d.L.length d.lc) ∧ d.Ok W := fun i => by
      by_cases hi : i < len
      · obtain ⟨d, hd⟩ := each i hi
        exact ⟨d, fun _ => hd⟩
      · exact ⟨⟨0, 0, .empty, none, [], 0, none, [], 0⟩, fun e => absurd e hi⟩
    have hlen : len ≤ 1048576 := by
      have := bulk_len ((List.range len).map DD)
      simp at this
      omega
    obtain ⟨D, hD⟩ : ∃ D : Nat → PutD, ∀ i, i < len → W.cell? (a.add (i * 5)) = some (.int .i64 (D i).kind) ∧ W.cell? (a.add (i * 5 + 1)) = some (.int .u64 (D i).X) ∧ W.cell? (a.add (i * 5 + 2)) = some (.string (D i).s) ∧ W.cell? (a.add (i * 5 + 3)) = some (.slice (D i).bo (D i).B.length (D i).bc) ∧ W.cell? (a.add (i * 5 + 4)) = some (.slice (D i).lo (D i).L.length (D i).lc) ∧ (D i).Ok W :=
      ⟨fun i => Classical.choose (each' i), fun i => Classical.choose_spec (each' i)⟩
    refine ⟨D, ⟨fun hp => ?_, fun b off hbo i hi => ?_, fun i hi => (hD i hi).2.2.2.2.2⟩, hlen⟩
    · obtain ⟨d, c0, _⟩ := each 0 hp
      obtain ⟨b, off, spot⟩ := a
      have hspot : spot = none := by simpa [Addr.add] using World.cell?_spot c0
      subst hspot
      exact ⟨b, off, rfl⟩
    · injection hbo with hbo
      subst hbo
      obtain ⟨c0, c1, c2, c3, c4, _⟩ := hD i hi
      rw [Addr.add_lit] at c0 c1 c2 c3 c4
      rw [← Nat.add_assoc] at c1 c2 c3 c4
      exact ⟨c0, c1, c2, c3, c4⟩

end Go.Proofs.Ythhajlbnnffgnaa
