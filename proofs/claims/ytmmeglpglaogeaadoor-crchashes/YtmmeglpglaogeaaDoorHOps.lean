/- A script that came in, opened. -/
import Derived.Test.YtmmeglpglaogeaaDoorRows2
import Derived.Deep.Slices
namespace Go.Proofs.YtmmeglpglaogeaaDoor
open Go.ChangeShapes Go.WideShapes Go.ChangeAt Go.RowKit Go.Deep Crcx

/-- One step of a script. -/
structure Opx where
  kind : Int
  on : Int
  to : Int
  t : Txt

structure Opx.Ok (W : World) (o : Opx) : Prop where
  t : o.t.Ok W
  on : -9223372036854775808 ≤ o.on ∧ o.on ≤ 9223372036854775807
  to : -9223372036854775808 ≤ o.to ∧ o.to ≤ 9223372036854775807
  len : o.t.xs.length ≤ 1048576

structure SegO (W : World) (ao : Option Addr) (l : List Opx) : Prop where
  addr : 0 < l.length → ∃ b off, ao = some ⟨b, off, none⟩
  cell : ∀ b off, ao = some ⟨b, off, none⟩ → ∀ i (h : i < l.length), W.cell? ⟨b, off + i * 4, none⟩ = some (.int .i64 l[i].kind) ∧ W.cell? ⟨b, off + i * 4 + 1, none⟩ = some (.int .i64 l[i].on) ∧ W.cell? ⟨b, off + i * 4 + 2, none⟩ = some (.int .i64 l[i].to) ∧ W.cell? ⟨b, off + i * 4 + 3, none⟩ = some l[i].t.val
  ok : ∀ o ∈ l, o.Ok W

theorem Txt.Ok.touch0 {w w' : World} {t : Txt} (h : t.Ok w) (ht : Touch (fun _ => False) w w') : t.Ok w' := ⟨h.seg.touch ht (fun _ _ h => h), h.in8, h.len⟩

theorem SegO.touch {W W' : World} {ao : Option Addr} {l : List Opx} (h : SegO W ao l) (ht : Touch (fun _ => False) W W') : SegO W' ao l := by
  refine ⟨h.addr, fun b off e i hi => ?_, fun o ho => ⟨(h.ok o ho).t.touch0 ht, (h.ok o ho).on, (h.ok o ho).to, (h.ok o ho).len⟩⟩
  obtain ⟨h0, h1, h2, h3⟩ := h.cell b off e i hi
  exact ⟨(ht.cell (p := ⟨b, _, none⟩) (lt_of_cell h0) (fun h => h)).trans h0, (ht.cell (p := ⟨b, _, none⟩) (lt_of_cell h1) (fun h => h)).trans h1, (ht.cell (p := ⟨b, _, none⟩) (lt_of_cell h2) (fun h => h)).trans h2, (ht.cell (p := ⟨b, _, none⟩) (lt_of_cell h3) (fun h => h)).trans h3⟩

theorem bulk_mem {H : Type} : ∀ (l : List (DataW H)) (d : DataW H), d ∈ l → Rows.uptoBulk d ≤ Rows.uptoBulkAll l
  | d' :: r, d, h => by
    simp only [Rows.uptoBulkAll]
    rcases List.mem_cons.1 h with rfl | h
    · omega
    · have := bulk_mem r d h; omega

/-- A slice of bytes that came in, bounded. -/
theorem bytes_up {H : Type} {enc : TypeId × Value → H} {W : World} {fuel base : Nat} {spare : Nat → Bool} {held : Bool} {v : Value} {x : DataW H × List MemPlace}
    (hf : DataW.trod enc Tryd.prog W base spare held fuel 25 [v] = some x) (hb : Rows.uptoBulk x.1 ≤ 1048576) :
    ∃ t : Txt, v = t.val ∧ t.Ok W ∧ t.xs.length ≤ 1048576 := by
  rcases open_ints Tryd.underlying25 Tryd.underlying5 cellsU8 hf with ⟨hcs, _⟩ | ⟨x, l, c, zs, hcs, _, hl, hm, hz, hx, hcell, hwz⟩
  · injection hcs with hcs
    exact ⟨⟨none, 0, []⟩, hcs, ⟨⟨fun _ => rfl, fun _ h => (nomatch h), fun _ h => (nomatch h)⟩, fun _ h => (nomatch h), by simp⟩, by simp⟩
  · injection hcs with hcs
    have hx1 := congrArg Prod.fst hx
    simp only at hx1
    rw [hx1] at hb
    simp only [Rows.uptoBulk] at hb
    have hbl := bulk_len (lits (H := H) .u8 (zs.take l))
    simp only [lits, List.length_map, List.length_take] at hbl
    simp only [lits] at hb
    have hzl : l ≤ zs.length := by rw [hz]; split <;> omega
    have hlen : (zs.take l).length = l := by simp; omega
    have hl1 : l ≤ 1048576 := by omega
    refine ⟨⟨some x, c, zs.take l⟩, ?_, ⟨seg_ints hcell, fun y hy => bounds_u8 (hwz y (List.mem_of_mem_take hy)), by simp; omega⟩, by simp; omega⟩
    show v = .slice (some x) (zs.take l).length c
    rw [hlen]; exact hcs

theorem cellsOp : Tryd.prog.cellsOf 29 = 4 := by kernel_rfl

set_option maxRecDepth 100000 in
theorem ops_up {H : Type} {enc : TypeId × Value → H} {W : World} {fuel base : Nat} {spare : Nat → Bool} {held : Bool} {v : Value} {x : DataW H × List MemPlace}
    (hf : DataW.trod enc Tryd.prog W base spare held fuel 22 [v] = some x) (hb : Rows.uptoBulk x.1 ≤ 1048576) :
    ∃ (ao : Option Addr) (cap : Nat) (l : List Opx), v = .slice ao l.length cap ∧ SegO W ao l ∧ l.length ≤ 1048576 := by
  rcases Go.Deep.open_slice Tryd.underlying22 hf with ⟨hcs, _⟩ | ⟨a, len, cap, m, n, D, Pl, hcs, _, hl, _, hmm, hx, hel⟩
  · injection hcs with hcs
    exact ⟨none, 0, [], hcs, ⟨fun h => absurd h (by simp), fun b off h => (nomatch h), fun x hx => (nomatch hx)⟩, by simp⟩
  · injection hcs with hcs
    have hlm : len ≤ m := by rw [hmm]; split <;> omega
    subst hx
    simp only [Rows.uptoBulk] at hb
    have hlen : len ≤ 1048576 := by
      have := bulk_len ((List.range len).map D)
      simp only [List.length_map, List.length_range] at this
      omega
    have each : ∀ i, i < len → ∃ o : Opx, W.cell? (a.add (i * 4)) = some (.int .i64 o.kind) ∧ W.cell? (a.add (i * 4 + 1)) = some (.int .i64 o.on) ∧ W.cell? (a.add (i * 4 + 2)) = some (.int .i64 o.to) ∧ W.cell? (a.add (i * 4 + 3)) = some o.t.val ∧ o.Ok W := fun i hi => by
      obtain ⟨cs', h1, h2⟩ := hel i (by omega)
      rw [cellsOp] at h1
      obtain ⟨_, hlc, hcell⟩ := World.cells?_some h1
      obtain ⟨xs, k, hk2, hxy, _, hxl, hf⟩ := DataW.trod_struct Tryd.underlying29 h2
      have hbi := bulk_mem _ (D i) (List.mem_map.2 ⟨i, List.mem_range.2 hi, rfl⟩)
      match xs, hxl, cs', hlc with
      | [y0, y1, y2, y3], _, [v0, v1, v2, v3], _ =>
        have g0 := hf 0 _ rfl
        have g1 := hf 1 _ rfl
        have g2 := hf 2 _ rfl
        have g3 := hf 3 _ rfl
        have c0 : Tryd.prog.cellsOf 3 = 1 := by kernel_rfl
        have c3 : Tryd.prog.cellsOf 25 = 1 := by kernel_rfl
        simp [c0, c3] at g0 g1 g2 g3
        have e0 := hcell 0 (by omega)
        have e1 := hcell 1 (by omega)
        have e2 := hcell 2 (by omega)
        have e3 := hcell 3 (by omega)
        rw [Go.Deep.add_add] at e0 e1 e2 e3
        simp at e0 e1 e2 e3
        simp only [Prod.mk.injEq] at hxy
        rw [hxy.1] at hbi
        simp only [List.map_cons, List.map_nil, Rows.uptoBulk, Rows.uptoBulkAll] at hbi
        obtain ⟨kd, q0, _, _⟩ := DataW.trod_int Tryd.underlying3 g0
        obtain ⟨on, q1, _, w1⟩ := DataW.trod_int Tryd.underlying3 g1
        obtain ⟨to, q2, _, w2⟩ := DataW.trod_int Tryd.underlying3 g2
        obtain ⟨t, q3, ok, lt⟩ := bytes_up g3 (by omega)
        injection q0 with q0
        injection q1 with q1
        injection q2 with q2
        exact ⟨⟨kd, on, to, t⟩, by rw [e0, q0], by rw [e1, q1], by rw [e2, q2], by rw [e3, q3], ⟨ok, bounds_i64 w1, bounds_i64 w2, lt⟩⟩
    have each' : ∀ i, ∃ o : Opx, i < len → W.cell? (a.add (i * 4)) = some (.int .i64 o.kind) ∧ W.cell? (a.add (i * 4 + 1)) = some (.int .i64 o.on) ∧ W.cell? (a.add (i * 4 + 2)) = some (.int .i64 o.to) ∧ W.cell? (a.add (i * 4 + 3)) = some o.t.val ∧ o.Ok W := fun i => by
      by_cases hi : i < len
      · obtain ⟨o, ho⟩ := each i hi; exact ⟨o, fun _ => ho⟩
      · exact ⟨⟨0, 0, 0, ⟨none, 0, []⟩⟩, fun h => absurd h hi⟩
    obtain ⟨f, hf'⟩ := Classical.axiomOfChoice each'
    have haddr : 0 < len → a.spot = none := fun h0 => by
      have := (hf' 0 h0).1
      simp only [Nat.zero_mul] at this
      exact cell_spot' this
    refine ⟨some a, cap, (List.range len).map f, by simpa using hcs, ⟨fun h0 => ?_, fun b off e i hi => ?_, fun x hx => ?_⟩, by simpa using hlen⟩
    · have := haddr (by simpa using h0)
      obtain ⟨b, o, sp⟩ := a
      simp at this; subst this
      exact ⟨b, o, rfl⟩
    · injection e with e; subst e
      have hi' : i < len := by simpa using hi
      obtain ⟨h1, h2, h3, h4, _⟩ := hf' i hi'
      rw [Addr.add_lit] at h1 h2 h3 h4
      simp only [List.getElem_map, List.getElem_range]
      exact ⟨h1, by rw [Nat.add_assoc]; exact h2, by rw [Nat.add_assoc]; exact h3, by rw [Nat.add_assoc]; exact h4⟩
    · obtain ⟨i, hi, rfl⟩ := List.mem_map.1 hx
      exact (hf' i (List.mem_range.1 hi)).2.2.2.2

end Go.Proofs.YtmmeglpglaogeaaDoor
