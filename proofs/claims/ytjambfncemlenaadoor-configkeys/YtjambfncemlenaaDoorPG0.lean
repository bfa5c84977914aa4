/- What came in: a tally, a span, a window, windows. -/
import Derived.Test.YtjambfncemlenaaDoorMW0
import Derived.Test.YtjambfncemlenaaDoorRows
import Derived.Deep.Slices
import Derived.OpenShut
import Derived.SizedLaws
import Derived.ProofKit
import Derived.ChangeMaps5
import Derived.ChangeArms
namespace Go.Proofs.YtjambfncemlenaaDoor
open Go.ChangeShapes Go.WideShapes Go.ChangeAt Go.RowKit Go.Deep

theorem i64_wf {x : Int} (h : (Lit.int .i64 x).wf = true) : I64 x := by
  have := bounds_i64 h
  unfold I64
  omega

set_option maxRecDepth 100000 in
theorem tally_in {H : Type} {enc : TypeId × Value → H} {W : World} {fuel base : Nat} {spare : Nat → Bool} {held : Bool} {cs : List Value} {x : DataW H × List MemPlace}
    (hf : DataW.trod enc Tryd.prog W base spare held fuel 90 cs = some x) : ∃ t : Tl, cs = (tlc t).toList ∧ t.Ok := by
  have c4 : Tryd.prog.cellsOf 90 = 4 := by kernel_rfl
  have c1 : Tryd.prog.cellsOf 2 = 1 := by kernel_rfl
  obtain ⟨xs, k, -, hx, hcl, hxl, hfs⟩ := DataW.trod_struct Tryd.underlying90 hf
  rw [c4] at hcl
  match xs, hxl, cs, hcl with
  | [y0, y1, y2, y3], _, [v0, v1, v2, v3], _ =>
    have g0 := hfs 0 _ rfl
    have g1 := hfs 1 _ rfl
    have g2 := hfs 2 _ rfl
    have g3 := hfs 3 _ rfl
    simp [c1] at g0 g1 g2 g3
    obtain ⟨a0, e0, z0, w0⟩ := DataW.trod_int Tryd.underlying2 g0
    obtain ⟨a1, e1, z1, w1⟩ := DataW.trod_int Tryd.underlying2 g1
    obtain ⟨a2, e2, z2, w2⟩ := DataW.trod_int Tryd.underlying2 g2
    obtain ⟨a3, e3, z3, w3⟩ := DataW.trod_int Tryd.underlying2 g3
    injection e0 with e0
    injection e1 with e1
    injection e2 with e2
    injection e3 with e3
    exact ⟨⟨a0, a1, a2, a3⟩, by rw [e0, e1, e2, e3], ⟨i64_wf w0, i64_wf w1, i64_wf w2, i64_wf w3⟩⟩

set_option maxRecDepth 100000 in
theorem span_in {H : Type} {enc : TypeId × Value → H} {W : World} {fuel base : Nat} {spare : Nat → Bool} {held : Bool} {cs : List Value} {x : DataW H × List MemPlace}
    (hf : DataW.trod enc Tryd.prog W base spare held fuel 88 cs = some x) : ∃ s : Sp, cs = (spc s).toList ∧ I64 s.a ∧ I64 s.b := by
  have c4 : Tryd.prog.cellsOf 88 = 2 := by kernel_rfl
  have c1 : Tryd.prog.cellsOf 2 = 1 := by kernel_rfl
  obtain ⟨xs, k, -, hx, hcl, hxl, hfs⟩ := DataW.trod_struct Tryd.underlying88 hf
  rw [c4] at hcl
  match xs, hxl, cs, hcl with
  | [y0, y1], _, [v0, v1], _ =>
    have g0 := hfs 0 _ rfl
    have g1 := hfs 1 _ rfl
    simp [c1] at g0 g1
    obtain ⟨a0, e0, z0, w0⟩ := DataW.trod_int Tryd.underlying2 g0
    obtain ⟨a1, e1, z1, w1⟩ := DataW.trod_int Tryd.underlying2 g1
    injection e0 with e0
    injection e1 with e1
    exact ⟨⟨a0, a1⟩, by rw [e0, e1], i64_wf w0, i64_wf w1⟩

set_option maxRecDepth 100000 in
theorem win_in {H : Type} {enc : TypeId × Value → H} {W : World} {fuel base : Nat} {spare : Nat → Bool} {held : Bool} {cs : List Value} {x : DataW H × List MemPlace}
    (hf : DataW.trod enc Tryd.prog W base spare held fuel 92 cs = some x) : ∃ t : Wn, cs = (wnc t).toList ∧ (I64 t.a ∧ I64 t.b ∧ I64 t.h ∧ t.t.Ok ∧ I64 t.n ∧ I64 t.p) := by
  have c9 : Tryd.prog.cellsOf 92 = 9 := by kernel_rfl
  have c4 : Tryd.prog.cellsOf 90 = 4 := by kernel_rfl
  have c2 : Tryd.prog.cellsOf 88 = 2 := by kernel_rfl
  have c1 : Tryd.prog.cellsOf 2 = 1 := by kernel_rfl
  obtain ⟨xs, k, -, hx, hcl, hxl, hfs⟩ := DataW.trod_struct Tryd.underlying92 hf
  rw [c9] at hcl
  match xs, hxl, cs, hcl with
  | [y0, y1, y2, y3, y4], _, [v0, v1, v2, v3, v4, v5, v6, v7, v8], _ =>
    have g0 := hfs 0 _ rfl
    have g1 := hfs 1 _ rfl
    have g2 := hfs 2 _ rfl
    have g3 := hfs 3 _ rfl
    have g4 := hfs 4 _ rfl
    simp [c1, c2, c4] at g0 g1 g2 g3 g4
    obtain ⟨s, e0, sa, sb⟩ := span_in g0
    obtain ⟨a1, e1, z1, w1⟩ := DataW.trod_int Tryd.underlying2 g1
    obtain ⟨t, e2, ok⟩ := tally_in g2
    obtain ⟨a3, e3, z3, w3⟩ := DataW.trod_int Tryd.underlying2 g3
    obtain ⟨a4, e4, z4, w4⟩ := DataW.trod_int Tryd.underlying2 g4
    simp at e0 e2
    obtain ⟨rfl, rfl⟩ := e0
    obtain ⟨rfl, rfl, rfl, rfl⟩ := e2
    injection e1 with e1
    injection e3 with e3
    injection e4 with e4
    exact ⟨⟨s.a, s.b, a1, t, a3, a4⟩, by rw [e1, e3, e4], sa, sb, i64_wf w1, ok, i64_wf w3, i64_wf w4⟩

theorem cell_spot9 {w : World} {a : Addr} {v : Value} (h : w.cell? (a.add 0) = some v) : a.spot = none := by
  obtain ⟨b, o, sp⟩ := a
  have hs : ((⟨b, o, sp⟩ : Addr).add 0) = ⟨b, o, sp⟩ := by unfold Addr.add; split <;> simp_all
  rw [hs] at h
  cases sp with
  | none => rfl
  | some x =>
    unfold World.cell? at h
    split at h <;> simp at h

theorem bytesWin : Tryd.prog.bytesOf 92 = 72 := by kernel_rfl
theorem cellsWin : Tryd.prog.cellsOf 92 = 9 := by kernel_rfl

set_option maxRecDepth 100000 in
theorem wins_in {H : Type} {enc : TypeId × Value → H} {W : World} {fuel base : Nat} {spare : Nat → Bool} {held : Bool} {v : Value} {x : DataW H × List MemPlace}
    (hf : DataW.trod enc Tryd.prog W base spare held fuel 53 [v] = some x) (hw : ∀ n ∈ x.1.weights Tryd.prog 53, n ≤ reachBytes) :
    ∃ (ao : Option Addr) (cap : Nat) (l : List Wn), v = .slice ao l.length cap ∧ encW.Sl W ao cap l ∧ (∀ x ∈ l, I64 x.a ∧ I64 x.b ∧ I64 x.h ∧ x.t.Ok ∧ I64 x.n ∧ I64 x.p) ∧ l.length ≤ 1954687338268 := by
  rcases Go.Deep.open_slice Tryd.underlying53 hf with ⟨hcs, _⟩ | ⟨a, len, cap, m, n, D, Pl, hcs, _, hl, _, hmm, hx, hel⟩
  · injection hcs with hcs
    exact ⟨none, 0, [], hcs, Rc.Sl.empty _, fun x hx => (nomatch hx), by simp⟩
  · injection hcs with hcs
    have hlm : len ≤ m := by rw [hmm]; split <;> omega
    subst hx
    simp only [DataW.weights, Tryd.underlying53] at hw
    have hlen : len ≤ 1954687338268 := by
      have := hw _ List.mem_cons_self
      rw [bytesWin] at this
      simp only [List.length_map, List.length_range, reachBytes] at this
      omega
    have each : ∀ i, ∃ t : Wn, i < len → (∀ j (hj : j < 9), W.cell? (a.add (i * 9 + j)) = some ((wnc t).toList[j]'hj)) ∧ (I64 t.a ∧ I64 t.b ∧ I64 t.h ∧ t.t.Ok ∧ I64 t.n ∧ I64 t.p) := fun i => by
      by_cases hi : i < len
      · obtain ⟨cs', h1, h2⟩ := hel i (by omega)
        rw [cellsWin] at h1
        obtain ⟨_, hlc, hcell⟩ := World.cells?_some h1
        obtain ⟨t, et, ok⟩ := win_in h2
        subst et
        refine ⟨t, fun _ => ⟨fun j hj => ?_, ok⟩⟩
        have e0 := hcell j (by omega)
        rw [Go.Deep.add_add] at e0
        exact e0.trans (List.getElem?_eq_getElem _)
      · exact ⟨wn0, fun h => absurd h hi⟩
    obtain ⟨f, hf'⟩ := Classical.axiomOfChoice each
    refine ⟨some a, cap, (List.range len).map f, by simpa using hcs, ⟨fun i u hu => ?_, fun h => (nomatch h), by simp; omega⟩, fun t ht => ?_, by simpa using hlen⟩
    · have hi : i < (encW.flat ((List.range len).map f)).length := (List.getElem?_eq_some_iff.1 hu).1
      rw [encW.flat_len] at hi
      have e9 : encW.n = 9 := rfl
      rw [e9, List.length_map, List.length_range] at hi
      have hj : i / 9 < len := by omega
      have h0 := (hf' 0 (by omega)).1 0 (by omega)
      simp only [Nat.zero_mul, Nat.zero_add] at h0
      have hsp := cell_spot9 h0
      obtain ⟨b, o, sp⟩ := a
      simp only at hsp
      subst hsp
      have c := (hf' (i / 9) hj).1 (i % 9) (by omega)
      rw [Addr.add_lit] at c
      have ei : i / 9 * 9 + i % 9 = i := by omega
      rw [ei] at c
      have g := encW.flat_get ((List.range len).map f) (i / 9) (by simpa using hj) (i % 9) (by rw [e9]; omega)
      rw [e9, ei, hu] at g
      refine ⟨b, o, rfl, c.trans ?_⟩
      rw [g]
      have : ((List.range len).map f)[i / 9]'(by simpa using hj) = f (i / 9) := by simp
      rw [this]
      exact (List.getElem?_eq_getElem _).symm
    · obtain ⟨i, hi, rfl⟩ := List.mem_map.1 ht
      exact (hf' i (List.mem_range.1 hi)).2

end Go.Proofs.YtjambfncemlenaaDoor
