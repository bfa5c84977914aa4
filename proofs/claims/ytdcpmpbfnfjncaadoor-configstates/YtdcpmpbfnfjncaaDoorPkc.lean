/- What came in: a tally, a span, a window, windows. Arguments: a key's state that came in. Arguments: a job that came in. Arguments: a state that came in. -/
import Derived.Test.YtdcpmpbfnfjncaaDoorMW0
import Derived.Test.YtdcpmpbfnfjncaaDoorRows
import Derived.Deep.Slices
import Derived.OpenShut
import Derived.SizedLaws
import Derived.ProofKit
import Derived.ChangeMaps5
import Derived.ChangeArms
import Derived.Test.YtdcpmpbfnfjncaaDoorCK
import Derived.Test.YtdcpmpbfnfjncaaDoorVCf
import Derived.Test.YtdcpmpbfnfjncaaDoorYZ
import Derived.Deep.DeepHandedRow
import Derived.Test.YtdcpmpbfnfjncaaDoorCS
namespace Go.Proofs.YtdcpmpbfnfjncaaDoor
open Go.ChangeShapes Go.WideShapes Go.ChangeAt Go.RowKit Go.Deep

theorem i64_wf {x : Int} (h : (Lit.int .i64 x).wf = true) : I64 x := by
  have := bounds_i64 h
  unfold I64
  omega

set_option maxRecDepth 100000 in
theorem tally_in {H : Type} {enc : TypeId × Value → H} {W : World} {fuel base : Nat} {spare : Nat → Bool} {held : Bool} {cs : List Value} {x : DataW H × List MemPlace}
    (hf : DataW.trod enc Tryd.prog W base spare held fuel 63 cs = some x) : ∃ t : Tl, cs = (tlc t).toList ∧ t.Ok := by
  have c4 : Tryd.prog.cellsOf 63 = 4 := by kernel_rfl
  have c1 : Tryd.prog.cellsOf 2 = 1 := by kernel_rfl
  obtain ⟨xs, k, -, hx, hcl, hxl, hfs⟩ := DataW.trod_struct Tryd.underlying63 hf
  rw [c4] at hcl
  match xs, hxl, cs, hcl with
  | [y0, y1, y2, y3], _, [v0, v1, v2, v3], _ =>
    have g0 := hfs 0 _ rfl
    have g1 := hfs 1 _ rfl
    have g2 := hfs 2 _ rfl
    have g3 := hfs 3 _ rfl
    simp [c1] at g0 g1 g2 g3
    obtain ⟨a0, e0, z0, w0⟩ := DataW.trod_int Tryd.underlying2 g0
    obtain ⟨a1, e1, z1, w1⟩ := DataW.trod_int Tryd.underlying2 g1
    obtain ⟨a2, e2, z2, w2⟩ := DataW.trod_int Tryd.underlying2 g2
    obtain ⟨a3, e3, z3, w3⟩ := DataW.trod_int Tryd.underlying2 g3
    injection e0 with e0
    injection e1 with e1
    injection e2 with e2
    injection e3 with e3
    exact ⟨⟨a0, a1, a2, a3⟩, by rw [e0, e1, e2, e3], ⟨i64_wf w0, i64_wf w1, i64_wf w2, i64_wf w3⟩⟩

set_option maxRecDepth 100000 in
theorem span_in {H : Type} {enc : TypeId × Value → H} {W : World} {fuel base : Nat} {spare : Nat → Bool} {held : Bool} {cs : List Value} {x : DataW H × List MemPlace}
    (hf : DataW.trod enc Tryd.prog W base spare held fuel 61 cs = some x) : ∃ s : Sp, cs = (spc s).toList ∧ I64 s.a ∧ I64 s.b := by
  have c4 : Tryd.prog.cellsOf 61 = 2 := by kernel_rfl
  have c1 : Tryd.prog.cellsOf 2 = 1 := by kernel_rfl
  obtain ⟨xs, k, -, hx, hcl, hxl, hfs⟩ := DataW.trod_struct Tryd.underlying61 hf
  rw [c4] at hcl
  match xs, hxl, cs, hcl with
  | [y0, y1], _, [v0, v1], _ =>
    have g0 := hfs 0 _ rfl
    have g1 := hfs 1 _ rfl
    simp [c1] at g0 g1
    obtain ⟨a0, e0, z0, w0⟩ := DataW.trod_int Tryd.underlying2 g0
    obtain ⟨a1, e1, z1, w1⟩ := DataW.trod_int Tryd.underlying2 g1
    injection e0 with e0
    injection e1 with e1
    exact ⟨⟨a0, a1⟩, by rw [e0, e1], i64_wf w0, i64_wf w1⟩

set_option maxRecDepth 100000 in
theorem win_in {H : Type} {enc : TypeId × Value → H} {W : World} {fuel base : Nat} {spare : Nat → Bool} {held : Bool} {cs : List Value} {x : DataW H × List MemPlace}
    (hf : DataW.trod enc Tryd.prog W base spare held fuel 65 cs = some x) : ∃ t : Wn, cs = (wnc t).toList ∧ (I64 t.a ∧ I64 t.b ∧ I64 t.h ∧ t.t.Ok ∧ I64 t.n ∧ I64 t.p) := by
  have c9 : Tryd.prog.cellsOf 65 = 9 := by kernel_rfl
  have c4 : Tryd.prog.cellsOf 63 = 4 := by kernel_rfl
  have c2 : Tryd.prog.cellsOf 61 = 2 := by kernel_rfl
  have c1 : Tryd.prog.cellsOf 2 = 1 := by kernel_rfl
  obtain ⟨xs, k, -, hx, hcl, hxl, hfs⟩ := DataW.trod_struct Tryd.underlying65 hf
  rw [c9] at hcl
  match xs, hxl, cs, hcl with
  | [y0, y1, y2, y3, y4], _, [v0, v1, v2, v3, v4, v5, v6, v7, v8], _ =>
    have g0 := hfs 0 _ rfl
    have g1 := hfs 1 _ rfl
    have g2 := hfs 2 _ rfl
    have g3 := hfs 3 _ rfl
    have g4 := hfs 4 _ rfl
    simp [c1, c2, c4] at g0 g1 g2 g3 g4
    obtain ⟨s, e0, sa, sb⟩ := span_in g0
    obtain ⟨a1, e1, z1, w1⟩ := DataW.trod_int Tryd.underlying2 g1
    obtain ⟨t, e2, ok⟩ := tally_in g2
    obtain ⟨a3, e3, z3, w3⟩ := DataW.trod_int Tryd.underlying2 g3
    obtain ⟨a4, e4, z4, w4⟩ := DataW.trod_int Tryd.underlying2 g4
    simp at e0 e2
    obtain ⟨rfl, rfl⟩ := e0
    obtain ⟨rfl, rfl, rfl, rfl⟩ := e2
    injection e1 with e1
    injection e3 with e3
    injection e4 with e4
    exact ⟨⟨s.a, s.b, a1, t, a3, a4⟩, by rw [e1, e3, e4], sa, sb, i64_wf w1, ok, i64_wf w3, i64_wf w4⟩

theorem cell_spot9 {w : World} {a : Addr} {v : Value} (h : w.cell? (a.add 0) = some v) : a.spot = none := by
  obtain ⟨b, o, sp⟩ := a
  have hs : ((⟨b, o, sp⟩ : Addr).add 0) = ⟨b, o, sp⟩ := by unfold Addr.add; split <;> simp_all
  rw [hs] at h
  cases sp with
  | none => rfl
  | some x =>
    unfold World.cell? at h
    split at h <;> simp at h

theorem bytesWin : Tryd.prog.bytesOf 65 = 72 := by kernel_rfl
theorem cellsWin : Tryd.prog.cellsOf 65 = 9 := by kernel_rfl

set_option maxRecDepth 100000 in
theorem wins_in {H : Type} {enc : TypeId × Value → H} {W : World} {fuel base : Nat} {spare : Nat → Bool} {held : Bool} {v : Value} {x : DataW H × List MemPlace}
    (hf : DataW.trod enc Tryd.prog W base spare held fuel 38 [v] = some x) (hw : ∀ n ∈ x.1.weights Tryd.prog 38, n ≤ reachBytes) :
    ∃ (ao : Option Addr) (cap : Nat) (l : List Wn), v = .slice ao l.length cap ∧ encW.Sl W ao cap l ∧ (∀ x ∈ l, I64 x.a ∧ I64 x.b ∧ I64 x.h ∧ x.t.Ok ∧ I64 x.n ∧ I64 x.p) ∧ l.length ≤ 1954687338268 := by
  rcases Go.Deep.open_slice Tryd.underlying38 hf with ⟨hcs, _⟩ | ⟨a, len, cap, m, n, D, Pl, hcs, _, hl, _, hmm, hx, hel⟩
  · injection hcs with hcs
    exact ⟨none, 0, [], hcs, Rc.Sl.empty _, fun x hx => (nomatch hx), by simp⟩
  · injection hcs with hcs
    have hlm : len ≤ m := by rw [hmm]; split <;> omega
    subst hx
    simp only [DataW.weights, Tryd.underlying38] at hw
    have hlen : len ≤ 1954687338268 := by
      have := hw _ List.mem_cons_self
      rw [bytesWin] at this
      simp only [List.length_map, List.length_range, reachBytes] at this
      omega
    have each : ∀ i, ∃ t : Wn, i < len → (∀ j (hj : j < 9), W.cell? (a.add (i * 9 + j)) = some ((wnc t).toList[j]'hj)) ∧ (I64 t.a ∧ I64 t.b ∧ I64 t.h ∧ t.t.Ok ∧ I64 t.n ∧ I64 t.p) := fun i => by
      by_cases hi : i < len
      · obtain ⟨cs', h1, h2⟩ := hel i (by omega)
        rw [cellsWin] at h1
        obtain ⟨_, hlc, hcell⟩ := World.cells?_some h1
        obtain ⟨t, et, ok⟩ := win_in h2
        subst et
        refine ⟨t, fun _ => ⟨fun j hj => ?_, ok⟩⟩
        have e0 := hcell j (by omega)
        rw [Go.Deep.add_add] at e0
        exact e0.trans (List.getElem?_eq_getElem _)
      · exact ⟨wn0, fun h => absurd h hi⟩
    obtain ⟨f, hf'⟩ := Classical.axiomOfChoice each
    refine ⟨some a, cap, (List.range len).map f, by simpa using hcs, ⟨fun i u hu => ?_, fun h => (nomatch h), by simp; omega⟩, fun t ht => ?_, by simpa using hlen⟩
    · have hi : i < (encW.flat ((List.range len).map f)).length := (List.getElem?_eq_some_iff.1 hu).1
      rw [encW.flat_len] at hi
      have e9 : encW.n = 9 := rfl
      rw [e9, List.length_map, List.length_range] at hi
      have hj : i / 9 < len := by omega
      have h0 := (hf' 0 (by omega)).1 0 (by omega)
      simp only [Nat.zero_mul, Nat.zero_add] at h0
      have hsp := cell_spot9 h0
      obtain ⟨b, o, sp⟩ := a
      simp only at hsp
      subst hsp
      have c := (hf' (i / 9) hj).1 (i % 9) (by omega)
      rw [Addr.add_lit] at c
      have ei : i / 9 * 9 + i % 9 = i := by omega
      rw [ei] at c
      have g := encW.flat_get ((List.range len).map f) (i / 9) (by simpa using hj) (i % 9) (by rw [e9]; omega)
      rw [e9, ei, hu] at g
      refine ⟨b, o, rfl, c.trans ?_⟩
      rw [g]
      have : ((List.range len).map f)[i / 9]'(by simpa using hj) = f (i / 9) := by simp
      rw [this]
      exact (List.getElem?_eq_getElem _).symm
    · obtain ⟨i, hi, rfl⟩ := List.mem_map.1 ht
      exact (hf' i (List.mem_range.1 hi)).2

end Go.Proofs.YtdcpmpbfnfjncaaDoor

namespace Go.Proofs.YtdcpmpbfnfjncaaDoor
open Go.ChangeShapes Go.WideShapes Go.ChangeAt Go.RowKit Go.Deep

set_option maxRecDepth 100000 in
theorem ks_in {H : Type} {enc : TypeId × Value → H} {W : World} {fuel base : Nat} {spare : Nat → Bool} {held : Bool} {cs : List Value} {x : DataW H × List MemPlace}
    (hf : DataW.trod enc Tryd.prog W base spare held fuel 40 cs = some x) (hw : ∀ n ∈ x.1.weights Tryd.prog 40, n ≤ reachBytes) :
    ∃ (k : Ks) (wo : Option Addr) (cap : Nat), cs = (ksc k wo cap).toList ∧ encW.Sl W wo cap k.wi ∧ k.wi.length ≤ 1954687338268 := by
  have c3 : Tryd.prog.cellsOf 40 = 3 := by kernel_rfl
  have c1 : Tryd.prog.cellsOf 2 = 1 := by kernel_rfl
  have cs1 : Tryd.prog.cellsOf 9 = 1 := by kernel_rfl
  have cw : Tryd.prog.cellsOf 38 = 1 := by kernel_rfl
  obtain ⟨xs, k, -, hx, hcl, hxl, hfs⟩ := DataW.trod_struct Tryd.underlying40 hf
  rw [c3] at hcl
  match xs, hxl, cs, hcl with
  | [y0, y1, y2], _, [v0, v1, v2], _ =>
    have g0 := hfs 0 _ rfl
    have g1 := hfs 1 _ rfl
    have g2 := hfs 2 _ rfl
    simp [c1, cs1, cw] at g0 g1 g2
    obtain ⟨a0, e0, z0, w0⟩ := DataW.trod_string Tryd.underlying9 g0
    obtain ⟨a1, e1, z1, w1⟩ := DataW.trod_int Tryd.underlying2 g1
    obtain ⟨wo, cap, l, e2, hsl, -, hln⟩ := wins_in g2 (fun n hn => hw n (by
      rw [hx]
      simp [DataW.weights, DataW.weightsEach, Tryd.underlying40]
      first | exact hn | exact .inr hn | exact .inr (.inr hn) | exact .inl hn | simp [hn]))
    injection e0 with e0
    injection e1 with e1
    exact ⟨⟨a0, a1, l⟩, wo, cap, by rw [e0, e1, e2], hsl, hln⟩

set_option maxRecDepth 100000 in
theorem ks_arg {H : Type} {enc : TypeId × Value → H} {W : World} {base : Nat} {r : Reach} {b0 : Nat} {spare : Nat → Bool} {held : Bool} {v : Value} {d : DataW H} {p : List MemPlace} (hv : Value.okWide Tryd.prog W r b0 40 v)
    (h : DataW.Trod enc Tryd.prog W base spare held 40 v d p) (hw : ∀ n ∈ d.weights Tryd.prog 40, n ≤ reachBytes) :
    ∃ (k : Ks) (wo : Option Addr) (cap : Nat), v = .agg (ksc k wo cap) ∧ encW.Sl W wo cap k.wi ∧ k.wi.length ≤ 1954687338268 := by
  obtain ⟨cs, rfl, -⟩ := okWide_struct Tryd.underlying40 hv
  obtain ⟨fuel, hf⟩ := h
  obtain ⟨k, wo, cap, e, h1, h2⟩ := ks_in hf hw
  refine ⟨k, wo, cap, ?_, h1, h2⟩
  have : cs = ksc k wo cap := Array.toList_inj.1 e
  rw [this]

end Go.Proofs.YtdcpmpbfnfjncaaDoor

namespace Go.Proofs.YtdcpmpbfnfjncaaDoor
open Go.ChangeShapes Go.WideShapes Go.ChangeAt Go.RowKit

theorem i64_wfc {x : Int} (h : (Lit.int .i64 x).wf = true) : I64 x := by
  have := bounds_i64 h
  unfold I64
  omega


set_option maxRecDepth 100000 in
theorem cf_in {H : Type} {enc : TypeId × Value → H} {W : World} {fuel base : Nat} {spare : Nat → Bool} {held : Bool} {cs : List Value} {x : DataW H × List MemPlace}
    (hf : DataW.trod enc Tryd.prog W base spare held fuel 24 cs = some x) : ∃ t : Cf, cs = (cfc t).toList ∧ I64 t.lt ∧ I64 t.ea := by
  have c10 : Tryd.prog.cellsOf 24 = 10 := by kernel_rfl
  have c1 : Tryd.prog.cellsOf 2 = 1 := by kernel_rfl
  have ci : Tryd.prog.cellsOf 3 = 1 := by kernel_rfl
  have ck : Tryd.prog.cellsOf 22 = 1 := by kernel_rfl
  have cb : Tryd.prog.cellsOf 4 = 1 := by kernel_rfl
  obtain ⟨xs, k, -, hx, hcl, hxl, hfs⟩ := DataW.trod_struct Tryd.underlying24 hf
  rw [c10] at hcl
  match xs, hxl, cs, hcl with
  | [y0, y1, y2, y3, y4, y5, y6, y7, y8, y9], _, [v0, v1, v2, v3, v4, v5, v6, v7, v8, v9], _ =>
    have g0 := hfs 0 _ rfl
    have g1 := hfs 1 _ rfl
    have g2 := hfs 2 _ rfl
    have g3 := hfs 3 _ rfl
    have g4 := hfs 4 _ rfl
    have g5 := hfs 5 _ rfl
    have g6 := hfs 6 _ rfl
    have g7 := hfs 7 _ rfl
    have g8 := hfs 8 _ rfl
    have g9 := hfs 9 _ rfl
    simp [c1, ci, ck, cb] at g0 g1 g2 g3 g4 g5 g6 g7 g8 g9
    obtain ⟨a0, e0, z0, w0⟩ := DataW.trod_int Tryd.underlying3 g0
    obtain ⟨a1, e1, z1, w1⟩ := DataW.trod_int Tryd.underlying3 g1
    obtain ⟨a2, e2, z2, w2⟩ := DataW.trod_int Tryd.underlying22 g2
    obtain ⟨a3, e3, z3, w3⟩ := DataW.trod_int Tryd.underlying2 g3
    obtain ⟨a4, e4, z4, w4⟩ := DataW.trod_int Tryd.underlying2 g4
    obtain ⟨a5, e5, z5, w5⟩ := DataW.trod_int Tryd.underlying2 g5
    obtain ⟨a6, e6, z6, w6⟩ := DataW.trod_int Tryd.underlying2 g6
    obtain ⟨a7, e7, z7, w7⟩ := DataW.trod_int Tryd.underlying2 g7
    obtain ⟨a8, e8, z8, w8⟩ := DataW.trod_int Tryd.underlying3 g8
    obtain ⟨a9, e9, z9⟩ := DataW.trod_bool Tryd.underlying4 g9
    injection e0 with e0
    injection e1 with e1
    injection e2 with e2
    injection e3 with e3
    injection e4 with e4
    injection e5 with e5
    injection e6 with e6
    injection e7 with e7
    injection e8 with e8
    injection e9 with e9
    exact ⟨⟨a0, a1, a2, a3, a4, a5, a6, a7, a8, a9⟩, by rw [e0, e1, e2, e3, e4, e5, e6, e7, e8, e9], i64_wfc w7, i64_wfc w8⟩

set_option maxRecDepth 100000 in
theorem cf_arg {H : Type} {enc : TypeId × Value → H} {W : World} {base : Nat} {r : Reach} {b0 : Nat} {spare : Nat → Bool} {held : Bool} {v : Value} {d : DataW H} {p : List MemPlace} (hv : Value.okWide Tryd.prog W r b0 24 v)
    (h : DataW.Trod enc Tryd.prog W base spare held 24 v d p) : ∃ t : Cf, v = cfv t ∧ I64 t.lt ∧ I64 t.ea := by
  obtain ⟨cs, rfl, -⟩ := okWide_struct Tryd.underlying24 hv
  obtain ⟨fuel, hf⟩ := h
  obtain ⟨t, e, h1⟩ := cf_in hf
  refine ⟨t, ?_, h1⟩
  have : cs = cfc t := Array.toList_inj.1 e
  rw [this]

end Go.Proofs.YtdcpmpbfnfjncaaDoor

namespace Go.Proofs.YtdcpmpbfnfjncaaDoor
open Go.ChangeShapes Go.WideShapes Go.ChangeAt Go.RowKit Go.Deep

theorem bytesJ : Tryd.prog.bytesOf 2 = 8 := by kernel_rfl
theorem cellsJ : Tryd.prog.cellsOf 2 = 1 := by kernel_rfl
theorem bytesKs : Tryd.prog.bytesOf 40 = 48 := by kernel_rfl
theorem cellsKs : Tryd.prog.cellsOf 40 = 3 := by kernel_rfl

theorem wt_all {H : Type} {P : Program} {e : TypeId} {l : List (DataW H)} {d : DataW H} (hd : d ∈ l) {n : Nat} (hn : n ∈ d.weights P e) : n ∈ DataW.weightsAll P e l := by
  induction l with
  | nil => cases hd
  | cons x l ih =>
    simp only [DataW.weightsAll, List.mem_append]
    rcases List.mem_cons.1 hd with rfl | h
    · exact .inl hn
    · exact .inr (ih h)

set_option maxRecDepth 100000 in
theorem intsJ_in {H : Type} {enc : TypeId × Value → H} {W : World} {fuel base : Nat} {spare : Nat → Bool} {held : Bool} {v : Value} {x : DataW H × List MemPlace}
    (hf : DataW.trod enc Tryd.prog W base spare held fuel 25 [v] = some x) (hw : ∀ n ∈ x.1.weights Tryd.prog 25, n ≤ reachBytes) :
    ∃ (ao : Option Addr) (cap : Nat) (l : List Int), v = .slice ao l.length cap ∧ encJ.Sl W ao cap l ∧ l.length ≤ 17592186043904 := by
  rcases Go.Deep.open_slice Tryd.underlying25 hf with ⟨hcs, _⟩ | ⟨a, len, cap, m, n, D, Pl, hcs, _, hl, _, hmm, hx, hel⟩
  · injection hcs with hcs
    exact ⟨none, 0, [], hcs, Rc.Sl.empty _, by simp⟩
  · injection hcs with hcs
    have hlm : len ≤ m := by rw [hmm]; split <;> omega
    subst hx
    simp only [DataW.weights, Tryd.underlying25] at hw
    have hlen : len ≤ 17592186043904 := by
      have := hw _ List.mem_cons_self
      rw [bytesJ] at this
      simp only [List.length_map, List.length_range, reachBytes] at this
      omega
    have each : ∀ i, ∃ t : Int, i < len → W.cell? (a.add i) = some (.int .i64 t) := fun i => by
      by_cases hi : i < len
      · obtain ⟨cs', h1, h2⟩ := hel i (by omega)
        rw [cellsJ, Nat.mul_one] at h1
        obtain ⟨_, hlc, hcell⟩ := World.cells?_some h1
        obtain ⟨t, et, -, -⟩ := DataW.trod_int Tryd.underlying2 h2
        subst et
        refine ⟨t, fun _ => ?_⟩
        have e0 := hcell 0 (by omega)
        rw [Go.Deep.add_add, Nat.add_zero] at e0
        exact e0.trans rfl
      · exact ⟨0, fun h => absurd h hi⟩
    obtain ⟨f, hf'⟩ := Classical.axiomOfChoice each
    refine ⟨some a, cap, (List.range len).map f, by simpa using hcs, ⟨fun i u hu => ?_, fun h => (nomatch h), by simp; omega⟩, by simpa using hlen⟩
    have hi : i < (encJ.flat ((List.range len).map f)).length := (List.getElem?_eq_some_iff.1 hu).1
    rw [encJ.flat_len] at hi
    have e9 : encJ.n = 1 := rfl
    rw [e9, Nat.mul_one, List.length_map, List.length_range] at hi
    have h0 := hf' 0 (by omega)
    have hsp := cell_spot9 h0
    obtain ⟨b, o, sp⟩ := a
    simp only at hsp
    subst hsp
    have c := hf' i hi
    rw [Addr.add_lit] at c
    have g := encJ.flat_get ((List.range len).map f) i (by simpa using hi) 0 (by rw [e9]; omega)
    rw [e9, Nat.mul_one, Nat.add_zero, hu] at g
    refine ⟨b, o, rfl, c.trans ?_⟩
    rw [g]
    have : ((List.range len).map f)[i]'(by simpa using hi) = f i := by simp
    rw [this]
    rfl

set_option maxRecDepth 100000 in
theorem keysK_in {H : Type} {enc : TypeId × Value → H} {W : World} {fuel base : Nat} {spare : Nat → Bool} {held : Bool} {v : Value} {x : DataW H × List MemPlace}
    (hf : DataW.trod enc Tryd.prog W base spare held fuel 26 [v] = some x) (hw : ∀ n ∈ x.1.weights Tryd.prog 26, n ≤ reachBytes) :
    ∃ (ao : Option Addr) (cap : Nat) (l : List Kv), v = .slice ao l.length cap ∧ encK.Sl W ao cap l ∧ (∀ j, j < l.length → encW.Sl W (l.getD j kv0).wo (l.getD j kv0).cap (l.getD j kv0).k.wi ∧ (l.getD j kv0).k.wi.length ≤ 1954687338268) ∧ l.length ≤ 2932031007317 := by
  rcases Go.Deep.open_slice Tryd.underlying26 hf with ⟨hcs, _⟩ | ⟨a, len, cap, m, n, D, Pl, hcs, _, hl, _, hmm, hx, hel⟩
  · injection hcs with hcs
    exact ⟨none, 0, [], hcs, Rc.Sl.empty _, fun j hj => (nomatch hj), by simp⟩
  · injection hcs with hcs
    have hlm : len ≤ m := by rw [hmm]; split <;> omega
    subst hx
    simp only [DataW.weights, Tryd.underlying26] at hw
    have hlen : len ≤ 2932031007317 := by
      have := hw _ List.mem_cons_self
      rw [bytesKs] at this
      simp only [List.length_map, List.length_range, reachBytes] at this
      omega
    have each : ∀ i, ∃ t : Kv, i < len → (∀ j (hj : j < 3), W.cell? (a.add (i * 3 + j)) = some ((kvc t).toList[j]'hj)) ∧ (encW.Sl W t.wo t.cap t.k.wi ∧ t.k.wi.length ≤ 1954687338268) := fun i => by
      by_cases hi : i < len
      · obtain ⟨cs', h1, h2⟩ := hel i (by omega)
        rw [cellsKs] at h1
        obtain ⟨_, hlc, hcell⟩ := World.cells?_some h1
        obtain ⟨k, wo, kc, et, hsl, hln⟩ := ks_in h2 (fun n hn => hw n (by
          refine List.mem_cons_of_mem _ ?_
          have hd : D i ∈ (List.range len).map D := List.mem_map.2 ⟨i, List.mem_range.2 hi, rfl⟩
          have := wt_all hd hn
          simp [this]))
        subst et
        refine ⟨⟨k, wo, kc⟩, fun _ => ⟨fun j hj => ?_, hsl, hln⟩⟩
        have e0 := hcell j (by omega)
        rw [Go.Deep.add_add] at e0
        exact e0.trans (List.getElem?_eq_getElem _)
      · exact ⟨kv0, fun h => absurd h hi⟩
    obtain ⟨f, hf'⟩ := Classical.axiomOfChoice each
    refine ⟨some a, cap, (List.range len).map f, by simpa using hcs, ⟨fun i u hu => ?_, fun h => (nomatch h), by simp; omega⟩, fun j hj => ?_, by simpa using hlen⟩
    · have hi : i < (encK.flat ((List.range len).map f)).length := (List.getElem?_eq_some_iff.1 hu).1
      rw [encK.flat_len] at hi
      have e9 : encK.n = 3 := rfl
      rw [e9, List.length_map, List.length_range] at hi
      have hj : i / 3 < len := by omega
      have h0 := (hf' 0 (by omega)).1 0 (by omega)
      simp only [Nat.zero_mul, Nat.zero_add] at h0
      have hsp := cell_spot9 h0
      obtain ⟨b, o, sp⟩ := a
      simp only at hsp
      subst hsp
      have c := (hf' (i / 3) hj).1 (i % 3) (by omega)
      rw [Addr.add_lit] at c
      have ei : i / 3 * 3 + i % 3 = i := by omega
      rw [ei] at c
      have g := encK.flat_get ((List.range len).map f) (i / 3) (by simpa using hj) (i % 3) (by rw [e9]; omega)
      rw [e9, ei, hu] at g
      refine ⟨b, o, rfl, c.trans ?_⟩
      rw [g]
      have : ((List.range len).map f)[i / 3]'(by simpa using hj) = f (i / 3) := by simp
      rw [this]
      exact (List.getElem?_eq_getElem _).symm
    · have hj' : j < len := by simpa using hj
      have : ((List.range len).map f).getD j kv0 = f j := by
        rw [List.getD_eq_getElem?_getD, List.getElem?_eq_getElem (by simpa using hj')]
        simp
      rw [this]
      exact (hf' j hj').2

set_option maxRecDepth 100000 in
theorem st_in {H : Type} {enc : TypeId × Value → H} {W : World} {fuel base : Nat} {spare : Nat → Bool} {held : Bool} {cs : List Value} {x : DataW H × List MemPlace}
    (hf : DataW.trod enc Tryd.prog W base spare held fuel 28 cs = some x) (hw : ∀ n ∈ x.1.weights Tryd.prog 28, n ≤ reachBytes) :
    ∃ (c : Cf) (M : List Int) (mo : Option Addr) (mc : Nat) (K : List Kv) (ko : Option Addr) (kc : Nat), cs = (stc c (.slice mo M.length mc) (.slice ko K.length kc)).toList ∧ encJ.Sl W mo mc M ∧ M.length ≤ 17592186043904 ∧ encK.Sl W ko kc K ∧ (∀ j, j < K.length → encW.Sl W (K.getD j kv0).wo (K.getD j kv0).cap (K.getD j kv0).k.wi ∧ (K.getD j kv0).k.wi.length ≤ 1954687338268) ∧ K.length ≤ 2932031007317 := by
  have c12 : Tryd.prog.cellsOf 28 = 12 := by kernel_rfl
  have c10 : Tryd.prog.cellsOf 24 = 10 := by kernel_rfl
  have cm : Tryd.prog.cellsOf 25 = 1 := by kernel_rfl
  have ck : Tryd.prog.cellsOf 26 = 1 := by kernel_rfl
  obtain ⟨xs, k, -, hx, hcl, hxl, hfs⟩ := DataW.trod_struct Tryd.underlying28 hf
  rw [c12] at hcl
  match xs, hxl, cs, hcl with
  | [y0, y1, y2], _, [v0, v1, v2, v3, v4, v5, v6, v7, v8, v9, v10, v11], _ =>
    have g0 := hfs 0 _ rfl
    have g1 := hfs 1 _ rfl
    have g2 := hfs 2 _ rfl
    simp [c10, cm, ck] at g0 g1 g2
    obtain ⟨c, e0, -, -⟩ := cf_in g0
    obtain ⟨mo, mc, M, e1, s1, l1⟩ := intsJ_in g1 (fun n hn => hw n (by
      rw [hx]
      simp [DataW.weights, DataW.weightsEach, Tryd.underlying28]
      first | exact hn | exact .inr hn | exact .inr (.inl hn) | exact .inl hn | simp [hn]))
    obtain ⟨ko, kc, K, e2, s2, w2, l2⟩ := keysK_in g2 (fun n hn => hw n (by
      rw [hx]
      simp [DataW.weights, DataW.weightsEach, Tryd.underlying28]
      first | exact hn | exact .inr hn | exact .inr (.inr hn) | exact .inl hn | simp [hn]))
    refine ⟨c, M, mo, mc, K, ko, kc, ?_, s1, l1, s2, w2, l2⟩
    have : [v0, v1, v2, v3, v4, v5, v6, v7, v8, v9, v10, v11] = [v0, v1, v2, v3, v4, v5, v6, v7, v8, v9] ++ [v10, v11] := rfl
    rw [this, e0, e1, e2]
    rfl

set_option maxRecDepth 100000 in
theorem st_arg {H : Type} {enc : TypeId × Value → H} {W : World} {base : Nat} {r : Reach} {b0 : Nat} {spare : Nat → Bool} {held : Bool} {v : Value} {d : DataW H} {p : List MemPlace} (hv : Value.okWide Tryd.prog W r b0 28 v)
    (h : DataW.Trod enc Tryd.prog W base spare held 28 v d p) (hw : ∀ n ∈ d.weights Tryd.prog 28, n ≤ reachBytes) :
    ∃ (c : Cf) (M : List Int) (mo : Option Addr) (mc : Nat) (K : List Kv) (ko : Option Addr) (kc : Nat), v = .agg (stc c (.slice mo M.length mc) (.slice ko K.length kc)) ∧ encJ.Sl W mo mc M ∧ M.length ≤ 17592186043904 ∧ encK.Sl W ko kc K ∧ (∀ j, j < K.length → encW.Sl W (K.getD j kv0).wo (K.getD j kv0).cap (K.getD j kv0).k.wi ∧ (K.getD j kv0).k.wi.length ≤ 1954687338268) ∧ K.length ≤ 2932031007317 := by
  obtain ⟨cs, rfl, -⟩ := okWide_struct Tryd.underlying28 hv
  obtain ⟨fuel, hf⟩ := h
  obtain ⟨c, M, mo, mc, K, ko, kc, e, h1, h2, h3, h4, h5⟩ := st_in hf hw
  refine ⟨c, M, mo, mc, K, ko, kc, ?_, h1, h2, h3, h4, h5⟩
  have : cs = stc c (.slice mo M.length mc) (.slice ko K.length kc) := Array.toList_inj.1 e
  rw [this]

end Go.Proofs.YtdcpmpbfnfjncaaDoor
