/- Arguments: numbers, and a script, that came in. -/
import Derived.Test.YtcmigkemhoecfaaKW
import Derived.Deep.Slices
import Derived.OpenShut
import Derived.SizedLaws
import Derived.ProofKit
import Derived.ChangeMaps5
import Derived.ChangeArms
namespace Go.Proofs.Ytcmigkemhoecfaa
open Go.ChangeShapes Go.WideShapes Go.ChangeAt Go.RowKit Go.Deep

theorem bytesJ : Try.prog.bytesOf 2 = 8 := by kernel_rfl
theorem cellsJ : Try.prog.cellsOf 2 = 1 := by kernel_rfl
theorem bytesSt : Try.prog.bytesOf 39 = 64 := by kernel_rfl
theorem cellsSt : Try.prog.cellsOf 39 = 7 := by kernel_rfl

theorem wt_all {H : Type} {P : Program} {e : TypeId} {l : List (DataW H)} {d : DataW H} (hd : d ∈ l) {n : Nat} (hn : n ∈ d.weights P e) : n ∈ DataW.weightsAll P e l := by
  induction l with
  | nil => cases hd
  | cons x l ih =>
    simp only [DataW.weightsAll, List.mem_append]
    rcases List.mem_cons.1 hd with rfl | h
    · exact .inl hn
    · exact .inr (ih h)

theorem cell_spot9 {w : World} {a : Addr} {v : Value} (h : w.cell? (a.add 0) = some v) : a.spot = none := by
  obtain ⟨b, o, sp⟩ := a
  have hs : ((⟨b, o, sp⟩ : Addr).add 0) = ⟨b, o, sp⟩ := by unfold Addr.add; split <;> simp_all
  rw [hs] at h
  cases sp with
  | none => rfl
  | some x =>
    unfold World.cell? at h
    split at h <;> simp at h

set_option maxRecDepth 100000 in
theorem intsJ_in {H : Type} {enc : TypeId × Value → H} {W : World} {fuel base : Nat} {spare : Nat → Bool} {held : Bool} {v : Value} {x : DataW H × List MemPlace}
    (hf : DataW.trod enc Try.prog W base spare held fuel 22 [v] = some x) (hw : ∀ n ∈ x.1.weights Try.prog 22, n ≤ reachBytes) :
    ∃ (ao : Option Addr) (cap : Nat) (l : List Int), v = .slice ao l.length cap ∧ encJ.Sl W ao cap l ∧ l.length ≤ 17592186043904 := by
  rcases Go.Deep.open_slice Try.underlying22 hf with ⟨hcs, _⟩ | ⟨a, len, cap, m, n, D, Pl, hcs, _, hl, _, hmm, hx, hel⟩
  · injection hcs with hcs
    exact ⟨none, 0, [], hcs, Rc.Sl.empty _, by simp⟩
  · injection hcs with hcs
    have hlm : len ≤ m := by rw [hmm]; split <;> omega
    subst hx
    simp only [DataW.weights, Try.underlying22] at hw
    have hlen : len ≤ 17592186043904 := by
      have := hw _ List.mem_cons_self
      rw [bytesJ] at this
      simp only [List.length_map, List.length_range, reachBytes] at this
      omega
    have each : ∀ i, ∃ t : Int, i < len → W.cell? (a.add i) = some (.int .i64 t) := fun i => by
      by_cases hi : i < len
      · obtain ⟨cs', h1, h2⟩ := hel i (by omega)
        rw [cellsJ, Nat.mul_one] at h1
        obtain ⟨_, hlc, hcell⟩ := World.cells?_some h1
        obtain ⟨t, et, -, -⟩ := DataW.trod_int Try.underlying2 h2
        subst et
        refine ⟨t, fun _ => ?_⟩
        have e0 := hcell 0 (by omega)
        rw [Go.Deep.add_add, Nat.add_zero] at e0
        exact e0.trans rfl
      · exact ⟨0, fun h => absurd h hi⟩
    obtain ⟨f, hf'⟩ := Classical.axiomOfChoice each
    refine ⟨some a, cap, (List.range len).map f, by simpa using hcs, ⟨fun i u hu => ?_, fun h => (nomatch h), by simp; omega⟩, by simpa using hlen⟩
    have hi : i < (encJ.flat ((List.range len).map f)).length := (List.getElem?_eq_some_iff.1 hu).1
    rw [encJ.flat_len] at hi
    have e9 : encJ.n = 1 := rfl
    rw [e9, Nat.mul_one, List.length_map, List.length_range] at hi
    have h0 := hf' 0 (by omega)
    have hsp := cell_spot9 h0
    obtain ⟨b, o, sp⟩ := a
    simp only at hsp
    subst hsp
    have c := hf' i hi
    rw [Addr.add_lit] at c
    have g := encJ.flat_get ((List.range len).map f) i (by simpa using hi) 0 (by rw [e9]; omega)
    rw [e9, Nat.mul_one, Nat.add_zero, hu] at g
    refine ⟨b, o, rfl, c.trans ?_⟩
    rw [g]
    have : ((List.range len).map f)[i]'(by simpa using hi) = f i := by simp
    rw [this]
    rfl

set_option maxRecDepth 100000 in
theorem step_in {H : Type} {enc : TypeId × Value → H} {W : World} {fuel base : Nat} {spare : Nat → Bool} {held : Bool} {cs : List Value} {x : DataW H × List MemPlace}
    (hf : DataW.trod enc Try.prog W base spare held fuel 39 cs = some x) (hw : ∀ n ∈ x.1.weights Try.prog 39, n ≤ reachBytes) : ∃ t : Stp, cs = (stpc t).toList := by
  have c9 := cellsSt
  have c1 : Try.prog.cellsOf 2 = 1 := by kernel_rfl
  have c2 : Try.prog.cellsOf 3 = 1 := by kernel_rfl
  have c3 : Try.prog.cellsOf 9 = 1 := by kernel_rfl
  obtain ⟨xs, k, -, hx, hcl, hxl, hfs⟩ := DataW.trod_struct Try.underlying39 hf
  rw [c9] at hcl
  match xs, hxl, cs, hcl with
  | [y0, y1, y2, y3, y4, y5, y6], _, [v0, v1, v2, v3, v4, v5, v6], _ =>
    have g0 := hfs 0 _ rfl
    have g1 := hfs 1 _ rfl
    have g2 := hfs 2 _ rfl
    have g3 := hfs 3 _ rfl
    have g4 := hfs 4 _ rfl
    have g5 := hfs 5 _ rfl
    have g6 := hfs 6 _ rfl
    simp [c1, c2, c3] at g0 g1 g2 g3 g4 g5 g6
    obtain ⟨a0, e0, -, -⟩ := DataW.trod_int Try.underlying3 g0
    obtain ⟨a1, e1, -, -⟩ := DataW.trod_int Try.underlying3 g1
    obtain ⟨a2, e2, -, -⟩ := DataW.trod_int Try.underlying3 g2
    obtain ⟨a3, e3, -, -⟩ := DataW.trod_int Try.underlying3 g3
    obtain ⟨a4, e4, -, -⟩ := DataW.trod_int Try.underlying3 g4
    obtain ⟨a5, e5, ex5, -⟩ := DataW.trod_string Try.underlying9 g5
    have h5 : a5.size ≤ 140737488351232 := hw _ (by
      rw [hx]
      have hy : y5.1 = .lit (.string a5.data.toList) := by rw [ex5]
      simp [DataW.weights, DataW.weightsEach, Try.underlying39, hy])
    obtain ⟨a6, e6, -, -⟩ := DataW.trod_int Try.underlying2 g6
    injection e0 with e0
    injection e1 with e1
    injection e2 with e2
    injection e3 with e3
    injection e4 with e4
    injection e5 with e5
    injection e6 with e6
    exact ⟨⟨a0, a1, a2, a3, a4, a5, a6, h5⟩, by rw [e0, e1, e2, e3, e4, e5, e6]⟩

set_option maxRecDepth 100000 in
theorem steps_in {H : Type} {enc : TypeId × Value → H} {W : World} {fuel base : Nat} {spare : Nat → Bool} {held : Bool} {v : Value} {x : DataW H × List MemPlace}
    (hf : DataW.trod enc Try.prog W base spare held fuel 23 [v] = some x) (hw : ∀ n ∈ x.1.weights Try.prog 23, n ≤ reachBytes) :
    ∃ (ao : Option Addr) (cap : Nat) (l : List Stp), v = .slice ao l.length cap ∧ encS.Sl W ao cap l ∧ l.length ≤ 2300000000000 := by
  rcases Go.Deep.open_slice Try.underlying23 hf with ⟨hcs, _⟩ | ⟨a, len, cap, m, n, D, Pl, hcs, _, hl, _, hmm, hx, hel⟩
  · injection hcs with hcs
    exact ⟨none, 0, [], hcs, Rc.Sl.empty _, by simp⟩
  · injection hcs with hcs
    have hlm : len ≤ m := by rw [hmm]; split <;> omega
    subst hx
    simp only [DataW.weights, Try.underlying23] at hw
    have hlen : len ≤ 2300000000000 := by
      have := hw _ List.mem_cons_self
      rw [bytesSt] at this
      simp only [List.length_map, List.length_range, reachBytes] at this
      omega
    have each : ∀ i, ∃ t : Stp, i < len → ∀ j (hj : j < 7), W.cell? (a.add (i * 7 + j)) = some ((stpc t).toList[j]'hj) := fun i => by
      by_cases hi : i < len
      · obtain ⟨cs', h1, h2⟩ := hel i (by omega)
        rw [cellsSt] at h1
        obtain ⟨_, hlc, hcell⟩ := World.cells?_some h1
        obtain ⟨t, et⟩ := step_in h2 (fun n hn => hw n (by
          refine List.mem_cons_of_mem _ ?_
          have hd : D i ∈ (List.range len).map D := List.mem_map.2 ⟨i, List.mem_range.2 hi, rfl⟩
          have := wt_all hd hn
          simp [this]))
        subst et
        refine ⟨t, fun _ j hj => ?_⟩
        have e0 := hcell j (by omega)
        rw [Go.Deep.add_add] at e0
        exact e0.trans (List.getElem?_eq_getElem _)
      · exact ⟨stp0, fun h => absurd h hi⟩
    obtain ⟨f, hf'⟩ := Classical.axiomOfChoice each
    refine ⟨some a, cap, (List.range len).map f, by simpa using hcs, ⟨fun i u hu => ?_, fun h => (nomatch h), by simp; omega⟩, by simpa using hlen⟩
    · have hi : i < (encS.flat ((List.range len).map f)).length := (List.getElem?_eq_some_iff.1 hu).1
      rw [encS.flat_len] at hi
      have e9 : encS.n = 7 := rfl
      rw [e9, List.length_map, List.length_range] at hi
      have hj : i / 7 < len := by omega
      have h0 := hf' 0 (by omega) 0 (by omega)
      simp only [Nat.zero_mul, Nat.zero_add] at h0
      have hsp := cell_spot9 h0
      obtain ⟨b, o, sp⟩ := a
      simp only at hsp
      subst hsp
      have c := hf' (i / 7) hj (i % 7) (by omega)
      rw [Addr.add_lit] at c
      have ei : i / 7 * 7 + i % 7 = i := by omega
      rw [ei] at c
      have g := encS.flat_get ((List.range len).map f) (i / 7) (by simpa using hj) (i % 7) (by rw [e9]; omega)
      rw [e9, ei, hu] at g
      refine ⟨b, o, rfl, c.trans ?_⟩
      rw [g]
      have : ((List.range len).map f)[i / 7]'(by simpa using hj) = f (i / 7) := by simp
      rw [this]
      exact (List.getElem?_eq_getElem _).symm

end Go.Proofs.Ytcmigkemhoecfaa
