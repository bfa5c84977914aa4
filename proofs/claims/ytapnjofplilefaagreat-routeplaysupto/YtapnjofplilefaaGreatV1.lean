/- Arguments: a job that came in. Arguments: numbers that came in. Arguments: a list of records that came in; what it holds, by its bulk. Arguments: an item that came in. Arguments: a script of steps, of bounded bulk, that came in. -/
import Derived.Test.YtapnjofplilefaaGreatV2
import Derived.ProofKit
import Derived.OpenShut
import Derived.Deep.DeepHandedRow
import Derived.Test.YtapnjofplilefaaGreatJI
import Derived.Deep.Slices
import Derived.SizedLaws
import Derived.ChangeMaps5
import Derived.ChangeArms
import Derived.Test.YtapnjofplilefaaGreatRows
import Derived.Test.YtapnjofplilefaaGreatC1
import Derived.Test.YtapnjofplilefaaGreatX3
namespace Go.Proofs.YtapnjofplilefaaGreat
open Go.ChangeShapes Go.WideShapes Go.ChangeAt Go.RowKit

theorem i64_wfc {x : Int} (h : (Lit.int .i64 x).wf = true) : I64 x := by
  have := bounds_i64 h
  unfold I64
  omega


set_option maxRecDepth 100000 in
theorem cf_in {H : Type} {enc : TypeId × Value → H} {W : World} {fuel base : Nat} {spare : Nat → Bool} {held : Bool} {cs : List Value} {x : DataW H × List MemPlace}
    (hf : DataW.trod enc Tryz.prog W base spare held fuel 24 cs = some x) : ∃ t : Cf, cs = (cfc t).toList ∧ I64 t.lt ∧ I64 t.ea := by
  have c10 : Tryz.prog.cellsOf 24 = 10 := by kernel_rfl
  have c1 : Tryz.prog.cellsOf 2 = 1 := by kernel_rfl
  have ci : Tryz.prog.cellsOf 3 = 1 := by kernel_rfl
  have ck : Tryz.prog.cellsOf 22 = 1 := by kernel_rfl
  have cb : Tryz.prog.cellsOf 4 = 1 := by kernel_rfl
  obtain ⟨xs, k, -, hx, hcl, hxl, hfs⟩ := DataW.trod_struct Tryz.underlying24 hf
  rw [c10] at hcl
  match xs, hxl, cs, hcl with
  | [y0, y1, y2, y3, y4, y5, y6, y7, y8, y9], _, [v0, v1, v2, v3, v4, v5, v6, v7, v8, v9], _ =>
    have g0 := hfs 0 _ rfl
    have g1 := hfs 1 _ rfl
    have g2 := hfs 2 _ rfl
    have g3 := hfs 3 _ rfl
    have g4 := hfs 4 _ rfl
    have g5 := hfs 5 _ rfl
    have g6 := hfs 6 _ rfl
    have g7 := hfs 7 _ rfl
    have g8 := hfs 8 _ rfl
    have g9 := hfs 9 _ rfl
    simp [c1, ci, ck, cb] at g0 g1 g2 g3 g4 g5 g6 g7 g8 g9
    obtain ⟨a0, e0, z0, w0⟩ := DataW.trod_int Tryz.underlying3 g0
    obtain ⟨a1, e1, z1, w1⟩ := DataW.trod_int Tryz.underlying3 g1
    obtain ⟨a2, e2, z2, w2⟩ := DataW.trod_int Tryz.underlying22 g2
    obtain ⟨a3, e3, z3, w3⟩ := DataW.trod_int Tryz.underlying2 g3
    obtain ⟨a4, e4, z4, w4⟩ := DataW.trod_int Tryz.underlying2 g4
    obtain ⟨a5, e5, z5, w5⟩ := DataW.trod_int Tryz.underlying2 g5
    obtain ⟨a6, e6, z6, w6⟩ := DataW.trod_int Tryz.underlying2 g6
    obtain ⟨a7, e7, z7, w7⟩ := DataW.trod_int Tryz.underlying2 g7
    obtain ⟨a8, e8, z8, w8⟩ := DataW.trod_int Tryz.underlying3 g8
    obtain ⟨a9, e9, z9⟩ := DataW.trod_bool Tryz.underlying4 g9
    injection e0 with e0
    injection e1 with e1
    injection e2 with e2
    injection e3 with e3
    injection e4 with e4
    injection e5 with e5
    injection e6 with e6
    injection e7 with e7
    injection e8 with e8
    injection e9 with e9
    exact ⟨⟨a0, a1, a2, a3, a4, a5, a6, a7, a8, a9⟩, by rw [e0, e1, e2, e3, e4, e5, e6, e7, e8, e9], i64_wfc w7, i64_wfc w8⟩

set_option maxRecDepth 100000 in
theorem cf_arg {H : Type} {enc : TypeId × Value → H} {W : World} {base : Nat} {r : Reach} {b0 : Nat} {spare : Nat → Bool} {held : Bool} {v : Value} {d : DataW H} {p : List MemPlace} (hv : Value.okWide Tryz.prog W r b0 24 v)
    (h : DataW.Trod enc Tryz.prog W base spare held 24 v d p) : ∃ t : Cf, v = cfv t ∧ I64 t.lt ∧ I64 t.ea := by
  obtain ⟨cs, rfl, -⟩ := okWide_struct Tryz.underlying24 hv
  obtain ⟨fuel, hf⟩ := h
  obtain ⟨t, e, h1⟩ := cf_in hf
  refine ⟨t, ?_, h1⟩
  have : cs = cfc t := Array.toList_inj.1 e
  rw [this]

end Go.Proofs.YtapnjofplilefaaGreat

namespace Go.Proofs.YtapnjofplilefaaGreat
open Go.ChangeShapes Go.WideShapes Go.ChangeAt Go.RowKit Go.Deep

theorem bytesJ : Tryz.prog.bytesOf 2 = 8 := by kernel_rfl
theorem cellsJ : Tryz.prog.cellsOf 2 = 1 := by kernel_rfl

theorem wt_all {H : Type} {P : Program} {e : TypeId} {l : List (DataW H)} {d : DataW H} (hd : d ∈ l) {n : Nat} (hn : n ∈ d.weights P e) : n ∈ DataW.weightsAll P e l := by
  induction l with
  | nil => cases hd
  | cons x l ih =>
    simp only [DataW.weightsAll, List.mem_append]
    rcases List.mem_cons.1 hd with rfl | h
    · exact .inl hn
    · exact .inr (ih h)

theorem cell_spot9 {w : World} {a : Addr} {v : Value} (h : w.cell? (a.add 0) = some v) : a.spot = none := by
  obtain ⟨b, o, sp⟩ := a
  have hs : ((⟨b, o, sp⟩ : Addr).add 0) = ⟨b, o, sp⟩ := by unfold Addr.add; split <;> simp_all
  rw [hs] at h
  cases sp with
  | none => rfl
  | some x =>
    unfold World.cell? at h
    split at h <;> simp at h

set_option maxRecDepth 100000 in
theorem intsJ_in {H : Type} {enc : TypeId × Value → H} {W : World} {fuel base : Nat} {spare : Nat → Bool} {held : Bool} {v : Value} {x : DataW H × List MemPlace}
    (hf : DataW.trod enc Tryz.prog W base spare held fuel 49 [v] = some x) (hw : ∀ n ∈ x.1.weights Tryz.prog 49, n ≤ reachBytes) :
    ∃ (ao : Option Addr) (cap : Nat) (l : List Int), v = .slice ao l.length cap ∧ encJ.Sl W ao cap l ∧ l.length ≤ 17592186043904 := by
  rcases Go.Deep.open_slice Tryz.underlying49 hf with ⟨hcs, _⟩ | ⟨a, len, cap, m, n, D, Pl, hcs, _, hl, _, hmm, hx, hel⟩
  · injection hcs with hcs
    exact ⟨none, 0, [], hcs, Rc.Sl.empty _, by simp⟩
  · injection hcs with hcs
    have hlm : len ≤ m := by rw [hmm]; split <;> omega
    subst hx
    simp only [DataW.weights, Tryz.underlying49] at hw
    have hlen : len ≤ 17592186043904 := by
      have := hw _ List.mem_cons_self
      rw [bytesJ] at this
      simp only [List.length_map, List.length_range, reachBytes] at this
      omega
    have each : ∀ i, ∃ t : Int, i < len → W.cell? (a.add i) = some (.int .i64 t) := fun i => by
      by_cases hi : i < len
      · obtain ⟨cs', h1, h2⟩ := hel i (by omega)
        rw [cellsJ, Nat.mul_one] at h1
        obtain ⟨_, hlc, hcell⟩ := World.cells?_some h1
        obtain ⟨t, et, -, -⟩ := DataW.trod_int Tryz.underlying2 h2
        subst et
        refine ⟨t, fun _ => ?_⟩
        have e0 := hcell 0 (by omega)
        rw [Go.Deep.add_add, Nat.add_zero] at e0
        exact e0.trans rfl
      · exact ⟨0, fun h => absurd h hi⟩
    obtain ⟨f, hf'⟩ := Classical.axiomOfChoice each
    refine ⟨some a, cap, (List.range len).map f, by simpa using hcs, ⟨fun i u hu => ?_, fun h => (nomatch h), by simp; omega⟩, by simpa using hlen⟩
    have hi : i < (encJ.flat ((List.range len).map f)).length := (List.getElem?_eq_some_iff.1 hu).1
    rw [encJ.flat_len] at hi
    have e9 : encJ.n = 1 := rfl
    rw [e9, Nat.mul_one, List.length_map, List.length_range] at hi
    have h0 := hf' 0 (by omega)
    have hsp := cell_spot9 h0
    obtain ⟨b, o, sp⟩ := a
    simp only at hsp
    subst hsp
    have c := hf' i hi
    rw [Addr.add_lit] at c
    have g := encJ.flat_get ((List.range len).map f) i (by simpa using hi) 0 (by rw [e9]; omega)
    rw [e9, Nat.mul_one, Nat.add_zero, hu] at g
    refine ⟨b, o, rfl, c.trans ?_⟩
    rw [g]
    have : ((List.range len).map f)[i]'(by simpa using hi) = f i := by simp
    rw [this]
    rfl

end Go.Proofs.YtapnjofplilefaaGreat

namespace Go.Proofs.YtapnjofplilefaaGreat
open Go.ChangeShapes Go.WideShapes Go.ChangeAt Go.RowKit Go.Deep

theorem bulk_pos {H : Type} (d : DataW H) : 1 ≤ Rows.uptoBulk d := by
  cases d with
  | lit l => cases l <;> simp [Rows.uptoBulk]
  | nil => simp [Rows.uptoBulk]
  | ptr d => simp [Rows.uptoBulk]
  | slice e s => simp [Rows.uptoBulk]
  | agg p => simp [Rows.uptoBulk]
  | iface t d => simp [Rows.uptoBulk]
  | map e => simp [Rows.uptoBulk]
  | held h => simp [Rows.uptoBulk]
theorem bulk_len {H : Type} : ∀ (l : List (DataW H)), l.length ≤ Rows.uptoBulkAll l
  | [] => by simp
  | d :: r => by
    have := bulk_pos d
    have := bulk_len r
    simp only [Rows.uptoBulkAll, List.length_cons]; omega
theorem bulk_mem {H : Type} : ∀ (l : List (DataW H)) (d : DataW H), d ∈ l → Rows.uptoBulk d ≤ Rows.uptoBulkAll l
  | [], d, h => by cases h
  | e :: r, d, h => by
    simp only [Rows.uptoBulkAll]
    rcases List.mem_cons.1 h with rfl | h
    · omega
    · have := bulk_mem r d h; omega

set_option maxRecDepth 100000 in
theorem rows_in {α : Type} (E : Rc.Enc α) {e t : TypeId} (ht : Tryz.prog.underlying t = some (.slice e)) (hc : Tryz.prog.cellsOf e = E.n) (hn : 0 < E.n) (a0 : α) {H : Type} {enc : TypeId × Value → H} {W : World} {fuel base : Nat} {spare : Nat → Bool} {held : Bool} {v : Value} {x : DataW H × List MemPlace}
    (Q : α → DataW H → Prop) (each : ∀ n cs' d pl, DataW.trod enc Tryz.prog W base spare held n e cs' = some (d, pl) → ∃ u : α, cs' = E.cells u ∧ Q u d)
    (hf : DataW.trod enc Tryz.prog W base spare held fuel t [v] = some x) :
    ∃ (ao : Option Addr) (cap : Nat) (l : List α) (D : Nat → DataW H), v = .slice ao l.length cap ∧ E.Sl W ao cap l ∧ (∀ i, i < l.length → Q (l.getD i a0) (D i)) ∧ Rows.uptoBulkAll ((List.range l.length).map D) ≤ Rows.uptoBulk x.1 ∧ l.length ≤ Rows.uptoBulk x.1 := by
  rcases Go.Deep.open_slice ht hf with ⟨hcs, hx⟩ | ⟨a, len, cap, m, n, D, Pl, hcs, _, hl, _, hmm, hx, hel⟩
  · injection hcs with hcs
    subst hx
    exact ⟨none, 0, [], fun _ => .nil, hcs, Rc.Sl.empty _, fun i hi => (nomatch hi), by simp [Rows.uptoBulkAll], by simp⟩
  · injection hcs with hcs
    have hlm : len ≤ m := by rw [hmm]; split <;> omega
    subst hx
    have hb : Rows.uptoBulkAll ((List.range len).map D) ≤ Rows.uptoBulk (DataW.slice ((List.range len).map D) ((List.range (m - len)).map fun j => D (len + j))) := by simp only [Rows.uptoBulk]; omega
    have hlen : len ≤ Rows.uptoBulkAll ((List.range len).map D) := by
      have := bulk_len ((List.range len).map D)
      simpa using this
    have eachI : ∀ i, ∃ u : α, i < len → (∀ j, j < E.n → W.cell? (a.add (i * E.n + j)) = (E.cells u)[j]?) ∧ Q u (D i) := fun i => by
      by_cases hi : i < len
      · obtain ⟨cs', h1, h2⟩ := hel i (by omega)
        rw [hc] at h1
        obtain ⟨_, hlc, hcell⟩ := World.cells?_some h1
        obtain ⟨u, eu, hq⟩ := each n cs' _ _ h2
        subst eu
        refine ⟨u, fun _ => ⟨fun j hj => ?_, hq⟩⟩
        have e0 := hcell j (by omega)
        rw [Go.Deep.add_add] at e0
        exact e0
      · exact ⟨a0, fun h => absurd h hi⟩
    obtain ⟨f, hf'⟩ := Classical.axiomOfChoice eachI
    refine ⟨some a, cap, (List.range len).map f, D, by simpa using hcs, ⟨fun i u hu => ?_, fun h => (nomatch h), by simp; omega⟩, fun i hi => ?_, by simpa using hb, by simp; omega⟩
    · have hi : i < (E.flat ((List.range len).map f)).length := (List.getElem?_eq_some_iff.1 hu).1
      rw [E.flat_len, List.length_map, List.length_range] at hi
      have hj : i / E.n < len := Nat.div_lt_of_lt_mul (by rw [Nat.mul_comm]; exact hi)
      have hm : i % E.n < E.n := Nat.mod_lt _ hn
      have h0 := (hf' 0 (Nat.lt_of_le_of_lt (Nat.zero_le _) hj)).1 0 hn
      simp only [Nat.zero_mul, Nat.zero_add] at h0
      have hsp : a.spot = none := by
        obtain ⟨y, hy⟩ : ∃ y, (E.cells (f 0))[0]? = some y := by
          have := E.len (f 0)
          exact ⟨(E.cells (f 0))[0]'(by omega), List.getElem?_eq_getElem _⟩
        rw [hy] at h0
        exact cell_spot9 h0
      obtain ⟨b, o, sp⟩ := a
      simp only at hsp
      subst hsp
      have c := (hf' (i / E.n) hj).1 (i % E.n) hm
      rw [Addr.add_lit] at c
      have ei : i / E.n * E.n + i % E.n = i := by rw [Nat.mul_comm]; exact Nat.div_add_mod i E.n
      rw [ei] at c
      have g := E.flat_get ((List.range len).map f) (i / E.n) (by simpa using hj) (i % E.n) hm
      rw [ei, hu] at g
      refine ⟨b, o, rfl, c.trans ?_⟩
      rw [g]
      have : ((List.range len).map f)[i / E.n]'(by simpa using hj) = f (i / E.n) := by simp
      rw [this]
    · have hi' : i < len := by simpa using hi
      have : ((List.range len).map f).getD i a0 = f i := by simp [hi']
      rw [this]
      exact (hf' i hi').2

end Go.Proofs.YtapnjofplilefaaGreat

namespace Go.Proofs.YtapnjofplilefaaGreat
open Go.ChangeShapes Go.WideShapes Go.ChangeAt Go.RowKit

set_option maxRecDepth 100000 in
theorem it_in {H : Type} {enc : TypeId × Value → H} {W : World} {fuel base : Nat} {spare : Nat → Bool} {held : Bool} {cs : List Value} {x : DataW H × List MemPlace}
    (hf : DataW.trod enc Tryz.prog W base spare held fuel 60 cs = some x) : ∃ t : It, cs = (itc t).toList := by
  have c5 : Tryz.prog.cellsOf 60 = 5 := by kernel_rfl
  have c1 : Tryz.prog.cellsOf 2 = 1 := by kernel_rfl
  have ci : Tryz.prog.cellsOf 3 = 1 := by kernel_rfl
  have ck : Tryz.prog.cellsOf 58 = 1 := by kernel_rfl
  have cb : Tryz.prog.cellsOf 9 = 1 := by kernel_rfl
  obtain ⟨xs, k, -, hx, hcl, hxl, hfs⟩ := DataW.trod_struct Tryz.underlying60 hf
  rw [c5] at hcl
  match xs, hxl, cs, hcl with
  | [y0, y1, y2, y3, y4], _, [v0, v1, v2, v3, v4], _ =>
    have g0 := hfs 0 _ rfl
    have g1 := hfs 1 _ rfl
    have g2 := hfs 2 _ rfl
    have g3 := hfs 3 _ rfl
    have g4 := hfs 4 _ rfl
    simp [c1, ci, ck, cb] at g0 g1 g2 g3 g4
    obtain ⟨a0, e0, z0, w0⟩ := DataW.trod_int Tryz.underlying58 g0
    obtain ⟨a1, e1, z1, w1⟩ := DataW.trod_string Tryz.underlying9 g1
    obtain ⟨a2, e2, z2, w2⟩ := DataW.trod_int Tryz.underlying2 g2
    obtain ⟨a3, e3, z3, w3⟩ := DataW.trod_int Tryz.underlying2 g3
    obtain ⟨a4, e4, z4, w4⟩ := DataW.trod_int Tryz.underlying3 g4
    injection e0 with e0
    injection e1 with e1
    injection e2 with e2
    injection e3 with e3
    injection e4 with e4
    exact ⟨⟨a0, a1, a2, a3, a4⟩, by rw [e0, e1, e2, e3, e4]⟩

set_option maxRecDepth 100000 in
theorem it_arg {H : Type} {enc : TypeId × Value → H} {W : World} {base : Nat} {r : Reach} {b0 : Nat} {spare : Nat → Bool} {held : Bool} {v : Value} {d : DataW H} {p : List MemPlace} (hv : Value.okWide Tryz.prog W r b0 60 v)
    (h : DataW.Trod enc Tryz.prog W base spare held 60 v d p) : ∃ t : It, v = itv t := by
  obtain ⟨cs, rfl, -⟩ := okWide_struct Tryz.underlying60 hv
  obtain ⟨fuel, hf⟩ := h
  obtain ⟨t, e⟩ := it_in hf
  refine ⟨t, ?_⟩
  have : cs = itc t := Array.toList_inj.1 e
  rw [this]

end Go.Proofs.YtapnjofplilefaaGreat

namespace Go.Proofs.YtapnjofplilefaaGreat
open Go.ChangeShapes Go.WideShapes Go.ChangeAt Go.RowKit Go.Deep

theorem itemsU_in {H : Type} {enc : TypeId × Value → H} {W : World} {fuel base : Nat} {spare : Nat → Bool} {held : Bool} {v : Value} {x : DataW H × List MemPlace}
    (hf : DataW.trod enc Tryz.prog W base spare held fuel 42 [v] = some x) :
    ∃ (ao : Option Addr) (cap : Nat) (l : List It), v = .slice ao l.length cap ∧ encI.Sl W ao cap l ∧ l.length ≤ Rows.uptoBulk x.1 := by
  obtain ⟨ao, cap, l, D, h1, h2, -, -, h5⟩ := rows_in encI Tryz.underlying42 (by kernel_rfl) (by decide) it0 (fun _ _ => True) (fun n cs' d pl h => by
    obtain ⟨t, e⟩ := it_in h
    exact ⟨t, e, trivial⟩) hf
  exact ⟨ao, cap, l, h1, h2, h5⟩

/-- What came in with a step. -/
def Q15 {H : Type} (W : World) (u : St15) (d : DataW H) : Prop := (encI.Sl W u.mo u.mc u.M ∧ u.ke.size < 9223372036854775808) ∧ u.M.length ≤ Rows.uptoBulk d
set_option maxRecDepth 100000 in
theorem step15_in {H : Type} {enc : TypeId × Value → H} {W : World} {fuel base : Nat} {spare : Nat → Bool} {held : Bool} {cs : List Value} {d : DataW H} {pl : List MemPlace}
    (hf : DataW.trod enc Tryz.prog W base spare held fuel 44 cs = some (d, pl)) : ∃ u : St15, cs = encS15.cells u ∧ Q15 W u d := by
  have c4 : Tryz.prog.cellsOf 44 = 4 := by kernel_rfl
  have ci : Tryz.prog.cellsOf 3 = 1 := by kernel_rfl
  have cm : Tryz.prog.cellsOf 42 = 1 := by kernel_rfl
  have cb : Tryz.prog.cellsOf 9 = 1 := by kernel_rfl
  obtain ⟨xs, k, -, hx, hcl, hxl, hfs⟩ := DataW.trod_struct Tryz.underlying44 hf
  rw [c4] at hcl
  match xs, hxl, cs, hcl with
  | [y0, y1, y2, y3], _, [v0, v1, v2, v3], _ =>
    have g0 := hfs 0 _ rfl
    have g1 := hfs 1 _ rfl
    have g2 := hfs 2 _ rfl
    have g3 := hfs 3 _ rfl
    simp [ci, cm, cb] at g0 g1 g2 g3
    obtain ⟨a0, e0, -, -⟩ := DataW.trod_int Tryz.underlying3 g0
    obtain ⟨a1, e1, -, -⟩ := DataW.trod_int Tryz.underlying3 g1
    obtain ⟨mo, mc, M, e2, s2, b2⟩ := itemsU_in g2
    obtain ⟨a3, e3, -, z3⟩ := DataW.trod_string Tryz.underlying9 g3
    injection e0 with e0
    injection e1 with e1
    injection e3 with e3
    have z3 : a3.size ≤ maxLen := z3
    refine ⟨⟨a0, a1, M, mo, mc, a3⟩, by rw [e0, e1, e2, e3]; rfl, ⟨s2, by unfold maxLen at z3; show a3.size < _; omega⟩, ?_⟩
    have h9 := bulk_mem ([y0, y1, y2, y3].map Prod.fst) y2.1 (by simp)
    simp only [List.map_cons, List.map_nil] at h9
    have ed : d = DataW.agg ([y0, y1, y2, y3].map Prod.fst) := by
      injection hx with hx1 hx2
    rw [ed]
    simp only [Rows.uptoBulk, List.map_cons, List.map_nil]
    show M.length ≤ _
    omega
theorem sum_bulk {H : Type} : ∀ (l : List St15) (D : Nat → DataW H), (∀ i, i < l.length → (l.getD i st15).M.length ≤ Rows.uptoBulk (D i)) → (l.map fun x => x.M.length).sum ≤ Rows.uptoBulkAll ((List.range l.length).map D)
  | [], _, _ => by simp
  | x :: l, D, h => by
    have ih := sum_bulk l (fun i => D (i + 1)) (fun i hi => by
      have := h (i + 1) (by simp; omega)
      simpa using this)
    have h0 := h 0 (by simp)
    have e : (List.range (x :: l).length).map D = D 0 :: (List.range l.length).map fun i => D (i + 1) := by
      rw [List.length_cons, List.range_succ_eq_map]
      simp [Function.comp_def]
    rw [e]
    simp only [Rows.uptoBulkAll, List.map_cons, List.sum_cons]
    have h0 : x.M.length ≤ Rows.uptoBulk (D 0) := h0
    omega
theorem script15_in {H : Type} {enc : TypeId × Value → H} {W : World} {fuel base : Nat} {spare : Nat → Bool} {held : Bool} {v : Value} {x : DataW H × List MemPlace}
    (hf : DataW.trod enc Tryz.prog W base spare held fuel 25 [v] = some x) :
    ∃ (ao : Option Addr) (cap : Nat) (l : List St15), v = .slice ao l.length cap ∧ encS15.Sl W ao cap l ∧ (∀ x ∈ l, encI.Sl W x.mo x.mc x.M ∧ x.ke.size < 9223372036854775808) ∧ (l.map fun x => x.M.length).sum ≤ Rows.uptoBulk x.1 ∧ l.length ≤ Rows.uptoBulk x.1 := by
  obtain ⟨ao, cap, l, D, h1, h2, h3, h4, h5⟩ := rows_in encS15 Tryz.underlying25 (by kernel_rfl) (by decide) st15 (Q15 W) (fun n cs' d pl h => step15_in h) hf
  refine ⟨ao, cap, l, h1, h2, fun y hy => ?_, Nat.le_trans (sum_bulk l D fun i hi => (h3 i hi).2) h4, h5⟩
  obtain ⟨i, hi, e⟩ := List.mem_iff_getElem.1 hy
  have := (h3 i hi).1
  rw [List.getD_eq_getElem?_getD, List.getElem?_eq_getElem hi] at this
  simp only [Option.getD_some] at this
  rw [e] at this
  exact this

end Go.Proofs.YtapnjofplilefaaGreat
