/- PanesBack: the panes that may be, and their text. Arguments: a pane, panes that came in. What the rows of panes list: the table of tens, the errors of the library and the words of kinds lie in memory; a world for the witness. -/
import Derived.Test.YtamfcmmhmfhhkaaDoorG16
import Derived.Test.YtamfcmmhmfhhkaaDoorG11
import Derived.Test.YtamfcmmhmfhhkaaDoorG8
import Derived.ProofKit
import Derived.OpenShut
import Derived.SizedLaws
import Derived.ChangeMaps5
import Derived.ChangeArms
import Derived.Deep.Slices
import Derived.Deep.DeepHandedRow
import Derived.Test.YtamfcmmhmfhhkaaDoorCards
import Derived.Test.YtamfcmmhmfhhkaaDoorTie
import Derived.Test.YtamfcmmhmfhhkaaDoorG12
import Derived.Lib.LaidTab
import Derived.Stop.LaidErr
namespace Go.Proofs.YtamfcmmhmfhhkaaDoor
open Go.RowKit

/-- A pane that may be, out of any. -/
def rightP (p : Pn) : Pn := ⟨if 256 < p.k.size then p.k.extract 0 256 else p.k, p.a, p.b, 1 + p.d.tmod 3 % 3, p.n, p.t⟩
theorem tmod3 (x : Int) : 0 ≤ x.tmod 3 % 3 ∧ x.tmod 3 % 3 < 3 := by omega
theorem right_may (p : Pn) : mayP (rightP p) = true := by
  unfold mayP rightP
  have := tmod3 p.d
  refine decide_eq_true ⟨?_, by show 1 ≤ 1 + _; omega, by show 1 + _ ≤ 3; omega⟩
  show (if 256 < p.k.size then p.k.extract 0 256 else p.k).size ≤ 256
  split
  · rw [ByteArray.size_extract]; omega
  · omega
theorem right_num {p : Pn} (h : NumOk p) : NumOk (rightP p) := h

/-- A text's bytes. -/
theorem nums_list (xs : List Int) : (strOfNums xs).toList = xs.map tbN := by rw [ByteArray.toList_eq]; rfl
theorem bsL_map (s : ByteArray) : (bsL s).map tbN = s.toList := by rw [← nums_list, strOf_bs]
theorem txT_map {L : List Pn} : ∀ i, i ≤ L.length → (txT L i).map tbN = lnB (L.take i)
  | 0, _ => rfl
  | i + 1, h => by
    rw [txT, List.map_append, List.map_append, bsL_map, txT_map i (by omega), List.take_add_one, List.getElem?_eq_getElem (by omega), lnB_app, List.getD_eq_getElem?_getD, List.getElem?_eq_getElem (by omega)]
    show lnB (L.take i) ++ (lineB L[i]).toList ++ [10] = lnB (L.take i) ++ lnB [L[i]]
    rw [lnB_cons, lnB_nil, List.append_assoc]
theorem text_list (L : List Pn) : (strOfNums (txT L L.length)).toList = lnB L := by
  rw [nums_list, txT_map _ (Nat.le_refl _), List.take_length]
/-- A text cut off within its last line. -/
theorem RdR.cut {L : List Pn} {p : Pn} {s : List UInt8} {k : Nat} (h : ∀ x ∈ L, mayP x = true ∧ NumOk x) (hs : s = lnB (L ++ [p])) (h1 : 1 ≤ k) (h2 : k ≤ (lineB p).size) : ∃ r, RdR (s.take (s.length - k)) L r ∧ r ≠ [] := by
  have e : s = lnB L ++ ((lineB p).toList ++ [10]) := by rw [hs, lnB_app, lnB_cons, lnB_nil]
  have hl : (lineB p).toList.length = (lineB p).size := tl_len _
  have e2 : s.length - k = (lnB L).length + ((lineB p).size + 1 - k) := by
    rw [e, List.length_append, List.length_append, hl]
    simp only [List.length_cons, List.length_nil]
    omega
  have e3 : s.take (s.length - k) = lnB L ++ ((lineB p).toList.take ((lineB p).size + 1 - k)) := by
    rw [e2, e, List.take_length_add_append, List.take_append_of_le_length (by rw [hl]; omega)]
  refine ⟨_, ⟨h, e3, Stk.none10 fun b hb => line_no p b (List.mem_of_mem_take hb)⟩, fun h0 => ?_⟩
  have := congrArg List.length h0
  rw [List.length_take, hl, List.length_nil] at this
  omega

set_option maxRecDepth 100000 in
set_option maxHeartbeats 2000000 in
theorem right_any (p : Pn) (hp : I64n p.d) (w : World) : Calls Tryd.prog 21 #[pnv p] w fun e w' => e = .returned (pnv (rightP p)) ∧ Calm w w' := by
  have A0 := (al1 w (.cells (pnc p) 29) (.cells (pnc pn0) 29)).1
  have A1 := (al1 w (.cells (pnc p) 29) (.cells (pnc pn0) 29)).2
  have T0 := ((Touch.refl (fun _ => False) w).alloc (.cells (pnc p) 29)).alloc (.cells (pnc pn0) 29)
  have HA0 := hide A0
  have HA1 := hide A1
  have HT0 := hide T0
  clear A0 A1 T0
  obtain ⟨k, a, b, d, n, t⟩ := p
  obtain ⟨⟨c0, c1, c2, c3, c4⟩, c5, c6, c7, c8⟩ := pn_cells HA0.out
  go_enter Tryd.func21, Tryd.ntmps21
  have hm := tmod3 d
  have hr : -3 < d.tmod 3 ∧ d.tmod 3 < 3 := ⟨Int.lt_tmod_of_pos _ (by omega), Int.tmod_lt_of_pos _ (by omega)⟩
  by_cases hk : 256 < k.size
  · have hkz : (256 : Int) < (k.size : Int) := by omega
    go_wp2_with fail
    refine bodyPost_ret (results_cell_row rfl _ _ _ _ _ _ _ rfl (by rw [← al_size]; exact al_new _ _) Tryd.underlying29 rfl (by kernel_rfl)) rfl ?_
    refine ⟨?_, ((Touch.refl (fun _ => False) w).alloc _).alloc _⟩
    show _ = Ending.returned (pnv ⟨if 256 < k.size then k.extract 0 256 else k, a, b, 1 + d.tmod 3 % 3, n, t⟩)
    rw [if_pos hk]
  · have hkz : ¬ (256 : Int) < (k.size : Int) := by omega
    go_wp2_with fail
    refine bodyPost_ret (results_cell_row rfl _ _ _ _ _ _ _ rfl (by rw [← al_size]; exact al_new _ _) Tryd.underlying29 rfl (by kernel_rfl)) rfl ?_
    refine ⟨?_, ((Touch.refl (fun _ => False) w).alloc _).alloc _⟩
    show _ = Ending.returned (pnv ⟨if 256 < k.size then k.extract 0 256 else k, a, b, 1 + d.tmod 3 % 3, n, t⟩)
    rw [if_neg hk]

end Go.Proofs.YtamfcmmhmfhhkaaDoor

namespace Go.Proofs.YtamfcmmhmfhhkaaDoor
open Go.ChangeShapes Go.WideShapes Go.ChangeAt Go.RowKit Go.Deep

/-- A pane's numbers are numbers of 64 bits. -/
def Pn.Ok (p : Pn) : Prop := NumOk p ∧ I64n p.d
theorem i64n_wf {x : Int} (h : (Lit.int .i64 x).wf = true) : I64n x := by
  have := bounds_i64 h
  unfold I64n
  omega
theorem Pn.Ok.of {k : ByteArray} {a b d n c s m x : Int} (ha : I64n a) (hb : I64n b) (hd : I64n d) (hn : I64n n) (hc : I64n c) (hs : I64n s) (hm : I64n m) (hx : I64n x) : Pn.Ok ⟨k, a, b, d, n, ⟨c, s, m, x⟩⟩ := by
  refine ⟨fun i hi => ?_, hd⟩
  rcases (by omega : i = 0 ∨ i = 1 ∨ i = 2 ∨ i = 3 ∨ i = 4 ∨ i = 5 ∨ i = 6) with rfl | rfl | rfl | rfl | rfl | rfl | rfl
  · exact ha
  · exact hb
  · exact hn
  · exact hc
  · exact hs
  · exact hm
  · exact hx

set_option maxRecDepth 100000 in
theorem tallyP_in {H : Type} {enc : TypeId × Value → H} {W : World} {fuel base : Nat} {spare : Nat → Bool} {held : Bool} {cs : List Value} {x : DataW H × List MemPlace}
    (hf : DataW.trod enc Tryd.prog W base spare held fuel 27 cs = some x) : ∃ t : Tl, cs = (tlc t).toList ∧ (I64n t.c ∧ I64n t.s ∧ I64n t.m ∧ I64n t.x) := by
  have c4 : Tryd.prog.cellsOf 27 = 4 := by kernel_rfl
  have c1 : Tryd.prog.cellsOf 2 = 1 := by kernel_rfl
  obtain ⟨xs, k, -, hx, hcl, hxl, hfs⟩ := DataW.trod_struct Tryd.underlying27 hf
  rw [c4] at hcl
  match xs, hxl, cs, hcl with
  | [y0, y1, y2, y3], _, [v0, v1, v2, v3], _ =>
    have g0 := hfs 0 _ rfl
    have g1 := hfs 1 _ rfl
    have g2 := hfs 2 _ rfl
    have g3 := hfs 3 _ rfl
    simp [c1] at g0 g1 g2 g3
    obtain ⟨a0, e0, z0, w0⟩ := DataW.trod_int Tryd.underlying2 g0
    obtain ⟨a1, e1, z1, w1⟩ := DataW.trod_int Tryd.underlying2 g1
    obtain ⟨a2, e2, z2, w2⟩ := DataW.trod_int Tryd.underlying2 g2
    obtain ⟨a3, e3, z3, w3⟩ := DataW.trod_int Tryd.underlying2 g3
    injection e0 with e0
    injection e1 with e1
    injection e2 with e2
    injection e3 with e3
    exact ⟨⟨a0, a1, a2, a3⟩, by rw [e0, e1, e2, e3], i64n_wf w0, i64n_wf w1, i64n_wf w2, i64n_wf w3⟩
set_option maxRecDepth 100000 in
theorem spanP_in {H : Type} {enc : TypeId × Value → H} {W : World} {fuel base : Nat} {spare : Nat → Bool} {held : Bool} {cs : List Value} {x : DataW H × List MemPlace}
    (hf : DataW.trod enc Tryd.prog W base spare held fuel 24 cs = some x) : ∃ a b : Int, cs = [.int .i64 a, .int .i64 b] ∧ I64n a ∧ I64n b := by
  have c4 : Tryd.prog.cellsOf 24 = 2 := by kernel_rfl
  have c1 : Tryd.prog.cellsOf 2 = 1 := by kernel_rfl
  obtain ⟨xs, k, -, hx, hcl, hxl, hfs⟩ := DataW.trod_struct Tryd.underlying24 hf
  rw [c4] at hcl
  match xs, hxl, cs, hcl with
  | [y0, y1], _, [v0, v1], _ =>
    have g0 := hfs 0 _ rfl
    have g1 := hfs 1 _ rfl
    simp [c1] at g0 g1
    obtain ⟨a0, e0, z0, w0⟩ := DataW.trod_int Tryd.underlying2 g0
    obtain ⟨a1, e1, z1, w1⟩ := DataW.trod_int Tryd.underlying2 g1
    injection e0 with e0
    injection e1 with e1
    exact ⟨a0, a1, by rw [e0, e1], i64n_wf w0, i64n_wf w1⟩
set_option maxRecDepth 100000 in
theorem pane_in {H : Type} {enc : TypeId × Value → H} {W : World} {fuel base : Nat} {spare : Nat → Bool} {held : Bool} {cs : List Value} {x : DataW H × List MemPlace}
    (hf : DataW.trod enc Tryd.prog W base spare held fuel 29 cs = some x) : ∃ t : Pn, cs = (pnc t).toList ∧ t.Ok := by
  have c9 : Tryd.prog.cellsOf 29 = 9 := by kernel_rfl
  have c4 : Tryd.prog.cellsOf 27 = 4 := by kernel_rfl
  have c2 : Tryd.prog.cellsOf 24 = 2 := by kernel_rfl
  have c1 : Tryd.prog.cellsOf 2 = 1 := by kernel_rfl
  have cs1 : Tryd.prog.cellsOf 9 = 1 := by kernel_rfl
  have ck : Tryd.prog.cellsOf 25 = 1 := by kernel_rfl
  obtain ⟨xs, k, -, hx, hcl, hxl, hfs⟩ := DataW.trod_struct Tryd.underlying29 hf
  rw [c9] at hcl
  match xs, hxl, cs, hcl with
  | [y0, y1, y2, y3, y4], _, [v0, v1, v2, v3, v4, v5, v6, v7, v8], _ =>
    have g0 := hfs 0 _ rfl
    have g1 := hfs 1 _ rfl
    have g2 := hfs 2 _ rfl
    have g3 := hfs 3 _ rfl
    have g4 := hfs 4 _ rfl
    simp [c1, c2, c4, cs1, ck] at g0 g1 g2 g3 g4
    obtain ⟨a0, e0, z0, w0⟩ := DataW.trod_string Tryd.underlying9 g0
    obtain ⟨a, b, e1, sa, sb⟩ := spanP_in g1
    obtain ⟨a2, e2, z2, w2⟩ := DataW.trod_int Tryd.underlying25 g2
    obtain ⟨a3, e3, z3, w3⟩ := DataW.trod_int Tryd.underlying2 g3
    obtain ⟨t, e4, o1, o2, o3, o4⟩ := tallyP_in g4
    simp at e1 e4
    obtain ⟨rfl, rfl⟩ := e1
    obtain ⟨rfl, rfl, rfl, rfl⟩ := e4
    injection e0 with e0
    injection e2 with e2
    injection e3 with e3
    exact ⟨⟨a0, a, b, a2, a3, t⟩, by rw [e0, e2, e3], Pn.Ok.of sa sb (i64n_wf w2) (i64n_wf w3) o1 o2 o3 o4⟩
set_option maxRecDepth 100000 in
theorem pane_arg {H : Type} {enc : TypeId × Value → H} {W : World} {base : Nat} {r : Reach} {b0 : Nat} {spare : Nat → Bool} {held : Bool} {v : Value} {d : DataW H} {p : List MemPlace} (hv : Value.okWide Tryd.prog W r b0 29 v)
    (h : DataW.Trod enc Tryd.prog W base spare held 29 v d p) : ∃ t : Pn, v = pnv t ∧ t.Ok := by
  obtain ⟨cs, rfl, -⟩ := okWide_struct Tryd.underlying29 hv
  obtain ⟨fuel, hf⟩ := h
  obtain ⟨t, e, ok⟩ := pane_in hf
  refine ⟨t, ?_, ok⟩
  have : cs = pnc t := Array.toList_inj.1 e
  rw [this]
theorem cell_spotP {w : World} {a : Addr} {v : Value} (h : w.cell? (a.add 0) = some v) : a.spot = none := by
  obtain ⟨b, o, sp⟩ := a
  have hs : ((⟨b, o, sp⟩ : Addr).add 0) = ⟨b, o, sp⟩ := by unfold Addr.add; split <;> simp_all
  rw [hs] at h
  cases sp with
  | none => rfl
  | some x =>
    unfold World.cell? at h
    split at h <;> simp at h
theorem cellsPane : Tryd.prog.cellsOf 29 = 9 := by kernel_rfl
set_option maxRecDepth 100000 in
theorem panes_in {H : Type} {enc : TypeId × Value → H} {W : World} {fuel base : Nat} {spare : Nat → Bool} {held : Bool} {v : Value} {x : DataW H × List MemPlace}
    (hf : DataW.trod enc Tryd.prog W base spare held fuel 22 [v] = some x) :
    ∃ (ao : Option Addr) (cap : Nat) (l : List Pn), v = .slice ao l.length cap ∧ encP.Sl W ao cap l ∧ ∀ j, j < l.length → NumOk (l.getD j pn0) ∧ I64n (l.getD j pn0).d := by
  rcases Go.Deep.open_slice Tryd.underlying22 hf with ⟨hcs, _⟩ | ⟨a, len, cap, m, n, D, Pl, hcs, _, hl, _, hmm, hx, hel⟩
  · injection hcs with hcs
    exact ⟨none, 0, [], hcs, Rc.Sl.empty _, fun j hj => (nomatch hj)⟩
  · injection hcs with hcs
    have hlm : len ≤ m := by rw [hmm]; split <;> omega
    subst hx
    have each : ∀ i, ∃ t : Pn, i < len → (∀ j (hj : j < 9), W.cell? (a.add (i * 9 + j)) = some ((pnc t).toList[j]'hj)) ∧ t.Ok := fun i => by
      by_cases hi : i < len
      · obtain ⟨cs', h1, h2⟩ := hel i (by omega)
        rw [cellsPane] at h1
        obtain ⟨_, hlc, hcell⟩ := World.cells?_some h1
        obtain ⟨t, et, ok⟩ := pane_in h2
        subst et
        refine ⟨t, fun _ => ⟨fun j hj => ?_, ok⟩⟩
        have e0 := hcell j (by omega)
        rw [Go.Deep.add_add] at e0
        exact e0.trans (List.getElem?_eq_getElem _)
      · exact ⟨pn0, fun h => absurd h hi⟩
    obtain ⟨f, hf'⟩ := Classical.axiomOfChoice each
    refine ⟨some a, cap, (List.range len).map f, by simpa using hcs, ⟨fun i u hu => ?_, fun h => (nomatch h), by simp; omega⟩, fun j hj => ?_⟩
    · have hi : i < (encP.flat ((List.range len).map f)).length := (List.getElem?_eq_some_iff.1 hu).1
      rw [encP.flat_len] at hi
      have e9 : encP.n = 9 := rfl
      rw [e9, List.length_map, List.length_range] at hi
      have hj : i / 9 < len := by omega
      have h0 := (hf' 0 (by omega)).1 0 (by omega)
      simp only [Nat.zero_mul, Nat.zero_add] at h0
      have hsp := cell_spotP h0
      obtain ⟨b, o, sp⟩ := a
      simp only at hsp
      subst hsp
      have c := (hf' (i / 9) hj).1 (i % 9) (by omega)
      rw [Addr.add_lit] at c
      have ei : i / 9 * 9 + i % 9 = i := by omega
      rw [ei] at c
      have g := encP.flat_get ((List.range len).map f) (i / 9) (by simpa using hj) (i % 9) (by rw [e9]; omega)
      rw [e9, ei, hu] at g
      refine ⟨b, o, rfl, c.trans ?_⟩
      rw [g]
      have : ((List.range len).map f)[i / 9]'(by simpa using hj) = f (i / 9) := by simp
      rw [this]
      exact (List.getElem?_eq_getElem _).symm
    · have hi : j < len := by simpa using hj
      have : ((List.range len).map f).getD j pn0 = f j := by simp [hi]
      rw [this]
      exact (hf' j hi).2

end Go.Proofs.YtamfcmmhmfhhkaaDoor

namespace Go.Proofs.YtamfcmmhmfhhkaaDoor
open Go.ChangeShapes Go.WideShapes Go.ChangeAt Go.RowKit

theorem own : ownKnob Tryd.prog.godebug = none := by kernel_rfl
theorem laidOut : laidOutB Tryd.prog = true := by kernel_rfl
theorem gPow : Tryd.prog.globalNamed "internal/strconv.uint64pow10" = some 2 := by kernel_rfl
theorem gPowType : (Tryd.prog.globals[2]?).map (·.type) = some 144 := by kernel_rfl
theorem cells20 : Tryd.prog.cellsOf 144 = 20 := by kernel_rfl
theorem cellsU64 : Tryd.prog.cellsOf 80 = 1 := by kernel_rfl
theorem gKd : Tryd.prog.globalNamed "keepsake/panes.kinds" = some 0 := by kernel_rfl
theorem gKdType : (Tryd.prog.globals[0]?).map (·.type) = some 75 := by kernel_rfl
theorem cells4s : Tryd.prog.cellsOf 75 = 4 := by kernel_rfl
theorem cellsStr : Tryd.prog.cellsOf 9 = 1 := by kernel_rfl

/-- A row of texts that reads as these texts holds them. -/
theorem cells_of_txt {H : Type} {enc : TypeId × Value → H} {P : Program} {w : World} {base : Nat} {sp : Nat → Bool} {held : Bool} {fuel : Nat} {t e : TypeId} {n : Nat} {cs : List Value} {zs : List (List UInt8)} {p : List MemPlace}
    (ht : P.underlying t = some (.array n e)) (he : P.underlying e = some .string) (hce : P.cellsOf e = 1) (hct : P.cellsOf t = n)
    (h : DataW.trod enc P w base sp held fuel t cs = some (.agg (zs.map fun z => .lit (.string z)), p)) : ∀ i, i < n → ∃ s : ByteArray, cs[i]? = some (.string s) ∧ zs[i]? = some s.data.toList := by
  cases fuel with
  | zero => simp [DataW.trod] at h
  | succ fuel =>
    simp only [DataW.trod, ht, hce, hct, Nat.mul_one] at h
    split at h
    · rename_i hl
      obtain ⟨xs, hm, hx⟩ := Option.map_eq_some_iff.1 h
      have hxs : xs.map (·.1) = zs.map fun z => (DataW.lit (.string z) : DataW H) := by
        have := congrArg Prod.fst hx
        simpa using this
      intro i hi
      obtain ⟨b, hb, hf⟩ := Lib.mapM_at hm i i (by simp [hi])
      obtain ⟨s, hc, hz, _⟩ := DataW.trod_string he hf
      have h1 : cs[i]? = some (.string s) := by
        have := congrArg (·[0]?) hc
        simpa [List.getElem?_take, List.getElem?_drop] using this
      refine ⟨s, h1, ?_⟩
      have h2 : (xs.map (·.1))[i]? = some (DataW.lit (.string s.data.toList) : DataW H) := by
        rw [List.getElem?_map, hb]
        simp [hz]
      rw [hxs] at h2
      simp only [List.getElem?_map, Option.map_eq_some_iff, DataW.lit.injEq, Lit.string.injEq] at h2
      obtain ⟨z', hz', rfl⟩ := h2
      exact hz'
    · cases h

theorem pow_of {W : World} {rest : List (String × DataW Unit)} (h : laidMet Tryd.prog (("internal/strconv.uint64pow10", Rows.laid_internal_strconv_uint64pow10) :: rest) W) : Tab W :=
  Lib.tabIs_of_head (zs := Lib.pow10Tab) (rest := rest) gPow gPowType Tryd.underlying144 Tryd.underlying80 cellsU64 cells20 h

theorem kinds_of {W : World} {rest : List (String × DataW Unit)} (h : laidMet Tryd.prog (("keepsake/panes.kinds", Rows.laid_keepsake_panes_kinds) :: rest) W) : Kds W := by
  obtain ⟨ps, ⟨g', t', cs, fuel, p, q, hg', ht', hvar, hd, _, _⟩, _⟩ := h
  obtain rfl := Option.some.inj (gKd.symm.trans hg')
  obtain rfl := Option.some.inj (gKdType.symm.trans ht')
  have hc := cells_of_txt (zs := [(kdB 0).data.toList, (kdB 1).data.toList, (kdB 2).data.toList, (kdB 3).data.toList]) Tryd.underlying75 Tryd.underlying9 cellsStr cells4s hd
  intro i hi
  obtain ⟨s, h1, h2⟩ := hc i hi
  have hs : s = kdB i := by
    have : s.data.toList = (kdB i).data.toList := by
      rcases (by omega : i = 0 ∨ i = 1 ∨ i = 2 ∨ i = 3) with rfl | rfl | rfl | rfl <;> exact (Option.some.inj h2).symm
    exact ByteArray.ext (Array.toList_inj.1 this)
  rw [World.var?_cell gKd hvar i, ← Array.getElem?_toList, h1, hs]

/-- The list of variables that the rows have. -/
abbrev laidsQ : List (String × DataW Unit) := [("math/bits.deBruijn32tab", Rows.laid_math_bits_deBruijn32tab), ("math/bits.deBruijn64tab", Rows.laid_math_bits_deBruijn64tab), ("internal/strconv.uint64pow10", Rows.laid_internal_strconv_uint64pow10), ("strconv.ErrRange", Rows.laid_strconv_ErrRange), ("strconv.ErrSyntax", Rows.laid_strconv_ErrSyntax), ("keepsake/panes.kinds", Rows.laid_keepsake_panes_kinds)]

theorem gErrRange : Tryd.prog.globalNamed "strconv.ErrRange" = some 4 := by kernel_rfl
theorem gErrRangeType : (Tryd.prog.globals[4]?).map (·.type) = some 104 := by kernel_rfl
theorem cell_ErrRange {W : World} {rest : List (String × DataW Unit)} (h : laidMet Tryd.prog (("strconv.ErrRange", Rows.laid_strconv_ErrRange) :: rest) W) : ∃ te pe, W.cell? ⟨4, 0, none⟩ = some (.iface te pe) := by
  obtain ⟨ps, ⟨g', t', cs, fuel, p, q, hg', ht', hvar, hd, _, _⟩, _⟩ := h
  obtain rfl := Option.some.inj (gErrRange.symm.trans hg')
  obtain rfl := Option.some.inj (gErrRangeType.symm.trans ht')
  obtain ⟨f1, u, v, hcs, -, -⟩ := iface_of_trod Tryd.underlying104 hd
  refine ⟨u, v, ?_⟩
  rw [World.var?_cell gErrRange hvar 0, ← Array.getElem?_toList, hcs]
  rfl
theorem gErrSyntax : Tryd.prog.globalNamed "strconv.ErrSyntax" = some 3 := by kernel_rfl
theorem gErrSyntaxType : (Tryd.prog.globals[3]?).map (·.type) = some 104 := by kernel_rfl
theorem cell_ErrSyntax {W : World} {rest : List (String × DataW Unit)} (h : laidMet Tryd.prog (("strconv.ErrSyntax", Rows.laid_strconv_ErrSyntax) :: rest) W) : ∃ te pe, W.cell? ⟨3, 0, none⟩ = some (.iface te pe) := by
  obtain ⟨ps, ⟨g', t', cs, fuel, p, q, hg', ht', hvar, hd, _, _⟩, _⟩ := h
  obtain rfl := Option.some.inj (gErrSyntax.symm.trans hg')
  obtain rfl := Option.some.inj (gErrSyntaxType.symm.trans ht')
  obtain ⟨f1, u, v, hcs, -, -⟩ := iface_of_trod Tryd.underlying104 hd
  refine ⟨u, v, ?_⟩
  rw [World.var?_cell gErrSyntax hvar 0, ← Array.getElem?_toList, hcs]
  rfl
theorem yv_laid {W : World} (h : laidMetH Tryd.prog laidsQ W) (hs : W.ShapedOpen Tryd.prog) : Yv W := by
  have h1 := laidMet.tail (laidMet.tail (show laidMet Tryd.prog laidsQ W from h))
  have h2 := laidMet.tail h1
  have h3 := laidMet.tail h2
  exact ⟨pow_of h1, ⟨cell_ErrSyntax h3, cell_ErrRange h2, Tryd.laysM145.s1_3 W hs⟩, kinds_of (laidMet.tail h3)⟩

/-- A world for the witness. -/
def putIn (h : Array Obj) (g : Nat) (cs : Array Value) : Array Obj := h.modify g fun
  | .cells _ t frozen => .cells cs t frozen
  | o => o
noncomputable def lowQ : Nat := (World.holding Tryd.prog default ⟨#[], #[], []⟩).heap.size
noncomputable def laidWorldQ (os : Os) : World :=
  { World.holding Tryd.prog os ⟨#[.cells #[.string ⟨#[105, 110, 118, 97, 108, 105, 100, 32, 115, 121, 110, 116, 97, 120]⟩] 157, .cells #[.string ⟨#[118, 97, 108, 117, 101, 32, 111, 117, 116, 32, 111, 102, 32, 114, 97, 110, 103, 101]⟩] 157], #[], []⟩ with heap := (putIn (putIn (putIn (putIn (putIn (putIn (World.holding Tryd.prog os ⟨#[.cells #[.string ⟨#[105, 110, 118, 97, 108, 105, 100, 32, 115, 121, 110, 116, 97, 120]⟩] 157, .cells #[.string ⟨#[118, 97, 108, 117, 101, 32, 111, 117, 116, 32, 111, 102, 32, 114, 97, 110, 103, 101]⟩] 157], #[], []⟩).heap 5 #[.int .u8 0, .int .u8 1, .int .u8 28, .int .u8 2, .int .u8 29, .int .u8 14, .int .u8 24, .int .u8 3, .int .u8 30, .int .u8 22, .int .u8 20, .int .u8 15, .int .u8 25, .int .u8 17, .int .u8 4, .int .u8 8, .int .u8 31, .int .u8 27, .int .u8 13, .int .u8 23, .int .u8 21, .int .u8 19, .int .u8 16, .int .u8 7, .int .u8 26, .int .u8 12, .int .u8 18, .int .u8 6, .int .u8 11, .int .u8 5, .int .u8 10, .int .u8 9]) 6 #[.int .u8 0, .int .u8 1, .int .u8 56, .int .u8 2, .int .u8 57, .int .u8 49, .int .u8 28, .int .u8 3, .int .u8 61, .int .u8 58, .int .u8 42, .int .u8 50, .int .u8 38, .int .u8 29, .int .u8 17, .int .u8 4, .int .u8 62, .int .u8 47, .int .u8 59, .int .u8 36, .int .u8 45, .int .u8 43, .int .u8 51, .int .u8 22, .int .u8 53, .int .u8 39, .int .u8 33, .int .u8 30, .int .u8 24, .int .u8 18, .int .u8 12, .int .u8 5, .int .u8 63, .int .u8 55, .int .u8 48, .int .u8 27, .int .u8 60, .int .u8 41, .int .u8 37, .int .u8 16, .int .u8 46, .int .u8 35, .int .u8 44, .int .u8 21, .int .u8 52, .int .u8 32, .int .u8 23, .int .u8 11, .int .u8 54, .int .u8 26, .int .u8 40, .int .u8 15, .int .u8 34, .int .u8 20, .int .u8 31, .int .u8 10, .int .u8 25, .int .u8 14, .int .u8 19, .int .u8 9, .int .u8 13, .int .u8 8, .int .u8 7, .int .u8 6]) 2 #[.int .u64 1, .int .u64 10, .int .u64 100, .int .u64 1000, .int .u64 10000, .int .u64 100000, .int .u64 1000000, .int .u64 10000000, .int .u64 100000000, .int .u64 1000000000, .int .u64 10000000000, .int .u64 100000000000, .int .u64 1000000000000, .int .u64 10000000000000, .int .u64 100000000000000, .int .u64 1000000000000000, .int .u64 10000000000000000, .int .u64 100000000000000000, .int .u64 1000000000000000000, .int .u64 10000000000000000000]) 0 #[.string ⟨#[]⟩, .string ⟨#[101, 97, 114, 108, 121]⟩, .string ⟨#[111, 110, 116, 105, 109, 101]⟩, .string ⟨#[108, 97, 116, 101]⟩]) 3 #[.iface 155 (.pointer (some ⟨lowQ, 0, none⟩))]) 4 #[.iface 155 (.pointer (some ⟨lowQ + 1, 0, none⟩))]) }

end Go.Proofs.YtamfcmmhmfhhkaaDoor
