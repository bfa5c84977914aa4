/- Holds, marks and what is told of them: notions alone. -/
import Derived.Test.YtapnjofplilefaaJI
import Derived.Test.YtapnjofplilefaaYS
import Derived.Test.YtapnjofplilefaaYZ
import Derived.Test.YtapnjofplilefaaCJ0
import Derived.Test.YtapnjofplilefaaS2
namespace Go.Proofs.Ytapnjofplilefaa
open Go.RowKit

theorem Touch.drewK {S : Nat → Prop} {a w : World} (h : Touch S a w) (n : Nat) : Touch S a (w.drewN n) := ⟨h.os, h.tape, h.output, h.size, h.block⟩
/-- A hold: a name with its time. -/
structure Hd where
  n : ByteArray
  t : Int
abbrev hd0 : Hd := ⟨⟨#[]⟩, 0⟩
theorem infoJ : (Try.prog.info? 2).map (fun i => (i.zero, i.size, i.bytes)) = some (some (.int .i64 0), 1, 8) := by kernel_rfl
theorem elemJ : Try.prog.elem 25 = 2 := by kernel_rfl
/-- Is it a time? -/
def timC (t : Int) : Bool := decide (-4611686018427387904 ≤ t) && decide (t ≤ 4611686018427387904)
/-- A name ahead of another one. -/
def ltN (a b : ByteArray) : Bool := Op.bytesLess a.toList b.toList
theorem lss_str (t : TypeId) (a b : ByteArray) : binOp .lss t (.string a) (.string b) = pure (.bool (ltN a b)) := by
  unfold ltN
  simp [binOp, Op.stringOp]
/-- The same name. -/
def eqN (a b : ByteArray) : Bool := a.toList == b.toList
theorem eql_str (t : TypeId) (a b : ByteArray) : binOp .eql t (.string a) (.string b) = pure (.bool (eqN a b)) := by
  unfold eqN
  simp [binOp, Op.stringOp]
theorem eqN_iff {a b : ByteArray} : eqN a b = true ↔ a = b := by
  unfold eqN
  rw [beq_iff_eq, ByteArray.toList_eq, ByteArray.toList_eq]
  exact ⟨fun h => ByteArray.ext (Array.toList_inj.1 h), fun h => by rw [h]⟩
/-- The least mark. -/
def mkN (L : List Int) : Int := L.foldl min (L.getD 0 0)
/-- Where a name stands, or should. -/
def plN (H : List Hd) (x : ByteArray) : Nat := (H.takeWhile fun h => ltN h.n x).length
/-- Is it there? -/
def hasH (H : List Hd) (x : ByteArray) : Bool := decide (plN H x < H.length) && eqN (H.getD (plN H x) hd0).n x
def freeH (H : List Hd) (x : ByteArray) : List Hd := if hasH H x then H.take (plN H x) ++ H.drop (plN H x + 1) else H
def holdH (H : List Hd) (x : ByteArray) (t : Int) : List Hd := (freeH H x).take (plN (freeH H x) x) ++ [⟨x, t⟩] ++ (freeH H x).drop (plN (freeH H x) x)
/-- The first hold. -/
def bestH (H : List Hd) : Hd := H.foldl (fun b h => if h.t < b.t then h else b) (H.getD 0 hd0)
def outN (L : List Int) (H : List Hd) : Int := if H.length = 0 then mkN L else min (bestH H).t (mkN L)
theorem plN_le (H : List Hd) (x : ByteArray) : plN H x ≤ H.length := (List.takeWhile_prefix _).length_le
theorem free_len (H : List Hd) (x : ByteArray) : (freeH H x).length ≤ H.length := by
  unfold freeH
  split
  · have := plN_le H x; simp; omega
  · exact Nat.le_refl _
theorem hold_len (H : List Hd) (x : ByteArray) (t : Int) : (holdH H x t).length ≤ H.length + 1 := by
  unfold holdH
  have := free_len H x
  have := plN_le (freeH H x) x
  simp; omega
theorem ints_W {w : World} {ao : Option Addr} {L : List Int} (h : encJ.Mem w ao L) (j : Nat) (hj : j < L.length) : ∃ g off, ao = some ⟨g, off, none⟩ ∧ ∀ W, Calm w W → W.cell? ⟨g, off + j, none⟩ = some (.int .i64 (L.getD j 0)) := by
  obtain ⟨g, off, e, -⟩ := ints_at h j hj
  refine ⟨g, off, e, fun W hW => ?_⟩
  obtain ⟨g', off', e', h⟩ := ints_at (Rc.Mem.calm h hW) j hj
  rw [e] at e'
  injection e' with e'
  injection e' with e1 e2
  subst e1 e2
  exact h
theorem mk_next (L : List Int) (i : Nat) (hi : i < L.length) : (L.take (i + 1)).foldl min (L.getD 0 0) = min ((L.take i).foldl min (L.getD 0 0)) (L.getD i 0) := by
  rw [List.take_add_one, List.getElem?_eq_getElem hi, List.foldl_append, List.getD_eq_getElem?_getD (i := i), List.getElem?_eq_getElem hi]
  rfl
theorem best_next (H : List Hd) (i : Nat) (hi : i < H.length) (b : Hd) : (H.take (i + 1)).foldl (fun b h => if h.t < b.t then h else b) b = if (H.getD i hd0).t < ((H.take i).foldl (fun b h => if h.t < b.t then h else b) b).t then H.getD i hd0 else (H.take i).foldl (fun b h => if h.t < b.t then h else b) b := by
  rw [List.take_add_one, List.getElem?_eq_getElem hi, List.foldl_append, List.getD_eq_getElem?_getD, List.getElem?_eq_getElem hi]
  rfl
theorem hd_frozen {w : World} {b : Nat} {c : Array Value} {ty : TypeId} (h : w.heap[b]? = some (.cells c ty (0, 0))) (o : Nat) : w.frozen? ⟨b, o, none⟩ = false := by simp [World.frozen?, h]
/-- What First tells. -/
def firV (H : List Hd) : Value := if H.length = 0 then .tuple #[.string ⟨#[]⟩, .int .i64 0, .bool false] else .tuple #[.string (bestH H).n, .int .i64 (bestH H).t, .bool true]
theorem rngK_succ (f : Nat → Bool) (n : Nat) : (List.range (n + 1)).all f = ((List.range n).all f && f n) := by
  rw [List.range_succ, List.all_append]; simp
theorem rngK_false {f : Nat → Bool} {n i : Nat} (hi : i < n) (h : f i = false) : (List.range n).all f = false := by
  rw [List.all_eq_false]
  exact ⟨i, List.mem_range.2 hi, by simp [h]⟩
/-- May a clock be made of these marks? -/
def ofB (M : List Int) : Bool := decide (1 ≤ M.length) && (decide (M.length ≤ 64) && (List.range M.length).all fun i => timC (M.getD i 0))
abbrev minT : Int := -4611686018427387904
/-- One number more. -/
theorem jn_app1 {w : World} {base : Nat} {ao : Option Addr} {cap : Nat} {A : List Int} (x : Int) (h : encJ.Own 2 w base (.slice ao A.length cap) A) (hs : base ≤ w.heap.size) (hn : A.length ≤ 10000000000000) :
    ∃ a2 p2 w4, (Builtin.append_ #[25, 25] 25 #[.slice ao A.length cap, .slice (some ⟨w.heap.size, 0, none⟩) 1 1]).run Try.prog (w.alloc (.cells #[.int .i64 x] 2)) = .ok (.slice a2 (A.length + 1) p2) w4 ∧
      encJ.Own 2 w4 base (.slice a2 (A ++ [x]).length p2) (A ++ [x]) ∧ Touch (fun d => (Value.slice ao A.length cap).ownBlock = some d) w w4 := by
  obtain ⟨i0, hi, hz, hsz, hby⟩ := Rc.info_parts infoJ
  have own := Rc.Own.calm h ((Touch.refl (fun _ => False) w).alloc (.cells #[.int .i64 x] 2))
  have hs1 := al_size w (.cells #[.int .i64 x] 2)
  obtain ⟨a2, p2, w4, hr, ow, t2, -⟩ := Rc.Own.appw (E := encJ) (ty := 25) Try.underlying25 hi hz hsz hby rfl own (some ⟨w.heap.size, 0, none⟩) 1 [x] (Rc.Mem.new w [x] 2) (fun h => (nomatch h)) (by simp; unfold maxLen; omega) (by simp; omega) (by omega) (by omega)
  have e3 : (A ++ [x]).length = A.length + 1 := by simp
  refine ⟨a2, p2, w4, by rw [← e3]; exact hr, ow, ?_⟩
  exact Touch.trans (((Touch.refl (fun _ => False) w).alloc _).mono fun _ _ h => h.elim) t2 fun _ _ h => h
theorem own_lt {α : Type} {E : Rc.Enc α} {e : TypeId} {w : World} {base : Nat} {v : Value} {L : List α} (h : E.Own e w base v L) {g : Nat} (hg : v.ownBlock = some g) : base ≤ g ∧ g < w.heap.size := by
  obtain ⟨h1, cur, hc⟩ := Rc.own_block h hg
  exact ⟨h1, lt_of_heap hc⟩
theorem rk_put {w : World} {g i : Nat} {c : Array Value} {t : TypeId} {fr : Nat × Nat} (h : w.heap[g]? = some (.cells c t fr)) (v : Value) : (w.setCell ⟨g, i, none⟩ v).heap[g]? = some (.cells (c.setIfInBounds i v) t fr) := by
  obtain ⟨hg, hv⟩ := Array.getElem?_eq_some_iff.1 h
  simp [World.setCell, hg, Array.getElem_modify, hv]
/-- What is in memory, and nothing: a row of its own. -/
theorem jn_copy {w : World} {mo : Option Addr} {mc : Nat} {M : List Int} (hM : encJ.Sl w mo mc M) (hl : M.length ≤ 10000000000000) :
    ∃ a1 p1 w1, (Builtin.append_ #[25, 25] 25 #[.slice none 0 0, .slice mo M.length mc]).run Try.prog w = .ok (.slice a1 M.length p1) w1 ∧ encJ.Own 2 w1 w.heap.size (.slice a1 M.length p1) M ∧ Calm w w1 := by
  obtain ⟨i0, hi, hz, hsz, hby⟩ := Rc.info_parts infoJ
  obtain ⟨a1, p1, w1, hr, ow, t1, -⟩ := Rc.Own.appw (E := encJ) (ty := 25) Try.underlying25 hi hz hsz hby rfl (Rc.Own.nil 2 w w.heap.size) mo mc M hM.mem hM.nil (by simp; unfold maxLen; omega) (by simp; omega) (by omega) (Nat.le_refl _)
  rw [List.nil_append] at hr ow
  exact ⟨a1, p1, w1, hr, ow, t1.mono fun _ _ h => by simp [Value.ownBlock] at h⟩
/-- May it be set? -/
def setB (L : List Int) (s t : Int) : Bool := decide (0 ≤ s) && (decide (s < L.length) && timC t)
theorem jn_set {w : World} {base g n cap : Nat} {L : List Int} (h : encJ.Own 2 w base (.slice (some ⟨g, 0, none⟩) n cap) L) (i : Nat) (x : Int) :
    encJ.Own 2 (w.setCell ⟨g, i, none⟩ (.int .i64 x)) base (.slice (some ⟨g, 0, none⟩) n cap) (L.set i x) := by
  have hnL : n = L.length := (Rc.Own.mem h).1
  have ef : ∀ L : List Int, encJ.flat L = L.map (Value.int .i64) := fun L => by
    induction L with
    | nil => rfl
    | cons x L ih => show [Value.int .i64 x] ++ encJ.flat L = _; rw [ih]; rfl
  obtain ⟨h1, ⟨hv, h2⟩ | ⟨g', cap', cur, hv, h3, h4, h5, h6, h7, h8⟩⟩ := h
  · cases hv
  · injection hv with e1 e2 e3
    injection e1 with e1
    injection e1 with e1
    subst e1 e3
    have k0 := heap_setCell_row (i := i) h4 (.int .i64 x)
    refine ⟨by rw [encJ.flat_len], .inr ⟨g, cap, _, ?_, h3, k0, by rw [List.length_set]; exact h5, h6, by simpa using h7, ?_⟩⟩
    · rw [List.length_set, hnL]
    · rw [List.length_set, ef, List.map_set, ← ef, ← h8]
      simp only [Array.toList_setIfInBounds, List.take_set]
abbrev capH : Nat := 4600000000000
abbrev cp (q : Nat) : Value := .pointer (some ⟨q, 0, none⟩)
/-- A hold as it is told. -/
def encY (x : Hd) : Array Value := #[.string x.n, .int .i64 x.t]
/-- What Holds must tell. -/
def Tells (w : World) (fv : Value) (H : List Hd) : Prop := ∃ gf lb, fv = .func (.func gf) #[] lb ∧ (∀ args V, (callFunc gf args).run Try.prog V = .ok (.enter gf args) V) ∧ ∃ A : World → Prop, (∀ V, Calm w V → A V) ∧ SeqT Try.prog gf lb encY H.length (fun k x => H[k]? = some x) A

end Go.Proofs.Ytapnjofplilefaa
