/- Holds, marks and what is told of them: notions alone. ClockTells: the mathematics of P13.6. The program's clock: marks stay times. -/
import Derived.Test.YtapnjofplilefaaGreatJI
import Derived.Test.YtapnjofplilefaaGreatYS
import Derived.Test.YtapnjofplilefaaGreatV2
import Derived.Test.YtapnjofplilefaaGreatCJ0
import Derived.Test.YtapnjofplilefaaGreatS2
namespace Go.Proofs.YtapnjofplilefaaGreat
open Go.RowKit

theorem Touch.drewK {S : Nat → Prop} {a w : World} (h : Touch S a w) (n : Nat) : Touch S a (w.drewN n) := ⟨h.os, h.tape, h.output, h.size, h.block⟩
/-- A hold: a name with its time. -/
structure Hd where
  n : ByteArray
  t : Int
abbrev hd0 : Hd := ⟨⟨#[]⟩, 0⟩
theorem infoJ : (Tryz.prog.info? 2).map (fun i => (i.zero, i.size, i.bytes)) = some (some (.int .i64 0), 1, 8) := by kernel_rfl
theorem elemJ : Tryz.prog.elem 49 = 2 := by kernel_rfl
/-- Is it a time? -/
def timC (t : Int) : Bool := decide (-4611686018427387904 ≤ t) && decide (t ≤ 4611686018427387904)
/-- A name ahead of another one. -/
def ltN (a b : ByteArray) : Bool := Op.bytesLess a.toList b.toList
theorem lss_str (t : TypeId) (a b : ByteArray) : binOp .lss t (.string a) (.string b) = pure (.bool (ltN a b)) := by
  unfold ltN
  simp [binOp, Op.stringOp]
/-- The same name. -/
def eqN (a b : ByteArray) : Bool := a.toList == b.toList
theorem eql_str (t : TypeId) (a b : ByteArray) : binOp .eql t (.string a) (.string b) = pure (.bool (eqN a b)) := by
  unfold eqN
  simp [binOp, Op.stringOp]
theorem eqN_iff {a b : ByteArray} : eqN a b = true ↔ a = b := by
  unfold eqN
  rw [beq_iff_eq, ByteArray.toList_eq, ByteArray.toList_eq]
  exact ⟨fun h => ByteArray.ext (Array.toList_inj.1 h), fun h => by rw [h]⟩
/-- The least mark. -/
def mkN (L : List Int) : Int := L.foldl min (L.getD 0 0)
/-- Where a name stands, or should. -/
def plN (H : List Hd) (x : ByteArray) : Nat := (H.takeWhile fun h => ltN h.n x).length
/-- Is it there? -/
def hasH (H : List Hd) (x : ByteArray) : Bool := decide (plN H x < H.length) && eqN (H.getD (plN H x) hd0).n x
def freeH (H : List Hd) (x : ByteArray) : List Hd := if hasH H x then H.take (plN H x) ++ H.drop (plN H x + 1) else H
def holdH (H : List Hd) (x : ByteArray) (t : Int) : List Hd := (freeH H x).take (plN (freeH H x) x) ++ [⟨x, t⟩] ++ (freeH H x).drop (plN (freeH H x) x)
/-- The first hold. -/
def bestH (H : List Hd) : Hd := H.foldl (fun b h => if h.t < b.t then h else b) (H.getD 0 hd0)
def outN (L : List Int) (H : List Hd) : Int := if H.length = 0 then mkN L else min (bestH H).t (mkN L)
theorem plN_le (H : List Hd) (x : ByteArray) : plN H x ≤ H.length := (List.takeWhile_prefix _).length_le
theorem free_len (H : List Hd) (x : ByteArray) : (freeH H x).length ≤ H.length := by
  unfold freeH
  split
  · have := plN_le H x; simp; omega
  · exact Nat.le_refl _
theorem hold_len (H : List Hd) (x : ByteArray) (t : Int) : (holdH H x t).length ≤ H.length + 1 := by
  unfold holdH
  have := free_len H x
  have := plN_le (freeH H x) x
  simp; omega
theorem ints_W {w : World} {ao : Option Addr} {L : List Int} (h : encJ.Mem w ao L) (j : Nat) (hj : j < L.length) : ∃ g off, ao = some ⟨g, off, none⟩ ∧ ∀ W, Calm w W → W.cell? ⟨g, off + j, none⟩ = some (.int .i64 (L.getD j 0)) := by
  obtain ⟨g, off, e, -⟩ := ints_at h j hj
  refine ⟨g, off, e, fun W hW => ?_⟩
  obtain ⟨g', off', e', h⟩ := ints_at (Rc.Mem.calm h hW) j hj
  rw [e] at e'
  injection e' with e'
  injection e' with e1 e2
  subst e1 e2
  exact h
theorem mk_next (L : List Int) (i : Nat) (hi : i < L.length) : (L.take (i + 1)).foldl min (L.getD 0 0) = min ((L.take i).foldl min (L.getD 0 0)) (L.getD i 0) := by
  rw [List.take_add_one, List.getElem?_eq_getElem hi, List.foldl_append, List.getD_eq_getElem?_getD (i := i), List.getElem?_eq_getElem hi]
  rfl
theorem best_next (H : List Hd) (i : Nat) (hi : i < H.length) (b : Hd) : (H.take (i + 1)).foldl (fun b h => if h.t < b.t then h else b) b = if (H.getD i hd0).t < ((H.take i).foldl (fun b h => if h.t < b.t then h else b) b).t then H.getD i hd0 else (H.take i).foldl (fun b h => if h.t < b.t then h else b) b := by
  rw [List.take_add_one, List.getElem?_eq_getElem hi, List.foldl_append, List.getD_eq_getElem?_getD, List.getElem?_eq_getElem hi]
  rfl
theorem hd_frozen {w : World} {b : Nat} {c : Array Value} {ty : TypeId} (h : w.heap[b]? = some (.cells c ty (0, 0))) (o : Nat) : w.frozen? ⟨b, o, none⟩ = false := by simp [World.frozen?, h]
/-- What First tells. -/
def firV (H : List Hd) : Value := if H.length = 0 then .tuple #[.string ⟨#[]⟩, .int .i64 0, .bool false] else .tuple #[.string (bestH H).n, .int .i64 (bestH H).t, .bool true]
theorem rngK_succ (f : Nat → Bool) (n : Nat) : (List.range (n + 1)).all f = ((List.range n).all f && f n) := by
  rw [List.range_succ, List.all_append]; simp
theorem rngK_false {f : Nat → Bool} {n i : Nat} (hi : i < n) (h : f i = false) : (List.range n).all f = false := by
  rw [List.all_eq_false]
  exact ⟨i, List.mem_range.2 hi, by simp [h]⟩
/-- May a clock be made of these marks? -/
def ofB (M : List Int) : Bool := decide (1 ≤ M.length) && (decide (M.length ≤ 64) && (List.range M.length).all fun i => timC (M.getD i 0))
abbrev minT : Int := -4611686018427387904
/-- One number more. -/
theorem jn_app1 {w : World} {base : Nat} {ao : Option Addr} {cap : Nat} {A : List Int} (x : Int) (h : encJ.Own 2 w base (.slice ao A.length cap) A) (hs : base ≤ w.heap.size) (hn : A.length ≤ 10000000000000) :
    ∃ a2 p2 w4, (Builtin.append_ #[49, 49] 49 #[.slice ao A.length cap, .slice (some ⟨w.heap.size, 0, none⟩) 1 1]).run Tryz.prog (w.alloc (.cells #[.int .i64 x] 2)) = .ok (.slice a2 (A.length + 1) p2) w4 ∧
      encJ.Own 2 w4 base (.slice a2 (A ++ [x]).length p2) (A ++ [x]) ∧ Touch (fun d => (Value.slice ao A.length cap).ownBlock = some d) w w4 := by
  obtain ⟨i0, hi, hz, hsz, hby⟩ := Rc.info_parts infoJ
  have own := Rc.Own.calm h ((Touch.refl (fun _ => False) w).alloc (.cells #[.int .i64 x] 2))
  have hs1 := al_size w (.cells #[.int .i64 x] 2)
  obtain ⟨a2, p2, w4, hr, ow, t2, -⟩ := Rc.Own.appw (E := encJ) (ty := 49) Tryz.underlying49 hi hz hsz hby rfl own (some ⟨w.heap.size, 0, none⟩) 1 [x] (Rc.Mem.new w [x] 2) (fun h => (nomatch h)) (by simp; unfold maxLen; omega) (by simp; omega) (by omega) (by omega)
  have e3 : (A ++ [x]).length = A.length + 1 := by simp
  refine ⟨a2, p2, w4, by rw [← e3]; exact hr, ow, ?_⟩
  exact Touch.trans (((Touch.refl (fun _ => False) w).alloc _).mono fun _ _ h => h.elim) t2 fun _ _ h => h
theorem own_lt {α : Type} {E : Rc.Enc α} {e : TypeId} {w : World} {base : Nat} {v : Value} {L : List α} (h : E.Own e w base v L) {g : Nat} (hg : v.ownBlock = some g) : base ≤ g ∧ g < w.heap.size := by
  obtain ⟨h1, cur, hc⟩ := Rc.own_block h hg
  exact ⟨h1, lt_of_heap hc⟩
theorem rk_put {w : World} {g i : Nat} {c : Array Value} {t : TypeId} {fr : Nat × Nat} (h : w.heap[g]? = some (.cells c t fr)) (v : Value) : (w.setCell ⟨g, i, none⟩ v).heap[g]? = some (.cells (c.setIfInBounds i v) t fr) := by
  obtain ⟨hg, hv⟩ := Array.getElem?_eq_some_iff.1 h
  simp [World.setCell, hg, Array.getElem_modify, hv]
/-- What is in memory, and nothing: a row of its own. -/
theorem jn_copy {w : World} {mo : Option Addr} {mc : Nat} {M : List Int} (hM : encJ.Sl w mo mc M) (hl : M.length ≤ 10000000000000) :
    ∃ a1 p1 w1, (Builtin.append_ #[49, 49] 49 #[.slice none 0 0, .slice mo M.length mc]).run Tryz.prog w = .ok (.slice a1 M.length p1) w1 ∧ encJ.Own 2 w1 w.heap.size (.slice a1 M.length p1) M ∧ Calm w w1 := by
  obtain ⟨i0, hi, hz, hsz, hby⟩ := Rc.info_parts infoJ
  obtain ⟨a1, p1, w1, hr, ow, t1, -⟩ := Rc.Own.appw (E := encJ) (ty := 49) Tryz.underlying49 hi hz hsz hby rfl (Rc.Own.nil 2 w w.heap.size) mo mc M hM.mem hM.nil (by simp; unfold maxLen; omega) (by simp; omega) (by omega) (Nat.le_refl _)
  rw [List.nil_append] at hr ow
  exact ⟨a1, p1, w1, hr, ow, t1.mono fun _ _ h => by simp [Value.ownBlock] at h⟩
/-- May it be set? -/
def setB (L : List Int) (s t : Int) : Bool := decide (0 ≤ s) && (decide (s < L.length) && timC t)
theorem jn_set {w : World} {base g n cap : Nat} {L : List Int} (h : encJ.Own 2 w base (.slice (some ⟨g, 0, none⟩) n cap) L) (i : Nat) (x : Int) :
    encJ.Own 2 (w.setCell ⟨g, i, none⟩ (.int .i64 x)) base (.slice (some ⟨g, 0, none⟩) n cap) (L.set i x) := by
  have hnL : n = L.length := (Rc.Own.mem h).1
  have ef : ∀ L : List Int, encJ.flat L = L.map (Value.int .i64) := fun L => by
    induction L with
    | nil => rfl
    | cons x L ih => show [Value.int .i64 x] ++ encJ.flat L = _; rw [ih]; rfl
  obtain ⟨h1, ⟨hv, h2⟩ | ⟨g', cap', cur, hv, h3, h4, h5, h6, h7, h8⟩⟩ := h
  · cases hv
  · injection hv with e1 e2 e3
    injection e1 with e1
    injection e1 with e1
    subst e1 e3
    have k0 := heap_setCell_row (i := i) h4 (.int .i64 x)
    refine ⟨by rw [encJ.flat_len], .inr ⟨g, cap, _, ?_, h3, k0, by rw [List.length_set]; exact h5, h6, by simpa using h7, ?_⟩⟩
    · rw [List.length_set, hnL]
    · rw [List.length_set, ef, List.map_set, ← ef, ← h8]
      simp only [Array.toList_setIfInBounds, List.take_set]
abbrev capH : Nat := 4600000000000
abbrev cp (q : Nat) : Value := .pointer (some ⟨q, 0, none⟩)
/-- A hold as it is told. -/
def encY (x : Hd) : Array Value := #[.string x.n, .int .i64 x.t]
/-- What Holds must tell. -/
def Tells (w : World) (fv : Value) (H : List Hd) : Prop := ∃ gf lb, fv = .func (.func gf) #[] lb ∧ (∀ args V, (callFunc gf args).run Tryz.prog V = .ok (.enter gf args) V) ∧ ∃ A : World → Prop, (∀ V, Calm w V → A V) ∧ SeqT Tryz.prog gf lb encY H.length (fun k x => H[k]? = some x) A

end Go.Proofs.YtapnjofplilefaaGreat

namespace Go.Proofs.YtapnjofplilefaaGreat
open Go.RowKit

theorem lessK_or (x : List UInt8) : ∀ y : List UInt8, (Op.bytesLess x y || x == y) = !Op.bytesLess y x := by
  induction x with
  | nil => intro y; cases y <;> simp [Op.bytesLess]
  | cons a x ih =>
    intro y
    cases y with
    | nil => simp [Op.bytesLess]
    | cons b y =>
      have h := ih y
      simp only [Op.bytesLess]
      by_cases h1 : a < b
      · have h2 : ¬ b < a := by rw [UInt8.lt_iff_toNat_lt] at *; omega
        have h3 : ¬ b = a := by rintro rfl; rw [UInt8.lt_iff_toNat_lt] at h1; omega
        simp [h1, h2, h3]
      · by_cases h2 : b < a
        · have h3 : ¬ a = b := by rintro rfl; exact h1 h2
          simp [h1, h2, h3]
        · have h3 : a = b := by rw [UInt8.lt_iff_toNat_lt] at *; exact UInt8.toNat_inj.mp (by omega)
          subst h3
          simpa [h1] using h

theorem lessK_trans (x : List UInt8) : ∀ y z : List UInt8, Op.bytesLess x y = true → Op.bytesLess y z = true → Op.bytesLess x z = true := by
  induction x with
  | nil =>
    intro y z h1 h2
    cases z with
    | nil => cases y <;> simp [Op.bytesLess] at h2
    | cons c z => simp [Op.bytesLess]
  | cons a x ih =>
    intro y z h1 h2
    cases y with
    | nil => simp [Op.bytesLess] at h1
    | cons b y =>
      cases z with
      | nil => simp [Op.bytesLess] at h2
      | cons c z =>
        simp only [Op.bytesLess, Bool.or_eq_true, Bool.and_eq_true, decide_eq_true_eq, beq_iff_eq] at h1 h2 ⊢
        rcases h1 with h1 | ⟨rfl, h1⟩
        · rcases h2 with h2 | ⟨rfl, h2⟩
          · left; rw [UInt8.lt_iff_toNat_lt] at *; omega
          · exact .inl h1
        · rcases h2 with h2 | ⟨rfl, h2⟩
          · exact .inl h2
          · exact .inr ⟨rfl, ih y z h1 h2⟩

theorem ltN_trans {a b c : ByteArray} (h1 : ltN a b = true) (h2 : ltN b c = true) : ltN a c = true := lessK_trans _ _ _ h1 h2
theorem ltN_irr (a : ByteArray) : ltN a a = false := by
  have := lessK_or a.toList a.toList
  unfold ltN
  simp at this
  exact this
theorem ltN_tot {a b : ByteArray} (h1 : ltN a b = false) (h2 : eqN a b = false) : ltN b a = true := by
  have := lessK_or a.toList b.toList
  unfold ltN eqN at *
  rw [h1, h2] at this
  simpa using this.symm

/-- In the order of the names. -/
def Srt (H : List Hd) : Prop := H.Pairwise fun a b => ltN a.n b.n = true

theorem pl_cons (h : Hd) (H : List Hd) (x : ByteArray) : plN (h :: H) x = if ltN h.n x = true then plN H x + 1 else 0 := by
  unfold plN
  rw [List.takeWhile_cons]
  split <;> simp
theorem has_cons_lt {h : Hd} {H : List Hd} {x : ByteArray} (hl : ltN h.n x = true) : hasH (h :: H) x = hasH H x := by
  unfold hasH
  rw [pl_cons, if_pos hl]
  simp
theorem has_of_mem {x : ByteArray} : ∀ {H : List Hd}, Srt H → (∃ h ∈ H, h.n = x) → hasH H x = true
  | [], _, ⟨_, hm, _⟩ => (nomatch hm)
  | h :: H, hs, ⟨y, hm, e⟩ => by
    obtain ⟨h1, h2⟩ := List.pairwise_cons.1 hs
    rcases List.mem_cons.1 hm with rfl | hm
    · unfold hasH
      rw [pl_cons, e, ltN_irr]
      simp [e, eqN_iff]
    · rw [has_cons_lt (by rw [← e]; exact h1 y hm)]
      exact has_of_mem h2 ⟨y, hm, e⟩
theorem free_sub (H : List Hd) (x : ByteArray) : (freeH H x).Sublist H := by
  unfold freeH
  split
  · have h1 : (H.take (plN H x) ++ H.drop (plN H x + 1)).Sublist (H.take (plN H x) ++ H.drop (plN H x)) := (List.Sublist.refl _).append (List.drop_sublist_drop_left H (Nat.le_succ _))
    rwa [List.take_append_drop] at h1
  · exact List.Sublist.refl _
theorem srt_free {H : List Hd} (h : Srt H) (x : ByteArray) : Srt (freeH H x) := List.Pairwise.sublist (free_sub H x) h
theorem has_free {x : ByteArray} : ∀ {H : List Hd}, Srt H → hasH (freeH H x) x = false
  | [], _ => by simp [freeH, hasH, plN]
  | h :: H, hs => by
    obtain ⟨h1, h2⟩ := List.pairwise_cons.1 hs
    by_cases hl : ltN h.n x = true
    · have ih := has_free (x := x) h2
      have e : freeH (h :: H) x = h :: freeH H x := by
        unfold freeH
        rw [has_cons_lt hl, pl_cons, if_pos hl]
        split <;> simp
      rw [e, has_cons_lt hl]
      exact ih
    · by_cases hq : eqN h.n x = true
      · have e : freeH (h :: H) x = H := by
          unfold freeH hasH
          rw [pl_cons, if_neg hl]
          simp [hq]
        rw [e]
        cases hh : hasH H x with
        | false => rfl
        | true =>
          exfalso
          unfold hasH at hh
          simp only [Bool.and_eq_true, decide_eq_true_eq] at hh
          obtain ⟨g1, g2⟩ := hh
          have hm : H.getD (plN H x) hd0 ∈ H := by
            rw [List.getD_eq_getElem?_getD, List.getElem?_eq_getElem g1]
            exact List.getElem_mem g1
          have := h1 _ hm
          rw [eqN_iff.1 g2, eqN_iff.1 hq, ltN_irr] at this
          cases this
      · have e : hasH (h :: H) x = false := by
          unfold hasH
          rw [pl_cons, if_neg hl]
          simp [hq]
        have e2 : freeH (h :: H) x = h :: H := by unfold freeH; rw [e]; rfl
        rw [e2, e]
theorem free_none {H : List Hd} {x : ByteArray} (h : hasH H x = false) : freeH H x = H := by unfold freeH; rw [h]; rfl
theorem srt_put {x : ByteArray} {t : Int} : ∀ {H : List Hd}, Srt H → hasH H x = false → Srt (H.take (plN H x) ++ [⟨x, t⟩] ++ H.drop (plN H x))
  | [], _, _ => by simp [plN, Srt]
  | h :: H, hs, hx => by
    obtain ⟨h1, h2⟩ := List.pairwise_cons.1 hs
    by_cases hl : ltN h.n x = true
    · rw [has_cons_lt hl] at hx
      have ih := srt_put (t := t) h2 hx
      rw [pl_cons, if_pos hl]
      simp only [List.take_succ_cons, List.drop_succ_cons, List.cons_append]
      refine List.pairwise_cons.2 ⟨fun y hy => ?_, ih⟩
      simp only [List.append_assoc, List.mem_append, List.mem_singleton] at hy
      rcases hy with hy | rfl | hy
      · exact h1 y (List.mem_of_mem_take hy)
      · exact hl
      · exact h1 y (List.mem_of_mem_drop hy)
    · have hq : eqN h.n x = false := by
        unfold hasH at hx
        rw [pl_cons, if_neg hl] at hx
        simpa using hx
      have hlt := ltN_tot (by simpa using hl) hq
      rw [pl_cons, if_neg hl]
      simp only [List.take_zero, List.nil_append, List.drop_zero, List.singleton_append]
      refine List.pairwise_cons.2 ⟨fun y hy => ?_, hs⟩
      rcases List.mem_cons.1 hy with rfl | hy
      · exact hlt
      · exact ltN_trans hlt (h1 y hy)
theorem srt_hold {H : List Hd} (h : Srt H) (x : ByteArray) (t : Int) : Srt (holdH H x t) := srt_put (srt_free h x) (has_free h)
theorem mem_hold {H : List Hd} {x : ByteArray} {t : Int} {y : Hd} : y ∈ holdH H x t ↔ y = ⟨x, t⟩ ∨ y ∈ freeH H x := by
  unfold holdH
  have e : ∀ n, y ∈ (freeH H x) ↔ y ∈ (freeH H x).take n ∨ y ∈ (freeH H x).drop n := fun n => by
    rw [← List.mem_append, List.take_append_drop]
  rw [e (plN (freeH H x) x)]
  simp only [List.append_assoc, List.mem_append, List.mem_singleton]
  constructor
  · rintro (h | h | h)
    · exact .inr (.inl h)
    · exact .inl h
    · exact .inr (.inr h)
  · rintro (h | h | h)
    · exact .inr (.inl h)
    · exact .inl h
    · exact .inr (.inr h)

/-- The least of them. -/
theorem le_foldl (x : Int) : ∀ (L : List Int) (b : Int), x ≤ L.foldl min b ↔ x ≤ b ∧ ∀ a ∈ L, x ≤ a
  | [], b => by simp
  | a :: L, b => by
    rw [List.foldl_cons, le_foldl x L]
    simp only [List.mem_cons, forall_eq_or_imp]
    constructor
    · rintro ⟨h1, h2⟩; exact ⟨by omega, by omega, h2⟩
    · rintro ⟨h1, h2, h3⟩; exact ⟨by omega, h3⟩
theorem le_mk {L : List Int} (h : L ≠ []) (x : Int) : x ≤ mkN L ↔ ∀ a ∈ L, x ≤ a := by
  unfold mkN
  rw [le_foldl]
  cases L with
  | nil => exact absurd rfl h
  | cons a L =>
    constructor
    · exact fun h => h.2
    · exact fun h => ⟨h a (by simp), h⟩
theorem le_best (x : Int) : ∀ (H : List Hd) (b : Hd), x ≤ (H.foldl (fun b h => if h.t < b.t then h else b) b).t ↔ x ≤ b.t ∧ ∀ h ∈ H, x ≤ h.t
  | [], b => by simp
  | h :: H, b => by
    rw [List.foldl_cons, le_best x H]
    simp only [List.mem_cons, forall_eq_or_imp]
    split
    · constructor
      · rintro ⟨h1, h2⟩; exact ⟨by omega, by omega, h2⟩
      · rintro ⟨h1, h2, h3⟩; exact ⟨by omega, h3⟩
    · constructor
      · rintro ⟨h1, h2⟩; exact ⟨by omega, by omega, h2⟩
      · rintro ⟨h1, h2, h3⟩; exact ⟨by omega, h3⟩
theorem le_out (x : Int) (L : List Int) (H : List Hd) : x ≤ outN L H ↔ x ≤ mkN L ∧ ∀ h ∈ H, x ≤ h.t := by
  unfold outN
  cases H with
  | nil => simp
  | cons h H =>
    rw [if_neg (by simp)]
    unfold bestH
    have := le_best x (h :: H) h
    rw [show (h :: H).getD 0 hd0 = h from rfl]
    constructor
    · intro h1
      have h2 := this.1 (by omega)
      exact ⟨by omega, h2.2⟩
    · rintro ⟨h1, h2⟩
      have h3 := this.2 ⟨h2 h (by simp), h2⟩
      omega
theorem out_mk (L : List Int) (H : List Hd) : outN L H ≤ mkN L := ((le_out _ L H).1 (Int.le_refl _)).1
theorem out_free (L : List Int) (H : List Hd) (x : ByteArray) : outN L H ≤ outN L (freeH H x) := by
  have h := (le_out _ L H).1 (Int.le_refl _)
  exact (le_out _ L _).2 ⟨h.1, fun y hy => h.2 y ((free_sub H x).subset hy)⟩
theorem out_marks {L L' : List Int} (h : mkN L ≤ mkN L') (H : List Hd) : outN L H ≤ outN L' H := by
  have h1 := (le_out _ L H).1 (Int.le_refl _)
  exact (le_out _ L' H).2 ⟨by omega, h1.2⟩
theorem out_hold {H : List Hd} {x : ByteArray} (h : hasH H x = false) (L : List Int) (t : Int) : outN L (holdH H x t) ≤ outN L H := by
  have h1 := (le_out _ L (holdH H x t)).1 (Int.le_refl _)
  refine (le_out _ L H).2 ⟨h1.1, fun y hy => h1.2 y (mem_hold.2 (.inr ?_))⟩
  rw [free_none h]
  exact hy
theorem out_high (L : List Int) (H : List Hd) (x : ByteArray) {t : Int} (h : mkN L ≤ t) : outN L H ≤ outN L (holdH H x t) := by
  have h1 := (le_out _ L H).1 (Int.le_refl _)
  refine (le_out _ L _).2 ⟨h1.1, fun y hy => ?_⟩
  rcases mem_hold.1 hy with rfl | hy
  · show outN L H ≤ t
    have := out_mk L H
    omega
  · exact h1.2 y ((free_sub H x).subset hy)

/-- A Set, and a Hold. -/
def setL (L : List Int) (s t : Int) : List Int := if setB L s t = true then L.set s.toNat (max (L.getD s.toNat 0) t) else L
def holdL (H : List Hd) (x : ByteArray) (t : Int) : List Hd := if timC t = true then holdH H x t else H
theorem set_len (L : List Int) (s t : Int) : (setL L s t).length = L.length := by
  unfold setL
  split <;> simp
theorem set_ge (L : List Int) (s t : Int) (k : Nat) : L.getD k 0 ≤ (setL L s t).getD k 0 := by
  unfold setL
  split
  · simp only [List.getD_eq_getElem?_getD, List.getElem?_set]
    split
    · next e =>
      subst e
      split
      · next h => simp [List.getElem?_eq_getElem h]; omega
      · next h => simp [List.getElem?_eq_none (Nat.le_of_not_lt h)]
    · exact Int.le_refl _
  · exact Int.le_refl _
theorem mk_mono {L L' : List Int} (hn : L ≠ []) (he : L'.length = L.length) (h : ∀ k, L.getD k 0 ≤ L'.getD k 0) : mkN L ≤ mkN L' := by
  have hn' : L' ≠ [] := fun e => hn (by rw [e] at he; exact List.length_eq_zero_iff.1 he.symm)
  refine (le_mk hn' _).2 fun a ha => ?_
  obtain ⟨k, hk, rfl⟩ := List.getElem_of_mem ha
  have h1 := (le_mk hn (mkN L)).1 (Int.le_refl _) (L[k]'(by omega)) (List.getElem_mem _)
  have h2 := h k
  simp only [List.getD_eq_getElem?_getD, List.getElem?_eq_getElem hk, List.getElem?_eq_getElem (show k < L.length by omega), Option.getD_some] at h2
  omega
theorem mk_set {L : List Int} (hn : L ≠ []) (s t : Int) : mkN L ≤ mkN (setL L s t) := mk_mono hn (set_len L s t) (set_ge L s t)
theorem hold_len' (H : List Hd) (x : ByteArray) (t : Int) : (holdL H x t).length ≤ H.length + 1 := by
  unfold holdL
  split
  · exact hold_len H x t
  · omega
theorem srt_holdL {H : List Hd} (h : Srt H) (x : ByteArray) (t : Int) : Srt (holdL H x t) := by
  unfold holdL
  split
  · exact srt_hold h x t
  · exact h
theorem out_holdL {H : List Hd} {x : ByteArray} (h : hasH H x = false) (L : List Int) (t : Int) : outN L (holdL H x t) ≤ outN L H := by
  unfold holdL
  split
  · exact out_hold h L t
  · exact Int.le_refl _
theorem out_highL (L : List Int) (H : List Hd) (x : ByteArray) {t : Int} (h : mkN L ≤ t) : outN L H ≤ outN L (holdL H x t) := by
  unfold holdL
  split
  · exact out_high L H x h
  · exact Int.le_refl _

end Go.Proofs.YtapnjofplilefaaGreat

namespace Go.Proofs.YtapnjofplilefaaGreat
open Go.RowKit

theorem ofB_set {L : List Int} {i : Nat} {t : Int} (h : ofB L = true) (ht : timC t = true) : ofB (L.set i (max (L.getD i 0) t)) = true := by
  unfold ofB at *
  simp only [Bool.and_eq_true, decide_eq_true_eq, List.all_eq_true, List.mem_range, List.length_set] at h ⊢
  refine ⟨h.1, h.2.1, fun j hj => ?_⟩
  rw [List.getD_eq_getElem?_getD, List.getElem?_set]
  split
  · rename_i e
    subst e
    have := h.2.2 i hj
    simp only [hj, if_true, Option.getD_some]
    unfold timC at *
    simp only [Bool.and_eq_true, decide_eq_true_eq] at *
    omega
  · have := h.2.2 j hj
    rw [List.getD_eq_getElem?_getD] at this
    exact this

end Go.Proofs.YtapnjofplilefaaGreat
