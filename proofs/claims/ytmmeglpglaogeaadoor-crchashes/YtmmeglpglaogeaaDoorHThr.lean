/- Three hashes and three texts in memory. -/
import Derived.Test.YtmmeglpglaogeaaDoorHOps
import Derived.Test.YtmmeglpglaogeaaDoorOwn
import Derived.Test.YtmmeglpglaogeaaDoorHash2
import Derived.Test.YtmmeglpglaogeaaDoorRef1
namespace Go.Proofs.YtmmeglpglaogeaaDoor
open Go.RowKit Crcx

def upd {α : Type} (f : Nat → α) (n : Nat) (v : α) : Nat → α := fun i => if i = n then v else f i
theorem upd_self {α : Type} (f : Nat → α) (n : Nat) (v : α) : upd f n v n = v := by simp [upd]
theorem upd_ne {α : Type} (f : Nat → α) {n i : Nat} (v : α) (h : i ≠ n) : upd f n v i = f i := by simp [upd, h]

def hp (g : Nat) : Value := .pointer (some ⟨g, 0, none⟩)

theorem set3 {α : Type} (f : Nat → α) (m : α → Value) (n : Nat) (hn : n < 3) (v : α) : (#[m (f 0), m (f 1), m (f 2)] : Array Value).setIfInBounds n (m v) = #[m (upd f n v 0), m (upd f n v 1), m (upd f n v 2)] := by
  match n, hn with
  | 0, _ => rfl
  | 1, _ => rfl
  | 2, _ => rfl

theorem at3 {α : Type} (f : Nat → α) (m : α → Value) (n : Nat) (hn : n < 3) : (#[m (f 0), m (f 1), m (f 2)] : Array Value)[n]? = some (m (f n)) := by
  match n, hn with
  | 0, _ => rfl
  | 1, _ => rfl
  | 2, _ => rfl

/-- A text in memory is not touched by what is written over a row that holds no bytes. -/
theorem keep_ok {W W' : World} {b : Nat} {c : Array Value} {ty : TypeId} {f : Nat × Nat} (hb : W.heap[b]? = some (.cells c ty f)) (hc : ∀ v ∈ c.toList, ∀ z, v ≠ .int .u8 z) (ht : Touch (fun k => k = b) W W') {t : Txt} (h : t.Ok W) : t.Ok W' := by
  refine ⟨?_, h.in8, h.len⟩
  by_cases hx : t.xs = []
  · obtain ⟨ao, cap, xs⟩ := t
    simp only at hx
    subst hx
    exact ⟨fun _ => rfl, fun _ _ h => absurd rfl h, fun _ _ j hj => (nomatch hj)⟩
  · refine h.seg.touch ht (fun a ha e => ?_)
    obtain ⟨b', off, e2⟩ := h.seg.addr (List.length_pos_iff.2 hx)
    rw [ha] at e2
    injection e2 with e2
    subst e2
    simp only at e
    subst e
    have hcell := h.seg.cell _ ha 0 (List.length_pos_iff.2 hx)
    rw [Addr.add_lit, cell_of_row _ _ _ _ _ _ hb] at hcell
    exact hc _ (Array.mem_def.1 (Array.mem_of_getElem? hcell)) _ rfl

/-- Three hashes (each with its sum and its length), three texts: the rows OB of pointers, RB of slices. -/
structure Th (w0 W : World) (OB RB : Nat) (g s l : Nat → Nat) (t : Nat → Txt) : Prop where
  own : W.heap[OB]? = some (.cells #[hp (g 0), hp (g 1), hp (g 2)] 24 (0, 0))
  ref : W.heap[RB]? = some (.cells #[(t 0).val, (t 1).val, (t 2).val] 26 (0, 0))
  hs : ∀ i, i < 3 → Hs W (g i) (s i) (l i)
  apart : ∀ i j, i < 3 → j < 3 → i ≠ j → g i ≠ g j
  ok : ∀ i, i < 3 → (t i).Ok W
  lo : w0.heap.size ≤ OB ∧ w0.heap.size ≤ RB ∧ ∀ i, i < 3 → w0.heap.size ≤ g i
  touch : Touch (fun _ => False) w0 W

section
variable {w0 W W' : World} {OB RB : Nat} {g s l : Nat → Nat} {t : Nat → Txt}

theorem Th.cellO (h : Th w0 W OB RB g s l t) (i : Nat) (hi : i < 3) : W.cell? ⟨OB, i, none⟩ = some (.pointer (some ⟨g i, 0, none⟩)) ∧ W.frozen? ⟨OB, i, none⟩ = false := by
  refine ⟨?_, by simp [World.frozen?, h.own]⟩
  rw [cell_of_row _ _ _ _ _ _ h.own]
  exact at3 g hp i hi

theorem Th.cellR (h : Th w0 W OB RB g s l t) (i : Nat) (hi : i < 3) : W.cell? ⟨RB, i, none⟩ = some (.slice (t i).ao (t i).xs.length (t i).cap) ∧ W.frozen? ⟨RB, i, none⟩ = false := by
  refine ⟨?_, by simp [World.frozen?, h.ref]⟩
  rw [cell_of_row _ _ _ _ _ _ h.ref]
  exact at3 t Txt.val i hi

theorem Th.quiet (h : Th w0 W OB RB g s l t) (ht : Touch (fun _ => False) W W') : Th w0 W' OB RB g s l t :=
  ⟨(ht.block OB (lt_of_heap h.own) (fun h => h)).trans h.own, (ht.block RB (lt_of_heap h.ref) (fun h => h)).trans h.ref, fun i hi => (h.hs i hi).touch ht (fun h => h), h.apart, fun i hi => (h.ok i hi).touch0 ht, h.lo, h.touch.trans ht (fun _ _ h => h)⟩

/-- One hash is another one: its memory alone was written. -/
theorem Th.hash (h : Th w0 W OB RB g s l t) {n s' l' : Nat} (hn : n < 3) (ht : Touch (fun k => k = g n) W W') (hh : Hs W' (g n) s' l') : Th w0 W' OB RB g (upd s n s') (upd l n l') t := by
  have n1 : ¬ OB = g n := tags h.own (h.hs n hn).block (by decide)
  have n2 : ¬ RB = g n := tags h.ref (h.hs n hn).block (by decide)
  refine ⟨(ht.block OB (lt_of_heap h.own) n1).trans h.own, (ht.block RB (lt_of_heap h.ref) n2).trans h.ref, fun i hi => ?_, h.apart, fun i hi => (h.hs n hn).keep_ok ht (h.ok i hi), h.lo, h.touch.trans ht (fun k hk e => by have := h.lo.2.2 n hn; omega)⟩
  by_cases e : i = n
  · subst e; rw [upd_self, upd_self]; exact hh
  · rw [upd_ne _ _ e, upd_ne _ _ e]
    exact (h.hs i hi).touch ht (h.apart i n hi hn e)

/-- A pointer is put into the row: to a hash that is none of the three. -/
theorem Th.point (h : Th w0 W OB RB g s l t) {n g' s' l' : Nat} (hn : n < 3) (hh : Hs W g' s' l') (hg : ∀ i, i < 3 → g i ≠ g') (hl : w0.heap.size ≤ g') : Th w0 (W.setCell ⟨OB, n, none⟩ (.pointer (some ⟨g', 0, none⟩))) OB RB (upd g n g') (upd s n s') (upd l n l') t := by
  have ht : Touch (fun k => k = OB) W (W.setCell ⟨OB, n, none⟩ (.pointer (some ⟨g', 0, none⟩))) := (Touch.refl (fun k => k = OB) W).setCell (p := ⟨OB, n, none⟩) (fun _ => rfl) _
  have n1 : ∀ i, i < 3 → ¬ g i = OB := fun i hi => tags (h.hs i hi).block h.own (by decide)
  have n2 : ¬ RB = OB := tags h.ref h.own (by decide)
  have n3 : ¬ g' = OB := tags hh.block h.own (by decide)
  refine ⟨?_, (ht.block RB (lt_of_heap h.ref) n2).trans h.ref, fun i hi => ?_, fun i j hi hj hne => ?_, fun i hi => keep_ok h.own (fun v hv z => ?_) ht (h.ok i hi), ⟨h.lo.1, h.lo.2.1, fun i hi => ?_⟩, h.touch.trans ht (fun k hk e => by have := h.lo.1; omega)⟩
  · have := heap_setCell_row (i := n) h.own (.pointer (some ⟨g', 0, none⟩))
    rw [this]
    exact congrArg some (congrArg (fun c => Obj.cells c _ _) (set3 g hp n hn g'))
  · by_cases e : i = n
    · subst e; rw [upd_self, upd_self, upd_self]; exact hh.touch ht n3
    · rw [upd_ne _ _ e, upd_ne _ _ e, upd_ne _ _ e]; exact (h.hs i hi).touch ht (n1 i hi)
  · by_cases e : i = n
    · subst e; rw [upd_self, upd_ne _ _ (Ne.symm hne)]; exact fun q => hg j hj q.symm
    · rw [upd_ne _ _ e]
      by_cases e2 : j = n
      · subst e2; rw [upd_self]; exact hg i hi
      · rw [upd_ne _ _ e2]; exact h.apart i j hi hj hne
  · simp [hp] at hv; rcases hv with rfl | rfl | rfl <;> simp
  · by_cases e : i = n
    · subst e; rw [upd_self]; exact hl
    · rw [upd_ne _ _ e]; exact h.lo.2.2 i hi

/-- A text is put into the row. -/
theorem Th.text (h : Th w0 W OB RB g s l t) {n : Nat} (hn : n < 3) (t' : Txt) (ho : t'.Ok W) : Th w0 (W.setCell ⟨RB, n, none⟩ (.slice t'.ao t'.xs.length t'.cap)) OB RB g s l (upd t n t') := by
  have ht : Touch (fun k => k = RB) W (W.setCell ⟨RB, n, none⟩ t'.val) := (Touch.refl (fun k => k = RB) W).setCell (p := ⟨RB, n, none⟩) (fun _ => rfl) _
  have n1 : ∀ i, i < 3 → ¬ g i = RB := fun i hi => tags (h.hs i hi).block h.ref (by decide)
  have n2 : ¬ OB = RB := tags h.own h.ref (by decide)
  have kp : ∀ {u : Txt}, u.Ok W → u.Ok (W.setCell ⟨RB, n, none⟩ t'.val) := fun hu => keep_ok h.ref (fun v hv z => by simp [Txt.val] at hv; rcases hv with rfl | rfl | rfl <;> simp) ht hu
  refine ⟨(ht.block OB (lt_of_heap h.own) n2).trans h.own, ?_, fun i hi => (h.hs i hi).touch ht (n1 i hi), h.apart, fun i hi => ?_, h.lo, h.touch.trans ht (fun k hk e => by have := h.lo.2.1; omega)⟩
  · have := heap_setCell_row (i := n) h.ref t'.val
    rw [show (Value.slice t'.ao t'.xs.length t'.cap) = t'.val from rfl, this]
    exact congrArg some (congrArg (fun c => Obj.cells c _ _) (set3 t Txt.val n hn t'))
  · by_cases e : i = n
    · subst e; rw [upd_self]; exact kp ho
    · rw [upd_ne _ _ e]; exact kp (h.ok i hi)
end

/-- The sums and lengths are those of the texts; no text is longer than b. -/
structure Gd (s l : Nat → Nat) (t : Nat → Txt) (b : Nat) : Prop where
  sum : ∀ i, i < 3 → s i = more 0 (nats (t i).xs)
  len : ∀ i, i < 3 → l i = (t i).xs.length
  le : ∀ i, i < 3 → (t i).xs.length ≤ b

theorem Gd.mono {s l : Nat → Nat} {t : Nat → Txt} {b b' : Nat} (h : Gd s l t b) (hb : b ≤ b') : Gd s l t b' := ⟨h.sum, h.len, fun i hi => Nat.le_trans (h.le i hi) hb⟩

theorem Gd.put {s l : Nat → Nat} {t : Nat → Txt} {b n : Nat} (h : Gd s l t b) (t' : Txt) (hl : t'.xs.length ≤ b) : Gd (upd s n (more 0 (nats t'.xs))) (upd l n t'.xs.length) (upd t n t') b := by
  refine ⟨fun i hi => ?_, fun i hi => ?_, fun i hi => ?_⟩
  · by_cases e : i = n
    · subst e; rw [upd_self, upd_self]
    · rw [upd_ne _ _ e, upd_ne _ _ e]; exact h.sum i hi
  · by_cases e : i = n
    · subst e; rw [upd_self, upd_self]
    · rw [upd_ne _ _ e, upd_ne _ _ e]; exact h.len i hi
  · by_cases e : i = n
    · subst e; rw [upd_self]; exact hl
    · rw [upd_ne _ _ e]; exact h.le i hi

end Go.Proofs.YtmmeglpglaogeaaDoor
