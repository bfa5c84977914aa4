/- The walk of CrcHashes: what it begins with. -/
import Derived.Test.YtmmeglpglaogeaaDoorHThr
import Derived.Test.YtmmeglpglaogeaaDoorWorks
import Derived.BigQuiet
import Derived.Deep.RegionLaw
import Derived.Deep.CutRange
namespace Go.Proofs.YtmmeglpglaogeaaDoor
open Go.RowKit Crcx

theorem Touch.drewN {S : Nat → Prop} {a w : World} (h : Touch S a w) (n : Nat) : Touch S a (w.drewN n) := ⟨h.os, h.tape, h.output, h.size, h.block⟩

def opn (k : Nat) (g : Nat → Nat) (i : Nat) : Value := if i < k then hp (g i) else .pointer none

/-- The first k hashes are there. -/
structure Tp (w0 W : World) (OB RB k : Nat) (g : Nat → Nat) : Prop where
  own : W.heap[OB]? = some (.cells #[opn k g 0, opn k g 1, opn k g 2] 24 (0, 0))
  ref : W.heap[RB]? = some (.cells #[.slice none 0 0, .slice none 0 0, .slice none 0 0] 26 (0, 0))
  hs : ∀ i, i < k → Hs W (g i) 0 0
  apart : ∀ i j, i < k → j < k → i ≠ j → g i ≠ g j
  lo : w0.heap.size ≤ OB ∧ w0.heap.size ≤ RB ∧ ∀ i, i < k → w0.heap.size ≤ g i
  touch : Touch (fun _ => False) w0 W

section
variable {w0 W W' : World} {OB RB k : Nat} {g : Nat → Nat}

theorem Tp.cell (h : Tp w0 W OB RB k g) (i : Nat) (hi : i < 3) : W.cell? ⟨OB, i, none⟩ = some (opn k g i) ∧ W.frozen? ⟨OB, i, none⟩ = false := by
  refine ⟨?_, by simp [World.frozen?, h.own]⟩
  rw [cell_of_row _ _ _ _ _ _ h.own]
  exact at3 (opn k g) id i hi

theorem Tp.quiet (h : Tp w0 W OB RB k g) (ht : Touch (fun _ => False) W W') : Tp w0 W' OB RB k g :=
  ⟨(ht.block OB (lt_of_heap h.own) (fun h => h)).trans h.own, (ht.block RB (lt_of_heap h.ref) (fun h => h)).trans h.ref, fun i hi => (h.hs i hi).touch ht (fun h => h), h.apart, h.lo, h.touch.trans ht (fun _ _ h => h)⟩

theorem Tp.more (h : Tp w0 W OB RB k g) (hk : k < 3) {g' : Nat} (hh : Hs W g' 0 0) (hg : ∀ i, i < k → g i ≠ g') (hl : w0.heap.size ≤ g') : Tp w0 (W.setCell ⟨OB, k, none⟩ (.pointer (some ⟨g', 0, none⟩))) OB RB (k + 1) (upd g k g') := by
  have ht : Touch (fun j => j = OB) W (W.setCell ⟨OB, k, none⟩ (.pointer (some ⟨g', 0, none⟩))) := (Touch.refl (fun j => j = OB) W).setCell (p := ⟨OB, k, none⟩) (fun _ => rfl) _
  have n1 : ∀ i, i < k → ¬ g i = OB := fun i hi => tags (h.hs i hi).block h.own (by decide)
  have n2 : ¬ RB = OB := tags h.ref h.own (by decide)
  have n3 : ¬ g' = OB := tags hh.block h.own (by decide)
  refine ⟨?_, (ht.block RB (lt_of_heap h.ref) n2).trans h.ref, fun i hi => ?_, fun i j hi hj hne => ?_, ⟨h.lo.1, h.lo.2.1, fun i hi => ?_⟩, h.touch.trans ht (fun k hk e => by have := h.lo.1; omega)⟩
  · have := heap_setCell_row (i := k) h.own (.pointer (some ⟨g', 0, none⟩))
    rw [this]
    refine congrArg some (congrArg (fun c => Obj.cells c _ _) ?_)
    match k, hk with
    | 0, _ => rfl
    | 1, _ => rfl
    | 2, _ => rfl
  · by_cases e : i = k
    · subst e; rw [upd_self]; exact hh.touch ht n3
    · rw [upd_ne _ _ e]; exact (h.hs i (by omega)).touch ht (n1 i (by omega))
  · by_cases e : i = k
    · subst e; rw [upd_self, upd_ne _ _ (Ne.symm hne)]; exact fun q => hg j (by omega) q.symm
    · rw [upd_ne _ _ e]
      by_cases e2 : j = k
      · subst e2; rw [upd_self]; exact hg i (by omega)
      · rw [upd_ne _ _ e2]; exact h.apart i j (by omega) (by omega) hne
  · by_cases e : i = k
    · subst e; rw [upd_self]; exact hl
    · rw [upd_ne _ _ e]; exact h.lo.2.2 i (by omega)

theorem Tp.all (h : Tp w0 W OB RB 3 g) : Th w0 W OB RB g (fun _ => 0) (fun _ => 0) (fun _ => ⟨none, 0, []⟩) :=
  ⟨h.own, h.ref, h.hs, h.apart, fun _ _ => ⟨⟨fun _ => rfl, fun _ h => (nomatch h), fun _ h => (nomatch h)⟩, fun _ h => (nomatch h), by simp⟩, h.lo, h.touch⟩
end

theorem tp0 (w : World) (g : Nat → Nat) : Tp w ((w.alloc (.cells #[.pointer none, .pointer none, .pointer none] 24)).alloc (.cells #[.slice none 0 0, .slice none 0 0, .slice none 0 0] 26)) w.heap.size (w.heap.size + 1) 0 g := by
  have e : (w.alloc (.cells #[.pointer none, .pointer none, .pointer none] 24)).heap.size = w.heap.size + 1 := by simp
  refine ⟨?_, ?_, fun _ h => (nomatch h), fun _ _ h => (nomatch h), ⟨Nat.le_refl _, by omega, fun _ h => (nomatch h)⟩, ((Touch.refl _ _).alloc _).alloc _⟩
  · rw [heap_alloc_old (by rw [e]; omega)]
    exact heap_alloc_last w _
  · have := heap_alloc_last (w.alloc (.cells #[.pointer none, .pointer none, .pointer none] 24)) (.cells #[.slice none 0 0, .slice none 0 0, .slice none 0 0] 26)
    rwa [e] at this

theorem wrap_up {n m : Nat} (h : n < m) (hm : m < 9223372036854775808) : wrap64 ((n : Int) + 1) = ((n + 1 : Nat) : Int) := by unfold wrap64; omega

theorem gd0 : Gd (fun _ => 0) (fun _ => 0) (fun _ => ⟨none, 0, []⟩) 0 := ⟨fun _ _ => rfl, fun _ _ => rfl, fun _ _ => Nat.le_refl _⟩

theorem nil_ok {W : World} : (⟨none, 0, []⟩ : Txt).Ok W := ⟨⟨fun _ => rfl, fun _ h => (nomatch h), fun _ h => (nomatch h)⟩, fun _ h => (nomatch h), by simp⟩

theorem third (x : Int) : ∃ n : Nat, n < 3 ∧ (wrap64 (x.tmod 3 + 3)).tmod 3 = (n : Int) := by
  have h1 : x.tmod 3 < 3 := Int.tmod_lt_of_pos x (by decide)
  have h2 : -3 < x.tmod 3 := by
    have := Int.tmod_lt_of_pos (-x) (show (0 : Int) < 3 by decide)
    rw [Int.neg_tmod] at this
    omega
  have e1 : wrap64 (x.tmod 3 + 3) = x.tmod 3 + 3 := by unfold wrap64; omega
  rw [e1, Int.tmod_eq_emod_of_nonneg (by omega)]
  exact ⟨((x.tmod 3 + 3) % 3).toNat, by omega, by omega⟩

end Go.Proofs.YtmmeglpglaogeaaDoor
