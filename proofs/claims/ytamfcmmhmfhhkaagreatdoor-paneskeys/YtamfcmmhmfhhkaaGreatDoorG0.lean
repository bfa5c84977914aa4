/- Takes inside a region that draws its order: with the slot written out; skipped operations; calls. A region that draws its order, whose last operation may change the world as it likes: those ahead of it are taken by a condition S that it need not keep. Notions on memory and the plain mathematics of the wire forms: rows of integers that a call owns, what a call may touch, and the number form's bytes. Memory, in general: what stands in a block; what a call may touch. -/
import Derived.Deep.RegionHeld3
import Derived.BigQuiet
import Derived.OrdersHeld
import Derived.WalkKit
import Derived.WalkSpells
import Derived.WalkLawsBesides
import Derived.Deep.AppendSrc
import Derived.Deep.RegionLaw
import Derived.Test.YtamfcmmhmfhhkaaGreatDoorProg
import Derived.Laws.BitsAllLaws
import Derived.Deep.WholeRow
namespace Go.Proofs.YtamfcmmhmfhhkaaGreatDoor

/-- An operation whose guard says no: it yields 'undef'. -/
theorem wpAnyH_skip {P : Program} {ops : Array Oper} {Q : Exit → Act → World → Prop} {S : World → Prop} {md : Region.Mode} (i : Nat) (d : Tmp) {oi : Oper} {fuel : Nat} {listed listed' : Array Bool} {a a' : Act} {w : World} (hi : ops[i]? = some oi) (hd : oi.dst = some d)
    (hs : Region.noSelect ops = true) (hf : Region.free md ops listed i = true) (hr : (Region.ready md ops listed).contains i = true)
    (hQ : ∀ c a w, Q (.panic c) (a.put oi.dst undef) w → Q (.panic c) a w) (hw : Region.wanted oi (yielded ops a.tmps) = false) (hS : S w) (hl : listed.setIfInBounds i true = listed') (ha : a.put (some d) undef = a')
    (h : wpAnyH P md ops Q S fuel listed' a' w) : wpAnyH P md ops Q S (fuel + 1) listed a w :=
  wpAnyH_take hi hs hf hr hQ (.inr ⟨hw, rfl⟩) hS (by rw [hd, hl, ha]; exact h)

/-- An operation that yields 'v' in every world that meets S. -/
theorem wpAnyH_yield {P : Program} {ops : Array Oper} {Q : Exit → Act → World → Prop} {S : World → Prop} {md : Region.Mode} (i : Nat) (d : Tmp) (v : Value) {oi : Oper} {fuel : Nat} {listed listed' : Array Bool} {a a' : Act} {w : World} (hi : ops[i]? = some oi) (hd : oi.dst = some d)
    (hs : Region.noSelect ops = true) (hf : Region.free md ops listed i = true) (hr : (Region.ready md ops listed).contains i = true)
    (hQ : ∀ c a w, Q (.panic c) (a.put oi.dst v) w → Q (.panic c) a w) (hw : Region.wanted oi (yielded ops a.tmps) = true) (hy : ∀ W, S W → (execOp a.eval oi).run P W = .ok (.value v) W) (hS : S w) (hl : listed.setIfInBounds i true = listed') (ha : a.put (some d) v = a')
    (h : wpAnyH P md ops Q S fuel listed' a' w) : wpAnyH P md ops Q S (fuel + 1) listed a w :=
  wpAnyH_take hi hs hf hr hQ (.inl ⟨hw, hy⟩) hS (by rw [hd, hl, ha]; exact h)

/-- The one operation that may come up is a call. -/
theorem wpAnyH_enter {P : Program} {ops : Array Oper} {Q : Exit → Act → World → Prop} {S : World → Prop} {md : Region.Mode} (i : Nat) (d : Tmp) (f : FuncId) (args : Array Value) {oi : Oper} {fuel : Nat} {listed : Array Bool} {a : Act} {w : World} (hi : ops[i]? = some oi) (hd : oi.dst = some d)
    (hr : Region.ready md ops listed = [i]) (hw : Region.wanted oi (yielded ops a.tmps) = true) (hrun : (execOp a.eval oi).run P w = .ok (.enter f args) w)
    (hc : Calls P f args w fun e w'' => ∃ v, e = .returned v ∧ S w'' ∧ wpAnyH P md ops Q S fuel (listed.setIfInBounds i true) (a.put (some d) v) w'') : wpAnyH P md ops Q S (fuel + 1) listed a w := by
  refine wpAnyH_all hr (by simp) ?_
  intro j hj
  obtain rfl : j = i := by simpa using hj
  unfold wpOp
  simp only [hi, hw, if_true]
  left
  unfold Oper.wp
  rw [hrun, Oper.upon_enter]
  refine hc.mono fun e w'' hh => ?_
  obtain ⟨v, rfl, h⟩ := hh
  rw [hd]
  exact h

/-- The one operation that may come up yields a value, in a world of its own. -/
theorem wpAnyH_value {P : Program} {ops : Array Oper} {Q : Exit → Act → World → Prop} {S : World → Prop} {md : Region.Mode} (i : Nat) (d : Tmp) (v : Value) {oi : Oper} {fuel : Nat} {listed : Array Bool} {a : Act} {w w' : World} (hi : ops[i]? = some oi) (hd : oi.dst = some d)
    (hr : Region.ready md ops listed = [i]) (hw : Region.wanted oi (yielded ops a.tmps) = true) (hrun : (execOp a.eval oi).run P w = .ok (.value v) w') (hS : S w')
    (h : wpAnyH P md ops Q S fuel (listed.setIfInBounds i true) (a.put (some d) v) w') : wpAnyH P md ops Q S (fuel + 1) listed a w := by
  refine wpAnyH_all hr (by simp) ?_
  intro j hj
  obtain rfl : j = i := by simpa using hj
  unfold wpOp
  simp only [hi, hw, if_true]
  left
  unfold Oper.wp
  rw [hrun, Oper.upon_value, hd]
  exact ⟨hS, h⟩

end Go.Proofs.YtamfcmmhmfhhkaaGreatDoor

namespace Go.Proofs.YtamfcmmhmfhhkaaGreatDoor

section
variable {P : Program} {ops : Array Oper} {Q : Exit → Act → World → Prop} {md : Region.Mode} {S : World → Prop} {z : Nat}

/-- S holds behind every operation but z. -/
def wpAnyZ (P : Program) (md : Region.Mode) (ops : Array Oper) (Q : Exit → Act → World → Prop) (S : World → Prop) (z : Nat) : Nat → Array Bool → Act → World → Prop
  | 0, listed, a, w => Region.ready md ops listed = [] ∧ Q .normal a w
  | fuel + 1, listed, a, w =>
    (Region.ready md ops listed = [] → Q .normal a w) ∧
    ∀ i ∈ Region.ready md ops listed, wpOp P ops Q i (fun a' w' => if i = z then wpAny P md ops Q fuel (listed.setIfInBounds i true) a' w' else S w' ∧ wpAnyZ P md ops Q S z fuel (listed.setIfInBounds i true) a' w') a w

theorem wpAny_of_z : ∀ (fuel : Nat) (listed : Array Bool) (a : Act) (w : World), wpAnyZ P md ops Q S z fuel listed a w → wpAny P md ops Q fuel listed a w
  | 0, _, _, _, h => h
  | fuel + 1, _, _, _, h => ⟨h.1, fun i hi => wpOp_mono (fun a' w' h' => by
      by_cases hz : i = z
      · rw [if_pos hz] at h'; exact h'
      · rw [if_neg hz] at h'; exact wpAny_of_z fuel _ a' w' h'.2) (h.2 i hi)⟩

/-- What an operation that has come up waits for has come up. -/
def Shut (md : Region.Mode) (ops : Array Oper) (listed : Array Bool) : Prop := ∀ k ok, ops[k]? = some ok → listed.getD k false = true → ∀ e ∈ ok.after, Region.binds md e = true → listed.getD e.on false = true

/-- Each waits for the one ahead of it. -/
def chained (md : Region.Mode) (ops : Array Oper) : List Nat → Bool
  | i :: j :: l => (match ops[j]? with | some o => o.after.any (fun e => Region.binds md e && e.on == i) | none => false) && chained md ops (j :: l)
  | _ => true

theorem getD_flip {listed : Array Bool} {i : Nat} (h : listed.getD i true = false) : listed.getD i false = false := by
  rcases Nat.lt_or_ge i listed.size with h' | h'
  · simp [h'] at h ⊢; exact h
  · simp [Array.getElem?_eq_none h']

theorem not_ready {listed : Array Bool} (hsh : Shut md ops listed) : ∀ (l : List Nat) (i : Nat), listed.getD i false = false → chained md ops (i :: l) = true → l ≠ [] → (i :: l).getLast? = some z → z ∉ Region.ready md ops listed
  | [], _, _, _, hne, _ => absurd rfl hne
  | j :: l, i, hi, hc, _, hz => by
    simp only [chained, Bool.and_eq_true] at hc
    obtain ⟨h1, h2⟩ := hc
    cases ho : ops[j]? with
    | none => rw [ho] at h1; cases h1
    | some o =>
      rw [ho] at h1
      simp only [Array.any_eq_true'] at h1
      obtain ⟨e, he, hb⟩ := h1
      simp only [Bool.and_eq_true, beq_iff_eq] at hb
      by_cases hl : l = []
      · subst hl
        have hjz : j = z := by simpa using hz
        intro hr
        obtain ⟨_, oj, hoj, hall⟩ := mem_ready.1 hr
        rw [← hjz, ho] at hoj
        injection hoj with hoj
        subst hoj
        have := hall e he hb.1
        rw [hb.2] at this
        rcases Nat.lt_or_ge i listed.size with h' | h'
        · simp [h'] at this hi; rw [hi] at this; cases this
        · simp [Array.getElem?_eq_none h'] at this
      · refine not_ready hsh l j ?_ h2 hl (by rw [← hz]; simp)
        cases hj : listed.getD j false with
        | false => rfl
        | true =>
          have := hsh j o ho hj e he hb.1
          rw [hb.2, hi] at this
          cases this

theorem Shut.list {listed : Array Bool} (h : Shut md ops listed) {j : Nat} (hj : j ∈ Region.ready md ops listed) : Shut md ops (listed.setIfInBounds j true) := by
  intro k ok hk hl e he hb
  obtain ⟨hju, oj, hoj, hall⟩ := mem_ready.1 hj
  by_cases hjk : j = k
  · subst hjk
    rw [hoj] at hk
    injection hk with hk
    subst hk
    exact getD_set_true (hall e he hb)
  · rw [getD_set_ne false hjk] at hl
    exact getD_set_true (h k ok hk hl e he hb)

theorem Shut.start (n : Nat) : Shut md ops (Array.replicate n false) := by
  intro k ok _ hl
  exfalso
  rcases Nat.lt_or_ge k n with h | h
  · simp [h] at hl
  · simp [h] at hl

theorem wpAnyZ_first {i : Nat} {oi : Oper} {v : Value} (hi : ops[i]? = some oi) (hsel : ∀ (j : Nat) (o : Oper) cs b, ops[j]? = some o → o.op ≠ .select cs b)
    (hQ : ∀ c a w, Q (.panic c) (a.put oi.dst v) w → Q (.panic c) a w) (l : List Nat) (hne : l ≠ []) (hc : chained md ops (i :: l) = true) (hlast : (i :: l).getLast? = some z) (hiz : i ≠ z) :
    ∀ (fuel : Nat) (listed : Array Bool) (a : Act) (w : World), Shut md ops listed →
      (∀ j oj, ops[j]? = some oj → j ≠ i → listed.getD j true = false → (∀ e ∈ oj.after, Region.binds md e = true → e.on ≠ i) → oi.apart ops oj = true) →
      i ∈ Region.ready md ops listed → YieldsIf P ops S oi v a → S w →
      wpAnyZ P md ops Q S z fuel (listed.setIfInBounds i true) (a.put oi.dst v) w → wpAnyZ P md ops Q S z (fuel + 1) listed a w := by
  intro fuel
  induction fuel with
  | zero =>
    intro listed a w _ _ hr hy hS H
    refine ⟨fun h => (by rw [h] at hr; cases hr), fun j hj => ?_⟩
    by_cases hji : j = i
    · subst hji; exact hy.wpOp hi hS (by rw [if_neg hiz]; exact ⟨hS, H⟩)
    · have := ready_mono hj hji
      rw [H.1] at this
      cases this
  | succ fuel ih =>
    intro listed a w hsh hfree hr hy hS H
    refine ⟨fun h => (by rw [h] at hr; cases hr), fun j hj => ?_⟩
    by_cases hji : j = i
    · subst hji; exact hy.wpOp hi hS (by rw [if_neg hiz]; exact ⟨hS, H⟩)
    · have hjz : j ≠ z := fun e => not_ready hsh l i (getD_flip (mem_ready.1 hr).1) hc hne hlast (e ▸ hj)
      have h1 := H.2 j (ready_mono hj hji)
      simp only [if_neg hjz] at h1
      obtain ⟨hjun, oj, hoj, hall⟩ := mem_ready.1 hj
      have hnot : ∀ e ∈ oj.after, Region.binds md e = true → e.on ≠ i := fun e he hb heq => by
        have h1 := hall e he hb
        have h0 := getD_flip (mem_ready.1 hr).1
        rw [heq, h0] at h1
        cases h1
      have h2 := wpOp_putIf hoj (hfree j oj hoj hji hjun hnot) (fun cs b => hsel i oi cs b hi) (fun cs b => hsel j oj cs b hoj) hQ hy h1
      have hfree' : ∀ k ok, ops[k]? = some ok → k ≠ i → (listed.setIfInBounds j true).getD k true = false →
          (∀ e ∈ ok.after, Region.binds md e = true → e.on ≠ i) → oi.apart ops ok = true := fun k ok hk hki hun hno => by
        refine hfree k ok hk hki ?_ hno
        by_cases hjk : j = k
        · subst hjk; exact hjun
        · rw [getD_set_ne true hjk] at hun; exact hun
      refine wpOp_mono (fun a' w' h3 => ?_) h2
      rw [if_neg hjz]
      refine ⟨h3.2.1, ih (listed.setIfInBounds j true) a' w' (hsh.list hj) hfree' (ready_mono hr (Ne.symm hji)) h3.1 h3.2.1 ?_⟩
      rw [Array.setIfInBounds_comm _ _ hji]
      exact h3.2.2

/-- Decidable: what has come up is shut. -/
def shutB (md : Region.Mode) (ops : Array Oper) (listed : Array Bool) : Bool :=
  (List.range ops.size).all fun k => match ops[k]? with
    | some ok => !listed.getD k false || ok.after.all fun e => !Region.binds md e || listed.getD e.on false
    | none => true

theorem shut_of {listed : Array Bool} (h : shutB md ops listed = true) : Shut md ops listed := by
  intro k ok hk hl e he hb
  unfold shutB at h
  rw [List.all_eq_true] at h
  have := h k (List.mem_range.2 (Array.getElem?_eq_some_iff.1 hk).1)
  rw [hk] at this
  simp only [hl, Bool.not_true, Bool.false_or] at this
  rw [Array.all_eq_true'] at this
  have := this e he
  simpa [hb] using this

/-- Take number i first: it yields v in every world that meets S; l leads from it to z. -/
theorem wpAnyZ_yield (i : Nat) (d : Tmp) (v : Value) (l : List Nat) {oi : Oper} {fuel : Nat} {listed listed' : Array Bool} {a a' : Act} {w : World} (hi : ops[i]? = some oi) (hd : oi.dst = some d)
    (hs : Region.noSelect ops = true) (hf : Region.free md ops listed i = true) (hr : (Region.ready md ops listed).contains i = true) (hsh : shutB md ops listed = true) (hc : (chained md ops (i :: l) && l != [] && (i :: l).getLast? == some z && i != z) = true)
    (hQ : ∀ c a w, Q (.panic c) (a.put oi.dst v) w → Q (.panic c) a w) (hw : Region.wanted oi (yielded ops a.tmps) = true) (hy : ∀ W, S W → (execOp a.eval oi).run P W = .ok (.value v) W) (hS : S w) (hl : listed.setIfInBounds i true = listed') (ha : a.put (some d) v = a')
    (h : wpAnyZ P md ops Q S z fuel listed' a' w) : wpAnyZ P md ops Q S z (fuel + 1) listed a w := by
  simp only [Bool.and_eq_true, bne_iff_ne, beq_iff_eq] at hc
  exact wpAnyZ_first hi (Region.noSelect_spec hs) hQ l hc.1.1.2 hc.1.1.1 hc.1.2 hc.2 fuel listed a w (shut_of hsh) (Region.free_spec hi hf) (by simpa using hr) (.inl ⟨hw, hy⟩) hS (by rw [hd, hl, ha]; exact h)

/-- The one operation that may come up is a call. -/
theorem wpAnyZ_enter (i : Nat) (d : Tmp) (f : FuncId) (args : Array Value) {oi : Oper} {fuel : Nat} {listed : Array Bool} {a : Act} {w : World} (hi : ops[i]? = some oi) (hd : oi.dst = some d) (hiz : i ≠ z)
    (hr : Region.ready md ops listed = [i]) (hw : Region.wanted oi (yielded ops a.tmps) = true) (hrun : (execOp a.eval oi).run P w = .ok (.enter f args) w)
    (hc : Calls P f args w fun e w'' => ∃ v, e = .returned v ∧ S w'' ∧ wpAnyZ P md ops Q S z fuel (listed.setIfInBounds i true) (a.put (some d) v) w'') : wpAnyZ P md ops Q S z (fuel + 1) listed a w := by
  refine ⟨fun h0 => (by rw [hr] at h0; cases h0), fun j hj => ?_⟩
  rw [hr] at hj
  obtain rfl : j = i := by simpa using hj
  unfold wpOp
  simp only [hi, hw, if_true, if_neg hiz]
  left
  unfold Oper.wp
  rw [hrun, Oper.upon_enter]
  refine hc.mono fun e w'' hh => ?_
  obtain ⟨v, rfl, h⟩ := hh
  rw [hd]
  exact h

/-- The one operation that may come up yields a value, in a world of its own. -/
theorem wpAnyZ_value (i : Nat) (d : Tmp) (v : Value) {oi : Oper} {fuel : Nat} {listed : Array Bool} {a : Act} {w w' : World} (hi : ops[i]? = some oi) (hd : oi.dst = some d) (hiz : i ≠ z)
    (hr : Region.ready md ops listed = [i]) (hw : Region.wanted oi (yielded ops a.tmps) = true) (hrun : (execOp a.eval oi).run P w = .ok (.value v) w') (hS : S w')
    (h : wpAnyZ P md ops Q S z fuel (listed.setIfInBounds i true) (a.put (some d) v) w') : wpAnyZ P md ops Q S z (fuel + 1) listed a w := by
  refine ⟨fun h0 => (by rw [hr] at h0; cases h0), fun j hj => ?_⟩
  rw [hr] at hj
  obtain rfl : j = i := by simpa using hj
  unfold wpOp
  simp only [hi, hw, if_true, if_neg hiz]
  left
  unfold Oper.wp
  rw [hrun, Oper.upon_value, hd]
  exact ⟨hS, h⟩

/-- The last operation is a call; behind it all have come up. -/
theorem wpAnyZ_last (d : Tmp) (f : FuncId) (args : Array Value) {oi : Oper} {fuel : Nat} {listed : Array Bool} {a : Act} {w : World} (hi : ops[z]? = some oi) (hd : oi.dst = some d)
    (hr : Region.ready md ops listed = [z]) (hr' : Region.ready md ops (listed.setIfInBounds z true) = []) (hw : Region.wanted oi (yielded ops a.tmps) = true) (hrun : (execOp a.eval oi).run P w = .ok (.enter f args) w)
    (hc : Calls P f args w fun e w'' => ∃ v, e = .returned v ∧ Q .normal (a.put (some d) v) w'') : wpAnyZ P md ops Q S z (fuel + 1) listed a w := by
  refine ⟨fun h0 => (by rw [hr] at h0; cases h0), fun j hj => ?_⟩
  rw [hr] at hj
  obtain rfl : j = z := by simpa using hj
  unfold wpOp
  simp only [hi, hw, if_true]
  left
  unfold Oper.wp
  rw [hrun, Oper.upon_enter]
  refine hc.mono fun e w'' hh => ?_
  obtain ⟨v, rfl, h⟩ := hh
  rw [hd]
  exact wpAny_done hr' h _

/-- The last operation, whatever it is; behind it all have come up. -/
theorem wpAnyZ_end {oi : Oper} {fuel : Nat} {listed : Array Bool} {a : Act} {w : World} (hi : ops[z]? = some oi)
    (hr : Region.ready md ops listed = [z]) (hr' : Region.ready md ops (listed.setIfInBounds z true) = []) (hw : Region.wanted oi (yielded ops a.tmps) = true) (h : oi.wp P a w (fun a' w' => Q .normal a' w') Q) : wpAnyZ P md ops Q S z (fuel + 1) listed a w := by
  refine ⟨fun h0 => (by rw [hr] at h0; cases h0), fun j hj => ?_⟩
  rw [hr] at hj
  obtain rfl : j = z := by simpa using hj
  unfold wpOp
  simp only [hi, hw, if_true]
  left
  exact Oper.wp_mono (fun a' w' h' => wpAny_done hr' h' _) h

theorem wp_region_z (z : Nat) (S : World → Prop) {id : Nat} {a : Act} {w : World} (hm : P.follows .mixedOrders = true)
    (h : wpAnyZ P .any ops Q S z ops.size (Array.replicate ops.size false) a { w with drawn := w.drawn + 1 }) : (Code.region id ops true).wp P Q a w :=
  wp_region_any hm (wpAny_of_z _ _ _ _ h)

/-- Only the way on. -/
def OnlyN (Q : Exit → Act → World → Prop) : Exit → Act → World → Prop
  | .normal, a, w => Q .normal a w
  | _, _, _ => False

theorem onlyN_normal {Q : Exit → Act → World → Prop} {a : Act} {w : World} : OnlyN Q .normal a w = Q .normal a w := rfl

theorem wp_only {c : Code} {a : Act} {w : World} (h : c.wp P (OnlyN Q) a w) : c.wp P Q a w := wp_mono h fun e _ _ h => by cases e <;> first | exact h | exact h.elim

end

end Go.Proofs.YtamfcmmhmfhhkaaGreatDoor

namespace Go.Proofs.YtamfcmmhmfhhkaaGreatDoor
open Go.RowKit

/-- Outside of the blocks S nothing that was there has turned. -/
structure Touch (S : Nat → Prop) (w w' : World) : Prop where
  os : w'.os = w.os
  tape : w'.tape = w.tape
  output : w'.output = w.output
  size : w.heap.size ≤ w'.heap.size
  block : ∀ k, k < w.heap.size → ¬ S k → w'.heap[k]? = w.heap[k]?

theorem Touch.refl (S : Nat → Prop) (w : World) : Touch S w w := ⟨rfl, rfl, rfl, Nat.le_refl _, fun _ _ _ => rfl⟩

theorem Touch.trans {S S' : Nat → Prop} {a b c : World} (h : Touch S a b) (g : Touch S' b c) (hS : ∀ k, k < a.heap.size → S' k → S k) : Touch S a c :=
  ⟨g.os.trans h.os, g.tape.trans h.tape, g.output.trans h.output, Nat.le_trans h.size g.size, fun k hk hn => (g.block k (Nat.lt_of_lt_of_le hk h.size) (fun s => hn (hS k hk s))).trans (h.block k hk hn)⟩

theorem Touch.mono {S S' : Nat → Prop} {a b : World} (h : Touch S a b) (hS : ∀ k, k < a.heap.size → S k → S' k) : Touch S' a b :=
  ⟨h.os, h.tape, h.output, h.size, fun k hk hn => h.block k hk (fun s => hn (hS k hk s))⟩

theorem Touch.alloc {S : Nat → Prop} {a w : World} (h : Touch S a w) (o : Obj) : Touch S a (w.alloc o) :=
  ⟨h.os, h.tape, h.output, Nat.le_trans h.size (by simp), fun k hk hn => (Below.heap_alloc w o k (Nat.lt_of_lt_of_le hk h.size)).trans (h.block k hk hn)⟩

theorem Touch.drew {S : Nat → Prop} {a w : World} (h : Touch S a w) : Touch S a w.drew := ⟨h.os, h.tape, h.output, h.size, h.block⟩

theorem Touch.setCell {S : Nat → Prop} {a w : World} (h : Touch S a w) {p : Addr} (hp : p.block < a.heap.size → S p.block) (u : Value) : Touch S a (w.setCell p u) :=
  ⟨h.os, h.tape, h.output, by simpa using h.size, fun k hk hn => (Below.heap_setCell w p u k (fun e => hn (by subst e; exact hp hk))).trans (h.block k hk hn)⟩

theorem Touch.cell {S : Nat → Prop} {w w' : World} (h : Touch S w w') {p : Addr} (hp : p.block < w.heap.size) (hn : ¬ S p.block) : w'.cell? p = w.cell? p := World.cell?_of_block (w := w) (h.block p.block hp hn)
theorem Touch.frozen {S : Nat → Prop} {w w' : World} (h : Touch S w w') {p : Addr} (hp : p.block < w.heap.size) (hn : ¬ S p.block) : w'.frozen? p = w.frozen? p := World.frozen?_of_block (w := w) (h.block p.block hp hn)

theorem Touch.below {S : Nat → Prop} {w w' : World} (h : Touch S w w') (hS : ∀ k, k < w.heap.size → ¬ S k) : Below w.heap.size w w' :=
  ⟨h.os, h.tape, h.output, h.size, fun k hk => h.block k hk (hS k hk)⟩

theorem Touch.of_grownBy {w w' : World} {row : Option Nat} (h : w.grownBy w' row) : Touch (fun k => row = some k) w w' :=
  ⟨h.os, h.tape, h.output, h.size, fun k hk hn => h.block k hk (fun e => hn e.symm)⟩

theorem Touch.of_below {B : Nat} {w w' : World} (h : Below B w w') : Touch (fun k => B ≤ k) w w' :=
  ⟨h.os, h.tape, h.output, h.size, fun k _ hn => h.block k (by omega)⟩

/-- The one cell of a new block. -/
theorem cell_new (w : World) (u : Value) (t : TypeId) : (w.alloc (.cells #[u] t)).cell? ⟨w.heap.size, 0, none⟩ = some u := by simp

/-- A slice value that owns its row of integers. -/
def Row (w : World) (e : TypeId) (k : IntKind) (v : Value) (xs : List Int) : Prop := w.ownsRow 0 e 1 v xs.length (xs.map (Value.int k))

theorem Row.nil (w : World) (e : TypeId) (k : IntKind) : Row w e k (.slice none 0 0) [] := World.ownsRow_nil w 0 e 1

/-- Its form. -/
theorem Row.form {w : World} {e : TypeId} {k : IntKind} {v : Value} {xs : List Int} (h : Row w e k v xs) :
    (v = .slice none 0 0 ∧ xs = []) ∨ ∃ g cap cur, v = .slice (some ⟨g, 0, none⟩) xs.length cap ∧ w.heap[g]? = some (.cells cur e (0, 0)) ∧ xs.length ≤ cap ∧ cap ≤ maxLen ∧ cur.size = cap ∧ cur.toList.take xs.length = xs.map (Value.int k) := by
  rcases h.2 with ⟨a, b⟩ | ⟨g, cap, cur, a, _, b, c, d, f, i⟩
  · exact .inl ⟨a, List.eq_nil_of_length_eq_zero b⟩
  · exact .inr ⟨g, cap, cur, a, b, c, d, by simpa using f, by simpa using i⟩

theorem Row.shape {w : World} {e : TypeId} {k : IntKind} {v : Value} {xs : List Int} (h : Row w e k v xs) : ∃ ao n cap, v = .slice ao n cap := by
  rcases h.form with ⟨rfl, _⟩ | ⟨g, cap, cur, rfl, _⟩
  · exact ⟨_, _, _, rfl⟩
  · exact ⟨_, _, _, rfl⟩

theorem Row.len {w : World} {e : TypeId} {k : IntKind} {ao : Option Addr} {n cap : Nat} {xs : List Int} (h : Row w e k (.slice ao n cap) xs) : n = xs.length := by
  rcases h.form with ⟨hv, hx⟩ | ⟨g, cap, cur, hv, _⟩
  · injection hv with _ h2 _; rw [h2, hx]; rfl
  · injection hv

theorem Row.mk {w : World} {e : TypeId} {k : IntKind} {xs : List Int} {g cap : Nat} {cur : Array Value} (b : w.heap[g]? = some (.cells cur e (0, 0))) (c : xs.length ≤ cap) (d : cap ≤ maxLen) (f : cur.size = cap) (i : cur.toList.take xs.length = xs.map (Value.int k)) :
    Row w e k (.slice (some ⟨g, 0, none⟩) xs.length cap) xs :=
  ⟨by simp, .inr ⟨g, cap, cur, rfl, Nat.zero_le _, b, c, d, by simpa using f, by simpa using i⟩⟩

theorem Row.lt {w : World} {e : TypeId} {k : IntKind} {v : Value} {xs : List Int} (h : Row w e k v xs) {g : Nat} (hg : v.ownBlock = some g) : g < w.heap.size := (World.ownsRow.lt h g hg).2

theorem Row.block {w : World} {e : TypeId} {k : IntKind} {v : Value} {xs : List Int} (h : Row w e k v xs) {g : Nat} (hg : v.ownBlock = some g) : ∃ cur, w.heap[g]? = some (.cells cur e (0, 0)) := by
  rcases h.form with ⟨rfl, _⟩ | ⟨g', cap, cur, rfl, hb, _⟩
  · simp [Value.ownBlock] at hg
  · simp [Value.ownBlock] at hg; subst hg; exact ⟨cur, hb⟩

/-- It stays where its block stays. -/
theorem Row.stays {w w' : World} {e : TypeId} {k : IntKind} {v : Value} {xs : List Int} (h : Row w e k v xs) (hb : ∀ g, v.ownBlock = some g → w'.heap[g]? = w.heap[g]?) : Row w' e k v xs := by
  rcases h.form with ⟨rfl, rfl⟩ | ⟨g, cap, cur, rfl, hg, a, b, c, d⟩
  · exact Row.nil _ _ _
  · exact Row.mk ((hb g rfl).trans hg) a b c d

theorem Row.touch {S : Nat → Prop} {w w' : World} {e : TypeId} {k : IntKind} {v : Value} {xs : List Int} (h : Row w e k v xs) (ht : Touch S w w') (hn : ∀ g, v.ownBlock = some g → ¬ S g) : Row w' e k v xs :=
  h.stays fun g hg => ht.block g (h.lt hg) (hn g hg)

theorem Row.alloc {w : World} {e : TypeId} {k : IntKind} {v : Value} {xs : List Int} (h : Row w e k v xs) (o : Obj) : Row (w.alloc o) e k v xs := World.ownsRow.alloc h o

theorem Row.drew {w : World} {e : TypeId} {k : IntKind} {v : Value} {xs : List Int} (h : Row w e k v xs) : Row w.drew e k v xs := h.stays fun _ _ => rfl

/-- The cell of element j. -/
theorem Row.cell {w : World} {e : TypeId} {k : IntKind} {xs : List Int} {g n cap : Nat} (h : Row w e k (.slice (some ⟨g, 0, none⟩) n cap) xs) (j : Nat) (hj : j < xs.length) : w.cell? ⟨g, j, none⟩ = some (.int k xs[j]) := by
  have := World.ownsRow.cells h (g := g) rfl j (.int k xs[j]) (by simp [hj])
  rw [Addr.add_lit] at this; simpa using this

/-- A slice whose elements can be read; of an empty one nothing is asked. -/
structure Seg (w : World) (k : IntKind) (ao : Option Addr) (xs : List Int) : Prop where
  none : ao = .none → xs = []
  spot : ∀ a, ao = some a → xs ≠ [] → a.spot = .none
  cell : ∀ a, ao = some a → ∀ j (hj : j < xs.length), w.cell? (a.add j) = some (.int k xs[j])

theorem Seg.touch {S : Nat → Prop} {w w' : World} {k : IntKind} {ao : Option Addr} {xs : List Int} (h : Seg w k ao xs) (ht : Touch S w w') (hn : ∀ a, ao = some a → ¬ S a.block) : Seg w' k ao xs := by
  refine ⟨h.none, h.spot, fun a ha j hj => ?_⟩
  have hc := h.cell a ha j hj
  have hb : (a.add j).block = a.block := by simp [Addr.add]; split <;> simp
  have hlt : a.block < w.heap.size := by
    rcases Nat.lt_or_ge a.block w.heap.size with h | h
    · exact h
    · exfalso; rw [← hb] at h; simp [World.cell?, Array.getElem?_eq_none h] at hc
  rw [ht.cell (by rw [hb]; exact hlt) (by rw [hb]; exact hn a ha)]
  exact hc

theorem Seg.alloc {w : World} {k : IntKind} {ao : Option Addr} {xs : List Int} (h : Seg w k ao xs) (o : Obj) : Seg (w.alloc o) k ao xs := h.touch ((Touch.refl (fun _ => False) w).alloc o) (fun _ _ h => h)

theorem Seg.addr {w : World} {k : IntKind} {ao : Option Addr} {xs : List Int} (h : Seg w k ao xs) (hx : 0 < xs.length) : ∃ b off, ao = .some ⟨b, off, .none⟩ := by
  cases ao with
  | none => rw [h.none rfl] at hx; cases hx
  | some a =>
    have := h.spot a rfl (fun e => by rw [e] at hx; cases hx)
    obtain ⟨b, off, s⟩ := a
    simp at this; subst this
    exact ⟨b, off, rfl⟩

theorem Seg.at {w : World} {k : IntKind} {b off : Nat} {xs : List Int} (h : Seg w k (.some ⟨b, off, .none⟩) xs) (j : Nat) (hj : j < xs.length) : w.cell? ⟨b, off + j, .none⟩ = .some (.int k (xs.getD j 0)) := by
  have := h.cell _ rfl j hj
  rw [Addr.add_lit] at this
  rw [this, List.getD_eq_getElem?_getD, List.getElem?_eq_getElem hj]; rfl

theorem Seg.of_row {w : World} {e : TypeId} {k : IntKind} {ao : Option Addr} {n cap : Nat} {xs : List Int} (h : Row w e k (.slice ao n cap) xs) : Seg w k ao xs := by
  rcases h.form with ⟨hv, hx⟩ | ⟨g, cap', cur, hv, hc, _⟩
  · injection hv with h1 h2 h3
    subst h1
    exact ⟨fun _ => hx, fun _ ha => (nomatch ha), fun _ ha => (nomatch ha)⟩
  · injection hv with h1 h2 h3
    subst h1
    refine ⟨fun h => (nomatch h), fun a ha _ => (by injection ha with ha; subst ha; rfl), fun a ha j hj => ?_⟩
    injection ha with ha; subst ha
    rw [Addr.add_lit, Nat.zero_add]
    exact h.cell j hj

/-- Where an append may have put the row: it stays, or it is new. -/
def Fresh (w : World) (v v' : Value) : Prop := v'.ownBlock = v.ownBlock ∨ ∃ g, v'.ownBlock = some g ∧ w.heap.size ≤ g

/-- What an append, or a row of them, does. -/
structure Grew (w : World) (v : Value) (w' : World) (v' : Value) : Prop where
  touch : Touch (fun k => v.ownBlock = some k) w w'
  fresh : Fresh w v v'

theorem Grew.refl (w : World) (v : Value) : Grew w v w v := ⟨Touch.refl _ _, .inl rfl⟩

theorem Grew.trans {a b c : World} {u v x : Value} (h : Grew a u b v) (g : Grew b v c x) : Grew a u c x := by
  refine ⟨h.touch.trans g.touch fun k hk hv => ?_, ?_⟩
  · rcases h.fresh with e | ⟨n, e, hn⟩
    · rw [e] at hv; exact hv
    · rw [e] at hv; simp at hv; omega
  · rcases g.fresh with e | ⟨n, e, hn⟩
    · rcases h.fresh with e' | ⟨m, e', hm⟩
      · exact .inl (e.trans e')
      · exact .inr ⟨m, e.trans e', hm⟩
    · exact .inr ⟨n, e, Nat.le_trans h.touch.size hn⟩

theorem Grew.alloc {a w : World} {u v : Value} (h : Grew a u w v) (o : Obj) : Grew a u (w.alloc o) v := ⟨h.touch.alloc o, h.fresh⟩

theorem lt_of_cell {w : World} {b o : Nat} {v : Value} (h : w.cell? ⟨b, o, none⟩ = some v) : b < w.heap.size := by
  rcases Nat.lt_or_ge b w.heap.size with g | g
  · exact g
  · exfalso; simp [World.cell?, Array.getElem?_eq_none g] at h

theorem drew_grew {w w' : World} {v v' : Value} (h : Grew w.drew v w' v') : Grew w v w' v' :=
  ⟨((Touch.refl _ w).drew).trans h.touch fun _ _ k => k, h.fresh⟩

theorem hide {p : Prop} (h : p) : Hid p := h

theorem ret_int {k : IntKind} {a b : Int} (h : a = b) : Ending.returned (.int k a) = .returned (.int k b) := by rw [h]

/-- The ending of a call that hands back a grown row. -/
def RetRow (e : TypeId) (k : IntKind) (w : World) (v : Value) (xs : List Int) (r : Ending) (w' : World) : Prop :=
  ∃ ao n cap, r = .returned (.slice ao n cap) ∧ Row w' e k (.slice ao n cap) xs ∧ Grew w v w' (.slice ao n cap)

/-- A grown row in a slot. -/
def RowG (e : TypeId) (k : IntKind) (w : World) (v : Value) (xs : List Int) (u : Value) (w' : World) : Prop :=
  ∃ ao n cap, u = .slice ao n cap ∧ Row w' e k (.slice ao n cap) xs ∧ Grew w v w' (.slice ao n cap)

theorem RetRow.mk {e : TypeId} {k : IntKind} {w : World} {v : Value} {xs : List Int} {w' : World} {v' : Value} (h : Row w' e k v' xs) (hg : Grew w v w' v') : RetRow e k w v xs (.returned v') w' := by
  obtain ⟨ao, n, cap, rfl⟩ := h.shape
  exact ⟨ao, n, cap, rfl, h, hg⟩

section
variable {P : Program}

/-- 'append' of whatever source onto an owned row. -/
theorem run_append_row (w : World) (t tx ty e : TypeId) (i : TypeInfo) (z : Value) (k : IntKind) (bytes : Nat) (ht : P.underlying t = some (.slice e)) (hi : P.info? e = some i) (hz : i.zero = some z)
    (hsize : i.size = 1) (hby : i.bytes = bytes) (hzs : z.cells.size = 1) (v : Value) (xs : List Int) (hown : Row w e k v xs) (x : Value) (news : List Int) (hs : Src P 1 tx x news.length (news.map (Value.int k)) w)
    (h63 : xs.length + news.length ≤ maxLen) (hbytes : (xs.length + news.length) * bytes ≤ 140737488355328) :
    ∃ v' w', (Builtin.append_ #[t, tx] ty #[v, x]).run P w = .ok v' w' ∧ Row w' e k v' (xs ++ news) ∧ Grew w v w' v' := by
  have hsmall : xs.length + news.length ≤ 9223372036854775807 := by simp only [maxLen] at h63; omega
  have grown : ∀ (old : Nat) (v : Value), old < xs.length + news.length →
      Row (w.drew.alloc (.cells ((xs.map (Value.int k) ++ news.map (Value.int k)).toArray ++ Builtin.zeroCells z.cells (grownCap w (xs.length + news.length) old e - (xs.length + news.length))) e)) e k
        (.slice (some ⟨w.heap.size, 0, none⟩) (xs.length + news.length) (grownCap w (xs.length + news.length) old e)) (xs ++ news) ∧
      Grew w v (w.drew.alloc (.cells ((xs.map (Value.int k) ++ news.map (Value.int k)).toArray ++ Builtin.zeroCells z.cells (grownCap w (xs.length + news.length) old e - (xs.length + news.length))) e))
        (.slice (some ⟨w.heap.size, 0, none⟩) (xs.length + news.length) (grownCap w (xs.length + news.length) old e)) := by
    intro old v ho
    have hge := grownCap_ge w (xs.length + news.length) old e
    have hcm : grownCap w (xs.length + news.length) old e ≤ maxLen := grownCap_le_maxLen w (xs.length + news.length) old e h63
    refine ⟨?_, ?_⟩
    · have hl : (xs ++ news).length = xs.length + news.length := List.length_append
      rw [← hl] at hge hcm ⊢
      refine Row.mk (heap_alloc_new w.drew _) hge hcm ?_ ?_
      · simp only [Array.size_append, List.size_toArray, size_zeroCells, hzs, List.length_append, List.length_map]
        simp only [List.length_append] at hge
        omega
      · simp only [Array.toList_append, ← List.map_append]
        rw [List.take_append_of_le_length (by simp)]
        rw [List.take_of_length_le (by simp)]
    · exact ⟨(Touch.refl _ w).drew.alloc _, .inr ⟨w.heap.size, rfl, Nat.le_refl _⟩⟩
  rcases hown.form with ⟨rfl, rfl⟩ | ⟨g, cap, cur, rfl, hg, hnc, hcm, hcs, htake⟩
  · by_cases hm : news = []
    · subst hm
      refine ⟨.slice none 0 0, w, ?_, by simpa using Row.nil w e k, Grew.refl _ _⟩
      have h1 := hs.len
      have h2 := hs.cells
      simp only [List.length_nil, List.map_nil] at h1 h2
      rcases hs.kind with ⟨e', hk⟩ | hk <;> simp [Builtin.append_, run_underlying ht, run_underlying hk, sizeOf, typeInfo, hi, h1, hsize, h2]
    · have hpos : 0 < news.length := List.length_pos_iff.2 hm
      have hr := run_append_grow_src (P := P) w t tx ty e i z ht hi hz none 0 0 [] (by rw [hsize]; exact run_firstCells_none w.drew 1 0 0 0) x news.length (news.map (Value.int k)) (by rw [hsize]; exact hs) (by omega) (by simp at hsmall; omega) (by rw [hby]; exact growslice_fits (by omega) (by simpa using hbytes))
      have hgr := grown 0 (.slice none 0 0) (by simpa using hpos)
      simp only [Nat.zero_add, List.nil_append, List.length_nil, List.map_nil] at hgr hr ⊢
      exact ⟨_, _, hr, hgr.1, hgr.2⟩
  · by_cases hroom : xs.length + news.length ≤ cap
    · have hst := run_storeCells_at P g xs.length e (news.map (Value.int k)) 0 cur w hg (by simp; omega) (by intro u hu; obtain ⟨_, _, rfl⟩ := List.mem_map.1 hu; rfl)
      simp only [Nat.add_zero] at hst
      have h1 := hs.len
      have h2 := hs.cells
      refine ⟨.slice (some ⟨g, 0, none⟩) (xs.length + news.length) cap, w.setRow g (cur.toList.take xs.length ++ news.map (Value.int k) ++ cur.toList.drop (xs.length + (news.map (Value.int k)).length)).toArray, ?_, ?_, ⟨⟨rfl, rfl, rfl, by simp, fun j _ hj => setRow_other w g j _ (fun e => hj (by simp [Value.ownBlock, e]))⟩, .inl rfl⟩⟩
      · rcases hs.kind with ⟨e', hk⟩ | hk <;> simp [Builtin.append_, run_underlying ht, run_underlying hk, sizeOf, typeInfo, hi, hroom, h1, hsize, h2, Addr.add_lit, hst]
      · rw [← List.length_append]
        refine Row.mk (setRow_heap w g cur _ e _ hg) (by simpa using hroom) hcm ?_ ?_
        · simp; omega
        · rw [htake, ← List.map_append]
          rw [List.toList_toArray, List.take_append_of_le_length (by simp), List.take_of_length_le (by simp)]
    · have hr := run_append_grow_src (P := P) w t tx ty e i z ht hi hz (some ⟨g, 0, none⟩) xs.length cap (xs.map (Value.int k)) (by rw [hsize]; exact run_firstCells_some w.drew 1 xs.length ⟨g, 0, none⟩ xs.length cap _ (by simp) (by simpa using World.ownsRow.cells hown (g := g) rfl)) x news.length (news.map (Value.int k)) (by rw [hsize]; exact hs) (by omega) (by omega) (by rw [hby]; exact growslice_fits (by omega) hbytes)
      have hgr := grown cap (.slice (some ⟨g, 0, none⟩) xs.length cap) (by omega)
      exact ⟨_, _, hr, hgr.1, hgr.2⟩

theorem wpList_append_row (w : World) {ops : Array Oper} {rest : List Oper} {o : Oper} {a : Act} {Q : Exit → Act → World → Prop} (hgd : o.guard = none) (s x : Operand) (t tx : TypeId)
    (ho : o.op = .call { callee := .builtin .append, args := #[s, x], argTypes := #[t, tx] })
    (e : TypeId) (i : TypeInfo) (z : Value) (k : IntKind) (bytes : Nat) (ht : P.underlying t = some (.slice e)) (hi : P.info? e = some i) (hz : i.zero = some z)
    (hsize : i.size = 1) (hby : i.bytes = bytes) (hzs : z.cells.size = 1) (v : Value) (xs : List Int) (hv : a.eval s = v) (hown : Row w e k v xs) (y : Value) (news : List Int) (hy : a.eval x = y) (hs : Src P 1 tx y news.length (news.map (Value.int k)) w)
    (h63 : xs.length + news.length ≤ maxLen) (hbytes : (xs.length + news.length) * bytes ≤ 140737488355328)
    (h : ∀ ao n cap w', Row w' e k (.slice ao n cap) (xs ++ news) → Grew w v w' (.slice ao n cap) → wpList P ops Q rest (a.put o.dst (.slice ao n cap)) w') : wpList P ops Q (o :: rest) a w :=
  wpList_plain hgd fun K hK => by
    obtain ⟨v', w', hr, h2, h3⟩ := run_append_row (P := P) w t tx o.type e i z k bytes ht hi hz hsize hby hzs v xs hown y news hs h63 hbytes
    obtain ⟨ao, n, cap, rfl⟩ := h2.shape
    unfold Oper.wp execOp
    simp only [ho, resolve, invoke, builtin, Sem.run_bind, Sem.run_pure, Result.andThen_ok, List.map_toArray, List.map_cons, List.map_nil, hv, hy, hr]
    exact hK _ _ (h ao n cap w' h2 h3)

/-- The same as one step of a region that draws its order. -/
theorem step_append_row {w : World} {ops : Array Oper} {o : Oper} {a : Act} {K : Act → World → Prop} {Q : Exit → Act → World → Prop} {E : Prop} (hgd : o.guard = none) (s x : Operand) (t tx : TypeId)
    (ho : o.op = .call { callee := .builtin .append, args := #[s, x], argTypes := #[t, tx] })
    (e : TypeId) (i : TypeInfo) (z : Value) (k : IntKind) (bytes : Nat) (ht : P.underlying t = some (.slice e)) (hi : P.info? e = some i) (hz : i.zero = some z)
    (hsize : i.size = 1) (hby : i.bytes = bytes) (hzs : z.cells.size = 1) (v : Value) (xs : List Int) (hv : a.eval s = v) (hown : Row w e k v xs) (y : Value) (news : List Int) (hy : a.eval x = y) (hs : Src P 1 tx y news.length (news.map (Value.int k)) w)
    (h63 : xs.length + news.length ≤ maxLen) (hbytes : (xs.length + news.length) * bytes ≤ 140737488355328)
    (h : ∀ ao n cap w', Row w' e k (.slice ao n cap) (xs ++ news) → Grew w v w' (.slice ao n cap) → K (a.put o.dst (.slice ao n cap)) w') :
    if Region.wanted o (yielded ops a.tmps) = true then Oper.wp P o a w K Q else E := by
  have hw : Region.wanted o (yielded ops a.tmps) = true := by simp [Region.wanted, hgd]
  rw [if_pos hw]
  obtain ⟨v', w', hr, h2, h3⟩ := run_append_row (P := P) w t tx o.type e i z k bytes ht hi hz hsize hby hzs v xs hown y news hs h63 hbytes
  obtain ⟨ao, n, cap, rfl⟩ := h2.shape
  unfold Oper.wp execOp
  simp only [ho, resolve, invoke, builtin, Sem.run_bind, Sem.run_pure, Result.andThen_ok, List.map_toArray, List.map_cons, List.map_nil, hv, hy, hr]
  exact h ao n cap w' h2 h3

/-- Such a slice, as a source. -/
theorem Seg.src {tx e' : TypeId} (hk : P.underlying tx = some (.slice e')) {w : World} {k : IntKind} {ao : Option Addr} {xs : List Int} (h : Seg w k ao xs) (cap : Nat) : Src P 1 tx (.slice ao xs.length cap) xs.length (xs.map (Value.int k)) w := by
  cases ao with
  | none => rw [h.none rfl]; exact Src.ofNil w hk cap
  | some a =>
    refine Src.ofSlice w hk a xs.length cap _ (by simp) (fun j u hu => ?_) (by intro u hu; obtain ⟨_, _, rfl⟩ := List.mem_map.1 hu; rfl)
    have hj : j < xs.length := by
      have := (List.getElem?_eq_some_iff.1 hu).1
      simpa using this
    rw [h.cell a rfl j hj]
    simpa [hj] using hu

/-- A string's bytes as integers. -/
def bytesOf (s : ByteArray) : List Int := s.data.toList.map fun b => (b.toNat : Int)

theorem bytesOf_length (s : ByteArray) : (bytesOf s).length = s.size := by
  unfold bytesOf; rw [List.length_map, Array.length_toList]; rfl

theorem src_string {tx : TypeId} (hk : P.underlying tx = some .string) (s : ByteArray) (w : World) : Src P 1 tx (.string s) (bytesOf s).length ((bytesOf s).map (Value.int .u8)) w := by
  have h := Src.ofString (P := P) w hk s
  have e : byteCells s = (bytesOf s).map (Value.int .u8) := by unfold byteCells bytesOf; rw [List.map_map]; rfl
  rw [e] at h
  rw [bytesOf_length]
  exact h

/-- New integers in a block of their own, as a source. -/
theorem src_new {tx e' : TypeId} (hk : P.underlying tx = some (.slice e')) (w : World) (k : IntKind) (xs : List Int) (e : TypeId) : Src P 1 tx (.slice (some ⟨w.heap.size, 0, none⟩) xs.length xs.length) xs.length (xs.map (Value.int k)) (w.alloc (.cells (xs.map (Value.int k)).toArray e)) :=
  Src.ofSlice _ hk _ _ _ _ (by simp) (by intro j u hu; rw [Addr.add_lit]; simpa using hu) (by intro u hu; obtain ⟨_, _, rfl⟩ := List.mem_map.1 hu; rfl)

theorem src_four {tx e' : TypeId} (hk : P.underlying tx = some (.slice e')) (w : World) (k : IntKind) (a b c d : Int) (e : TypeId) : Src P 1 tx (.slice (some ⟨w.heap.size, 0, none⟩) 4 4) [a, b, c, d].length ([a, b, c, d].map (Value.int k)) (w.alloc (.cells #[.int k a, .int k b, .int k c, .int k d] e)) := src_new hk w k [a, b, c, d] e

/-- One new integer in a block of its own, as a source. -/
theorem src_one {tx e' : TypeId} (hk : P.underlying tx = some (.slice e')) (w : World) (k : IntKind) (x : Int) (e : TypeId) : Src P 1 tx (.slice (some ⟨w.heap.size, 0, none⟩) 1 1) [x].length ([x].map (Value.int k)) (w.alloc (.cells #[.int k x] e)) :=
  Src.ofSlice _ hk _ 1 1 _ (by simp) (cell_one_new _ _ _) (by intro u hu; simp at hu; subst hu; rfl)
end

end Go.Proofs.YtamfcmmhmfhhkaaGreatDoor

namespace Go.Proofs.YtamfcmmhmfhhkaaGreatDoor
open Go.RowKit

theorem lt_of_heap {w : World} {g : Nat} {o : Obj} (h : w.heap[g]? = some o) : g < w.heap.size := (Array.getElem?_eq_some_iff.1 h).1

theorem Touch.heap {S : Nat → Prop} {w w' : World} (ht : Touch S w w') {g : Nat} {o : Obj} (h : w.heap[g]? = some o) (hn : ¬ S g) : w'.heap[g]? = some o := (ht.block g (lt_of_heap h) hn).trans h

theorem tags {w : World} {g h : Nat} {c c' : Array Value} {t t' : TypeId} {f f' : Nat × Nat} (a : w.heap[g]? = some (.cells c t f)) (b : w.heap[h]? = some (.cells c' t' f')) (ht : t ≠ t') : g ≠ h := by
  intro e; subst e; rw [a] at b; injection b with b; injection b with _ h2 _; exact ht h2

theorem heap_setCell_row {w : World} {g i : Nat} {c : Array Value} {t : TypeId} {fr : Nat × Nat} (h : w.heap[g]? = some (.cells c t fr)) (v : Value) : (w.setCell ⟨g, i, none⟩ v).heap[g]? = some (.cells (c.setIfInBounds i v) t fr) := by
  have hg : g < w.heap.size := (Array.getElem?_eq_some_iff.1 h).1
  have hv : w.heap[g] = .cells c t fr := (Array.getElem?_eq_some_iff.1 h).2
  simp [World.setCell, hg, Array.getElem_modify, hv]

theorem set_one {W : World} {B : Nat} {t : TypeId} {v : Value} (v' : Value) (h : W.heap[B]? = some (.cells #[v] t (0, 0))) : (W.setCell ⟨B, 0, none⟩ v').heap[B]? = some (.cells #[v'] t (0, 0)) := by
  have := heap_setCell_row (i := 0) h v'
  simpa using this

theorem one_cell {W : World} {B : Nat} {t : TypeId} {v : Value} (h : W.heap[B]? = some (.cells #[v] t (0, 0))) : W.cell? ⟨B, 0, none⟩ = some v ∧ W.frozen? ⟨B, 0, none⟩ = false := by simp [World.cell?, World.frozen?, h]

theorem cells2 {w : World} {b : Nat} {u v : Value} {t : TypeId} (h : w.heap[b]? = some (.cells #[u, v] t (0, 0))) : w.cell? ⟨b, 0, none⟩ = some u ∧ w.cell? ⟨b, 1, none⟩ = some v := by simp [World.cell?, h]

theorem cells5 {w : World} {b : Nat} {u v x y z : Value} {t : TypeId} (h : w.heap[b]? = some (.cells #[u, v, x, y, z] t (0, 0))) :
    w.cell? ⟨b, 0, none⟩ = some u ∧ w.cell? ⟨b, 1, none⟩ = some v ∧ w.cell? ⟨b, 2, none⟩ = some x ∧ w.cell? ⟨b, 3, none⟩ = some y ∧ w.cell? ⟨b, 4, none⟩ = some z := by simp [World.cell?, h]

theorem Touch.drewN {S : Nat → Prop} {a w : World} (h : Touch S a w) (n : Nat) : Touch S a (w.drewN n) := ⟨h.os, h.tape, h.output, h.size, h.block⟩

/-- Nothing that was there has turned. -/
abbrev Calm (w w' : World) : Prop := Touch (fun _ => False) w w'

theorem Touch.tr {a b c : World} (h : Calm a b) (g : Calm b c) : Calm a c := Touch.trans h g fun _ _ h => h

theorem Touch.at {w w' : World} (h : Calm w w') {g : Nat} {o : Obj} (hg : w.heap[g]? = some o) : w'.heap[g]? = some o := Touch.heap h hg fun h => h

theorem wrapEq (x : Int) : IntKind.i64.wrap x = wrap64 x := by rw [IntKind.wrap_i64]; unfold wrap64; omega

/-- A world in which only dice were drawn. -/
structure Alike (w w' : World) : Prop where
  os : w'.os = w.os
  tape : w'.tape = w.tape
  output : w'.output = w.output
  heap : w'.heap = w.heap

theorem Alike.calm {w w' : World} (h : Alike w w') : Calm w w' := ⟨h.os, h.tape, h.output, by rw [h.heap]; exact Nat.le_refl _, fun k _ _ => by rw [h.heap]⟩

end Go.Proofs.YtamfcmmhmfhhkaaGreatDoor
