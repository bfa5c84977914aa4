/- A region that draws its order, inside a fence that is wide, with an operation that hands a value over to a round. -/
import Derived.Test.YtcmigkemhoecfaaSLast
import Derived.Test.YtcmigkemhoecfaaSQuietR
import Derived.OrdersIn
namespace Go.Proofs.Ytcmigkemhoecfaa
open Go.RowKit

abbrev noQ : Exit → Act → World → Prop := plainly fun _ _ => False

/-- What may be said of an operation plainly may be said inside a wide fence. -/
theorem wp_in_wide {n : Nat} {P : Program} {o : Oper} {a : Act} {w : World} {K : Act → World → Prop} {G : Act → World → Prop} {Q : Exit → Act → World → Prop} (h : o.wp P a w K (plainly G)) : o.wpIn Fence.wide n P a w K Q := by
  unfold Oper.wp at h
  refine ⟨fun _ _ => trivial, ?_⟩
  rw [show Fence.wide.round = none from rfl, Oper.semAt_none]
  generalize (execOp a.eval o).run P w = r at *
  cases r with
  | ok x w' =>
    cases x with
    | enter f args =>
      simp only [Oper.upon] at h
      simp only [Oper.uponIn]
      refine ⟨fun h => (nomatch h), callsIn_wide.2 (h.mono fun e w'' he => ?_)⟩
      cases e with
      | returned v => exact he
      | panicked c => exact he.elim
      | outgrown => exact (plainly_out he).elim
    | row r args =>
      simp only [Oper.upon] at h
      simp only [Oper.uponIn]
      exact ⟨fun h => (nomatch h), fun c cs _ => by
        obtain ⟨v, w', h1, h2⟩ := h c cs
        exact ⟨v, w', h1, stepsIn_wide.2 h2⟩⟩
    | _ => simp only [Oper.upon, Oper.uponIn] at h ⊢ <;> first | exact h | exact h.elim
  | halt x w' => cases x <;> simp only [Oper.upon, plainly] at h

section
variable {P : Program} {ops : Array Oper} {Q : Exit → Act → World → Prop} {md : Region.Mode} {S : World → Prop} {z n : Nat}

/-- S holds behind every operation ahead of z; z goes on inside the fence. -/
def wpAnyY (n : Nat) (P : Program) (md : Region.Mode) (ops : Array Oper) (Q : Exit → Act → World → Prop) (S : World → Prop) (z : Nat) : Nat → Array Bool → Act → World → Prop
  | 0, _, _, _ => False
  | fuel + 1, listed, a, w => Region.ready md ops listed ≠ [] ∧
    ∀ i ∈ Region.ready md ops listed, if i = z then wpOpIn Fence.wide n P ops Q z (wpAnyIn Fence.wide n P md ops Q fuel (listed.setIfInBounds z true)) a w else wpOp P ops noQ i (fun a' w' => S w' ∧ wpAnyY n P md ops Q S z fuel (listed.setIfInBounds i true) a' w') a w

theorem wpAnyIn_of_y : ∀ (fuel : Nat) (listed : Array Bool) (a : Act) (w : World), wpAnyY n P md ops Q S z fuel listed a w → wpAnyIn Fence.wide n P md ops Q fuel listed a w
  | 0, _, _, _, h => h.elim
  | fuel + 1, listed, a, w, h => ⟨fun h0 => absurd h0 h.1, fun i hi => by
    have h1 := h.2 i hi
    by_cases hz : i = z
    · rw [if_pos hz] at h1
      subst hz
      exact h1
    · rw [if_neg hz] at h1
      unfold wpOp at h1
      unfold wpOpIn
      cases ho : ops[i]? with
      | none => rw [ho] at h1; exact wpAnyIn_of_y fuel _ a w h1.2
      | some o =>
        rw [ho] at h1
        simp only at h1 ⊢
        split
        · rename_i hw
          rw [if_pos hw] at h1
          rcases h1 with h1 | h1
          · exact wp_in_wide (Oper.wp_mono (fun a w h => wpAnyIn_of_y fuel _ a w h.2) h1)
          · exact (plainly_out h1.2).elim
        · rename_i hw
          rw [if_neg hw] at h1
          exact ⟨fun _ _ => trivial, wpAnyIn_of_y fuel _ _ w h1.2⟩⟩

theorem wpAnyY_first {i : Nat} {oi : Oper} {v : Value} (hi : ops[i]? = some oi) (hsel : ∀ (j : Nat) (o : Oper) cs b, ops[j]? = some o → o.op ≠ .select cs b)
    (l : List Nat) (hne : l ≠ []) (hc : chained md ops (i :: l) = true) (hlast : (i :: l).getLast? = some z) (hiz : i ≠ z) :
    ∀ (fuel : Nat) (listed : Array Bool) (a : Act) (w : World), Shut md ops listed →
      (∀ j oj, ops[j]? = some oj → j ≠ i → listed.getD j true = false → (∀ e ∈ oj.after, Region.binds md e = true → e.on ≠ i) → oi.apart ops oj = true) →
      i ∈ Region.ready md ops listed → YieldsIf P ops S oi v a → S w →
      wpAnyY n P md ops Q S z fuel (listed.setIfInBounds i true) (a.put oi.dst v) w → wpAnyY n P md ops Q S z (fuel + 1) listed a w := by
  intro fuel
  induction fuel with
  | zero =>
    intro listed a w _ _ _ _ _ H
    exact H.elim
  | succ fuel ih =>
    intro listed a w hsh hfree hr hy hS H
    refine ⟨fun h => (by rw [h] at hr; cases hr), fun j hj => ?_⟩
    have hjz : j ≠ i → j ≠ z := fun hji e => not_ready hsh l i (getD_flip (mem_ready.1 hr).1) hc hne hlast (e ▸ hj)
    by_cases hji : j = i
    · subst hji
      rw [if_neg hiz]
      exact hy.wpOp hi hS ⟨hS, H⟩
    · rw [if_neg (hjz hji)]
      have h1 := H.2 j (ready_mono hj hji)
      rw [if_neg (hjz hji)] at h1
      obtain ⟨hjun, oj, hoj, hall⟩ := mem_ready.1 hj
      have hnot : ∀ e ∈ oj.after, Region.binds md e = true → e.on ≠ i := fun e he hb heq => by
        have h1 := hall e he hb
        have h0 := getD_flip (mem_ready.1 hr).1
        rw [heq, h0] at h1
        cases h1
      have h2 := wpOp_putIf hoj (hfree j oj hoj hji hjun hnot) (fun cs b => hsel i oi cs b hi) (fun cs b => hsel j oj cs b hoj) (fun _ _ _ h => h) hy h1
      have hfree' : ∀ k ok, ops[k]? = some ok → k ≠ i → (listed.setIfInBounds j true).getD k true = false →
          (∀ e ∈ ok.after, Region.binds md e = true → e.on ≠ i) → oi.apart ops ok = true := fun k ok hk hki hun hno => by
        refine hfree k ok hk hki ?_ hno
        by_cases hjk : j = k
        · subst hjk; exact hjun
        · rw [getD_set_ne true hjk] at hun; exact hun
      refine wpOp_mono (fun a' w' h3 => ?_) h2
      refine ⟨h3.2.1, ih (listed.setIfInBounds j true) a' w' (hsh.list hj) hfree' (ready_mono hr (Ne.symm hji)) h3.1 h3.2.1 ?_⟩
      rw [Array.setIfInBounds_comm _ _ hji]
      exact h3.2.2

theorem wpAnyY_yield (i : Nat) (d : Tmp) (v : Value) (l : List Nat) {oi : Oper} {fuel : Nat} {listed listed' : Array Bool} {a a' : Act} {w : World} (hi : ops[i]? = some oi) (hd : oi.dst = some d)
    (hs : Region.noSelect ops = true) (hf : Region.free md ops listed i = true) (hr : (Region.ready md ops listed).contains i = true) (hsh : shutB md ops listed = true) (hc : (chained md ops (i :: l) && l != [] && (i :: l).getLast? == some z && i != z) = true)
    (hw : Region.wanted oi (yielded ops a.tmps) = true) (hy : ∀ W, S W → (execOp a.eval oi).run P W = .ok (.value v) W) (hS : S w) (hl : listed.setIfInBounds i true = listed') (ha : a.put (some d) v = a')
    (h : wpAnyY n P md ops Q S z fuel listed' a' w) : wpAnyY n P md ops Q S z (fuel + 1) listed a w := by
  simp only [Bool.and_eq_true, bne_iff_ne, beq_iff_eq] at hc
  exact wpAnyY_first hi (Region.noSelect_spec hs) l hc.1.1.2 hc.1.1.1 hc.1.2 hc.2 fuel listed a w (shut_of hsh) (Region.free_spec hi hf) (by simpa using hr) (.inl ⟨hw, hy⟩) hS (by rw [hd, hl, ha]; exact h)

/-- The one operation that may come up is a call. -/
theorem wpAnyY_enter (i : Nat) (d : Tmp) (f : FuncId) (args : Array Value) {oi : Oper} {fuel : Nat} {listed : Array Bool} {a : Act} {w : World} (hi : ops[i]? = some oi) (hd : oi.dst = some d) (hiz : i ≠ z)
    (hr : Region.ready md ops listed = [i]) (hw : Region.wanted oi (yielded ops a.tmps) = true) (hrun : (execOp a.eval oi).run P w = .ok (.enter f args) w)
    (hc : Calls P f args w fun e w'' => ∃ v, e = .returned v ∧ S w'' ∧ wpAnyY n P md ops Q S z fuel (listed.setIfInBounds i true) (a.put (some d) v) w'') : wpAnyY n P md ops Q S z (fuel + 1) listed a w := by
  refine ⟨fun h0 => (by rw [hr] at h0; cases h0), fun j hj => ?_⟩
  rw [hr] at hj
  obtain rfl : j = i := by simpa using hj
  rw [if_neg hiz]
  unfold wpOp
  simp only [hi, hw, if_true]
  left
  unfold Oper.wp
  rw [hrun, Oper.upon_enter]
  refine hc.mono fun e w'' hh => ?_
  obtain ⟨v, rfl, h⟩ := hh
  rw [hd]
  exact h

/-- z hands over to a round. -/
theorem wpAnyY_round (d : Tmp) {l : Nat} {fn : FuncId} {tmps : Array Value} {assign body : Code} {oi : Oper} {fuel : Nat} {listed : Array Bool} {a : Act} {w : World} (hi : ops[z]? = some oi) (hd : oi.dst = some d)
    (hr : Region.ready md ops listed = [z]) (hw : Region.wanted oi (yielded ops a.tmps) = true) (hrun : (execOp a.eval oi).run P w = .ok (.round l fn tmps assign body) w)
    (hc : RoundIn Fence.wide (n - 1) P l fn tmps assign body w fun e w'' => ∃ v, e = .returned v ∧ wpAnyIn Fence.wide n P md ops Q fuel (listed.setIfInBounds z true) (a.put (some d) v) w'') : wpAnyY n P md ops Q S z (fuel + 1) listed a w := by
  refine ⟨fun h0 => (by rw [hr] at h0; cases h0), fun j hj => ?_⟩
  rw [hr] at hj
  obtain rfl : j = z := by simpa using hj
  rw [if_pos rfl]
  unfold wpOpIn
  simp only [hi, hw, if_true]
  refine ⟨fun _ _ => trivial, ?_⟩
  rw [show Fence.wide.round = none from rfl, Oper.semAt_none, hrun]
  refine ⟨fun h => (nomatch h), hc.mono fun e w'' hh => ?_⟩
  obtain ⟨v, rfl, h⟩ := hh
  simp only [hd]
  exact h

/-- Behind z: a value that hangs on no world. -/
theorem wpAnyIn_pure (i : Nat) (d : Tmp) (v : Value) {oi : Oper} {fuel : Nat} {listed : Array Bool} {a : Act} {w : World} (hi : ops[i]? = some oi) (hd : oi.dst = some d)
    (hr : Region.ready md ops listed = [i]) (hw : Region.wanted oi (yielded ops a.tmps) = true) (hrun : (execOp a.eval oi).run P w = .ok (.value v) w)
    (h : wpAnyIn Fence.wide n P md ops Q fuel (listed.setIfInBounds i true) (a.put (some d) v) w) : wpAnyIn Fence.wide n P md ops Q (fuel + 1) listed a w := by
  refine ⟨fun h0 => (by rw [hr] at h0; cases h0), fun j hj => ?_⟩
  rw [hr] at hj
  obtain rfl : j = i := by simpa using hj
  unfold wpOpIn
  simp only [hi, hw, if_true]
  refine ⟨fun _ _ => trivial, ?_⟩
  rw [show Fence.wide.round = none from rfl, Oper.semAt_none, hrun, Oper.uponIn_value, hd]
  exact h

theorem wpIn_region_y (z : Nat) (S : World → Prop) {id : Nat} {a : Act} {w : World} (hm : P.follows .mixedOrders = true)
    (h : wpAnyY n P .any ops Q S z ops.size (Array.replicate ops.size false) a { w with drawn := w.drawn + 1 }) : (Code.region id ops true).wpIn Fence.wide n P Q a w :=
  wpIn_region_any hm (wpAnyIn_of_y _ _ _ _ h)
end

end Go.Proofs.Ytcmigkemhoecfaa
