/- A quiet region inside a round of a range over a function. -/
import Derived.Test.YtcmigkemhoecfaaSRng
import Derived.OrdersIn
import Derived.Deep.QuietTactic
import Derived.BigQuiet
namespace Go.Proofs.Ytcmigkemhoecfaa
open Go.RowKit

/-- Left in the plain way, or not at all. -/
def plainly (G : Act → World → Prop) : Exit → Act → World → Prop
  | .normal, a, w => G a w
  | _, _, _ => False

theorem plainly_out {G : Act → World → Prop} (h : LetsOut (plainly G)) : False := by
  obtain ⟨a, w, h⟩ := h
  exact h

theorem wp_in_round {l n : Nat} {P : Program} {o : Oper} {a : Act} {w : World} {K : Act → World → Prop} {G : Act → World → Prop} {Q : Exit → Act → World → Prop} (hd : ∀ c, o.op ≠ .defer c) (h : o.wp P a w K (plainly G)) : o.wpIn (Fence.wide.inRound l) n P a w K Q := by
  unfold Oper.wp at h
  refine ⟨fun _ _ => trivial, ?_⟩
  rw [show (Fence.wide.inRound l).round = some l from rfl, Oper.semAt_some l _ _ hd]
  generalize (execOp a.eval o).run P w = r at *
  cases r with
  | ok x w' =>
    cases x with
    | enter f args =>
      simp only [Oper.upon] at h
      simp only [Oper.uponIn]
      refine ⟨fun h => (nomatch h), CallsIn.inRound l (callsIn_wide.2 (h.mono fun e w'' he => ?_))⟩
      cases e with
      | returned v => exact he
      | panicked c => exact he.elim
      | outgrown => exact (plainly_out he).elim
    | row r args =>
      simp only [Oper.upon] at h
      simp only [Oper.uponIn]
      exact ⟨fun h => (nomatch h), fun c cs _ => by
        obtain ⟨v, w', h1, h2⟩ := h c cs
        exact ⟨v, w', h1, stepsIn_wide.2 h2⟩⟩
    | _ => simp only [Oper.upon, Oper.uponIn] at h ⊢ <;> first | exact h | exact h.elim
  | halt x w' => cases x <;> simp only [Oper.upon, plainly] at h

theorem any_in_round {l n : Nat} {P : Program} {md : Region.Mode} {ops : Array Oper} {G : Act → World → Prop} {Q : Exit → Act → World → Prop} (hd : ∀ o ∈ ops, ∀ c, o.op ≠ .defer c) (hQ : ∀ a w, G a w → Q .normal a w) :
    ∀ (fuel : Nat) (listed : Array Bool) (a : Act) (w : World), wpAny P md ops (plainly G) fuel listed a w → wpAnyIn (Fence.wide.inRound l) n P md ops Q fuel listed a w
  | 0, _, _, _, h => ⟨h.1, hQ _ _ h.2⟩
  | fuel + 1, listed, a, w, h => ⟨fun h0 => hQ _ _ (h.1 h0), fun i hi => by
    have h1 := h.2 i hi
    unfold wpOp at h1
    unfold wpOpIn
    cases ho : ops[i]? with
    | none => rw [ho] at h1; exact any_in_round hd hQ fuel _ a w h1
    | some o =>
      rw [ho] at h1
      simp only at h1 ⊢
      split
      · rename_i hw
        rw [if_pos hw] at h1
        rcases h1 with h1 | h1
        · exact wp_in_round (hd o (Array.mem_of_getElem? ho)) (Oper.wp_mono (fun a w h => any_in_round hd hQ fuel _ a w h) h1)
        · exact (plainly_out h1.2).elim
      · rename_i hw
        rw [if_neg hw] at h1
        exact ⟨fun _ _ => trivial, any_in_round hd hQ fuel _ _ w h1⟩⟩

theorem region_quiet_round {lr n id : Nat} {P : Program} {Q : Exit → Act → World → Prop} {a : Act} {w : World} {l : List Oper} (hm : P.follows .mixedOrders = true) (hB : Region.lexB .any l.toArray = true) (hd : (l.all fun o => match o.op with | .defer _ => false | _ => true) = true)
    (h : wpQuiet P l.toArray (fun w' => ∃ n, w' = w.drewN n) (fun a' => ∀ w', (∃ n, w' = w.drewN n) → Q .normal a' w') l a) : (Code.region id l.toArray true).wpIn (Fence.wide.inRound lr) n P Q a w := by
  simp only [Region.lexB, Bool.and_eq_true] at hB
  refine wpIn_region_any hm (any_in_round (G := fun a w' => Q .normal a w') (fun o ho c e => ?_) (fun _ _ h => h) _ _ _ _ (wpAny_of_quiet (C := fun w' => ∃ n, w' = w.drewN n) (Q := fun a' => ∀ w', (∃ n, w' = w.drewN n) → Q .normal a' w') (Q' := plainly fun a w' => Q .normal a w') (fun _ w' hw' h => h w' hw') _ _ _ _ ⟨1, rfl⟩ ?_))
  · have := List.all_eq_true.1 hd o (by simpa using ho)
    rw [e] at this; cases this
  · have := wpAnyQ_lex (C := fun w' => ∃ n, w' = w.drewN n) (md := .any) hB.1 l 0 (Array.replicate l.toArray.size false) a (by simp) (by simpa using hB.2) h
    simpa using this

end Go.Proofs.Ytcmigkemhoecfaa
