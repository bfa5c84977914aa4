/- Panes by keys: what begins and is as long is all (mathematics). A quiet region inside a round of a range over a function. Where two operations may come up, each of which changes the world. The marks of ranges that are over; regions inside a round (SMark without what YS has). -/
import Derived.Test.YtamfcmmhmfhhkaaGreatDoorG24
import Derived.Test.YtamfcmmhmfhhkaaGreatDoorG14
import Derived.Test.YtamfcmmhmfhhkaaGreatDoorG21
import Derived.OrdersIn
import Derived.Deep.QuietTactic
import Derived.BigQuiet
import Derived.Test.YtamfcmmhmfhhkaaGreatDoorG0
import Derived.Laws.Tables
namespace Go.Proofs.YtamfcmmhmfhhkaaGreatDoor

def sumN : List Nat → Nat
  | [] => 0
  | x :: r => x + sumN r
theorem sum_up {α : Type} [DecidableEq α] (f g : α → Nat) (a : α) : ∀ {K : List α}, K.Nodup → a ∈ K → (∀ k, g k = f k + if k = a then 1 else 0) → sumN (K.map g) = sumN (K.map f) + 1
  | [], _, h, _ => by cases h
  | k :: K, hn, h, hg => by
    rw [List.nodup_cons] at hn
    rw [List.map_cons, List.map_cons, sumN, sumN, hg k]
    rcases List.mem_cons.1 h with rfl | h
    · have e : K.map g = K.map f := List.map_congr_left fun x hx => by
        rw [hg x, if_neg (fun e => hn.1 (by rw [← e]; exact hx)), Nat.add_zero]
      rw [e, if_pos rfl]
      omega
    · rw [if_neg (fun e => hn.1 (by rw [e]; exact h)), sum_up f g a hn.2 h hg]
      omega
theorem sum_eq {α : Type} (f g : α → Nat) : ∀ {K : List α}, (∀ k ∈ K, f k ≤ g k) → sumN (K.map f) = sumN (K.map g) → ∀ k ∈ K, f k = g k
  | [], _, _, k, hk => by cases hk
  | a :: K, hle, hs, k, hk => by
    have h1 := hle a (by simp)
    have h2 : sumN (K.map f) ≤ sumN (K.map g) := by
      have : ∀ {K : List α}, (∀ k ∈ K, f k ≤ g k) → sumN (K.map f) ≤ sumN (K.map g) := by
        intro K
        induction K with
        | nil => intro _; exact Nat.le_refl _
        | cons b K ih =>
          intro h
          rw [List.map_cons, List.map_cons, sumN, sumN]
          have := h b (by simp)
          have := ih fun k hk => h k (by simp [hk])
          omega
      exact this fun k hk => hle k (by simp [hk])
    rw [List.map_cons, List.map_cons, sumN, sumN] at hs
    rcases List.mem_cons.1 hk with rfl | hk
    · omega
    · exact sum_eq f g (fun k hk => hle k (by simp [hk])) (by omega) k hk
/-- A list's length is the sum over its keys. -/
theorem len_sum (K : List ByteArray) (hn : K.Nodup) : ∀ (A : List Pn), (∀ p ∈ A, p.k ∈ K) → A.length = sumN (K.map fun k => (ofP A k).length)
  | [], _ => by
    have e : (fun k : ByteArray => (ofP [] k).length) = fun _ => 0 := rfl
    rw [e]
    clear hn
    induction K with
    | nil => rfl
    | cons k K ih => rw [List.map_cons, sumN, ← ih fun p hp => (nomatch hp)]; rfl
  | p :: A, h => by
    rw [List.length_cons, len_sum K hn A fun q hq => h q (by simp [hq])]
    refine (sum_up (fun k => (ofP A k).length) _ p.k hn (h p (by simp)) fun k => ?_).symm
    unfold ofP
    rw [List.filter_cons]
    by_cases e : p.k = k
    · subst e; simp
    · have e2 : ¬ k = p.k := fun h => e h.symm
      simp [e, e2]
theorem krise_nodup {O : List ByteArray} (h : KRise O) : O.Nodup := h.imp fun {a b} hab e => by
  subst e
  rw [kLt_self] at hab
  cases hab
theorem begins_at {A B : List Pn} (h : beginsP A B = true) (k : ByteArray) : (ofP A k).length ≤ (ofP B k).length ∧ ofP A k = (ofP B k).take (ofP A k).length := by
  by_cases hk : k ∈ keysP A
  · unfold beginsP at h
    rw [List.all_eq_true] at h
    have := h k hk
    unfold okB at this
    rw [Bool.and_eq_true, decide_eq_true_eq, decide_eq_true_eq] at this
    exact this
  · have e : ofP A k = [] := by
      by_cases e : ofP A k = []
      · exact e
      · exact absurd (keys_of.2 e) hk
    rw [e]
    exact ⟨Nat.zero_le _, by simp⟩
theorem ali_of {A B : List Pn} : aliP A B = (decide (A.length = B.length) && beginsP A B) := by
  unfold aliP
  by_cases hb : beginsP A B = true
  · rw [hb, Bool.true_and, Bool.and_true]
    by_cases hl : A.length = B.length
    · rw [decide_eq_true hl]
      have hK := keys_rise (A ++ B)
      have hn := krise_nodup hK
      have hA := len_sum _ hn A fun p hp => (keys_mem _ _).2 ⟨p, by simp [hp], rfl⟩
      have hB := len_sum _ hn B fun p hp => (keys_mem _ _).2 ⟨p, by simp [hp], rfl⟩
      have he := sum_eq (fun k => (ofP A k).length) (fun k => (ofP B k).length) (K := keysP (A ++ B)) (fun k _ => (begins_at hb k).1) (by rw [← hA, ← hB, hl])
      refine begins_yes fun k => ⟨[], ?_⟩
      rw [List.append_nil]
      have h1 := begins_at hb k
      by_cases hk : k ∈ keysP (A ++ B)
      · have h2 := he k hk
        have h3 := h1.2
        rw [show (ofP A k).length = (ofP B k).length from h2, List.take_length] at h3
        exact h3
      · have e : ofP (A ++ B) k = [] := by
          by_cases e : ofP (A ++ B) k = []
          · exact e
          · exact absurd (keys_of.2 e) hk
        rw [ofP_app, List.append_eq_nil_iff] at e
        rw [e.1, e.2]
    · rw [decide_eq_false hl]
      by_cases hb2 : beginsP B A = true
      · exfalso
        exact hl (same_len fun k => by
          have h1 := begins_at hb k
          have h2 := begins_at hb2 k
          have e : (ofP A k).length = (ofP B k).length := by omega
          have h3 := h1.2
          rw [e, List.take_length] at h3
          exact h3)
      · exact Bool.eq_false_iff.2 hb2
  · rw [Bool.eq_false_iff.2 hb, Bool.false_and, Bool.and_false]

end Go.Proofs.YtamfcmmhmfhhkaaGreatDoor

namespace Go.Proofs.YtamfcmmhmfhhkaaGreatDoor
open Go.RowKit

/-- Left in the plain way, or not at all. -/
def plainly (G : Act → World → Prop) : Exit → Act → World → Prop
  | .normal, a, w => G a w
  | _, _, _ => False

theorem plainly_out {G : Act → World → Prop} (h : LetsOut (plainly G)) : False := by
  obtain ⟨a, w, h⟩ := h
  exact h

theorem wp_in_round {l n : Nat} {P : Program} {o : Oper} {a : Act} {w : World} {K : Act → World → Prop} {G : Act → World → Prop} {Q : Exit → Act → World → Prop} (hd : ∀ c, o.op ≠ .defer c) (h : o.wp P a w K (plainly G)) : o.wpIn (Fence.wide.inRound l) n P a w K Q := by
  unfold Oper.wp at h
  refine ⟨fun _ _ => trivial, ?_⟩
  rw [show (Fence.wide.inRound l).round = some l from rfl, Oper.semAt_some l _ _ hd]
  generalize (execOp a.eval o).run P w = r at *
  cases r with
  | ok x w' =>
    cases x with
    | enter f args =>
      simp only [Oper.upon] at h
      simp only [Oper.uponIn]
      refine ⟨fun h => (nomatch h), CallsIn.inRound l (callsIn_wide.2 (h.mono fun e w'' he => ?_))⟩
      cases e with
      | returned v => exact he
      | panicked c => exact he.elim
      | outgrown => exact (plainly_out he).elim
    | row r args =>
      simp only [Oper.upon] at h
      simp only [Oper.uponIn]
      exact ⟨fun h => (nomatch h), fun c cs _ => by
        obtain ⟨v, w', h1, h2⟩ := h c cs
        exact ⟨v, w', h1, stepsIn_wide.2 h2⟩⟩
    | _ => simp only [Oper.upon, Oper.uponIn] at h ⊢ <;> first | exact h | exact h.elim
  | halt x w' => cases x <;> simp only [Oper.upon, plainly] at h

theorem any_in_round {l n : Nat} {P : Program} {md : Region.Mode} {ops : Array Oper} {G : Act → World → Prop} {Q : Exit → Act → World → Prop} (hd : ∀ o ∈ ops, ∀ c, o.op ≠ .defer c) (hQ : ∀ a w, G a w → Q .normal a w) :
    ∀ (fuel : Nat) (listed : Array Bool) (a : Act) (w : World), wpAny P md ops (plainly G) fuel listed a w → wpAnyIn (Fence.wide.inRound l) n P md ops Q fuel listed a w
  | 0, _, _, _, h => ⟨h.1, hQ _ _ h.2⟩
  | fuel + 1, listed, a, w, h => ⟨fun h0 => hQ _ _ (h.1 h0), fun i hi => by
    have h1 := h.2 i hi
    unfold wpOp at h1
    unfold wpOpIn
    cases ho : ops[i]? with
    | none => rw [ho] at h1; exact any_in_round hd hQ fuel _ a w h1
    | some o =>
      rw [ho] at h1
      simp only at h1 ⊢
      split
      · rename_i hw
        rw [if_pos hw] at h1
        rcases h1 with h1 | h1
        · exact wp_in_round (hd o (Array.mem_of_getElem? ho)) (Oper.wp_mono (fun a w h => any_in_round hd hQ fuel _ a w h) h1)
        · exact (plainly_out h1.2).elim
      · rename_i hw
        rw [if_neg hw] at h1
        exact ⟨fun _ _ => trivial, any_in_round hd hQ fuel _ _ w h1⟩⟩

theorem region_quiet_round {lr n id : Nat} {P : Program} {Q : Exit → Act → World → Prop} {a : Act} {w : World} {l : List Oper} (hm : P.follows .mixedOrders = true) (hB : Region.lexB .any l.toArray = true) (hd : (l.all fun o => match o.op with | .defer _ => false | _ => true) = true)
    (h : wpQuiet P l.toArray (fun w' => ∃ n, w' = w.drewN n) (fun a' => ∀ w', (∃ n, w' = w.drewN n) → Q .normal a' w') l a) : (Code.region id l.toArray true).wpIn (Fence.wide.inRound lr) n P Q a w := by
  simp only [Region.lexB, Bool.and_eq_true] at hB
  refine wpIn_region_any hm (any_in_round (G := fun a w' => Q .normal a w') (fun o ho c e => ?_) (fun _ _ h => h) _ _ _ _ (wpAny_of_quiet (C := fun w' => ∃ n, w' = w.drewN n) (Q := fun a' => ∀ w', (∃ n, w' = w.drewN n) → Q .normal a' w') (Q' := plainly fun a w' => Q .normal a w') (fun _ w' hw' h => h w' hw') _ _ _ _ ⟨1, rfl⟩ ?_))
  · have := List.all_eq_true.1 hd o (by simpa using ho)
    rw [e] at this; cases this
  · have := wpAnyQ_lex (C := fun w' => ∃ n, w' = w.drewN n) (md := .any) hB.1 l 0 (Array.replicate l.toArray.size false) a (by simp) (by simpa using hB.2) h
    simpa using this

end Go.Proofs.YtamfcmmhmfhhkaaGreatDoor

namespace Go.Proofs.YtamfcmmhmfhhkaaGreatDoor

section
variable {P : Program} {ops : Array Oper} {Q : Exit → Act → World → Prop} {S : World → Prop} {md : Region.Mode}



/-- One of two. -/
theorem wpAnyH_two (i j : Nat) {fuel : Nat} {listed : Array Bool} {a : Act} {w : World} (hr : Region.ready md ops listed = [i, j])
    (h1 : wpOp P ops Q i (fun a' w' => S w' ∧ wpAnyH P md ops Q S fuel (listed.setIfInBounds i true) a' w') a w)
    (h2 : wpOp P ops Q j (fun a' w' => S w' ∧ wpAnyH P md ops Q S fuel (listed.setIfInBounds j true) a' w') a w) : wpAnyH P md ops Q S (fuel + 1) listed a w := by
  refine wpAnyH_all hr (by simp) ?_
  intro x hx
  rcases (by simpa using hx : x = i ∨ x = j) with rfl | rfl
  · exact h1
  · exact h2

/-- The one operation that may come up stores a whole row. -/
theorem wpAnyH_row (i : Nat) {oi : Oper} {fuel : Nat} {listed : Array Bool} {a : Act} {w : World} (hi : ops[i]? = some oi) (hd : oi.dst = none) (ty : TypeId) (x y : Operand) (ho : oi.op = .store ty x y)
    (hr : Region.ready md ops listed = [i]) (hw : Region.wanted oi (yielded ops a.tmps) = true) (g : Nat) (cells : Array Value) (hx : a.eval x = .pointer (some ⟨g, 0, none⟩)) (hy : a.eval y = .agg cells)
    (t : TypeId) (old : Array Value) (hg : w.heap[g]? = some (.cells old t (0, 0))) (hsz : (P.info? ty).map (·.size) = some cells.size) (hold : old.size = cells.size) (h1 : cells.all (·.oneCell') = true) (hS : S (w.setRow g cells))
    (h : wpAnyH P md ops Q S fuel (listed.setIfInBounds i true) a (w.setRow g cells)) : wpAnyH P md ops Q S (fuel + 1) listed a w := by
  refine wpAnyH_all hr (by simp) ?_
  intro j hj
  obtain rfl : j = i := by simpa using hj
  unfold wpOp
  simp only [hi, hw, if_true]
  left
  refine wp_store_row ty x y ho g cells hx hy t old hg hsz hold h1 ?_
  rw [hd]
  exact ⟨hS, h⟩

end
end Go.Proofs.YtamfcmmhmfhhkaaGreatDoor

namespace Go.Proofs.YtamfcmmhmfhhkaaGreatDoor
open Go.RowKit

/-- The mark of a range that is over. -/
def mark (D : Nat) : Deferred := { target := .collected D, args := #[] }

theorem leaves_marks {F : Fence} {n : Nat} {P : Program} {fn : Func} {tmps : Array Value} {R : Ending → World → Prop} : ∀ (Ds : List Nat) (W : World), (∀ D ∈ Ds, W.heap[D]? = some (.deferred (some []))) → Ds.Nodup →
    (∀ W', Touch (fun g => g ∈ Ds) W W' → LeavesIn F n P fn tmps R [] .returning W') → LeavesInM F n P fn tmps R (Ds.map mark) .returning W
  | [], W, _, _, h => h W (Touch.refl _ _)
  | D :: Ds, W, h1, h2, h3 => by
    rw [List.nodup_cons] at h2
    have t1 := touch_put W D (.deferred none)
    refine ⟨by simp, .inl ⟨D, _, rfl, run_takeDeferred (h1 D (by simp)), leaves_marks Ds _ (fun E hE => ?_) h2.2 (fun W' ht => h3 W' ?_)⟩⟩
    · exact t1.heap (h1 E (by simp [hE])) (fun e => h2.1 (e ▸ hE))
    · exact (t1.mono (fun g _ e => by rw [e]; simp)).trans ht (fun g _ hg => by simp [hg])

/-- A region that draws its order, inside a round. -/
theorem region_held_round {lr n id : Nat} {P : Program} {Q : Exit → Act → World → Prop} {a : Act} {w : World} {ops : Array Oper} {S : World → Prop} (hm : P.follows .mixedOrders = true) (hd : (ops.all fun o => match o.op with | .defer _ => false | _ => true) = true)
    (h : wpAnyH P .any ops (plainly fun a w' => Q .normal a w') S ops.size (Array.replicate ops.size false) a { w with drawn := w.drawn + 1 }) : (Code.region id ops true).wpIn (Fence.wide.inRound lr) n P Q a w := by
  refine wpIn_region_any hm (any_in_round (G := fun a w' => Q .normal a w') (fun o ho c e => ?_) (fun _ _ h => h) _ _ _ _ (wpAny_of_held _ _ _ _ h))
  have := Array.all_eq_true'.1 hd o ho
  rw [e] at this; cases this

theorem plainly_mk {G : Act → World → Prop} {a : Act} {w : World} (h : G a w) : plainly G .normal a w := h

end Go.Proofs.YtamfcmmhmfhhkaaGreatDoor
