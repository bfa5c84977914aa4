/- StoreWalks: what lies in memory. -/
import Derived.Test.YtegiinnhknfjjaaIPlW
namespace Go.Proofs.Ytegiinnhknfjjaa.IM
open Go.RowKit

/-- The boxes and both maps. -/
structure Ws (w : World) (B5 B6 B7 B8 m B r : Nat) (q : Int) (sv : Value) (X : List (Int × Int)) (W : World) : Prop where
  calm : Calm w W
  b5 : W.heap[B5]? = some (.cells #[sv] 22 (0, 0))
  b6 : W.heap[B6]? = some (.cells #[.bool false] 4 (0, 0))
  b7 : W.heap[B7]? = some (.cells #[.pointer (some ⟨m, 0, none⟩)] 23 (0, 0))
  b8 : W.heap[B8]? = some (.cells #[.pointer (some ⟨r, 0, none⟩)] 25 (0, 0))
  bt : Bt W m B r q X
  new : w.heap.size ≤ m ∧ w.heap.size ≤ r ∧ w.heap.size ≤ B6

theorem Ws.gen {S : Nat → Prop} {w W W' : World} {B5 B6 B7 B8 m B r : Nat} {q : Int} {sv : Value} {X X' : List (Int × Int)} (h : Ws w B5 B6 B7 B8 m B r q sv X W) (ht : Touch S W W') (h5 : ¬ S B5) (h6 : ¬ S B6) (h7 : ¬ S B7) (h8 : ¬ S B8)
    (hS : ∀ g, S g → w.heap.size ≤ g) (hb : Bt W' m B r q X') : Ws w B5 B6 B7 B8 m B r q sv X' W' :=
  ⟨h.calm.trans ht (fun g hg e => by have := hS g e; omega), ht.heap h.b5 h5, ht.heap h.b6 h6, ht.heap h.b7 h7, ht.heap h.b8 h8, hb, h.new⟩

theorem Ws.turn {w W W' : World} {B5 B6 B7 B8 m B r : Nat} {q : Int} {sv : Value} {X : List (Int × Int)} (h : Ws w B5 B6 B7 B8 m B r q sv X W) (ht : Calm W W') : Ws w B5 B6 B7 B8 m B r q sv X W' :=
  h.gen ht (fun h => h) (fun h => h) (fun h => h) (fun h => h) (fun _ h => h.elim) (h.bt.calm ht)

/-- Behind a call of both. -/
theorem Ws.step {w W W' : World} {B5 B6 B7 B8 m B r : Nat} {q : Int} {sv : Value} {X X' : List (Int × Int)} (h : Ws w B5 B6 B7 B8 m B r q sv X W) (ht : Touch (fun g => g = m ∨ g = r) W W') (hb : Bt W' m B r q X') : Ws w B5 B6 B7 B8 m B r q sv X' W' := by
  obtain ⟨ro, hM, _⟩ := h.bt.mt
  obtain ⟨ao, cap, hf⟩ := h.bt.rf
  have k : ∀ {g : Nat} {cs : Array Value} {t : TypeId} {fr : Nat × Nat}, W.heap[g]? = some (.cells cs t fr) → t ≠ 41 → t ≠ 30 → ¬ (g = m ∨ g = r) := fun hg h1 h2 e => by
    rcases e with e | e
    · exact tags hg hM h1 e
    · exact tags hg hf.own h2 e
  exact h.gen ht (k h.b5 (by decide) (by decide)) (k h.b6 (by decide) (by decide)) (k h.b7 (by decide) (by decide)) (k h.b8 (by decide) (by decide)) (fun g e => by have := h.new; rcases e with e | e <;> omega) hb

/-- Where blocks of other kinds turn. -/
theorem Ws.kind {S : Nat → Prop} {w W W' : World} {B5 B6 B7 B8 m B r : Nat} {q : Int} {sv : Value} {X : List (Int × Int)} (h : Ws w B5 B6 B7 B8 m B r q sv X W) (ht : Touch S W W') (hS : ∀ g, S g → w.heap.size ≤ g ∧ g ≠ B)
    (hk : ∀ g cs t fr, S g → W.heap[g]? = some (.cells cs t fr) → t = 3 ∨ t = 28 ∨ t = 39) : Ws w B5 B6 B7 B8 m B r q sv X W' := by
  obtain ⟨ro, hM, _⟩ := h.bt.mt
  obtain ⟨ao, cap, hf⟩ := h.bt.rf
  have k : ∀ {g : Nat} {cs : Array Value} {t : TypeId} {fr : Nat × Nat}, W.heap[g]? = some (.cells cs t fr) → t ≠ 3 → t ≠ 28 → t ≠ 39 → ¬ S g := fun hg h1 h2 h3 e => by
    rcases hk _ _ _ _ e hg with e | e | e
    · exact h1 e
    · exact h2 e
    · exact h3 e
  refine h.gen ht (k h.b5 (by decide) (by decide) (by decide)) (k h.b6 (by decide) (by decide) (by decide)) (k h.b7 (by decide) (by decide) (by decide)) (k h.b8 (by decide) (by decide) (by decide)) (fun g e => (hS g e).1)
    (h.bt.touch ht (k hM (by decide) (by decide) (by decide)) (fun e => (hS B e).2 rfl) (k hf.own (by decide) (by decide) (by decide)) (fun g cs t fr e hg => ?_))
  rcases hk _ _ _ _ e hg with e | e | e <;> subst e <;> decide

/-- At the start. -/
theorem ws_start (w w1 : World) (sv : Value) (q : Int) (m B : Nat) (h1 : Mt w1 m 31 #[.pointer (some ⟨B, 0, none⟩)] []) (h2 : w1.heap[B]? = some (.cells #[.int .i64 q] 3 (0, 0)))
    (hm : ((w.alloc (.cells #[sv] 22)).alloc (.cells #[.bool false] 4)).heap.size ≤ m) (t1 : Calm ((w.alloc (.cells #[sv] 22)).alloc (.cells #[.bool false] 4)) w1) :
    Ws w w.heap.size (w.heap.size + 1) w1.heap.size (w1.heap.size + 1 + 1) m B (w1.heap.size + 1) q sv [] (((w1.alloc (.cells #[.pointer (some ⟨m, 0, none⟩)] 23)).alloc (.cells #[.int .i64 q, .slice none 0 0] 30)).alloc (.cells #[.pointer (some ⟨w1.heap.size + 1, 0, none⟩)] 25)) := by
  have nw : ∀ (V : World) (o : Obj) (n : Nat), n = V.heap.size → (V.alloc o).heap[n]? = some o := fun V o n e => by rw [e]; exact World.alloc_heap_new V o
  have kp : ∀ (V : World) (o o' : Obj) (n : Nat), V.heap[n]? = some o → (V.alloc o').heap[n]? = some o := fun V o o' n h => (Below.heap_alloc V o' n (lt_of_heap h)).trans h
  have t0 : Calm w ((w.alloc (.cells #[sv] 22)).alloc (.cells #[.bool false] 4)) := ((Touch.refl _ _).alloc _).alloc _
  have t2 : Calm w1 (((w1.alloc (.cells #[.pointer (some ⟨m, 0, none⟩)] 23)).alloc (.cells #[.int .i64 q, .slice none 0 0] 30)).alloc (.cells #[.pointer (some ⟨w1.heap.size + 1, 0, none⟩)] 25)) := (((Touch.refl _ _).alloc _).alloc _).alloc _
  have s1 := t1.size
  have s0 : ((w.alloc (.cells #[sv] 22)).alloc (.cells #[.bool false] 4)).heap.size = w.heap.size + 1 + 1 := by simp
  rw [s0] at s1 hm
  have rf : ∃ ao cap, Rf (((w1.alloc (.cells #[.pointer (some ⟨m, 0, none⟩)] 23)).alloc (.cells #[.int .i64 q, .slice none 0 0] 30)).alloc (.cells #[.pointer (some ⟨w1.heap.size + 1, 0, none⟩)] 25)) (w1.heap.size + 1) q [] ao cap :=
    ⟨none, 0, kp _ _ _ _ (nw _ _ _ (by simp)), Prs.nil _ none, fun _ h => (nomatch h), fun _ => rfl, Nat.le_refl _, Nat.zero_le _⟩
  exact ⟨t0.tr (t1.tr t2), t2.at (t1.at (kp _ _ _ _ (nw _ _ _ rfl))), t2.at (t1.at (nw _ _ _ (by simp))), kp _ _ _ _ (kp _ _ _ _ (nw _ _ _ rfl)), nw _ _ _ (by simp), ⟨h1.calm t2, t2.at h2, rf, List.Pairwise.nil⟩, by omega, by omega, by omega⟩

/-- A walk holds where blocks of other kinds turn. -/
theorem Wl.touch {S : Nat → Prop} {w w' : World} {fv : Value} {mp : Option Addr} {kd : Kd} (h : Wl w fv mp kd) (ht : Touch S w w') (hS : ∀ g cs t fr, S g → w.heap[g]? = some (.cells cs t fr) → t ≠ 23 ∧ t ≠ 3 ∧ t ≠ 88) : Wl w' fv mp kd := by
  obtain ⟨B1, B2, B3, lb2, e, h1, h2, h3, h4⟩ := h
  refine ⟨B1, B2, B3, lb2, e, ht.heap h1 (fun e => (hS _ _ _ _ e h1).1 rfl), ht.heap h2 (fun e => (hS _ _ _ _ e h2).2.1 rfl), ht.heap h3 (fun e => (hS _ _ _ _ e h3).2.2 rfl), ?_⟩
  cases kd with
  | all => exact h4
  | fwd k => obtain ⟨C1, C2, e, g1, g2⟩ := h4; exact ⟨C1, C2, e, ht.heap g1 (fun e => (hS _ _ _ _ e g1).1 rfl), ht.heap g2 (fun e => (hS _ _ _ _ e g2).2.1 rfl)⟩
  | back k => obtain ⟨C1, C2, e, g1, g2⟩ := h4; exact ⟨C1, C2, e, ht.heap g1 (fun e => (hS _ _ _ _ e g1).1 rfl), ht.heap g2 (fun e => (hS _ _ _ _ e g2).2.1 rfl)⟩

end Go.Proofs.Ytegiinnhknfjjaa.IM
