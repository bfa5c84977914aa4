/- StoreWalks: what its turns keep. -/
import Derived.Test.YtegiinnhknfjjaaIWs
import Derived.Test.YtegiinnhknfjjaaSLast
import Derived.Test.YtegiinnhknfjjaaSTwo
import Derived.Test.YtegiinnhknfjjaaSQuietR
import Derived.Test.YtegiinnhknfjjaaIRf3
namespace Go.Proofs.Ytegiinnhknfjjaa.IM
open Go.RowKit

/-- A list of whole numbers. -/
def SegI (w : World) (ao : Option Addr) (l : List Int) : Prop := ∀ j (hj : j < l.length), ∃ b off, ao = some ⟨b, off, none⟩ ∧ w.cell? ⟨b, off + j, none⟩ = some (.int .i64 l[j])

theorem SegI.calm {w w' : World} {ao : Option Addr} {l : List Int} (h : SegI w ao l) (ht : Calm w w') : SegI w' ao l := fun j hj => by
  obtain ⟨b, off, e, c⟩ := h j hj
  exact ⟨b, off, e, (ht.cell (p := ⟨b, off + j, none⟩) (lt_of_cell c) (fun h => h)).trans c⟩

/-- The mark of a range that is over. -/
def mark (D : Nat) : Deferred := { target := .collected D, args := #[] }

theorem leaves_marks {F : Fence} {n : Nat} {P : Program} {fn : Func} {tmps : Array Value} {R : Ending → World → Prop} : ∀ (Ds : List Nat) (W : World), (∀ D ∈ Ds, W.heap[D]? = some (.deferred (some []))) → Ds.Nodup →
    (∀ W', Touch (fun g => g ∈ Ds) W W' → LeavesIn F n P fn tmps R [] .returning W') → LeavesInM F n P fn tmps R (Ds.map mark) .returning W
  | [], W, _, _, h => h W (Touch.refl _ _)
  | D :: Ds, W, h1, h2, h3 => by
    rw [List.nodup_cons] at h2
    have t1 := touch_put W D (.deferred none)
    refine ⟨by simp, .inl ⟨D, _, rfl, run_takeDeferred (h1 D (by simp)), leaves_marks Ds _ (fun E hE => ?_) h2.2 (fun W' ht => h3 W' ?_)⟩⟩
    · exact t1.heap (h1 E (by simp [hE])) (fun e => h2.1 (e ▸ hE))
    · exact (t1.mono (fun g _ e => by rw [e]; simp)).trans ht (fun g _ hg => by simp [hg])

/-- A region that draws its order, inside a round. -/
theorem region_held_round {lr n id : Nat} {P : Program} {Q : Exit → Act → World → Prop} {a : Act} {w : World} {ops : Array Oper} {S : World → Prop} (hm : P.follows .mixedOrders = true) (hd : (ops.all fun o => match o.op with | .defer _ => false | _ => true) = true)
    (h : wpAnyH P .any ops (plainly fun a w' => Q .normal a w') S ops.size (Array.replicate ops.size false) a { w with drawn := w.drawn + 1 }) : (Code.region id ops true).wpIn (Fence.wide.inRound lr) n P Q a w := by
  refine wpIn_region_any hm (any_in_round (G := fun a w' => Q .normal a w') (fun o ho c e => ?_) (fun _ _ h => h) _ _ _ _ (wpAny_of_held _ _ _ _ h))
  have := Array.all_eq_true'.1 hd o ho
  rw [e] at this; cases this

theorem plainly_mk {G : Act → World → Prop} {a : Act} {w : World} (h : G a w) : plainly G .normal a w := h

/-- Which walk a turn takes. -/
def kd3 (fr : Int) : Nat → Kd
  | 0 => .all
  | 1 => .fwd fr
  | _ => .back fr

/-- How many keys there may be. -/
def bd (k : Nat) : Nat := 500 * 2 ^ k

theorem bd_next (k : Nat) : bd (k + 1) = bd k + bd k := by unfold bd; rw [Nat.pow_succ]; omega

theorem bd_le {k : Nat} (h : k ≤ 6) : bd k ≤ 32000 := by
  have := Nat.pow_le_pow_right (n := 2) (by decide) h
  unfold bd; omega

/-- What the turns keep. -/
structure Tn (w wx : World) (B5 B6 B7 B8 m B r A B12 : Nat) (q : Int) (sv : Value) (AC : Array Value) (X : List (Int × Int)) (t : Nat) (Ds : List Nat) (W : World) : Prop where
  ws : Ws w B5 B6 B7 B8 m B r q sv X W
  a : W.heap[A]? = some (.cells AC 54 (0, 0))
  b12 : W.heap[B12]? = some (.cells #[.int .i64 (t : Int)] 3 (0, 0))
  since : Touch (fun g => g = m ∨ g = r) wx W
  ds : ∀ D ∈ Ds, W.heap[D]? = some (.deferred (some []))
  lo : w.heap.size ≤ B12 ∧ wx.heap.size ≤ B12 ∧ B12 ≠ B
  dl : (∀ D ∈ Ds, w.heap.size ≤ D ∧ wx.heap.size ≤ D) ∧ Ds.Nodup

section
variable {w wx W W' : World} {B5 B6 B7 B8 m B r A B12 t : Nat} {q : Int} {sv : Value} {AC : Array Value} {X X' : List (Int × Int)} {Ds : List Nat} {S : Nat → Prop}

theorem Tn.kind (h : Tn w wx B5 B6 B7 B8 m B r A B12 q sv AC X t Ds W) (ht : Touch S W W') (hS : ∀ g, S g → w.heap.size ≤ g ∧ wx.heap.size ≤ g ∧ g ≠ B ∧ g ≠ B12 ∧ g ∉ Ds)
    (hk : ∀ g cs t fr, S g → W.heap[g]? = some (.cells cs t fr) → t = 3 ∨ t = 28 ∨ t = 39) : Tn w wx B5 B6 B7 B8 m B r A B12 q sv AC X t Ds W' :=
  ⟨h.ws.kind ht (fun g e => ⟨(hS g e).1, (hS g e).2.2.1⟩) hk, ht.heap h.a (fun e => by rcases hk _ _ _ _ e h.a with e | e | e <;> exact absurd e (by decide)), ht.heap h.b12 (fun e => (hS _ e).2.2.2.1 rfl),
    h.since.trans ht (fun g hg e => by have := (hS g e).2.1; omega), fun D hD => ht.heap (h.ds D hD) (fun e => (hS _ e).2.2.2.2 hD), h.lo, h.dl⟩

theorem Tn.calm (h : Tn w wx B5 B6 B7 B8 m B r A B12 q sv AC X t Ds W) (ht : Calm W W') : Tn w wx B5 B6 B7 B8 m B r A B12 q sv AC X t Ds W' :=
  h.kind ht (fun _ h => h.elim) (fun _ _ _ _ h => h.elim)

theorem Tn.step (h : Tn w wx B5 B6 B7 B8 m B r A B12 q sv AC X t Ds W) (ht : Touch (fun g => g = m ∨ g = r) W W') (hb : Bt W' m B r q X') : Tn w wx B5 B6 B7 B8 m B r A B12 q sv AC X' t Ds W' := by
  obtain ⟨ro, hM, _⟩ := h.ws.bt.mt
  obtain ⟨ao, cap, hf⟩ := h.ws.bt.rf
  have k : ∀ {g : Nat} {cs : Array Value} {t : TypeId} {fr : Nat × Nat}, W.heap[g]? = some (.cells cs t fr) → t ≠ 41 → t ≠ 30 → ¬ (g = m ∨ g = r) := fun hg h1 h2 e => by
    rcases e with e | e
    · exact tags hg hM h1 e
    · exact tags hg hf.own h2 e
  refine ⟨h.ws.step ht hb, ht.heap h.a (k h.a (by decide) (by decide)), ht.heap h.b12 (k h.b12 (by decide) (by decide)), h.since.trans ht (fun _ _ h => h), fun D hD => ht.heap (h.ds D hD) (fun e => ?_), h.lo, h.dl⟩
  have h1 := h.ds D hD
  rcases e with e | e
  · rw [e, hM] at h1; cases h1
  · rw [e, hf.own] at h1; cases h1

theorem Tn.next (h : Tn w wx B5 B6 B7 B8 m B r A B12 q sv AC X t Ds W) (t' : Nat) : Tn w wx B5 B6 B7 B8 m B r A B12 q sv AC X t' Ds (W.setCell ⟨B12, 0, none⟩ (.int .i64 (t' : Int))) ∧ Touch (fun g => g = B12) W (W.setCell ⟨B12, 0, none⟩ (.int .i64 (t' : Int))) := by
  have ht : Touch (fun g => g = B12) W (W.setCell ⟨B12, 0, none⟩ (.int .i64 (t' : Int))) := (Touch.refl (fun g => g = B12) W).setCell (p := ⟨B12, 0, none⟩) (fun _ => rfl) _
  refine ⟨⟨h.ws.kind ht (fun g e => by subst e; exact ⟨h.lo.1, h.lo.2.2⟩) (fun g cs t fr e hg => by subst e; rw [h.b12] at hg; injection hg with hg; injection hg with _ hg; exact .inl hg.symm), ht.heap h.a (fun e => tags h.a h.b12 (by decide) e), set_one _ h.b12, h.since.trans ht (fun g hg e => by have := h.lo; omega), fun D hD => ht.heap (h.ds D hD) (fun e => ?_), h.lo, h.dl⟩, ht⟩
  have h1 := h.ds D hD
  rw [e, h.b12] at h1; cases h1

/-- One more range is over. -/
theorem Tn.more (h : Tn w wx B5 B6 B7 B8 m B r A B12 q sv AC X t Ds W) {D : Nat} (hD : W.heap[D]? = some (.deferred (some []))) (h1 : w.heap.size ≤ D ∧ wx.heap.size ≤ D) (h2 : D ∉ Ds) : Tn w wx B5 B6 B7 B8 m B r A B12 q sv AC X t (D :: Ds) W := by
  refine ⟨h.ws, h.a, h.b12, h.since, fun E hE => ?_, h.lo, ⟨fun E hE => ?_, List.nodup_cons.2 ⟨h2, h.dl.2⟩⟩⟩
  · rcases List.mem_cons.1 hE with rfl | hE
    · exact hD
    · exact h.ds E hE
  · rcases List.mem_cons.1 hE with rfl | hE
    · exact h1
    · exact h.dl.1 E hE
end

/-- What a range keeps. -/
structure Rn (w wx : World) (B5 B6 B7 B8 m B r A B12 : Nat) (q : Int) (sv : Value) (AC : Array Value) (B15 B16 : Nat) (ao : Option Addr) (cap : Nat) (L : List (Int × Int)) (Ds : List Nat) (X : List (Int × Int)) (t k : Nat) (W : World) : Prop where
  tn : Tn w wx B5 B6 B7 B8 m B r A B12 q sv AC X t Ds W
  b15 : W.heap[B15]? = some (.cells #[.slice ao L.length cap] 28 (0, 0))
  b16 : W.heap[B16]? = some (.cells #[.int .i64 (k : Int)] 3 (0, 0))
  prs : Prs W ao L
  row : ∀ a, ao = some a → L ≠ [] → ∃ cs fr, W.heap[a.block]? = some (.cells cs 57 fr)
  lo : w.heap.size ≤ B16 ∧ wx.heap.size ≤ B16 ∧ B16 ≠ B ∧ B16 ≠ B12

section
variable {w wx W W' : World} {B5 B6 B7 B8 m B r A B12 B15 B16 t k cap : Nat} {q : Int} {sv : Value} {AC : Array Value} {X X' L : List (Int × Int)} {Ds : List Nat} {S : Nat → Prop} {ao : Option Addr}

theorem prs_touch (h : Prs W ao L) (ht : Touch S W W') (hS : ∀ a, ao = some a → L ≠ [] → ¬ S a.block) : Prs W' ao L := fun j hj => by
  obtain ⟨b, off, e, h1, h2⟩ := h j hj
  have hn : ¬ S b := hS _ e (fun h => by rw [h] at hj; simp at hj)
  exact ⟨b, off, e, (ht.cell (p := ⟨b, off + j * 2, none⟩) (lt_of_cell h1) hn).trans h1, (ht.cell (p := ⟨b, off + j * 2 + 1, none⟩) (lt_of_cell h2) hn).trans h2⟩

theorem Rn.kind (h : Rn w wx B5 B6 B7 B8 m B r A B12 q sv AC B15 B16 ao cap L Ds X t k W) (ht : Touch S W W') (hS : ∀ g, S g → w.heap.size ≤ g ∧ wx.heap.size ≤ g ∧ g ≠ B ∧ g ≠ B12 ∧ g ∉ Ds ∧ g ≠ B15 ∧ g ≠ B16)
    (hk : ∀ g cs t fr, S g → W.heap[g]? = some (.cells cs t fr) → t = 3 ∨ t = 28 ∨ t = 39) : Rn w wx B5 B6 B7 B8 m B r A B12 q sv AC B15 B16 ao cap L Ds X t k W' := by
  have kp : ∀ a, ao = some a → L ≠ [] → ¬ S a.block := fun a ha hL e => by
    obtain ⟨cs, fr, hc⟩ := h.row a ha hL
    rcases hk _ _ _ _ e hc with e | e | e <;> exact absurd e (by decide)
  exact ⟨h.tn.kind ht (fun g e => ⟨(hS g e).1, (hS g e).2.1, (hS g e).2.2.1, (hS g e).2.2.2.1, (hS g e).2.2.2.2.1⟩) hk, ht.heap h.b15 (fun e => (hS _ e).2.2.2.2.2.1 rfl), ht.heap h.b16 (fun e => (hS _ e).2.2.2.2.2.2 rfl), prs_touch h.prs ht kp,
    fun a ha hL => by obtain ⟨cs, fr, hc⟩ := h.row a ha hL; exact ⟨cs, fr, ht.heap hc (kp a ha hL)⟩, h.lo⟩

theorem Rn.calm (h : Rn w wx B5 B6 B7 B8 m B r A B12 q sv AC B15 B16 ao cap L Ds X t k W) (ht : Calm W W') : Rn w wx B5 B6 B7 B8 m B r A B12 q sv AC B15 B16 ao cap L Ds X t k W' :=
  h.kind ht (fun _ h => h.elim) (fun _ _ _ _ h => h.elim)

theorem Rn.step (h : Rn w wx B5 B6 B7 B8 m B r A B12 q sv AC B15 B16 ao cap L Ds X t k W) (ht : Touch (fun g => g = m ∨ g = r) W W') (hb : Bt W' m B r q X') : Rn w wx B5 B6 B7 B8 m B r A B12 q sv AC B15 B16 ao cap L Ds X' t k W' := by
  obtain ⟨ro, hM, _⟩ := h.tn.ws.bt.mt
  obtain ⟨ao2, cap2, hf⟩ := h.tn.ws.bt.rf
  have n : ∀ {g : Nat} {cs : Array Value} {t : TypeId} {fr : Nat × Nat}, W.heap[g]? = some (.cells cs t fr) → t ≠ 41 → t ≠ 30 → ¬ (g = m ∨ g = r) := fun hg h1 h2 e => by
    rcases e with e | e
    · exact tags hg hM h1 e
    · exact tags hg hf.own h2 e
  have kp : ∀ a, ao = some a → L ≠ [] → ¬ (a.block = m ∨ a.block = r) := fun a ha hL => by
    obtain ⟨cs, fr, hc⟩ := h.row a ha hL
    exact n hc (by decide) (by decide)
  exact ⟨h.tn.step ht hb, ht.heap h.b15 (n h.b15 (by decide) (by decide)), ht.heap h.b16 (n h.b16 (by decide) (by decide)), prs_touch h.prs ht kp, fun a ha hL => by obtain ⟨cs, fr, hc⟩ := h.row a ha hL; exact ⟨cs, fr, ht.heap hc (kp a ha hL)⟩, h.lo⟩

theorem Rn.at_ (h : Rn w wx B5 B6 B7 B8 m B r A B12 q sv AC B15 B16 ao cap L Ds X t k W) (t' : Nat) : Rn w wx B5 B6 B7 B8 m B r A B12 q sv AC B15 B16 ao cap L Ds X t' k (W.setCell ⟨B12, 0, none⟩ (.int .i64 (t' : Int))) ∧ Touch (fun g => g = B12) W (W.setCell ⟨B12, 0, none⟩ (.int .i64 (t' : Int))) := by
  obtain ⟨h1, ht⟩ := h.tn.next t'
  have kp : ∀ a, ao = some a → L ≠ [] → ¬ a.block = B12 := fun a ha hL e => by
    obtain ⟨cs, fr, hc⟩ := h.row a ha hL
    exact tags hc h.tn.b12 (by decide) e
  exact ⟨⟨h1, ht.heap h.b15 (fun e => tags h.b15 h.tn.b12 (by decide) e), ht.heap h.b16 h.lo.2.2.2, prs_touch h.prs ht kp, fun a ha hL => by obtain ⟨cs, fr, hc⟩ := h.row a ha hL; exact ⟨cs, fr, ht.heap hc (kp a ha hL)⟩, h.lo⟩, ht⟩

theorem Rn.count (h : Rn w wx B5 B6 B7 B8 m B r A B12 q sv AC B15 B16 ao cap L Ds X t k W) (k' : Nat) : Rn w wx B5 B6 B7 B8 m B r A B12 q sv AC B15 B16 ao cap L Ds X t k' (W.setCell ⟨B16, 0, none⟩ (.int .i64 (k' : Int))) ∧ Touch (fun g => g = B16) W (W.setCell ⟨B16, 0, none⟩ (.int .i64 (k' : Int))) := by
  have ht : Touch (fun g => g = B16) W (W.setCell ⟨B16, 0, none⟩ (.int .i64 (k' : Int))) := (Touch.refl (fun g => g = B16) W).setCell (p := ⟨B16, 0, none⟩) (fun _ => rfl) _
  have kp : ∀ a, ao = some a → L ≠ [] → ¬ a.block = B16 := fun a ha hL e => by
    obtain ⟨cs, fr, hc⟩ := h.row a ha hL
    exact tags hc h.b16 (by decide) e
  refine ⟨⟨h.tn.kind ht (fun g e => by subst e; exact ⟨h.lo.1, h.lo.2.1, h.lo.2.2.1, h.lo.2.2.2, fun hD => by have h1 := h.tn.ds _ hD; rw [h.b16] at h1; cases h1⟩) (fun g cs t fr e hg => by subst e; rw [h.b16] at hg; injection hg with hg; injection hg with _ hg; exact .inl hg.symm),
    ht.heap h.b15 (fun e => tags h.b15 h.b16 (by decide) e), set_one _ h.b16, prs_touch h.prs ht kp, fun a ha hL => by obtain ⟨cs, fr, hc⟩ := h.row a ha hL; exact ⟨cs, fr, ht.heap hc (kp a ha hL)⟩, h.lo⟩, ht⟩
end

end Go.Proofs.Ytegiinnhknfjjaa.IM
