/- What StoreTexts keeps once its walks are made. -/
import Derived.Test.YtcbaloenlodkdaaXTx
import Derived.Test.YtcbaloenlodkdaaSLast
namespace Go.Proofs.Ytcbaloenlodkdaa.XM
open Go.RowKit

/-- Only B and what is new has turned. -/
def Kp (Wz : World) (B : Nat) (W : World) : Prop := Touch (fun g => g = B ∨ Wz.heap.size ≤ g) Wz W

theorem Kp.at {Wz W : World} {B g : Nat} {r : Value} {cs : Array Value} {t : TypeId} {fr : Nat × Nat} (h : Kp Wz B W) (hB : Wz.heap[B]? = some (.cells #[r] 4 (0, 0))) (hg : Wz.heap[g]? = some (.cells cs t fr)) (ht : t ≠ 4) : W.heap[g]? = some (.cells cs t fr) :=
  Touch.heap h hg (fun hs => by
    rcases hs with hs | hs
    · exact tags hg hB ht hs
    · have := lt_of_heap hg; omega)

theorem Kp.mt {Wz W : World} {B m f : Nat} {r : Value} {lb : Array Value} {X : List (ByteArray × (Option Addr × Nat × Nat))} (h : Kp Wz B W) (hB : Wz.heap[B]? = some (.cells #[r] 4 (0, 0))) (hm : Mt Wz m f lb X) : Mt W m f lb X := by
  obtain ⟨ro, h1, h2⟩ := hm
  refine ⟨ro, h.at hB h1 (by decide), ?_⟩
  clear h1
  generalize hp : Value.pointer ro = p at h2
  clear hp
  induction h2 with
  | nil => exact .nil
  | node hb _ _ il ir => exact .node (h.at hB hb (by decide)) il ir

theorem Kp.wl {Wz W : World} {B : Nat} {r fv : Value} {mp : Option Addr} {kd : Kd} (h : Kp Wz B W) (hB : Wz.heap[B]? = some (.cells #[r] 4 (0, 0))) (hw : Wl Wz fv mp kd) : Wl W fv mp kd := by
  obtain ⟨B1, B2, B3, lb2, e, h1, h2, h3, h4⟩ := hw
  refine ⟨B1, B2, B3, lb2, e, h.at hB h1 (by decide), h.at hB h2 (by decide), h.at hB h3 (by decide), ?_⟩
  cases kd with
  | all => exact h4
  | fwd k => obtain ⟨C1, C2, e, g1, g2⟩ := h4; exact ⟨C1, C2, e, h.at hB g1 (by decide), h.at hB g2 (by decide)⟩
  | back k => obtain ⟨C1, C2, e, g1, g2⟩ := h4; exact ⟨C1, C2, e, h.at hB g1 (by decide), h.at hB g2 (by decide)⟩

theorem Kp.refl (Wz : World) (B : Nat) : Kp Wz B Wz := Touch.refl _ _

theorem Kp.touch {Wz W W' : World} {B : Nat} {S : Nat → Prop} (h : Kp Wz B W) (ht : Touch S W W') (hS : ∀ g, S g → g = B ∨ Wz.heap.size ≤ g) : Kp Wz B W' := Touch.trans h ht fun g _ hs => hS g hs

/-- The key told last. -/
def lastOf (X : List (ByteArray × (Option Addr × Nat × Nat))) : Nat → ByteArray
  | 0 => { data := #[] }
  | k + 1 => ((X[k]?).map (·.1)).getD { data := #[] }

/-- What the first walk keeps. -/
structure Rn (Wz : World) (B6 B14 B15 : Nat) (X : List (ByteArray × (Option Addr × Nat × Nat))) (k : Nat) (W : World) : Prop where
  kp : Kp Wz B6 W
  b6 : W.heap[B6]? = some (.cells #[.bool false] 4 (0, 0))
  b14 : W.heap[B14]? = some (.cells #[.int .i64 (k : Int)] 3 (0, 0))
  b15 : W.heap[B15]? = some (.cells #[.string (lastOf X k)] 9 (0, 0))
  lo : Wz.heap.size ≤ B14 ∧ Wz.heap.size ≤ B15

theorem Rn.turn {Wz W W' : World} {B6 B14 B15 k : Nat} {X : List (ByteArray × (Option Addr × Nat × Nat))} {S : Nat → Prop} (h : Rn Wz B6 B14 B15 X k W) (ht : Touch S W W') (hS : ∀ g, S g → Wz.heap.size ≤ g ∧ g ≠ B6 ∧ g ≠ B14 ∧ g ≠ B15) : Rn Wz B6 B14 B15 X k W' :=
  ⟨h.kp.touch ht (fun g hs => .inr (hS g hs).1), ht.heap h.b6 (fun hs => (hS _ hs).2.1 rfl), ht.heap h.b14 (fun hs => (hS _ hs).2.2.1 rfl), ht.heap h.b15 (fun hs => (hS _ hs).2.2.2 rfl), h.lo⟩

theorem Rn.calm {Wz W W' : World} {B6 B14 B15 k : Nat} {X : List (ByteArray × (Option Addr × Nat × Nat))} (h : Rn Wz B6 B14 B15 X k W) (ht : Calm W W') : Rn Wz B6 B14 B15 X k W' := h.turn ht (fun _ h => h.elim)

theorem Rn.next {Wz W : World} {B6 B14 B15 k : Nat} {X : List (ByteArray × (Option Addr × Nat × Nat))} (h : Rn Wz B6 B14 B15 X k W) (xk : ByteArray) (hx : lastOf X (k + 1) = xk) :
    Rn Wz B6 B14 B15 X (k + 1) ((W.setCell ⟨B15, 0, none⟩ (.string xk)).setCell ⟨B14, 0, none⟩ (.int .i64 ((k : Int) + 1))) ∧ Touch (fun g => g = B14 ∨ g = B15) W ((W.setCell ⟨B15, 0, none⟩ (.string xk)).setCell ⟨B14, 0, none⟩ (.int .i64 ((k : Int) + 1))) ∧
    (W.setCell ⟨B15, 0, none⟩ (.string xk)).heap[B14]? = some (.cells #[.int .i64 (k : Int)] 3 (0, 0)) := by
  have t1 : Touch (fun g => g = B15) W (W.setCell ⟨B15, 0, none⟩ (.string xk)) := (Touch.refl (fun g => g = B15) W).setCell (p := ⟨B15, 0, none⟩) (fun _ => rfl) _
  have t2 : Touch (fun g => g = B14) (W.setCell ⟨B15, 0, none⟩ (.string xk)) ((W.setCell ⟨B15, 0, none⟩ (.string xk)).setCell ⟨B14, 0, none⟩ (.int .i64 ((k : Int) + 1))) := (Touch.refl (fun g => g = B14) _).setCell (p := ⟨B14, 0, none⟩) (fun _ => rfl) _
  have h14 := t1.heap h.b14 (fun e => tags h.b14 h.b15 (by decide) e)
  have h15 := set_one (.string xk) h.b15
  have h6 := t1.heap h.b6 (fun e => tags h.b6 h.b15 (by decide) e)
  have t3 : Touch (fun g => g = B14 ∨ g = B15) W ((W.setCell ⟨B15, 0, none⟩ (.string xk)).setCell ⟨B14, 0, none⟩ (.int .i64 ((k : Int) + 1))) := (t1.mono (fun _ _ h => .inr h)).trans t2 (fun _ _ h => .inl h)
  refine ⟨⟨h.kp.touch t3 (fun g hs => ?_), t2.heap h6 (fun e => tags h6 h14 (by decide) e), set_one _ h14, ?_, h.lo⟩, t3, h14⟩
  · rcases hs with rfl | rfl
    · exact .inr h.lo.1
    · exact .inr h.lo.2
  · rw [hx]
    exact t2.heap h15 (fun e => tags h15 h14 (by decide) e)

theorem Rn.bides {Wz : World} {B6 B14 B15 k n : Nat} {X : List (ByteArray × (Option Addr × Nat × Nat))} (hn : Wz.heap.size ≤ n) (h6 : B6 < n) (h14 : B14 < n) (h15 : B15 < n) : Bides n (Rn Wz B6 B14 B15 X k) := fun W l o o' h hl _ _ => h.turn (touch_put W l o') (fun g e => by omega)

theorem list_all (c : ByteArray → ByteArray → Int) (X : List (ByteArray × (Option Addr × Nat × Nat))) : Kd.list c .all X = X := by
  unfold Kd.list
  exact List.filter_eq_self.2 fun _ _ => rfl

theorem Kp.calm {w Wz W : World} {B : Nat} (h : Kp Wz B W) (hw : Calm w Wz) (hB : w.heap.size ≤ B) : Calm w W := hw.trans h fun g hg hs => by
  rcases hs with rfl | hs
  · omega
  · have := hw.size; omega

/-- What the other walks keep. -/
structure Rm (Wz : World) (B6 B14 B25 n cnt : Nat) (Ds : List Nat) (W : World) : Prop where
  kp : Kp Wz B6 W
  b6 : W.heap[B6]? = some (.cells #[.bool false] 4 (0, 0))
  b14 : W.heap[B14]? = some (.cells #[.int .i64 (n : Int)] 3 (0, 0))
  b25 : W.heap[B25]? = some (.cells #[.int .i64 (cnt : Int)] 3 (0, 0))
  ds : ∀ D ∈ Ds, W.heap[D]? = some (.deferred (some []))
  lo : Wz.heap.size ≤ B14 ∧ Wz.heap.size ≤ B25 ∧ B14 ≠ B25

theorem Rm.turn {Wz W W' : World} {B6 B14 B25 n cnt : Nat} {Ds : List Nat} {S : Nat → Prop} (h : Rm Wz B6 B14 B25 n cnt Ds W) (ht : Touch S W W') (hS : ∀ g, S g → Wz.heap.size ≤ g ∧ g ≠ B6 ∧ g ≠ B14 ∧ g ≠ B25 ∧ g ∉ Ds) : Rm Wz B6 B14 B25 n cnt Ds W' :=
  ⟨h.kp.touch ht (fun g hs => .inr (hS g hs).1), ht.heap h.b6 (fun hs => (hS _ hs).2.1 rfl), ht.heap h.b14 (fun hs => (hS _ hs).2.2.1 rfl), ht.heap h.b25 (fun hs => (hS _ hs).2.2.2.1 rfl), fun D hD => ht.heap (h.ds D hD) (fun hs => (hS _ hs).2.2.2.2 hD), h.lo⟩

theorem Rm.calm {Wz W W' : World} {B6 B14 B25 n cnt : Nat} {Ds : List Nat} (h : Rm Wz B6 B14 B25 n cnt Ds W) (ht : Calm W W') : Rm Wz B6 B14 B25 n cnt Ds W' := h.turn ht (fun _ h => h.elim)

theorem Rm.sly {Wz W W' : World} {B6 B14 B25 n cnt top : Nat} {Ds : List Nat} {E : TypeId} (h : Rm Wz B6 B14 B25 n cnt Ds W) (ht : Sly E top W W') (h0 : Wz.heap.size ≤ top) (h6 : B6 < top) (h14 : B14 < top) (h25 : B25 < top) : Rm Wz B6 B14 B25 n cnt Ds W' :=
  h.turn ht (fun g hg => ⟨by omega, by omega, by omega, by omega, fun hD => by
    obtain ⟨_, cs, fr, hc⟩ := hg
    rw [h.ds g hD] at hc
    cases hc⟩)

theorem Rm.bides {Wz : World} {B6 B14 B25 n cnt top : Nat} {Ds : List Nat} (h0 : Wz.heap.size ≤ top) (h6 : B6 < top) (h14 : B14 < top) (h25 : B25 < top) (hD : ∀ D ∈ Ds, D < top) : Bides top (Rm Wz B6 B14 B25 n cnt Ds) := fun W l o o' h hl _ _ => h.turn (touch_put W l o') (fun g e => ⟨by omega, by omega, by omega, by omega, fun hg => by have := hD g hg; omega⟩)

theorem Rm.next {Wz W : World} {B6 B14 B25 n cnt : Nat} {Ds : List Nat} (h : Rm Wz B6 B14 B25 n cnt Ds W) (c' : Nat) : Rm Wz B6 B14 B25 n c' Ds (W.setCell ⟨B25, 0, none⟩ (.int .i64 (c' : Int))) ∧ Touch (fun g => g = B25) W (W.setCell ⟨B25, 0, none⟩ (.int .i64 (c' : Int))) := by
  have t1 : Touch (fun g => g = B25) W (W.setCell ⟨B25, 0, none⟩ (.int .i64 (c' : Int))) := (Touch.refl (fun g => g = B25) W).setCell (p := ⟨B25, 0, none⟩) (fun _ => rfl) _
  refine ⟨⟨h.kp.touch t1 (fun g e => by subst e; exact .inr h.lo.2.1), t1.heap h.b6 (fun e => tags h.b6 h.b25 (by decide) e), t1.heap h.b14 (fun e => h.lo.2.2 e), set_one _ h.b25, fun D hD => t1.heap (h.ds D hD) (fun e => ?_), h.lo⟩, t1⟩
  subst e
  have h1 := h.ds D hD
  rw [h.b25] at h1
  cases h1

theorem both_walks {c : ByteArray → ByteArray → Int} {key : ByteArray} {X : List (ByteArray × (Option Addr × Nat × Nat))} (hd : Dec (c key) X) :
    (Kd.list c (.fwd key) X).length + (Kd.list c (.back key) X).length = X.length + (if (it (c key) X).isSome = true then 1 else 0) := by
  have hs := hd.split
  have h1 : (Kd.list c (.fwd key) X).length = (it (c key) X).toList.length + (dn (c key) X).length := by
    unfold Kd.list
    show (X.filter _).length = _
    have : X.filter (fun a => Kd.g c (.fwd key) a.1) = (it (c key) X).toList ++ dn (c key) X := by
      rw [hs, List.filter_append, List.filter_append]
      have e1 : (up (c key) X).filter (fun a => Kd.g c (.fwd key) a.1) = [] := List.filter_eq_nil_iff.2 fun a ha => by have := (up_mem.1 ha).2; simp [Kd.g]; omega
      have e2 : (it (c key) X).toList.filter (fun a => Kd.g c (.fwd key) a.1) = (it (c key) X).toList := List.filter_eq_self.2 fun a ha => by
        have := (it_some (Option.mem_toList.1 ha)).2
        simp [Kd.g]; omega
      have e3 : (dn (c key) X).filter (fun a => Kd.g c (.fwd key) a.1) = dn (c key) X := List.filter_eq_self.2 fun a ha => by have := (dn_mem.1 ha).2; simp [Kd.g]; omega
      rw [← hs, e1, e2, e3]; rfl
    rw [this, List.length_append]
  have h2 : (Kd.list c (.back key) X).length = (up (c key) X).length + (it (c key) X).toList.length := by
    unfold Kd.list
    show (X.reverse.filter _).length = _
    rw [List.filter_reverse, List.length_reverse]
    have : X.filter (fun a => Kd.g c (.back key) a.1) = up (c key) X ++ (it (c key) X).toList := by
      rw [hs, List.filter_append, List.filter_append]
      have e1 : (up (c key) X).filter (fun a => Kd.g c (.back key) a.1) = up (c key) X := List.filter_eq_self.2 fun a ha => by have := (up_mem.1 ha).2; simp [Kd.g]; omega
      have e2 : (it (c key) X).toList.filter (fun a => Kd.g c (.back key) a.1) = (it (c key) X).toList := List.filter_eq_self.2 fun a ha => by
        have := (it_some (Option.mem_toList.1 ha)).2
        simp [Kd.g]; omega
      have e3 : (dn (c key) X).filter (fun a => Kd.g c (.back key) a.1) = [] := List.filter_eq_nil_iff.2 fun a ha => by have := (dn_mem.1 ha).2; simp [Kd.g]; omega
      rw [← hs, e1, e2, e3]; simp
    rw [this, List.length_append]
  have h3 := congrArg List.length hs
  simp only [List.length_append] at h3
  rw [h1, h2]
  cases hi : it (c key) X with
  | none => simp [hi] at h3 ⊢; omega
  | some a => simp [hi] at h3 ⊢; omega

def mark (D : Nat) : Deferred := { target := .collected D, args := #[] }

theorem leaves_marks {F : Fence} {n : Nat} {P : Program} {fn : Func} {tmps : Array Value} {R : Ending → World → Prop} : ∀ (Ds : List Nat) (W : World), (∀ D ∈ Ds, W.heap[D]? = some (.deferred (some []))) → Ds.Nodup →
    (∀ W', Touch (fun g => g ∈ Ds) W W' → LeavesIn F n P fn tmps R [] .returning W') → LeavesInM F n P fn tmps R (Ds.map mark) .returning W
  | [], W, _, _, h => h W (Touch.refl _ _)
  | D :: Ds, W, h1, h2, h3 => by
    rw [List.nodup_cons] at h2
    have t1 := touch_put W D (.deferred none)
    refine ⟨by simp, .inl ⟨D, _, rfl, run_takeDeferred (h1 D (by simp)), leaves_marks Ds _ (fun E hE => ?_) h2.2 (fun W' ht => h3 W' ?_)⟩⟩
    · exact t1.heap (h1 E (by simp [hE])) (fun e => h2.1 (e ▸ hE))
    · exact (t1.mono (fun g _ e => by rw [e]; simp)).trans ht (fun g _ hg => by simp [hg])

theorem ptr_same (li : Nat) (W : World) : (binOp .neq 74 (.pointer (some ⟨li, 0, none⟩)) (.pointer (some ⟨li, 0, none⟩))).run Try.prog W = .ok (.bool false) W := by
  have e : binOp .neq 74 (.pointer (some ⟨li, 0, none⟩)) (.pointer (some ⟨li, 0, none⟩)) = (do pure (.bool (!(← Op.equalIn (9999 + 1) 74 (.pointer (some ⟨li, 0, none⟩)) (.pointer (some ⟨li, 0, none⟩)))))) := rfl
  rw [e]
  unfold Op.equalIn
  simp [Sem.run_bind, run_underlying Try.underlying74, Result.andThen_ok, sameAddr, go_sem]

theorem seq_not_nil (lb : Array Value) (W : World) : (binOp .eql 68 (.func (.func 72) #[] lb) .nilFunc).run Try.prog W = .ok (.bool false) W := by
  have e : binOp .eql 68 (.func (.func 72) #[] lb) .nilFunc = (do pure (.bool (← Op.equalIn (9999 + 1) 68 (.func (.func 72) #[] lb) .nilFunc))) := rfl
  rw [e]
  unfold Op.equalIn
  simp only [Sem.run_bind, run_underlying Try.underlying68, Result.andThen_ok, Sem.run_pure]

end Go.Proofs.Ytcbaloenlodkdaa.XM
