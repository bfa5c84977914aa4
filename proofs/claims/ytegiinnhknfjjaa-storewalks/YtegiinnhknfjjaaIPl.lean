/- Three maps on each side. -/
import Derived.Test.YtegiinnhknfjjaaINone
namespace Go.Proofs.Ytegiinnhknfjjaa.IM
open Go.RowKit

/-- An array of three. -/
def Arr (W : World) (A : Nat) (t : TypeId) (f : Nat → Value) : Prop := W.heap[A]? = some (.cells #[f 0, f 1, f 2] t (0, 0))

theorem Arr.touch {S : Nat → Prop} {W W' : World} {A : Nat} {t : TypeId} {f : Nat → Value} (h : Arr W A t f) (ht : Touch S W W') (hn : ¬ S A) : Arr W' A t f := ht.heap h hn

theorem Arr.cell {W : World} {A : Nat} {t : TypeId} {f : Nat → Value} (h : Arr W A t f) {k : Nat} (hk : k < 3) : W.cell? ⟨A, k, none⟩ = some (f k) ∧ W.frozen? ⟨A, k, none⟩ = false := by
  have h' : W.heap[A]? = some (.cells #[f 0, f 1, f 2] t (0, 0)) := h
  rcases (by omega : k = 0 ∨ k = 1 ∨ k = 2) with rfl | rfl | rfl <;> simp [World.cell?, World.frozen?, h']

def upd {α : Type} (f : Nat → α) (n : Nat) (v : α) : Nat → α := fun i => if i = n then v else f i

theorem upd_same {α : Type} (f : Nat → α) (n : Nat) (v : α) : upd f n v n = v := if_pos rfl
theorem upd_other {α : Type} (f : Nat → α) {n i : Nat} (v : α) (h : i ≠ n) : upd f n v i = f i := if_neg h

theorem Arr.set {W : World} {A : Nat} {t : TypeId} {f : Nat → Value} (h : Arr W A t f) {k : Nat} (hk : k < 3) (v : Value) : Arr (W.setCell ⟨A, k, none⟩ v) A t (upd f k v) := by
  have h' : W.heap[A]? = some (.cells #[f 0, f 1, f 2] t (0, 0)) := h
  have h2 := heap_setCell_row (i := k) h' v
  unfold Arr
  rw [h2]
  rcases (by omega : k = 0 ∨ k = 1 ∨ k = 2) with rfl | rfl | rfl <;> rfl

/-- The first k of three maps on each side. -/
structure Th (w W : World) (A5 A6 : Nat) (which : Int) (mm bb rr : Nat → Nat) (XX : Nat → List (Int × Int)) (k L : Nat) : Prop where
  calm : Calm w W
  a5 : ∃ f, Arr W A5 24 f ∧ ∀ i, i < k → f i = .pointer (some ⟨mm i, 0, none⟩)
  a6 : ∃ f, Arr W A6 26 f ∧ ∀ i, i < k → f i = .pointer (some ⟨rr i, 0, none⟩)
  bt : ∀ i, i < k → Bt W (mm i) (bb i) (rr i) which (XX i)
  len : ∀ i, i < k → (XX i).length ≤ L
  ne : ∀ i j, i < k → j < k → i ≠ j → mm i ≠ mm j ∧ rr i ≠ rr j
  new : w.heap.size ≤ A5 ∧ w.heap.size ≤ A6 ∧ ∀ i, i < k → w.heap.size ≤ mm i ∧ w.heap.size ≤ rr i

theorem Th.turn {w W W' : World} {A5 A6 : Nat} {which : Int} {mm bb rr : Nat → Nat} {XX : Nat → List (Int × Int)} {k L : Nat} (h : Th w W A5 A6 which mm bb rr XX k L) (ht : Calm W W') : Th w W' A5 A6 which mm bb rr XX k L := by
  obtain ⟨f5, h5, g5⟩ := h.a5
  obtain ⟨f6, h6, g6⟩ := h.a6
  exact ⟨h.calm.tr ht, ⟨f5, h5.touch ht (fun h => h), g5⟩, ⟨f6, h6.touch ht (fun h => h), g6⟩, fun i hi => (h.bt i hi).calm ht, h.len, h.ne, h.new⟩

theorem Th.more {w W : World} {A5 A6 : Nat} {which : Int} {mm bb rr : Nat → Nat} {XX : Nat → List (Int × Int)} {k L L' : Nat} (h : Th w W A5 A6 which mm bb rr XX k L) (hL : L ≤ L') : Th w W A5 A6 which mm bb rr XX k L' :=
  ⟨h.calm, h.a5, h.a6, h.bt, fun i hi => Nat.le_trans (h.len i hi) hL, h.ne, h.new⟩

/-- What lies at a place. -/
theorem Th.cell {w W : World} {A5 A6 : Nat} {which : Int} {mm bb rr : Nat → Nat} {XX : Nat → List (Int × Int)} {k L : Nat} (h : Th w W A5 A6 which mm bb rr XX k L) {n : Nat} (hn : n < k) (h3 : n < 3) :
    (W.cell? ⟨A5, n, none⟩ = some (.pointer (some ⟨mm n, 0, none⟩)) ∧ W.frozen? ⟨A5, n, none⟩ = false) ∧ (W.cell? ⟨A6, n, none⟩ = some (.pointer (some ⟨rr n, 0, none⟩)) ∧ W.frozen? ⟨A6, n, none⟩ = false) := by
  obtain ⟨f5, h5, g5⟩ := h.a5
  obtain ⟨f6, h6, g6⟩ := h.a6
  have c5 := h5.cell h3
  have c6 := h6.cell h3
  rw [g5 n hn] at c5
  rw [g6 n hn] at c6
  exact ⟨c5, c6⟩

theorem Th.froz {w W : World} {A5 A6 : Nat} {which : Int} {mm bb rr : Nat → Nat} {XX : Nat → List (Int × Int)} {k L : Nat} (h : Th w W A5 A6 which mm bb rr XX k L) {n : Nat} (h3 : n < 3) :
    (∃ v, W.cell? ⟨A5, n, none⟩ = some v) ∧ W.frozen? ⟨A5, n, none⟩ = false ∧ (∃ v, W.cell? ⟨A6, n, none⟩ = some v) ∧ W.frozen? ⟨A6, n, none⟩ = false := by
  obtain ⟨f5, h5, g5⟩ := h.a5
  obtain ⟨f6, h6, g6⟩ := h.a6
  have c5 := h5.cell h3
  have c6 := h6.cell h3
  exact ⟨⟨_, c5.1⟩, c5.2, ⟨_, c6.1⟩, c6.2⟩

/-- The arrays are no maps, and no rows. -/
theorem Th.apart {w W : World} {A5 A6 : Nat} {which : Int} {mm bb rr : Nat → Nat} {XX : Nat → List (Int × Int)} {k L : Nat} (h : Th w W A5 A6 which mm bb rr XX k L) {n : Nat} (hn : n < k) :
    A5 ≠ mm n ∧ A5 ≠ rr n ∧ A6 ≠ mm n ∧ A6 ≠ rr n := by
  obtain ⟨f5, h5, g5⟩ := h.a5
  obtain ⟨f6, h6, g6⟩ := h.a6
  obtain ⟨ro, hM, _⟩ := (h.bt n hn).mt
  obtain ⟨ao, cap, hf⟩ := (h.bt n hn).rf
  exact ⟨fun e => tags h5 hM (by decide) e, fun e => tags h5 hf.own (by decide) e, fun e => tags h6 hM (by decide) e, fun e => tags h6 hf.own (by decide) e⟩

/-- A call of the n-th of them. -/
theorem Th.step {w W W' : World} {A5 A6 : Nat} {which : Int} {mm bb rr : Nat → Nat} {XX : Nat → List (Int × Int)} {k L : Nat} (h : Th w W A5 A6 which mm bb rr XX k L) {n : Nat} (hn : n < k) {X' : List (Int × Int)} (hb : Bt W' (mm n) (bb n) (rr n) which X') (hl : X'.length ≤ (XX n).length + 1)
    (ht : Touch (fun g => g = mm n ∨ g = rr n) W W') : Th w W' A5 A6 which mm bb rr (upd XX n X') k (L + 1) := by
  obtain ⟨p1, p2, p3, p4⟩ := h.apart hn
  obtain ⟨f5, h5, g5⟩ := h.a5
  obtain ⟨f6, h6, g6⟩ := h.a6
  obtain ⟨ro, hM, _⟩ := (h.bt n hn).mt
  obtain ⟨ao, cap, hf⟩ := (h.bt n hn).rf
  refine ⟨h.calm.trans ht (fun g hg e => ?_), ⟨f5, h5.touch ht (fun e => e.elim p1 p2), g5⟩, ⟨f6, h6.touch ht (fun e => e.elim p3 p4), g6⟩, fun i hi => ?_, fun i hi => ?_, h.ne, h.new⟩
  · have := h.new.2.2 n hn
    rcases e with e | e <;> omega
  · by_cases e : i = n
    · subst e; rw [upd_same]; exact hb
    · rw [upd_other _ _ e]
      obtain ⟨ri, hMi, _⟩ := (h.bt i hi).mt
      obtain ⟨aoi, capi, hfi⟩ := (h.bt i hi).rf
      have q := h.ne i n hi hn e
      refine (h.bt i hi).touch ht (fun e => ?_) (fun e => ?_) (fun e => ?_) (fun g cs t fr e hg => ?_)
      · rcases e with e | e
        · exact q.1 e
        · exact tags hMi hf.own (by decide) e
      · rcases e with e | e
        · exact tags (h.bt i hi).ord hM (by decide) e
        · exact tags (h.bt i hi).ord hf.own (by decide) e
      · rcases e with e | e
        · exact tags hfi.own hM (by decide) e
        · exact q.2 e
      · rcases e with e | e
        · subst e
          exact ⟨fun et => by subst et; exact tags hM hg (by decide) rfl, fun et => by subst et; exact tags hM hg (by decide) rfl⟩
        · subst e
          exact ⟨fun et => by subst et; exact tags hf.own hg (by decide) rfl, fun et => by subst et; exact tags hf.own hg (by decide) rfl⟩
  · by_cases e : i = n
    · subst e; rw [upd_same]; have := h.len i hi; omega
    · rw [upd_other _ _ e]; have := h.len i hi; omega

/-- A new pair of maps at the n-th place. -/
theorem Th.put {w W W1 W3 : World} {A5 A6 : Nat} {which : Int} {mm bb rr : Nat → Nat} {XX : Nat → List (Int × Int)} {k L : Nat} (h : Th w W A5 A6 which mm bb rr XX k L) {n k' : Nat} (h3 : n < 3) (hk : ∀ i, i < k' → i ≠ n → i < k) {m' B' r' : Nat} {X' : List (Int × Int)}
    (hm : Mt W1 m' 31 #[.pointer (some ⟨B', 0, none⟩)] X') (hB : W1.heap[B']? = some (.cells #[.int .i64 which] 3 (0, 0))) (sm : W.heap.size ≤ m') (t1 : Calm W W1)
    (hr : ∃ ao cap, Rf W3 r' which X' ao cap) (sr : (W1.setCell ⟨A5, n, none⟩ (.pointer (some ⟨m', 0, none⟩))).heap.size ≤ r') (t3 : Calm (W1.setCell ⟨A5, n, none⟩ (.pointer (some ⟨m', 0, none⟩))) W3) (hup : Up (ord3 which) X') (hl : X'.length ≤ L) :
    Th w (W3.setCell ⟨A6, n, none⟩ (.pointer (some ⟨r', 0, none⟩))) A5 A6 which (upd mm n m') (upd bb n B') (upd rr n r') (upd XX n X') k' L := by
  have h1 := h.turn t1
  obtain ⟨f5, h5, g5⟩ := h1.a5
  obtain ⟨f6, h6, g6⟩ := h1.a6
  have tA : Touch (fun g => g = A5) W1 (W1.setCell ⟨A5, n, none⟩ (.pointer (some ⟨m', 0, none⟩))) := (Touch.refl (fun g => g = A5) W1).setCell (p := ⟨A5, n, none⟩) (fun _ => rfl) _
  have tB : Touch (fun g => g = A6) W3 (W3.setCell ⟨A6, n, none⟩ (.pointer (some ⟨r', 0, none⟩))) := (Touch.refl (fun g => g = A6) W3).setCell (p := ⟨A6, n, none⟩) (fun _ => rfl) _
  have k5 := (h5.set h3 (.pointer (some ⟨m', 0, none⟩)))
  have t2 : Touch (fun g => g = A5) W1 W3 := tA.trans t3 (fun _ _ h => h.elim)
  have h65 : A6 ≠ A5 := fun e => tags h6 h5 (by decide) e
  have k6 := h6.touch t2 h65
  have k53 : Arr W3 A5 _ _ := k5.touch t3 (fun h => h)
  have tAB : Touch (fun g => g = A5 ∨ g = A6) W1 (W3.setCell ⟨A6, n, none⟩ (.pointer (some ⟨r', 0, none⟩))) := (t2.mono (fun _ _ h => .inl h)).trans tB (fun _ _ h => .inr h)
  have sz1 := t1.size
  have sz2 : W1.heap.size ≤ r' := Nat.le_trans tA.size sr
  have notS : ∀ g cs t fr, (g = A5 ∨ g = A6) → W1.heap[g]? = some (.cells cs t fr) → t ≠ 105 ∧ t ≠ 57 := by
    intro g cs t fr e hg
    rcases e with e | e
    · subst e
      exact ⟨fun et => by subst et; exact tags h5 hg (by decide) rfl, fun et => by subst et; exact tags h5 hg (by decide) rfl⟩
    · subst e
      exact ⟨fun et => by subst et; exact tags h6 hg (by decide) rfl, fun et => by subst et; exact tags h6 hg (by decide) rfl⟩
  have hMB := hm
  obtain ⟨ro, hM, _⟩ := hm
  refine ⟨h1.calm.trans tAB (fun g hg e => ?_), ⟨_, k53.touch tB (fun e => h65 e.symm), fun i hi => ?_⟩, ⟨_, k6.set h3 _, fun i hi => ?_⟩, fun i hi => ?_, fun i hi => ?_, fun i j hi hj hij => ?_, h.new.1, h.new.2.1, fun i hi => ?_⟩
  · have := h.new
    rcases e with e | e <;> omega
  · by_cases e : i = n
    · subst e; rw [upd_same, upd_same]
    · rw [upd_other _ _ e, upd_other _ _ e]; exact g5 i (hk i hi e)
  · by_cases e : i = n
    · subst e; rw [upd_same, upd_same]
    · rw [upd_other _ _ e, upd_other _ _ e]; exact g6 i (hk i hi e)
  · by_cases e : i = n
    · subst e
      rw [upd_same, upd_same, upd_same, upd_same]
      refine ⟨hMB.touch tAB (fun e => ?_) (fun b cs fr e hb => (notS b cs _ fr e hb).1 rfl), tAB.heap hB (fun e => ?_), ?_, hup⟩
      · rcases e with e | e
        · exact tags h5 hM (by decide) e.symm
        · exact tags h6 hM (by decide) e.symm
      · rcases e with e | e
        · exact tags h5 hB (by decide) e.symm
        · exact tags h6 hB (by decide) e.symm
      · obtain ⟨ao, cap, rf⟩ := hr
        exact ⟨ao, cap, rf.touch tB (fun e => tags k6 rf.own (by decide) e.symm) (fun g cs fr e hg => by subst e; exact tags k6 hg (by decide) rfl)⟩
    · rw [upd_other _ _ e, upd_other _ _ e, upd_other _ _ e, upd_other _ _ e]
      have bi := h1.bt i (hk i hi e)
      obtain ⟨p1, p2, p3, p4⟩ := h1.apart (hk i hi e)
      refine bi.touch tAB (fun e => e.elim (fun e => p1 e.symm) (fun e => p3 e.symm)) (fun e => ?_) (fun e => e.elim (fun e => p2 e.symm) (fun e => p4 e.symm)) notS
      rcases e with e | e
      · exact tags h5 bi.ord (by decide) e.symm
      · exact tags h6 bi.ord (by decide) e.symm
  · by_cases e : i = n
    · subst e; rw [upd_same]; exact hl
    · rw [upd_other _ _ e]; exact h.len i (hk i hi e)
  · have lo : ∀ j, j < k → mm j < W.heap.size ∧ rr j < W.heap.size := fun j hj => ⟨(h.bt j hj).lt.1, (h.bt j hj).lt.2.1⟩
    by_cases e : i = n
    · subst e
      have ej : j ≠ i := fun h => hij h.symm
      rw [upd_same, upd_same, upd_other _ _ ej, upd_other _ _ ej]
      have := lo j (hk j hj ej)
      exact ⟨by omega, by omega⟩
    · by_cases ej : j = n
      · subst ej
        rw [upd_same, upd_same, upd_other _ _ e, upd_other _ _ e]
        have := lo i (hk i hi e)
        exact ⟨by omega, by omega⟩
      · rw [upd_other _ _ e, upd_other _ _ e, upd_other _ _ ej, upd_other _ _ ej]
        exact h.ne i j (hk i hi e) (hk j hj ej) hij
  · have s0 := h.calm.size
    by_cases e : i = n
    · subst e; rw [upd_same, upd_same]; exact ⟨by omega, by omega⟩
    · rw [upd_other _ _ e, upd_other _ _ e]; exact h.new.2.2 i (hk i hi e)

end Go.Proofs.Ytegiinnhknfjjaa.IM
