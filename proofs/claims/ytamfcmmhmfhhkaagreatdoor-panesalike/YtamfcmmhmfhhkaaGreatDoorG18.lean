/- A pane put together (the program's paneOf); what a reader keeps in memory. A law for a scope in which the run jumps to any of its labels, forward or back. A law for a scope in which the run jumps to any of its labels, and falls into a label that stands lower. What the program's read keeps at its labels. -/
import Derived.Test.YtamfcmmhmfhhkaaGreatDoorG17
import Derived.Scope
import Derived.ScopeJumps
import Derived.Below
import Derived.Test.YtamfcmmhmfhhkaaGreatDoorG1
import Derived.Test.YtamfcmmhmfhhkaaGreatDoorG16
namespace Go.Proofs.YtamfcmmhmfhhkaaGreatDoor
open Go.RowKit

set_option maxRecDepth 100000 in
set_option maxHeartbeats 4000000 in
theorem paneOf_any (k : ByteArray) (d : Int) (f : Nat → Int) (w : World) : Calls Tryz.prog 55 #[.string k, .int .i64 d, .agg (f7c f)] w fun e w' => e = .returned (pnv (pnF k d f)) ∧ Calm w w' := by
  have N0 := hide (al_new w (.cells (f7c f) 91))
  have S0 := al_size w (.cells (f7c f) 91)
  have N1 := hide (al_old N0.out (.cells (pnc pn0) 40))
  have P1 := al_new (w.alloc (.cells (f7c f) 91)) (.cells (pnc pn0) 40)
  rw [S0] at P1
  have P2 := hide P1
  have T1 := hide (((Touch.refl (fun _ => False) w).alloc (.cells (f7c f) 91)).alloc (.cells (pnc pn0) 40))
  clear P1 N0
  obtain ⟨c0, c1, c2, c3, c4, c5, c6⟩ := (⟨f7_cells N1.out 0 (by omega), f7_cells N1.out 1 (by omega), f7_cells N1.out 2 (by omega), f7_cells N1.out 3 (by omega), f7_cells N1.out 4 (by omega), f7_cells N1.out 5 (by omega), f7_cells N1.out 6 (by omega)⟩ : _ ∧ _ ∧ _ ∧ _ ∧ _ ∧ _ ∧ _)
  have hi9 : (Tryz.prog.info? 40).map (·.size) = some 9 := by kernel_rfl
  show Calls Tryz.prog 55 #[.string k, .int .i64 d, .agg (f7c f)] w fun e w' => e = .returned (pnv ⟨k, f 0, f 1, d, f 2, ⟨f 3, f 4, f 5, f 6⟩⟩) ∧ Calm w w'
  generalize f 0 = x0 at *
  generalize f 1 = x1 at *
  generalize f 2 = x2 at *
  generalize f 3 = x3 at *
  generalize f 4 = x4 at *
  generalize f 5 = x5 at *
  generalize f 6 = x6 at *
  have hq1 : Hid ((pnc (⟨k, x0, x1, d, x2, ⟨x3, x4, x5, x6⟩⟩ : Pn)).all (·.oneCell') = true) := hide (by simp [Value.oneCell'])
  have Q1 := hide (setRow_heap _ _ _ (pnc (⟨k, x0, x1, d, x2, ⟨x3, x4, x5, x6⟩⟩ : Pn)) _ _ P2.out)
  have Q2 := hide (T1.out.trans (S' := fun g => g = w.heap.size + 1) (c := (((w.alloc (.cells (f7c f) 91)).alloc (.cells (pnc pn0) 40)).setRow (w.heap.size + 1) (pnc (⟨k, x0, x1, d, x2, ⟨x3, x4, x5, x6⟩⟩ : Pn)))) ⟨rfl, rfl, rfl, by simp, fun j _ hj => setRow_other _ _ j _ hj⟩ (fun g hg e => by omega))
  go_enter Tryz.func55, Tryz.ntmps55
  go_wp2_with (refine wpList_store_rowTo rfl 40 (.tmp 6) (.tmp 25) rfl rfl (w.heap.size + 1) (pnc (⟨k, x0, x1, d, x2, ⟨x3, x4, x5, x6⟩⟩ : Pn)) rfl rfl 40 _ P2.out hi9 rfl hq1.out ?_)
  refine bodyPost_ret (results_cell_row rfl _ _ _ _ _ _ _ rfl Q1.out Tryz.underlying40 rfl (by kernel_rfl)) rfl ?_
  exact ⟨rfl, Q2.out⟩

end Go.Proofs.YtamfcmmhmfhhkaaGreatDoor

namespace Go.Proofs.YtamfcmmhmfhhkaaGreatDoor
open Go.RowKit

/-- By a goto to label l: J l; else as Q. -/
def jumps (J : Nat → Act → World → Prop) (Q : Exit → Act → World → Prop) : Exit → Act → World → Prop
  | .goto l, a, w => J l a w
  | e, a, w => Q e a w

theorem wp_scope_many {P : Program} {a : Act} {w : World} {Q : Exit → Act → World → Prop} {c : Code} (J : Nat → Act → World → Prop) (m : Nat → Act → World → Nat)
    (first : Hid (∀ l a w X, J l a w → findLabel c l = some (Code.skip.seq X) → X.wp P (jumps J Q) a w) → c.wp P (jumps J Q) a w)
    (pass0 : ∀ l a w, J l a w → ∃ X, findLabel c l = some (Code.skip.seq X) ∧ X.wp P (jumps (fun l' a' w' => J l' a' w' ∧ m l' a' w' < m l a w) Q) a w) : (Code.scope c).wp P Q a w := by
  have pass : ∀ l a w, J l a w → ∃ rest, findLabel c l = some rest ∧ rest.wp P (jumps (fun l' a' w' => J l' a' w' ∧ m l' a' w' < m l a w) Q) a w := by
    intro l a w hJ
    obtain ⟨X, hX, hp⟩ := pass0 l a w hJ
    exact ⟨_, hX, wp_seq (wp_skip hp)⟩
  have weak : ∀ l a w X, J l a w → findLabel c l = some (Code.skip.seq X) → X.wp P (jumps J Q) a w := by
    intro l a w X hJ hr b k cs
    obtain ⟨X', hr', hp⟩ := pass0 l a w hJ
    obtain rfl : X' = X := by rw [hr] at hr'; injection hr' with h; injection h with _ h; exact h.symm
    obtain ⟨e, a1, w1, hq, harr⟩ := hp b k cs
    refine ⟨e, a1, w1, ?_, harr⟩
    cases e with
    | goto l' => exact hq.1
    | normal => exact hq
    | exit id => exact hq
    | ret => exact hq
    | panic ch => exact hq
    | outgrown => exact hq
  intro b k cs
  have key : ∀ n l a w, m l a w = n → J l a w → ∀ rest, findLabel c l = some rest → ∃ e a' w', Q e a' w' ∧ Arrives P (lone (b.at a (.code rest :: .inScope c :: k)) cs w) b k cs e a' w' := by
    intro n
    induction n using Nat.strongRecOn with
    | _ n ih =>
      intro l a w hn hJ rest hr
      obtain ⟨rest', hr', hp⟩ := pass l a w hJ
      obtain rfl : rest' = rest := by rw [hr] at hr'; injection hr' with h; exact h.symm
      obtain ⟨e, a1, w1, hq, harr⟩ := hp b (.inScope c :: k) cs
      cases e with
      | normal => exact ⟨.normal, a1, w1, hq, Steps.trans harr (.one step_inScope)⟩
      | exit id => exact ⟨.exit id, a1, w1, hq, fun k' hk => harr k' (by simp [exitTo, hk])⟩
      | goto l' =>
        obtain ⟨hJ', hlt⟩ := hq
        obtain ⟨rest2, hf2, _⟩ := pass l' a1 w1 hJ'
        obtain ⟨e2, a2, w2, hq2, harr2⟩ := ih _ (by omega) l' a1 w1 rfl hJ' rest2 hf2
        exact ⟨e2, a2, w2, hq2, .of_steps (harr _ (by simp [gotoIn, hf2])) harr2⟩
      | ret => exact ⟨_, a1, w1, hq, harr⟩
      | panic ch => exact ⟨_, a1, w1, hq, harr⟩
      | outgrown => exact ⟨_, a1, w1, hq, harr⟩
  obtain ⟨e, a1, w1, hq, harr⟩ := first weak b (.inScope c :: k) cs
  cases e with
  | normal => exact ⟨.normal, a1, w1, hq, .head step_scope (Steps.trans harr (.one step_inScope))⟩
  | exit id => exact ⟨.exit id, a1, w1, hq, fun k' hk => .head step_scope (harr k' (by simp [exitTo, hk]))⟩
  | goto l' =>
    obtain ⟨rest2, hf2, _⟩ := pass l' a1 w1 hq
    obtain ⟨e2, a2, w2, hq2, harr2⟩ := key _ l' a1 w1 rfl hq rest2 hf2
    exact ⟨e2, a2, w2, hq2, .of_steps (.head step_scope (harr _ (by simp [gotoIn, hf2]))) harr2⟩
  | ret => exact ⟨_, a1, w1, hq, .of_steps (.one step_scope) harr⟩
  | panic ch => exact ⟨_, a1, w1, hq, .of_steps (.one step_scope) harr⟩
  | outgrown => exact ⟨_, a1, w1, hq, .of_steps (.one step_scope) harr⟩

end Go.Proofs.YtamfcmmhmfhhkaaGreatDoor

namespace Go.Proofs.YtamfcmmhmfhhkaaGreatDoor
open Go.RowKit

theorem jumps_mono {J J' : Nat → Act → World → Prop} {Q : Exit → Act → World → Prop} (h : ∀ l a w, J l a w → J' l a w) (e : Exit) (a : Act) (w : World) (hq : jumps J Q e a w) : jumps J' Q e a w := by
  cases e with
  | goto l => exact h l a w hq
  | normal => exact hq
  | exit id => exact hq
  | ret => exact hq
  | panic ch => exact hq
  | outgrown => exact hq
theorem wp_jumps_mono {P : Program} {X : Code} {J J' : Nat → Act → World → Prop} {Q : Exit → Act → World → Prop} {a : Act} {w : World} (h : ∀ l a w, J l a w → J' l a w) (hw : X.wp P (jumps J Q) a w) : X.wp P (jumps J' Q) a w := by
  intro b k cs
  obtain ⟨e, a1, w1, hq, harr⟩ := hw b k cs
  exact ⟨e, a1, w1, jumps_mono h e a1 w1 hq, harr⟩

theorem wp_scope_fall {P : Program} {a : Act} {w : World} {Q : Exit → Act → World → Prop} {c : Code} (J : Nat → Act → World → Prop) (m : Nat → Act → World → Nat)
    (first : Hid (∀ l a w X, J l a w → findLabel c l = some (Code.skip.seq X) → X.wp P (jumps J Q) a w) → c.wp P (jumps J Q) a w)
    (pass0 : ∀ l a w, J l a w → Hid (∀ l' a' w' X', J l' a' w' → m l' a' w' < m l a w → findLabel c l' = some (Code.skip.seq X') → X'.wp P (jumps (fun l2 a2 w2 => J l2 a2 w2 ∧ m l2 a2 w2 < m l a w) Q) a' w') →
      ∃ X, findLabel c l = some (Code.skip.seq X) ∧ X.wp P (jumps (fun l' a' w' => J l' a' w' ∧ m l' a' w' < m l a w) Q) a w) : (Code.scope c).wp P Q a w := by
  refine wp_scope_many J m first ?_
  have key : ∀ n l a w, m l a w = n → J l a w → ∃ X, findLabel c l = some (Code.skip.seq X) ∧ X.wp P (jumps (fun l' a' w' => J l' a' w' ∧ m l' a' w' < n) Q) a w := by
    intro n
    induction n using Nat.strongRecOn with
    | _ n ih =>
      intro l a w hn hJ
      subst hn
      refine pass0 l a w hJ (hide ?_)
      intro l' a' w' X' hJ' hlt hf
      obtain ⟨X, hX, hw⟩ := ih _ hlt l' a' w' rfl hJ'
      rw [hf] at hX
      injection hX with hX
      injection hX with _ hX
      subst hX
      exact wp_jumps_mono (fun l2 a2 w2 h => ⟨h.1, Nat.lt_trans h.2 hlt⟩) hw
  exact fun l a w hJ => key _ l a w rfl hJ

end Go.Proofs.YtamfcmmhmfhhkaaGreatDoor

namespace Go.Proofs.YtamfcmmhmfhhkaaGreatDoor
open Go.RowKit

/-- What a reader keeps in memory. -/
structure RdM (w W : World) (D : Nat) (R : List UInt8) (f : Nat → Int) (v : Value) (A : List Int) : Prop where
  res : W.heap[D]? = some (.cells (pnc pn0) 40 (0, 0))
  crs : Crs W (D + 1) R
  num : W.heap[D + 2]? = some (.cells (f7c f) 91 (0, 0))
  row : encB.Own 5 W (D + 3) v A
  calm : Calm w W
  big : D + 3 ≤ W.heap.size
  low : w.heap.size = D
theorem RdM.stay {w W W' : World} {D : Nat} {R : List UInt8} {f : Nat → Int} {v : Value} {A : List Int} (h : RdM w W D R f v A) (ht : Calm W W') : RdM w W' D R f v A :=
  ⟨ht.at h.res, h.crs.calm ht, ht.at h.num, Rc.Own.calm h.row ht, h.calm.tr ht, Nat.le_trans h.big ht.size, h.low⟩
theorem RdM.step {w W W' : World} {D : Nat} {R R' : List UInt8} {f : Nat → Int} {v : Value} {A : List Int} (h : RdM w W D R f v A) (hc : Crs W' (D + 1) R') (ht : Touch (fun g => g = D + 1) W W') : RdM w W' D R' f v A :=
  ⟨ht.heap h.res (by omega), hc, ht.heap h.num (by omega), Rc.Own.touch h.row ht (fun g hg e => by have := (Rc.own_block h.row hg).1; omega), h.calm.trans ht (fun k hk e => by have := h.low; omega), Nat.le_trans h.big ht.size, h.low⟩
theorem RdM.grow {w W W' : World} {D : Nat} {R : List UInt8} {f : Nat → Int} {v v' : Value} {A A' : List Int} (h : RdM w W D R f v A) (ho : encB.Own 5 W' (D + 3) v' A') (ht : Touch (fun d => v.ownBlock = some d) W W') : RdM w W' D R f v' A' := by
  have hb : ∀ g, v.ownBlock = some g → D + 3 ≤ g := fun g hg => (Rc.own_block h.row hg).1
  exact ⟨ht.heap h.res (fun e => by have := hb _ e; omega), ht.heap h.crs (fun e => by have := hb _ e; omega), ht.heap h.num (fun e => by have := hb _ e; omega), ho, h.calm.trans ht (fun k hk e => by have := h.low; have := hb _ e; omega), Nat.le_trans h.big ht.size, h.low⟩
theorem RdM.set {w W : World} {D : Nat} {R : List UInt8} {f : Nat → Int} {v : Value} {A : List Int} (h : RdM w W D R f v A) {j : Nat} (hj : j < 7) (x : Int) : RdM w (W.setCell ⟨D + 2, j, none⟩ (.int .i64 x)) D R (upG f j x) v A := by
  have ht : Touch (fun g => g = D + 2) W (W.setCell ⟨D + 2, j, none⟩ (.int .i64 x)) := (Touch.refl (fun g => g = D + 2) W).setCell (p := ⟨D + 2, j, none⟩) (fun _ => rfl) _
  have hn := heap_setCell_row (i := j) h.num (.int .i64 x)
  rw [f7c_up f j x hj] at hn
  exact ⟨ht.heap h.res (by omega), ht.heap h.crs (by omega), hn, Rc.Own.touch h.row ht (fun g hg e => by have := (Rc.own_block h.row hg).1; omega), h.calm.trans ht (fun k hk e => by have := h.low; omega), Nat.le_trans h.big ht.size, h.low⟩

theorem RdM.loose {w W W' : World} {D : Nat} {R : List UInt8} {f : Nat → Int} {v : Value} {A : List Int} (h : RdM w W D R f v A) (ht : Touch (fun g => g = D + 1) W W') : W'.heap[D]? = some (.cells (pnc pn0) 40 (0, 0)) ∧ Calm w W' :=
  ⟨ht.heap h.res (by omega), h.calm.trans ht (fun k hk e => by have := h.low; omega)⟩

/-- The frame at a label. -/
def FrQ (D : Nat) (v5 v6 v8 : Value) (f : Nat → Value) : Act := { tmps := List.toArray (f 0 :: f 1 :: .pointer (some ⟨D, 0, none⟩) :: .bool false :: .pointer (some ⟨D + 1, 0, none⟩) :: v5 :: v6 :: .pointer (some ⟨D + 2, 0, none⟩) :: v8 :: f 9 :: f 10 :: f 11 :: f 12 :: f 13 :: f 14 :: f 15 :: f 16 :: f 17 :: f 18 :: f 19 :: f 20 :: f 21 :: f 22 :: f 23 :: f 24 :: f 25 :: f 26 :: f 27 :: f 28 :: f 29 :: f 30 :: f 31 :: f 32 :: f 33 :: f 34 :: f 35 :: f 36 :: f 37 :: f 38 :: f 39 :: f 40 :: f 41 :: f 42 :: f 43 :: f 44 :: f 45 :: f 46 :: f 47 :: f 48 :: f 49 :: f 50 :: f 51 :: f 52 :: f 53 :: f 54 :: f 55 :: f 56 :: f 57 :: f 58 :: f 59 :: f 60 :: f 61 :: f 62 :: f 63 :: f 64 :: f 65 :: f 66 :: f 67 :: f 68 :: f 69 :: f 70 :: f 71 :: f 72 :: f 73 :: f 74 :: f 75 :: f 76 :: f 77 :: f 78 :: f 79 :: f 80 :: f 81 :: f 82 :: f 83 :: ([] : List Value)), defers := [] }

theorem frq {D : Nat} {v5 v6 v8 u0 u1 u9 u10 u11 u12 u13 u14 u15 u16 u17 u18 u19 u20 u21 u22 u23 u24 u25 u26 u27 u28 u29 u30 u31 u32 u33 u34 u35 u36 u37 u38 u39 u40 u41 u42 u43 u44 u45 u46 u47 u48 u49 u50 u51 u52 u53 u54 u55 u56 u57 u58 u59 u60 u61 u62 u63 u64 u65 u66 u67 u68 u69 u70 u71 u72 u73 u74 u75 u76 u77 u78 u79 u80 u81 u82 u83 : Value} : ({ tmps := List.toArray (u0 :: u1 :: .pointer (some ⟨D, 0, none⟩) :: .bool false :: .pointer (some ⟨D + 1, 0, none⟩) :: v5 :: v6 :: .pointer (some ⟨D + 2, 0, none⟩) :: v8 :: u9 :: u10 :: u11 :: u12 :: u13 :: u14 :: u15 :: u16 :: u17 :: u18 :: u19 :: u20 :: u21 :: u22 :: u23 :: u24 :: u25 :: u26 :: u27 :: u28 :: u29 :: u30 :: u31 :: u32 :: u33 :: u34 :: u35 :: u36 :: u37 :: u38 :: u39 :: u40 :: u41 :: u42 :: u43 :: u44 :: u45 :: u46 :: u47 :: u48 :: u49 :: u50 :: u51 :: u52 :: u53 :: u54 :: u55 :: u56 :: u57 :: u58 :: u59 :: u60 :: u61 :: u62 :: u63 :: u64 :: u65 :: u66 :: u67 :: u68 :: u69 :: u70 :: u71 :: u72 :: u73 :: u74 :: u75 :: u76 :: u77 :: u78 :: u79 :: u80 :: u81 :: u82 :: u83 :: ([] : List Value)), defers := [] } : Act) = FrQ D v5 v6 v8 (fun i => Array.getD (List.toArray (u0 :: u1 :: undef :: undef :: undef :: undef :: undef :: undef :: undef :: u9 :: u10 :: u11 :: u12 :: u13 :: u14 :: u15 :: u16 :: u17 :: u18 :: u19 :: u20 :: u21 :: u22 :: u23 :: u24 :: u25 :: u26 :: u27 :: u28 :: u29 :: u30 :: u31 :: u32 :: u33 :: u34 :: u35 :: u36 :: u37 :: u38 :: u39 :: u40 :: u41 :: u42 :: u43 :: u44 :: u45 :: u46 :: u47 :: u48 :: u49 :: u50 :: u51 :: u52 :: u53 :: u54 :: u55 :: u56 :: u57 :: u58 :: u59 :: u60 :: u61 :: u62 :: u63 :: u64 :: u65 :: u66 :: u67 :: u68 :: u69 :: u70 :: u71 :: u72 :: u73 :: u74 :: u75 :: u76 :: u77 :: u78 :: u79 :: u80 :: u81 :: u82 :: u83 :: ([] : List Value))) i undef) := rfl

def At0 (s : ByteArray) (D : Nat) (w : World) (a : Act) (W : World) : Prop := ∃ v5 v6 v8 f, a = FrQ D v5 v6 v8 f ∧ NoP s ∧ W.heap[D]? = some (.cells (pnc pn0) 40 (0, 0)) ∧ Calm w W ∧ w.heap.size = D
def At1q (s : ByteArray) (D : Nat) (w : World) (a : Act) (W : World) : Prop := ∃ (i : Nat) (A : List Int) (R : List UInt8) (a5 : Option Addr) (c5 : Nat) (f : Nat → Value), a = FrQ D (.slice a5 A.length c5) (.int .i64 0) (.int .i64 0) f ∧ Hid (Ks s i A R) ∧ A.length ≤ 257 ∧ RdM w W D R (fun _ => 0) (.slice a5 A.length c5) A
def At3 (s : ByteArray) (D : Nat) (w : World) (a : Act) (W : World) : Prop := ∃ (i : Nat) (A : List Int) (R : List UInt8) (a5 : Option Addr) (c5 : Nat) (f : Nat → Value), a = FrQ D (.slice a5 A.length c5) (.int .i64 0) (.int .i64 0) f ∧ Hid (Ks s i A (92 :: R)) ∧ A.length ≤ 256 ∧ RdM w W D R (fun _ => 0) (.slice a5 A.length c5) A
def At2q (s : ByteArray) (D : Nat) (w : World) (a : Act) (W : World) : Prop := ∃ (A : List Int) (R : List UInt8) (a5 : Option Addr) (c5 : Nat) (f : Nat → Value), a = FrQ D (.slice a5 A.length c5) (.int .i64 0) (.int .i64 0) f ∧ Hid (Kb s (strOfNums A) R) ∧ A.length ≤ 256 ∧ RdM w W D R (fun _ => 0) (.slice a5 A.length c5) A
def At4 (s : ByteArray) (D : Nat) (w : World) (a : Act) (W : World) : Prop := ∃ (A : List Int) (R : List UInt8) (d : Int) (g : Nat → Int) (j : Nat) (a5 : Option Addr) (c5 : Nat) (f : Nat → Value), a = FrQ D (.slice a5 A.length c5) (.int .i64 d) (.int .i64 (j : Int)) f ∧ Hid (Nb s (strOfNums A) d g j R) ∧ A.length ≤ 256 ∧ 1 ≤ d ∧ d ≤ 3 ∧ j < 7 ∧ RdM w W D R g (.slice a5 A.length c5) A
def AtQ (s : ByteArray) (D : Nat) (w : World) (l : Nat) (a : Act) (W : World) : Prop :=
  if l = 0 then At0 s D w a W else if l = 1 then At1q s D w a W else if l = 2 then At2q s D w a W else if l = 3 then At3 s D w a W else if l = 4 then At4 s D w a W else False
theorem AtQ0 (s : ByteArray) (D : Nat) (w : World) (a : Act) (W : World) : AtQ s D w 0 a W = At0 s D w a W := rfl
theorem AtQ1 (s : ByteArray) (D : Nat) (w : World) (a : Act) (W : World) : AtQ s D w 1 a W = At1q s D w a W := rfl
theorem AtQ2 (s : ByteArray) (D : Nat) (w : World) (a : Act) (W : World) : AtQ s D w 2 a W = At2q s D w a W := rfl
theorem AtQ3 (s : ByteArray) (D : Nat) (w : World) (a : Act) (W : World) : AtQ s D w 3 a W = At3 s D w a W := rfl
theorem AtQ4 (s : ByteArray) (D : Nat) (w : World) (a : Act) (W : World) : AtQ s D w 4 a W = At4 s D w a W := rfl

/-- How much is left to read. -/
def rlW (D : Nat) (W : World) : Nat := match W.heap[D + 1]? with
  | some (.cells cs _ _) => match cs.getD 0 undef with
    | .string t => t.size
    | _ => 0
  | _ => 0
theorem Crs.rl {W : World} {D : Nat} {R : List UInt8} (h : Crs W (D + 1) R) : rlW D W = R.length := by
  unfold rlW
  unfold Crs at h
  rw [h]
  exact bl_size R
def rkQ (D l : Nat) (W : World) : Nat := if l = 0 then 0 else if l = 4 then 1 + 2 * rlW D W else if l = 2 then 2 + 2 * rlW D W else if l = 1 then 3 + 2 * rlW D W else 4 + 2 * rlW D W
theorem rk0 (D : Nat) (W : World) : rkQ D 0 W = 0 := rfl
theorem rk1 (D : Nat) (W : World) : rkQ D 1 W = 3 + 2 * rlW D W := rfl
theorem rk2 (D : Nat) (W : World) : rkQ D 2 W = 2 + 2 * rlW D W := rfl
theorem rk3 (D : Nat) (W : World) : rkQ D 3 W = 4 + 2 * rlW D W := rfl
theorem rk4 (D : Nat) (W : World) : rkQ D 4 W = 1 + 2 * rlW D W := rfl
theorem Ks.len {s : ByteArray} {i : Nat} {A : List Int} {R : List UInt8} (h : Ks s i A R) : R.length ≤ s.size := by
  rw [← h.rest, List.length_drop, tl_len]
  omega
theorem Kb.len {s k : ByteArray} {R : List UInt8} (h : Kb s k R) : R.length ≤ s.size := by
  have := congrArg List.length h.pre
  rw [tl_len, List.length_append] at this
  omega
theorem Nb.len {s k : ByteArray} {d : Int} {f : Nat → Int} {j : Nat} {R : List UInt8} (h : Nb s k d f j R) : R.length ≤ s.size := by
  have := congrArg List.length h.pre
  rw [tl_len, List.length_append, List.length_append, List.length_append] at this
  omega
theorem wdR_len (R : List UInt8) : (wdR R).length ≤ R.length := by
  have := congrArg List.length (wd_app R)
  rw [List.length_append] at this
  omega

end Go.Proofs.YtamfcmmhmfhhkaaGreatDoor
