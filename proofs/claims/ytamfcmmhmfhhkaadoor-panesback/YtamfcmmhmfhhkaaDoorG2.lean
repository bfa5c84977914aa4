/- Panes: how they lie in memory. Two lists of panes: whether they are the same. Appends of records to a row of one's own, up to 2*10^14 bytes. -/
import Derived.Test.YtamfcmmhmfhhkaaDoorG1
import Derived.Laws.StructEq
namespace Go.Proofs.YtamfcmmhmfhhkaaDoor
open Go.RowKit

/-- A pane. -/
structure Pn where
  k : ByteArray
  a : Int
  b : Int
  d : Int
  n : Int
  t : Tl
abbrev pnc (p : Pn) : Array Value := #[.string p.k, .int .i64 p.a, .int .i64 p.b, .int .i64 p.d, .int .i64 p.n, .int .i64 p.t.c, .int .i64 p.t.s, .int .i64 p.t.m, .int .i64 p.t.x]
abbrev pnv (p : Pn) : Value := .agg (pnc p)
abbrev pn0 : Pn := ⟨⟨#[]⟩, 0, 0, 0, 0, tl0⟩
def encP : Rc.Enc Pn := ⟨9, fun x => (pnc x).toList, fun _ => rfl, fun _ u hu => by simp at hu; rcases hu with rfl | rfl | rfl | rfl | rfl | rfl | rfl | rfl | rfl <;> rfl, by decide⟩

/-- A pane's cells at a place. -/
def pcell (W : World) (b o : Nat) (x : Pn) : Prop :=
  (W.cell? ⟨b, o, none⟩ = some (.string x.k) ∧ W.cell? ⟨b, o + 1, none⟩ = some (.int .i64 x.a) ∧ W.cell? ⟨b, o + 2, none⟩ = some (.int .i64 x.b) ∧ W.cell? ⟨b, o + 3, none⟩ = some (.int .i64 x.d) ∧ W.cell? ⟨b, o + 4, none⟩ = some (.int .i64 x.n)) ∧
  (W.cell? ⟨b, o + 5, none⟩ = some (.int .i64 x.t.c) ∧ W.cell? ⟨b, o + 6, none⟩ = some (.int .i64 x.t.s) ∧ W.cell? ⟨b, o + 7, none⟩ = some (.int .i64 x.t.m) ∧ W.cell? ⟨b, o + 8, none⟩ = some (.int .i64 x.t.x))

theorem pn_at {w : World} {ao : Option Addr} {L : List Pn} (h : encP.Mem w ao L) (j : Nat) (hj : j < L.length) : ∃ b off, ao = some ⟨b, off, none⟩ ∧ pcell w b (off + j * 9) (L.getD j pn0) := by
  obtain ⟨b, off, e, g⟩ := Rc.Mem.at h j hj
  rw [List.getD_eq_getElem?_getD, List.getElem?_eq_getElem hj]
  exact ⟨b, off, e, ⟨g 0 _ rfl, g 1 _ rfl, g 2 _ rfl, g 3 _ rfl, g 4 _ rfl⟩, g 5 _ rfl, g 6 _ rfl, g 7 _ rfl, g 8 _ rfl⟩

theorem pn_cells {w : World} {b : Nat} {x : Pn} {ty : TypeId} (h : w.heap[b]? = some (.cells (pnc x) ty (0, 0))) :
    (w.cell? ⟨b, 0, none⟩ = some (.string x.k) ∧ w.cell? ⟨b, 1, none⟩ = some (.int .i64 x.a) ∧ w.cell? ⟨b, 2, none⟩ = some (.int .i64 x.b) ∧ w.cell? ⟨b, 3, none⟩ = some (.int .i64 x.d) ∧ w.cell? ⟨b, 4, none⟩ = some (.int .i64 x.n)) ∧
    (w.cell? ⟨b, 5, none⟩ = some (.int .i64 x.t.c) ∧ w.cell? ⟨b, 6, none⟩ = some (.int .i64 x.t.s) ∧ w.cell? ⟨b, 7, none⟩ = some (.int .i64 x.t.m) ∧ w.cell? ⟨b, 8, none⟩ = some (.int .i64 x.t.x)) := by simp [World.cell?, h]

theorem pn_set {w : World} {b : Nat} {x : Pn} {ty : TypeId} (r : Pn) (o : Nat) (v : Value) (h : w.heap[b]? = some (.cells (pnc x) ty (0, 0))) (hr : (pnc x).setIfInBounds o v = pnc r) : (w.setCell ⟨b, o, none⟩ v).heap[b]? = some (.cells (pnc r) ty (0, 0)) := by
  have k1 := heap_setCell_row (i := o) h v
  rw [hr] at k1
  exact k1

/-- A pane in its block turned whole. -/
theorem pn_all {w : World} {b : Nat} {x : Pn} {ty : TypeId} (r : Pn) (h : w.heap[b]? = some (.cells (pnc x) ty (0, 0))) :
    (((((((((w.setCell ⟨b, 0, none⟩ (.string r.k)).setCell ⟨b, 1, none⟩ (.int .i64 r.a)).setCell ⟨b, 2, none⟩ (.int .i64 r.b)).setCell ⟨b, 3, none⟩ (.int .i64 r.d)).setCell ⟨b, 4, none⟩ (.int .i64 r.n)).setCell ⟨b, 5, none⟩ (.int .i64 r.t.c)).setCell ⟨b, 6, none⟩ (.int .i64 r.t.s)).setCell ⟨b, 7, none⟩ (.int .i64 r.t.m)).setCell ⟨b, 8, none⟩ (.int .i64 r.t.x)).heap[b]? = some (.cells (pnc r) ty (0, 0)) ∧
    Touch (fun k => k = b) w (((((((((w.setCell ⟨b, 0, none⟩ (.string r.k)).setCell ⟨b, 1, none⟩ (.int .i64 r.a)).setCell ⟨b, 2, none⟩ (.int .i64 r.b)).setCell ⟨b, 3, none⟩ (.int .i64 r.d)).setCell ⟨b, 4, none⟩ (.int .i64 r.n)).setCell ⟨b, 5, none⟩ (.int .i64 r.t.c)).setCell ⟨b, 6, none⟩ (.int .i64 r.t.s)).setCell ⟨b, 7, none⟩ (.int .i64 r.t.m)).setCell ⟨b, 8, none⟩ (.int .i64 r.t.x)) := by
  have k0 := pn_set { x with k := r.k } 0 (.string r.k) h rfl
  have k1 := pn_set { x with k := r.k, a := r.a } 1 (.int .i64 r.a) k0 rfl
  have k2 := pn_set { x with k := r.k, a := r.a, b := r.b } 2 (.int .i64 r.b) k1 rfl
  have k3 := pn_set { x with k := r.k, a := r.a, b := r.b, d := r.d } 3 (.int .i64 r.d) k2 rfl
  have k4 := pn_set { r with t := x.t } 4 (.int .i64 r.n) k3 rfl
  have k5 := pn_set { r with t := ⟨r.t.c, x.t.s, x.t.m, x.t.x⟩ } 5 (.int .i64 r.t.c) k4 rfl
  have k6 := pn_set { r with t := ⟨r.t.c, r.t.s, x.t.m, x.t.x⟩ } 6 (.int .i64 r.t.s) k5 rfl
  have k7 := pn_set { r with t := ⟨r.t.c, r.t.s, r.t.m, x.t.x⟩ } 7 (.int .i64 r.t.m) k6 rfl
  have k8 := pn_set r 8 (.int .i64 r.t.x) k7 rfl
  exact ⟨k8, (((((((((Touch.refl (fun k => k = b) w).setCell (p := ⟨b, 0, none⟩) (fun _ => rfl) _).setCell (p := ⟨b, 1, none⟩) (fun _ => rfl) _).setCell (p := ⟨b, 2, none⟩) (fun _ => rfl) _).setCell (p := ⟨b, 3, none⟩) (fun _ => rfl) _).setCell (p := ⟨b, 4, none⟩) (fun _ => rfl) _).setCell (p := ⟨b, 5, none⟩) (fun _ => rfl) _).setCell (p := ⟨b, 6, none⟩) (fun _ => rfl) _).setCell (p := ⟨b, 7, none⟩) (fun _ => rfl) _).setCell (p := ⟨b, 8, none⟩) (fun _ => rfl) _⟩

theorem infoPane : (Tryd.prog.info? 29).map (fun i => (i.zero, i.size, i.bytes)) = some (some (pnv pn0), 9, 80) := by kernel_rfl
theorem elemPane : Tryd.prog.elem 22 = 29 := by kernel_rfl

end Go.Proofs.YtamfcmmhmfhhkaaDoor

namespace Go.Proofs.YtamfcmmhmfhhkaaDoor
open Go.RowKit

instance : DecidableEq Tl := fun a b => by
  obtain ⟨a0, a1, a2, a3⟩ := a
  obtain ⟨b0, b1, b2, b3⟩ := b
  simp only [Tl.mk.injEq]
  exact inferInstance
instance : DecidableEq Pn := fun a b => by
  obtain ⟨a0, a1, a2, a3, a4, a5⟩ := a
  obtain ⟨b0, b1, b2, b3, b4, b5⟩ := b
  simp only [Pn.mk.injEq]
  exact inferInstance

theorem ba_beq (a b : ByteArray) : (a.toList == b.toList) = decide (a = b) := by
  by_cases e : a = b
  · subst e; simp
  · rw [decide_eq_false e, beq_eq_false_iff_ne]
    intro h
    rw [ByteArray.toList_eq, ByteArray.toList_eq] at h
    exact e (ByteArray.ext (Array.toList_inj.1 h))

theorem pn_eq (x y : Pn) : decide (x = y) = (decide (x.k = y.k) && (decide (x.a = y.a) && decide (x.b = y.b)) && decide (x.d = y.d) && decide (x.n = y.n) && (decide (x.t.c = y.t.c) && decide (x.t.s = y.t.s) && decide (x.t.m = y.t.m) && decide (x.t.x = y.t.x))) := by
  obtain ⟨a0, a1, a2, a3, a4, ⟨p, q, r, s⟩⟩ := x
  obtain ⟨b0, b1, b2, b3, b4, ⟨p', q', r', s'⟩⟩ := y
  rw [Bool.eq_iff_iff]
  simp only [Pn.mk.injEq, Tl.mk.injEq, decide_eq_true_eq, Bool.and_eq_true]
  constructor
  · rintro ⟨h1, h2, h3, h4, h5, h6, h7, h8, h9⟩; exact ⟨⟨⟨⟨h1, h2, h3⟩, h4⟩, h5⟩, ⟨⟨h6, h7⟩, h8⟩, h9⟩
  · rintro ⟨⟨⟨⟨h1, h2, h3⟩, h4⟩, h5⟩, ⟨⟨h6, h7⟩, h8⟩, h9⟩; exact ⟨h1, h2, h3, h4, h5, h6, h7, h8, h9⟩

/-- A pane's cells, in every world that stays calm. -/
theorem pn_W {w : World} {ao : Option Addr} {L : List Pn} (h : encP.Mem w ao L) (j : Nat) (hj : j < L.length) : ∃ g off, ao = some ⟨g, off, none⟩ ∧ ∀ W, Calm w W → pcell W g (off + j * 9) (L.getD j pn0) := by
  obtain ⟨g, off, e, -⟩ := Rc.Mem.at h j hj
  refine ⟨g, off, e, fun W hW => ?_⟩
  obtain ⟨g2, off2, e2, k⟩ := pn_at (Rc.Mem.calm h hW) j hj
  rw [e] at e2
  injection e2 with e2
  injection e2 with e3 e4
  subst e3 e4
  exact k

/-- Struct comparison of panes, as the model works it off. -/
theorem pn_ifs {R : Type} (x y : Pn) (F : Bool → R) : (if x.k.toList = y.k.toList then (if x.a = y.a then (if x.b = y.b then (if x.d = y.d then (if x.n = y.n then (if x.t.c = y.t.c then (if x.t.s = y.t.s then (if x.t.m = y.t.m then (if x.t.x = y.t.x then F false else F true) else F true) else F true) else F true) else F true) else F true) else F true) else F true) else F true) = F (!decide (x = y)) := by
  have hk : (x.k.toList = y.k.toList) = (x.k = y.k) := by
    have h := ba_beq x.k y.k
    rw [Bool.eq_iff_iff, beq_iff_eq, decide_eq_true_eq] at h
    exact propext h
  simp only [hk]
  rw [pn_eq]
  obtain ⟨a0, a1, a2, a3, a4, ⟨p, q, r, s⟩⟩ := x
  obtain ⟨b0, b1, b2, b3, b4, ⟨p', q', r', s'⟩⟩ := y
  dsimp only
  repeat' split
  all_goals simp [*]

set_option maxRecDepth 100000 in
set_option maxHeartbeats 2000000 in
/-- The same lists. -/
theorem sameP_any (A B : List Pn) (ao bo : Option Addr) (ac bc : Nat) (w : World) (ha : encP.Mem w ao A) (hb : encP.Mem w bo B) (hl : A.length ≤ 140737488355328) (hm : B.length ≤ 140737488355328) : Calls Tryd.prog 19 #[.slice ao A.length ac, .slice bo B.length bc] w fun e w' => e = .returned (.bool (decide (A = B))) ∧ Calm w w' := by
  obtain ⟨x, hx⟩ : ∃ x : Nat → Pn, ∀ i, x i = A.getD i pn0 := ⟨fun i => A.getD i pn0, fun _ => rfl⟩
  obtain ⟨y, hy⟩ : ∃ y : Nat → Pn, ∀ i, y i = B.getD i pn0 := ⟨fun i => B.getD i pn0, fun _ => rfl⟩
  have SA : Hid (∀ j, j < A.length → ∃ g off, ao = some ⟨g, off, none⟩ ∧ ∀ W, Calm w W → pcell W g (off + j * 9) (x j)) := hide fun j hj => by
    rw [hx]; exact pn_W ha j hj
  have SB : Hid (∀ j, j < B.length → ∃ g off, bo = some ⟨g, off, none⟩ ∧ ∀ W, Calm w W → pcell W g (off + j * 9) (y j)) := hide fun j hj => by
    rw [hy]; exact pn_W hb j hj
  have HN : Hid (A.length ≠ B.length → decide (A = B) = false) := hide fun h => decide_eq_false fun e => h (by rw [e])
  have HE : Hid (A.length = B.length → (∀ j, j < A.length → x j = y j) → decide (A = B) = true) := hide fun h k => decide_eq_true (List.ext_getElem h fun j h1 h2 => by
    have := k j h1
    rw [hx, hy, List.getD_eq_getElem?_getD, List.getD_eq_getElem?_getD, List.getElem?_eq_getElem h1, List.getElem?_eq_getElem h2] at this
    exact this)
  have HF : Hid (∀ j, j < A.length → x j ≠ y j → decide (A = B) = false) := hide fun j hj k => decide_eq_false fun e => k (by rw [hx, hy, e])
  clear ha hb hx hy
  generalize decide (A = B) = z at *
  generalize hn : A.length = n at *
  generalize hm' : B.length = m at *
  go_enter Tryd.func19, Tryd.ntmps19
  by_cases hnm : n = m
  case neg =>
    have hz : ¬ (n : Int) = (m : Int) := by omega
    have hz0 := HN.out hnm
    subst hz0
    clear HN HE HF SA SB
    go_wp2_with fail
    go_ret
    exact ⟨rfl, Touch.refl _ _⟩
  subst hnm
  clear HN
  go_wp2_with fail
  go_loopw [5] (fun s5 wr => ∃ i : Nat, s5 = .int .i64 (i : Int) ∧ i ≤ n ∧ (∀ j, j < i → x j = y j) ∧ Calm w wr) (fun s5 _ => n - (intOf s5).toNat)
  case atStart => exact ⟨0, rfl, by omega, fun j hj => by omega, Touch.refl _ _⟩
  case round =>
    obtain ⟨i, rfl, hi, hS, hC⟩ := hrel
    by_cases hlt : i < n
    · have hltz : (i : Int) < (n : Int) := by omega
      obtain ⟨ga, oa, rfl, ca⟩ := SA.out i hlt
      obtain ⟨gb, ob, rfl, cb⟩ := SB.out i hlt
      have KA := hide ca
      have KB := hide cb
      have HC := hide hC
      have HS := hide hS
      have HQ := hide (fun h : x i ≠ y i => HF.out i hlt h)
      have HR := hide (fun h : x i = y i => (fun j (hj : j < i + 1) => if e : j = i then by subst e; exact h else hS j (by omega) : ∀ j, j < i + 1 → x j = y j))
      clear SA SB ca cb hC hS HF HE
      generalize x i = p at *
      generalize y i = q at *
      go_wp2_with fail
      refine wp_region_held (S := Calm w) (by kernel_rfl) ?_
      have hT0 : Calm w { wr with drawn := wr.drawn + 1 } := HC.out.drew
      refine wpAnyH_yield 0 17 (.slice (some ⟨ga, oa, none⟩) n ac) rfl rfl (by kernel_rfl) (by kernel_rfl) (by kernel_rfl) (fun _ _ _ h => h) (by kernel_rfl) (fun W hW => by kernel_rfl) (by assumption) rfl rfl ?_
      simp only [Act.put, List.setIfInBounds_toArray, List.set_cons_zero, List.set_cons_succ]
      refine wpAnyH_yield 1 18 (.int .i64 (i : Int)) rfl rfl (by kernel_rfl) (by kernel_rfl) (by kernel_rfl) (fun _ _ _ h => h) (by kernel_rfl) (fun W hW => by kernel_rfl) (by assumption) rfl rfl ?_
      simp only [Act.put, List.setIfInBounds_toArray, List.set_cons_zero, List.set_cons_succ]
      refine wpAnyH_yield 2 19 (.pointer (some ⟨ga, oa + i * 9, none⟩)) rfl rfl (by kernel_rfl) (by kernel_rfl) (by kernel_rfl) (fun _ _ _ h => h) (by kernel_rfl) (fun W hW => by go_simp) (by assumption) rfl rfl ?_
      simp only [Act.put, List.setIfInBounds_toArray, List.set_cons_zero, List.set_cons_succ]
      refine wpAnyH_yield 3 20 (pnv p) rfl rfl (by kernel_rfl) (by kernel_rfl) (by kernel_rfl) (fun _ _ _ h => h) (by kernel_rfl) (fun W hW => by obtain ⟨⟨c0, c1, c2, c3, c4⟩, c5, c6, c7, c8⟩ := KA.out W hW; go_simp) (by assumption) rfl rfl ?_
      simp only [Act.put, List.setIfInBounds_toArray, List.set_cons_zero, List.set_cons_succ]
      refine wpAnyH_yield 4 21 (.slice (some ⟨gb, ob, none⟩) n bc) rfl rfl (by kernel_rfl) (by kernel_rfl) (by kernel_rfl) (fun _ _ _ h => h) (by kernel_rfl) (fun W hW => by kernel_rfl) (by assumption) rfl rfl ?_
      simp only [Act.put, List.setIfInBounds_toArray, List.set_cons_zero, List.set_cons_succ]
      refine wpAnyH_yield 5 22 (.int .i64 (i : Int)) rfl rfl (by kernel_rfl) (by kernel_rfl) (by kernel_rfl) (fun _ _ _ h => h) (by kernel_rfl) (fun W hW => by kernel_rfl) (by assumption) rfl rfl ?_
      simp only [Act.put, List.setIfInBounds_toArray, List.set_cons_zero, List.set_cons_succ]
      refine wpAnyH_yield 6 23 (.pointer (some ⟨gb, ob + i * 9, none⟩)) rfl rfl (by kernel_rfl) (by kernel_rfl) (by kernel_rfl) (fun _ _ _ h => h) (by kernel_rfl) (fun W hW => by go_simp) (by assumption) rfl rfl ?_
      simp only [Act.put, List.setIfInBounds_toArray, List.set_cons_zero, List.set_cons_succ]
      refine wpAnyH_yield 7 24 (pnv q) rfl rfl (by kernel_rfl) (by kernel_rfl) (by kernel_rfl) (fun _ _ _ h => h) (by kernel_rfl) (fun W hW => by obtain ⟨⟨c0, c1, c2, c3, c4⟩, c5, c6, c7, c8⟩ := KB.out W hW; go_simp) (by assumption) rfl rfl ?_
      simp only [Act.put, List.setIfInBounds_toArray, List.set_cons_zero, List.set_cons_succ]
      refine wpAnyH_yield 8 25 (.bool (!decide (p = q))) rfl rfl (by kernel_rfl) (by kernel_rfl) (by kernel_rfl) (fun _ _ _ h => h) (by kernel_rfl) (fun W hW => by go_simp; exact pn_ifs p q (fun b => Result.ok (Next.value (.bool b)) W)) (by assumption) rfl rfl ?_
      simp only [Act.put, List.setIfInBounds_toArray, List.set_cons_zero, List.set_cons_succ]
      refine wpAnyH_done (by kernel_rfl) ?_ _
      have H1 := hide hT0
      clear hT0 HC
      by_cases hpq : p = q
      · have hd : (!decide (p = q)) = false := by rw [decide_eq_true hpq]; rfl
        have HX := hide (HR.out hpq)
        rw [hd]
        clear HR HQ hd
        go_wp2_with fail
        go_roundw
        case rel => exact ⟨i + 1, by go_num, by omega, HX.out, H1.out⟩
        case measure => simp [intOf]; omega
      · have hd : (!decide (p = q)) = true := by rw [decide_eq_false hpq]; rfl
        have hz := HQ.out hpq
        subst hz
        rw [hd]
        clear HR HQ hd
        go_wp2_with fail
        go_ret
        exact ⟨rfl, H1.out⟩
    · have hltz : ¬ (i : Int) < (n : Int) := by omega
      obtain rfl : i = n := by omega
      have HC := hide hC
      have hz := HE.out (by first | rfl | trivial) hS
      subst hz
      clear SA SB hC HE HF
      go_wp2_with fail
      go_ret
      exact ⟨rfl, HC.out⟩

end Go.Proofs.YtamfcmmhmfhhkaaDoor

namespace Go.Proofs.YtamfcmmhmfhhkaaDoor
open Go.RowKit

namespace Rc

/-- What a row is grown to is little more than a quarter above what is asked. -/
theorem nextcap_wide {need old : Nat} (h : old < need) : Builtin.nextslicecap need old ≤ need + need / 4 + 512 := by
  unfold Builtin.nextslicecap
  split
  · omega
  · split
    · omega
    · rw [growBy_four]
      repeat' split
      all_goals omega

theorem fits_wide {need old bytes : Nat} (h : old < need) (hb : need * bytes ≤ 200000000000000) (h1 : bytes ≤ 1000) : Builtin.nextslicecap need old * bytes ≤ 281474976710656 := by
  have g : Builtin.nextslicecap need old * bytes ≤ (need + need / 4 + 512) * bytes := Nat.mul_le_mul_right _ (nextcap_wide h)
  have q : need / 4 * bytes * 4 ≤ need * bytes := by
    rw [Nat.mul_right_comm]
    exact Nat.mul_le_mul_right _ (Nat.div_mul_le_self need 4)
  have s : 512 * bytes ≤ 512000 := by omega
  rw [Nat.add_mul, Nat.add_mul] at g
  omega

variable {α : Type} {E : Enc α}

/-- A row just grown: what it held, what came behind, room. -/
theorem own_grown {e : TypeId} {w : World} {base old : Nat} {z : Value} {L M : List α} (hzs : z.cells.size = E.n) (hbase : base ≤ w.heap.size) (h63 : L.length + M.length ≤ maxLen) :
    E.Own e (w.drew.alloc (.cells ((E.flat L).toArray ++ (E.flat M).toArray ++ Builtin.zeroCells z.cells (grownCap w (L.length + M.length) old e - (L.length + M.length))) e)) base (.slice (some ⟨w.heap.size, 0, none⟩) (L ++ M).length (grownCap w (L.length + M.length) old e)) (L ++ M) := by
  have hge := grownCap_ge w (L.length + M.length) old e
  have hfl : (E.flat (L ++ M)).length = (L.length + M.length) * E.n := by rw [E.flat_len, List.length_append]
  refine ⟨by rw [E.flat_len], .inr ⟨w.heap.size, _, _, rfl, hbase, heap_alloc_new w.drew _, by rw [List.length_append]; exact hge, grownCap_le_maxLen w _ old e h63, ?_, ?_⟩⟩
  · rw [Array.size_append, Array.size_append, List.size_toArray, List.size_toArray, size_zeroCells, hzs, E.flat_len, E.flat_len, ← Nat.add_mul, ← Nat.add_mul]
    congr 1
    omega
  · rw [Array.toList_append, Array.toList_append, List.toList_toArray, List.toList_toArray, ← E.flat_append]
    exact List.take_left' (by rw [E.flat_len])

theorem Own.appw {P : Program} {t ty e : TypeId} {i : TypeInfo} {z : Value} {bytes : Nat} (ht : P.underlying t = some (.slice e)) (hi : P.info? e = some i) (hz : i.zero = some z) (hs : i.size = E.n) (hby : i.bytes = bytes) (hzs : z.cells.size = E.n)
    {w : World} {base : Nat} {v : Value} {L : List α} (hown : E.Own e w base v L) (ao : Option Addr) (c : Nat) (M : List α) (hp : E.Mem w ao M) (hc : ao = none → c = 0) (h63 : L.length + M.length ≤ maxLen) (hb : (L.length + M.length) * bytes ≤ 200000000000000) (hb1 : bytes ≤ 1000) (hbase : base ≤ w.heap.size) :
    ∃ ao' cap' w', (Builtin.append_ #[t, t] ty #[v, .slice ao M.length c]).run P w = .ok (.slice ao' (L ++ M).length cap') w' ∧ E.Own e w' base (.slice ao' (L ++ M).length cap') (L ++ M) ∧ Touch (fun g => v.ownBlock = some g) w w' ∧
      (∀ g, (Value.slice ao' (L ++ M).length cap').ownBlock = some g → v.ownBlock = some g ∨ w.heap.size ≤ g) := by
  by_cases hsm : (L.length + M.length) * bytes ≤ 140737488355328
  · exact Own.app ht hi hz hs hby hzs hown ao c M hp hc h63 hsm hbase
  cases ao with
  | none =>
    have hM : M = [] := by
      cases M with
      | nil => rfl
      | cons x M =>
        obtain ⟨b, off, e, _⟩ := hp 0 _ (List.getElem?_eq_getElem (by rw [E.flat_len]; have := E.pos; simp; omega))
        cases e
    subst hM
    obtain rfl := hc rfl
    have hr := run_append_owned_none (P := P) (w := w) base t ty e i E.n ht hi v L.length (E.flat L) hown
    obtain ⟨ao', cap', hv⟩ := own_shape hown
    refine ⟨ao', cap', w, ?_, ?_, Touch.refl _ _, ?_⟩
    · rw [List.append_nil, ← hv]; exact hr
    · rw [List.append_nil, ← hv]; exact hown
    · rw [List.append_nil, ← hv]; exact fun g hg => .inl hg
  | some a =>
    have hnews : (E.flat M).length = M.length * i.size := by rw [hs]; exact E.flat_len M
    have hlen : (L ++ M).length = L.length + M.length := List.length_append
    have h63' : L.length + M.length ≤ 9223372036854775807 := by simp only [maxLen] at h63; omega
    have T1 : ∀ (o : Obj) (S : Nat → Prop), Touch S w (w.drew.alloc o) := fun o S => ((Touch.refl S w).drew).alloc o
    have hown' := hown
    obtain ⟨q1, ⟨hv, q2⟩ | ⟨g, cap, cur, hv, q3, q4, q5, q6, q7, q8⟩⟩ := hown'
    · have hL : L = [] := List.eq_nil_of_length_eq_zero q2
      subst hL
      subst hv
      have hpos : 0 < M.length := by
        rcases Nat.eq_zero_or_pos M.length with h | h
        · exfalso; apply hsm; rw [h]; simp
        · exact h
      have hr := run_append_nil (P := P) w t ty e i z ht hi hz a M.length c (E.flat M) hnews (Mem.cells hp) hpos (by simp at h63'; omega) (by rw [hby]; simp at hb; omega)
      have hg := own_grown (E := E) (e := e) (w := w) (base := base) (old := 0) (L := []) (M := M) hzs hbase h63
      refine ⟨_, _, _, ?_, hg, T1 _ _, fun g hg' => .inr ?_⟩
      · simp only [List.length_nil, Nat.zero_add, List.nil_append]
        rw [hr]
        simp [Enc.flat]
      · simp [Value.ownBlock] at hg'; omega
    · subst hv
      by_cases hroom : L.length + M.length ≤ cap
      · have hfit : L.length * i.size + (E.flat M).length ≤ cur.size := by rw [hnews, q7, hs, ← Nat.add_mul]; exact Nat.mul_le_mul_right _ hroom
        have hr := run_append_room (P := P) w t ty e i ht hi g L.length cap cur q4 a M.length c (E.flat M) hnews (Mem.cells hp) (E.flat_one M) hroom hfit
        refine ⟨some ⟨g, 0, none⟩, cap, _, by rw [hlen]; exact hr, ⟨by rw [E.flat_len], .inr ⟨g, cap, _, rfl, q3, setRow_heap w g cur _ e _ q4, by rw [hlen]; exact hroom, q6, ?_, ?_⟩⟩, ⟨rfl, rfl, rfl, by simp, fun k _ hk => setRow_other w g k _ (fun h => hk (by rw [h]; rfl))⟩, fun d hd => .inl hd⟩
        · rw [List.size_toArray, List.length_append, List.length_append, List.length_take, List.length_drop, Array.length_toList (xs := cur), ← q7]
          rw [hs] at hfit ⊢
          rw [Nat.min_eq_left (Nat.le_trans (Nat.le_add_right _ _) hfit)]
          exact Nat.add_sub_of_le hfit
        · rw [hs, q8, List.toList_toArray, ← E.flat_append]
          exact List.take_left' (by rw [E.flat_len])
      · have hr := run_append_grow (P := P) w t ty e i z ht hi hz ⟨g, 0, none⟩ L.length cap (E.flat L) (by rw [hs]; exact E.flat_len L) (World.ownsRow.cells hown (g := g) rfl) a M.length c (E.flat M) hnews (Mem.cells hp) (by omega) (by omega) (by rw [hby]; exact fits_wide (by omega) hb hb1)
        have hg := own_grown (E := E) (e := e) (w := w) (base := base) (old := cap) (L := L) (M := M) hzs hbase h63
        refine ⟨_, _, _, by rw [hlen]; exact hr, by rw [hlen] at hg; rw [hlen]; exact hg, T1 _ _, fun d hd => .inr ?_⟩
        simp [Value.ownBlock] at hd; omega

end Rc
end Go.Proofs.YtamfcmmhmfhhkaaDoor
