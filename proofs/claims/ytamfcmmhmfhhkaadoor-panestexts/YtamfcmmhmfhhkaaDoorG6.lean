/- An append, as an operation. Quote: a key quoted (the document's; the walk). Two lists of panes: whether they are the same. -/
import Derived.Test.YtamfcmmhmfhhkaaDoorG0
import Derived.Test.YtamfcmmhmfhhkaaDoorG5
import Derived.Great.BuildSlice
import Derived.Test.YtamfcmmhmfhhkaaDoorG2
import Derived.Laws.StructEq
namespace Go.Proofs.YtamfcmmhmfhhkaaDoor
open Go.RowKit

/-- An append, as an operation. -/
theorem exec_apk {P : Program} {w w' : World} {o : Oper} {a : Act} (s x : Operand) (t tx : TypeId) (ho : o.op = .call { callee := .builtin .append, args := #[s, x], argTypes := #[t, tx] }) (v y r : Value) (hv : a.eval s = v) (hy : a.eval x = y)
    (hr : (Builtin.append_ #[t, tx] o.type #[v, y]).run P w = .ok r w') : (execOp a.eval o).run P w = .ok (.value r) w' := by
  unfold execOp
  simp only [ho, resolve, invoke, builtin, Sem.run_bind, Sem.run_pure, Result.andThen_ok, List.map_toArray, List.map_cons, List.map_nil, hv, hy, hr]

end Go.Proofs.YtamfcmmhmfhhkaaDoor

namespace Go.Proofs.YtamfcmmhmfhhkaaDoor
open Go.RowKit

theorem Own.byte {w : World} {base g : Nat} {x : Int} (hg : base ≤ g) (h : w.heap[g]? = some (.cells #[.int .u8 x] 5 (0, 0))) : encB.Own 5 w base (.slice (some ⟨g, 0, none⟩) 1 1) [x] :=
  ⟨rfl, .inr ⟨g, 1, #[.int .u8 x], rfl, hg, h, Nat.le_refl _, by decide, rfl, rfl⟩⟩
theorem conv_own {W : World} {base : Nat} {a : Option Addr} {c : Nat} {xs : List Int} (h : encB.Own 5 W base (.slice a xs.length c) xs) (hne : xs ≠ []) : (convert 55 9 (.slice a xs.length c)).run Tryd.prog W = .ok (.string (strOfNums xs)) W := by
  obtain ⟨-, hm, -, -, -, -⟩ := Rc.Own.mem h
  have hl := List.length_pos_iff.2 hne
  obtain ⟨b, off, rfl, -⟩ := by_at hm 0 hl
  refine run_convert_bytes_arg W _ _ Tryd.underlying55 Tryd.underlying5 b off _ c xs rfl (fun i hi => ?_) _ Tryd.underlying9
  obtain ⟨b2, off2, e, k⟩ := by_at hm i hi
  injection e with e
  injection e with e1 e2
  subst e1 e2
  exact k

end Go.Proofs.YtamfcmmhmfhhkaaDoor

namespace Go.Proofs.YtamfcmmhmfhhkaaDoor
open Go.RowKit

instance : DecidableEq Tl := fun a b => by
  obtain ⟨a0, a1, a2, a3⟩ := a
  obtain ⟨b0, b1, b2, b3⟩ := b
  simp only [Tl.mk.injEq]
  exact inferInstance
instance : DecidableEq Pn := fun a b => by
  obtain ⟨a0, a1, a2, a3, a4, a5⟩ := a
  obtain ⟨b0, b1, b2, b3, b4, b5⟩ := b
  simp only [Pn.mk.injEq]
  exact inferInstance

theorem ba_beq (a b : ByteArray) : (a.toList == b.toList) = decide (a = b) := by
  by_cases e : a = b
  · subst e; simp
  · rw [decide_eq_false e, beq_eq_false_iff_ne]
    intro h
    rw [ByteArray.toList_eq, ByteArray.toList_eq] at h
    exact e (ByteArray.ext (Array.toList_inj.1 h))

theorem pn_eq (x y : Pn) : decide (x = y) = (decide (x.k = y.k) && (decide (x.a = y.a) && decide (x.b = y.b)) && decide (x.d = y.d) && decide (x.n = y.n) && (decide (x.t.c = y.t.c) && decide (x.t.s = y.t.s) && decide (x.t.m = y.t.m) && decide (x.t.x = y.t.x))) := by
  obtain ⟨a0, a1, a2, a3, a4, ⟨p, q, r, s⟩⟩ := x
  obtain ⟨b0, b1, b2, b3, b4, ⟨p', q', r', s'⟩⟩ := y
  rw [Bool.eq_iff_iff]
  simp only [Pn.mk.injEq, Tl.mk.injEq, decide_eq_true_eq, Bool.and_eq_true]
  constructor
  · rintro ⟨h1, h2, h3, h4, h5, h6, h7, h8, h9⟩; exact ⟨⟨⟨⟨h1, h2, h3⟩, h4⟩, h5⟩, ⟨⟨h6, h7⟩, h8⟩, h9⟩
  · rintro ⟨⟨⟨⟨h1, h2, h3⟩, h4⟩, h5⟩, ⟨⟨h6, h7⟩, h8⟩, h9⟩; exact ⟨h1, h2, h3, h4, h5, h6, h7, h8, h9⟩

/-- A pane's cells, in every world that stays calm. -/
theorem pn_W {w : World} {ao : Option Addr} {L : List Pn} (h : encP.Mem w ao L) (j : Nat) (hj : j < L.length) : ∃ g off, ao = some ⟨g, off, none⟩ ∧ ∀ W, Calm w W → pcell W g (off + j * 9) (L.getD j pn0) := by
  obtain ⟨g, off, e, -⟩ := Rc.Mem.at h j hj
  refine ⟨g, off, e, fun W hW => ?_⟩
  obtain ⟨g2, off2, e2, k⟩ := pn_at (Rc.Mem.calm h hW) j hj
  rw [e] at e2
  injection e2 with e2
  injection e2 with e3 e4
  subst e3 e4
  exact k

/-- Struct comparison of panes, as the model works it off. -/
theorem pn_ifs {R : Type} (x y : Pn) (F : Bool → R) : (if x.k.toList = y.k.toList then (if x.a = y.a then (if x.b = y.b then (if x.d = y.d then (if x.n = y.n then (if x.t.c = y.t.c then (if x.t.s = y.t.s then (if x.t.m = y.t.m then (if x.t.x = y.t.x then F false else F true) else F true) else F true) else F true) else F true) else F true) else F true) else F true) else F true) = F (!decide (x = y)) := by
  have hk : (x.k.toList = y.k.toList) = (x.k = y.k) := by
    have h := ba_beq x.k y.k
    rw [Bool.eq_iff_iff, beq_iff_eq, decide_eq_true_eq] at h
    exact propext h
  simp only [hk]
  rw [pn_eq]
  obtain ⟨a0, a1, a2, a3, a4, ⟨p, q, r, s⟩⟩ := x
  obtain ⟨b0, b1, b2, b3, b4, ⟨p', q', r', s'⟩⟩ := y
  dsimp only
  repeat' split
  all_goals simp [*]

set_option maxRecDepth 100000 in
set_option maxHeartbeats 2000000 in
/-- The same lists. -/
theorem sameP_any (A B : List Pn) (ao bo : Option Addr) (ac bc : Nat) (w : World) (ha : encP.Mem w ao A) (hb : encP.Mem w bo B) (hl : A.length ≤ 140737488355328) (hm : B.length ≤ 140737488355328) : Calls Tryd.prog 19 #[.slice ao A.length ac, .slice bo B.length bc] w fun e w' => e = .returned (.bool (decide (A = B))) ∧ Calm w w' := by
  obtain ⟨x, hx⟩ : ∃ x : Nat → Pn, ∀ i, x i = A.getD i pn0 := ⟨fun i => A.getD i pn0, fun _ => rfl⟩
  obtain ⟨y, hy⟩ : ∃ y : Nat → Pn, ∀ i, y i = B.getD i pn0 := ⟨fun i => B.getD i pn0, fun _ => rfl⟩
  have SA : Hid (∀ j, j < A.length → ∃ g off, ao = some ⟨g, off, none⟩ ∧ ∀ W, Calm w W → pcell W g (off + j * 9) (x j)) := hide fun j hj => by
    rw [hx]; exact pn_W ha j hj
  have SB : Hid (∀ j, j < B.length → ∃ g off, bo = some ⟨g, off, none⟩ ∧ ∀ W, Calm w W → pcell W g (off + j * 9) (y j)) := hide fun j hj => by
    rw [hy]; exact pn_W hb j hj
  have HN : Hid (A.length ≠ B.length → decide (A = B) = false) := hide fun h => decide_eq_false fun e => h (by rw [e])
  have HE : Hid (A.length = B.length → (∀ j, j < A.length → x j = y j) → decide (A = B) = true) := hide fun h k => decide_eq_true (List.ext_getElem h fun j h1 h2 => by
    have := k j h1
    rw [hx, hy, List.getD_eq_getElem?_getD, List.getD_eq_getElem?_getD, List.getElem?_eq_getElem h1, List.getElem?_eq_getElem h2] at this
    exact this)
  have HF : Hid (∀ j, j < A.length → x j ≠ y j → decide (A = B) = false) := hide fun j hj k => decide_eq_false fun e => k (by rw [hx, hy, e])
  clear ha hb hx hy
  generalize decide (A = B) = z at *
  generalize hn : A.length = n at *
  generalize hm' : B.length = m at *
  go_enter Tryd.func19, Tryd.ntmps19
  by_cases hnm : n = m
  case neg =>
    have hz : ¬ (n : Int) = (m : Int) := by omega
    have hz0 := HN.out hnm
    subst hz0
    clear HN HE HF SA SB
    go_wp2_with fail
    go_ret
    exact ⟨rfl, Touch.refl _ _⟩
  subst hnm
  clear HN
  go_wp2_with fail
  go_loopw [5] (fun s5 wr => ∃ i : Nat, s5 = .int .i64 (i : Int) ∧ i ≤ n ∧ (∀ j, j < i → x j = y j) ∧ Calm w wr) (fun s5 _ => n - (intOf s5).toNat)
  case atStart => exact ⟨0, rfl, by omega, fun j hj => by omega, Touch.refl _ _⟩
  case round =>
    obtain ⟨i, rfl, hi, hS, hC⟩ := hrel
    by_cases hlt : i < n
    · have hltz : (i : Int) < (n : Int) := by omega
      obtain ⟨ga, oa, rfl, ca⟩ := SA.out i hlt
      obtain ⟨gb, ob, rfl, cb⟩ := SB.out i hlt
      have KA := hide ca
      have KB := hide cb
      have HC := hide hC
      have HS := hide hS
      have HQ := hide (fun h : x i ≠ y i => HF.out i hlt h)
      have HR := hide (fun h : x i = y i => (fun j (hj : j < i + 1) => if e : j = i then by subst e; exact h else hS j (by omega) : ∀ j, j < i + 1 → x j = y j))
      clear SA SB ca cb hC hS HF HE
      generalize x i = p at *
      generalize y i = q at *
      go_wp2_with fail
      refine wp_region_held (S := Calm w) (by kernel_rfl) ?_
      have hT0 : Calm w { wr with drawn := wr.drawn + 1 } := HC.out.drew
      refine wpAnyH_yield 0 17 (.slice (some ⟨ga, oa, none⟩) n ac) rfl rfl (by kernel_rfl) (by kernel_rfl) (by kernel_rfl) (fun _ _ _ h => h) (by kernel_rfl) (fun W hW => by kernel_rfl) (by assumption) rfl rfl ?_
      simp only [Act.put, List.setIfInBounds_toArray, List.set_cons_zero, List.set_cons_succ]
      refine wpAnyH_yield 1 18 (.int .i64 (i : Int)) rfl rfl (by kernel_rfl) (by kernel_rfl) (by kernel_rfl) (fun _ _ _ h => h) (by kernel_rfl) (fun W hW => by kernel_rfl) (by assumption) rfl rfl ?_
      simp only [Act.put, List.setIfInBounds_toArray, List.set_cons_zero, List.set_cons_succ]
      refine wpAnyH_yield 2 19 (.pointer (some ⟨ga, oa + i * 9, none⟩)) rfl rfl (by kernel_rfl) (by kernel_rfl) (by kernel_rfl) (fun _ _ _ h => h) (by kernel_rfl) (fun W hW => by go_simp) (by assumption) rfl rfl ?_
      simp only [Act.put, List.setIfInBounds_toArray, List.set_cons_zero, List.set_cons_succ]
      refine wpAnyH_yield 3 20 (pnv p) rfl rfl (by kernel_rfl) (by kernel_rfl) (by kernel_rfl) (fun _ _ _ h => h) (by kernel_rfl) (fun W hW => by obtain ⟨⟨c0, c1, c2, c3, c4⟩, c5, c6, c7, c8⟩ := KA.out W hW; go_simp) (by assumption) rfl rfl ?_
      simp only [Act.put, List.setIfInBounds_toArray, List.set_cons_zero, List.set_cons_succ]
      refine wpAnyH_yield 4 21 (.slice (some ⟨gb, ob, none⟩) n bc) rfl rfl (by kernel_rfl) (by kernel_rfl) (by kernel_rfl) (fun _ _ _ h => h) (by kernel_rfl) (fun W hW => by kernel_rfl) (by assumption) rfl rfl ?_
      simp only [Act.put, List.setIfInBounds_toArray, List.set_cons_zero, List.set_cons_succ]
      refine wpAnyH_yield 5 22 (.int .i64 (i : Int)) rfl rfl (by kernel_rfl) (by kernel_rfl) (by kernel_rfl) (fun _ _ _ h => h) (by kernel_rfl) (fun W hW => by kernel_rfl) (by assumption) rfl rfl ?_
      simp only [Act.put, List.setIfInBounds_toArray, List.set_cons_zero, List.set_cons_succ]
      refine wpAnyH_yield 6 23 (.pointer (some ⟨gb, ob + i * 9, none⟩)) rfl rfl (by kernel_rfl) (by kernel_rfl) (by kernel_rfl) (fun _ _ _ h => h) (by kernel_rfl) (fun W hW => by go_simp) (by assumption) rfl rfl ?_
      simp only [Act.put, List.setIfInBounds_toArray, List.set_cons_zero, List.set_cons_succ]
      refine wpAnyH_yield 7 24 (pnv q) rfl rfl (by kernel_rfl) (by kernel_rfl) (by kernel_rfl) (fun _ _ _ h => h) (by kernel_rfl) (fun W hW => by obtain ⟨⟨c0, c1, c2, c3, c4⟩, c5, c6, c7, c8⟩ := KB.out W hW; go_simp) (by assumption) rfl rfl ?_
      simp only [Act.put, List.setIfInBounds_toArray, List.set_cons_zero, List.set_cons_succ]
      refine wpAnyH_yield 8 25 (.bool (!decide (p = q))) rfl rfl (by kernel_rfl) (by kernel_rfl) (by kernel_rfl) (fun _ _ _ h => h) (by kernel_rfl) (fun W hW => by go_simp; exact pn_ifs p q (fun b => Result.ok (Next.value (.bool b)) W)) (by assumption) rfl rfl ?_
      simp only [Act.put, List.setIfInBounds_toArray, List.set_cons_zero, List.set_cons_succ]
      refine wpAnyH_done (by kernel_rfl) ?_ _
      have H1 := hide hT0
      clear hT0 HC
      by_cases hpq : p = q
      · have hd : (!decide (p = q)) = false := by rw [decide_eq_true hpq]; rfl
        have HX := hide (HR.out hpq)
        rw [hd]
        clear HR HQ hd
        go_wp2_with fail
        go_roundw
        case rel => exact ⟨i + 1, by go_num, by omega, HX.out, H1.out⟩
        case measure => simp [intOf]; omega
      · have hd : (!decide (p = q)) = true := by rw [decide_eq_false hpq]; rfl
        have hz := HQ.out hpq
        subst hz
        rw [hd]
        clear HR HQ hd
        go_wp2_with fail
        go_ret
        exact ⟨rfl, H1.out⟩
    · have hltz : ¬ (i : Int) < (n : Int) := by omega
      obtain rfl : i = n := by omega
      have HC := hide hC
      have hz := HE.out (by first | rfl | trivial) hS
      subst hz
      clear SA SB hC HE HF
      go_wp2_with fail
      go_ret
      exact ⟨rfl, HC.out⟩

end Go.Proofs.YtamfcmmhmfhhkaaDoor
