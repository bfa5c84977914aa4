/- Appends of pairs. -/
import Derived.Test.YtegiinnhknfjjaaIRef2
import Derived.Laws.OwnMore
namespace Go.Proofs.Ytegiinnhknfjjaa.IM
open Go.RowKit

/-- The cells of pairs. -/
def pcells (L : List (Int × Int)) : List Value := L.flatMap fun a => [.int .i64 a.1, .int .i64 a.2]

theorem pcells_cons (x : Int × Int) (L : List (Int × Int)) : pcells (x :: L) = .int .i64 x.1 :: .int .i64 x.2 :: pcells L := rfl
theorem pcells_append (L M : List (Int × Int)) : pcells (L ++ M) = pcells L ++ pcells M := List.flatMap_append ..
theorem pcells_len : ∀ L : List (Int × Int), (pcells L).length = L.length * 2
  | [] => rfl
  | x :: L => by rw [pcells_cons, List.length_cons, List.length_cons, pcells_len L, List.length_cons]; omega
theorem pcells_get : ∀ (L : List (Int × Int)) (j : Nat) (hj : j < L.length), (pcells L)[j * 2]? = some (.int .i64 L[j].1) ∧ (pcells L)[j * 2 + 1]? = some (.int .i64 L[j].2)
  | x :: L, 0, _ => ⟨rfl, rfl⟩
  | x :: L, j + 1, hj => by
    have := pcells_get L j (by simpa using hj)
    rw [pcells_cons]
    have e : (j + 1) * 2 = j * 2 + 1 + 1 := by omega
    rw [e]
    simpa using this
theorem pcells_one (L : List (Int × Int)) : ∀ u ∈ pcells L, u.oneCell' = true := fun u hu => by
  unfold pcells at hu
  obtain ⟨a, _, h⟩ := List.mem_flatMap.1 hu
  simp at h
  rcases h with rfl | rfl <;> rfl

/-- Pairs in a row of one's own. -/
def OwnP (w : World) (base : Nat) (v : Value) (L : List (Int × Int)) : Prop := w.ownsRow base 57 2 v L.length (pcells L)

theorem OwnP.prs {w : World} {base : Nat} {ao : Option Addr} {n cap : Nat} {L : List (Int × Int)} (h : OwnP w base (.slice ao n cap) L) :
    n = L.length ∧ Prs w ao L ∧ (∀ a, ao = some a → a.spot = none ∧ base ≤ a.block ∧ ∃ cs, w.heap[a.block]? = some (.cells cs 57 (0, 0))) ∧ L.length ≤ cap ∧ cap ≤ maxLen ∧ (ao = none → cap = 0) := by
  have h' := h
  obtain ⟨h1, ⟨hv, h2⟩ | ⟨g, cap', cur, hv, h3, h4, h5, h6, h7, h8⟩⟩ := h'
  · injection hv with e1 e2 e3
    subst e1 e2 e3
    have hL : L = [] := List.eq_nil_of_length_eq_zero h2
    subst hL
    exact ⟨rfl, Prs.nil _ _, fun _ h => (nomatch h), Nat.le_refl _, Nat.zero_le _, fun _ => rfl⟩
  · injection hv with e1 e2 e3
    subst e1 e3
    refine ⟨e2, fun j hj => ⟨g, 0, rfl, ?_, ?_⟩, fun a ha => ?_, h5, h6, fun h => (nomatch h)⟩
    · have := World.ownsRow.cells h (g := g) rfl (j * 2) _ (pcells_get L j hj).1
      rw [Addr.add_lit] at this
      exact this
    · have := World.ownsRow.cells h (g := g) rfl (j * 2 + 1) _ (pcells_get L j hj).2
      rw [Addr.add_lit] at this
      rw [Nat.add_assoc]
      exact this
    · injection ha with ha; subst ha; exact ⟨rfl, h3, cur, h4⟩

theorem infoPair : (Try.prog.info? 57).map (fun i => (i.zero, i.size, i.bytes)) = some (some (.agg #[.int .i64 0, .int .i64 0]), 2, 16) := by kernel_rfl

theorem Prs.cells {w : World} {a : Addr} {L : List (Int × Int)} (h : Prs w (some a) L) : ∀ j u, (pcells L)[j]? = some u → w.cell? (a.add j) = some u := fun j u hu => by
  have hj : j < L.length * 2 := by
    have := (List.getElem?_eq_some_iff.1 hu).1
    rwa [pcells_len] at this
  obtain ⟨b, off, e, h1, h2⟩ := h (j / 2) (by omega)
  injection e with e
  subst e
  rw [Addr.add_lit]
  obtain ⟨g1, g2⟩ := pcells_get L (j / 2) (by omega)
  rcases (show j = j / 2 * 2 ∨ j = j / 2 * 2 + 1 by omega) with hj2 | hj2
  · rw [hj2, g1] at hu
    injection hu with hu
    rw [hj2, h1, hu]
  · rw [hj2, g2] at hu
    injection hu with hu
    rw [hj2, ← Nat.add_assoc, h2, hu]

/-- 'append' of pairs onto a row of one's own. -/
theorem run_app (w : World) (base : Nat) (ty : TypeId) (v : Value) (L : List (Int × Int)) (hown : OwnP w base v L) (ao : Option Addr) (c : Nat) (M : List (Int × Int)) (hp : Prs w ao M) (hc : ao = none → c = 0)
    (hb : L.length + M.length ≤ 8796093022208) (hbase : base ≤ w.heap.size) :
    ∃ ao' cap' w', (Builtin.append_ #[28, 28] ty #[v, .slice ao M.length c]).run Try.prog w = .ok (.slice ao' (L ++ M).length cap') w' ∧ OwnP w' base (.slice ao' (L ++ M).length cap') (L ++ M) ∧ Touch (fun g => v.ownBlock = some g) w w' := by
  obtain ⟨i, hi, hz, hs, hby⟩ := info_parts2 infoPair
  cases ao with
  | none =>
    have hM : M = [] := by
      cases M with
      | nil => rfl
      | cons x M => obtain ⟨b, off, e, _⟩ := hp 0 (by simp); cases e
    subst hM
    obtain rfl := hc rfl
    have hr := run_append_owned_none (P := Try.prog) (w := w) base 28 ty 57 i 2 Try.underlying28 hi v L.length (pcells L) hown
    obtain ⟨ao', cap', hv⟩ := own_shape hown
    refine ⟨ao', cap', w, ?_, ?_, Touch.refl _ _⟩
    · rw [List.append_nil, ← hv]; exact hr
    · rw [List.append_nil, ← hv]; exact hown
  | some a =>
    obtain ⟨v', w', hr, h1, h2, _⟩ := run_append_own (P := Try.prog) w base 28 ty 57 i (.agg #[.int .i64 0, .int .i64 0]) 2 16 Try.underlying28 hi hz hs hby rfl (by decide) v L.length (pcells L) hown a M.length c (pcells M) (pcells_len M) hp.cells (pcells_one M) (by unfold maxLen; omega) (by omega) hbase
    have h1' : OwnP w' base v' (L ++ M) := by unfold OwnP; rw [pcells_append, List.length_append]; exact h1
    obtain ⟨ao', cap', hv⟩ := own_shape h1'
    exact ⟨ao', cap', w', by rw [← hv]; exact hr, by rw [← hv]; exact h1', Touch.of_grownBy h2 |>.mono fun g _ h => h⟩

/-- The same as an operation. -/
theorem exec_app {ρ : Operand → Value} {o : Oper} {s x : Operand} {t : TypeId} {w w' : World} {v' : Value} (ho : o.op = .call { callee := .builtin .append, args := #[s, x], argTypes := #[t, t] })
    (h : (Builtin.append_ #[t, t] o.type #[ρ s, ρ x]).run Try.prog w = .ok v' w') : (execOp ρ o).run Try.prog w = .ok (.value v') w' := by
  unfold execOp
  simp only [ho, resolve, invoke, builtin, Sem.run_bind, Sem.run_pure, Result.andThen_ok, List.map_toArray, List.map_cons, List.map_nil, h]

theorem wpList_app {w : World} {ops : Array Oper} {rest : List Oper} {o : Oper} {a : Act} {Q : Exit → Act → World → Prop} (hgd : o.guard = none) (s x : Operand)
    (ho : o.op = .call { callee := .builtin .append, args := #[s, x], argTypes := #[28, 28] }) (base : Nat) (v : Value) (L : List (Int × Int)) (hs : a.eval s = v) (hown : OwnP w base v L)
    (ao : Option Addr) (m c : Nat) (M : List (Int × Int)) (hm : M.length = m) (hx : a.eval x = .slice ao m c) (hp : Prs w ao M) (hc : ao = none → c = 0) (hb : L.length + M.length ≤ 8796093022208) (hbase : base ≤ w.heap.size)
    (h : ∀ ao' cap' w', OwnP w' base (.slice ao' (L ++ M).length cap') (L ++ M) → Touch (fun g => v.ownBlock = some g) w w' → wpList Try.prog ops Q rest (a.put o.dst (.slice ao' (L ++ M).length cap')) w') : wpList Try.prog ops Q (o :: rest) a w :=
  wpList_plain hgd fun K hK => by
    subst hm
    obtain ⟨ao', cap', w', hr, h1, h2⟩ := run_app w base o.type v L hown ao c M hp hc hb hbase
    unfold Oper.wp
    rw [exec_app ho (by rw [hs, hx]; exact hr)]
    exact hK _ _ (h ao' cap' w' h1 h2)

/-- '[]Pair{}'. -/
theorem own_empty (w : World) : OwnP (w.alloc (.cells #[] 57)) w.heap.size (.slice (some ⟨w.heap.size, 0, none⟩) 0 0) [] :=
  ⟨rfl, .inr ⟨w.heap.size, 0, #[], rfl, Nat.le_refl _, heap_alloc_last w _, Nat.le_refl _, Nat.zero_le _, rfl, rfl⟩⟩

theorem OwnP.touch {S : Nat → Prop} {w w' : World} {base : Nat} {v : Value} {L : List (Int × Int)} (h : OwnP w base v L) (ht : Touch S w w') (hn : ∀ g, v.ownBlock = some g → ¬ S g) : OwnP w' base v L := own_touch h ht hn

/-- 'L[k:]'. -/
theorem slice_from {w : World} {ao : Option Addr} {cap k : Nat} {L : List (Int × Int)} (hp : Prs w ao L) (hk : k ≤ L.length) (hc : L.length ≤ cap) (hn : ao = none → cap = 0) :
    ∃ so sc, (∀ W, (Instr.slice 28 (.slice ao L.length cap) (some (.int .i64 (k : Nat))) none none).run Try.prog W = .ok (.slice so (L.length - k) sc) W) ∧ Prs w so (L.drop k) ∧ (so = none → sc = 0) := by
  obtain ⟨i, hi, hz, hs, hby⟩ := info_parts2 infoPair
  have he : Try.prog.elem 28 = 57 := by kernel_rfl
  refine ⟨if cap = k then ao else ao.map fun x => x.add (k * 2), cap - k, fun W => ?_, ?_, ?_⟩
  · rw [run_slice_l W 28 ao L.length cap (by rw [he]; exact Try.underlying28) .i64 (k : Nat) (by omega) (by omega), he]
    simp only [sizeOf, typeInfo]
    simp [hi, hs, sliced]
  · by_cases hck : cap = k
    · rw [if_pos hck, List.drop_of_length_le (by omega)]; exact Prs.nil _ _
    · rw [if_neg hck]; exact hp.drop k
  · intro h
    by_cases hck : cap = k
    · omega
    · rw [if_neg hck] at h
      have := hn (by simpa using h)
      omega

/-- 'L[:k]'. -/
theorem slice_to {ao : Option Addr} {cap k n : Nat} (hr : ∀ a, ao = some a → a.spot = none) (hk : k ≤ cap) (W : World) :
    (Instr.slice 28 (.slice ao n cap) none (some (.int .i64 (k : Nat))) none).run Try.prog W = .ok (.slice ao k cap) W := by
  obtain ⟨i, hi, hz, hs, hby⟩ := info_parts2 infoPair
  have he : Try.prog.elem 28 = 57 := by kernel_rfl
  rw [run_slice_h W 28 ao n cap (by rw [he]; exact Try.underlying28) .i64 (k : Nat) (by omega) (by omega), he]
  simp only [sizeOf, typeInfo]
  have hm : (ao.map fun x => x.add 0) = ao := by
    cases ao with
    | none => rfl
    | some a =>
      have := hr a rfl
      obtain ⟨b, o, sp⟩ := a
      simp only at this
      subst this
      simp [Addr.add_lit]
  simp [hi, hs, sliced, hm]

/-- A map with other pairs. -/
theorem Rf.turned {w w2 : World} {r : Nat} {which : Int} {L : List (Int × Int)} {ao : Option Addr} {cap : Nat} (h : Rf w r which L ao cap) (ht : Calm w w2) {ao' : Option Addr} {cap' : Nat} {M : List (Int × Int)} (hown : OwnP w2 w.heap.size (.slice ao' M.length cap') M) :
    Rf (w2.setCell ⟨r, 1, none⟩ (.slice ao' M.length cap')) r which M ao' cap' ∧ Touch (fun g => g = r) w (w2.setCell ⟨r, 1, none⟩ (.slice ao' M.length cap')) := by
  have h2 := ht.at h.own
  have t3 : Touch (fun g => g = r) w2 (w2.setCell ⟨r, 1, none⟩ (.slice ao' M.length cap')) := (Touch.refl (fun g => g = r) w2).setCell (p := ⟨r, 1, none⟩) (fun _ => rfl) _
  obtain ⟨-, g2, g3, g4, g5, g6⟩ := hown.prs
  refine ⟨⟨?_, g2.touch t3 (fun a ha e => ?_), fun a ha => ?_, g6, ⟨g4, g5⟩⟩, (ht.mono (fun _ _ h => h.elim)).trans t3 (fun _ _ h => h)⟩
  · have := heap_setCell_row (i := 1) h2 (.slice ao' M.length cap')
    simpa using this
  · obtain ⟨_, _, cs, hc⟩ := g3 a ha
    exact tags hc h2 (by decide) e
  · obtain ⟨k1, _, cs, hc⟩ := g3 a ha
    exact ⟨k1, cs, t3.heap hc (fun e => tags hc h2 (by decide) e)⟩

end Go.Proofs.Ytegiinnhknfjjaa.IM
