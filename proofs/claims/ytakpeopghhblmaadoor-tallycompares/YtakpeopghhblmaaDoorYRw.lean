/- Rows of tallies. -/
import Derived.Test.YtakpeopghhblmaaDoorYW
import Derived.ArgAppend
import Derived.OwnWalk
import Derived.Laws.OwnMore
import Derived.Maps.AppendAt
namespace Go.Proofs.YtakpeopghhblmaaDoor
open Go.RowKit

theorem own_shape {w : World} {base n sz : Nat} {e : TypeId} {v : Value} {xs : List Value} (h : w.ownsRow base e sz v n xs) : ∃ ao c, v = .slice ao n c := by
  rcases h.2 with ⟨rfl, rfl⟩ | ⟨g, cap, cur, rfl, _⟩
  · exact ⟨none, 0, rfl⟩
  · exact ⟨_, _, rfl⟩

/-- It stays where its block stays. -/
theorem own_stays {w w' : World} {base n sz : Nat} {e : TypeId} {v : Value} {xs : List Value} (h : w.ownsRow base e sz v n xs) (hb : ∀ g, v.ownBlock = some g → w'.heap[g]? = w.heap[g]?) : w'.ownsRow base e sz v n xs := by
  rcases h with ⟨h1, h2 | ⟨g, cap, cur, rfl, h3, h4, h5⟩⟩
  · exact ⟨h1, .inl h2⟩
  · exact ⟨h1, .inr ⟨g, cap, cur, rfl, h3, (hb g rfl).trans h4, h5⟩⟩

theorem own_block {w : World} {base n sz : Nat} {e : TypeId} {v : Value} {xs : List Value} (h : w.ownsRow base e sz v n xs) {g : Nat} (hg : v.ownBlock = some g) : base ≤ g ∧ ∃ cur, w.heap[g]? = some (.cells cur e (0, 0)) := by
  rcases h with ⟨h1, ⟨rfl, _⟩ | ⟨g', cap, cur, rfl, h3, h4, h5⟩⟩
  · simp [Value.ownBlock] at hg
  · simp [Value.ownBlock] at hg; subst hg; exact ⟨h3, cur, h4⟩

theorem own_touch {S : Nat → Prop} {w w' : World} {base n sz : Nat} {e : TypeId} {v : Value} {xs : List Value} (h : w.ownsRow base e sz v n xs) (ht : Touch S w w') (hn : ∀ g, v.ownBlock = some g → ¬ S g) : w'.ownsRow base e sz v n xs :=
  own_stays h fun g hg => by
    obtain ⟨_, cur, hc⟩ := own_block h hg
    exact ht.block g (lt_of_heap hc) (hn g hg)

theorem info_parts2 {P : Program} {e : TypeId} {z : Value} {s b : Nat} (h : (P.info? e).map (fun i => (i.zero, i.size, i.bytes)) = some (some z, s, b)) : ∃ i, P.info? e = some i ∧ i.zero = some z ∧ i.size = s ∧ i.bytes = b := by
  cases hi : P.info? e with
  | none => rw [hi] at h; cases h
  | some i => rw [hi] at h; simp at h; exact ⟨i, rfl, h.1, h.2.1, h.2.2⟩

/-- The cells of tallies. -/
def tcells (L : List Tl) : List Value := L.flatMap fun t => (tlc t).toList

theorem tcells_cons (x : Tl) (L : List Tl) : tcells (x :: L) = .int .i64 x.c :: .int .i64 x.s :: .int .i64 x.m :: .int .i64 x.x :: tcells L := rfl
theorem tcells_append (L M : List Tl) : tcells (L ++ M) = tcells L ++ tcells M := List.flatMap_append ..
theorem tcells_len : ∀ L : List Tl, (tcells L).length = L.length * 4
  | [] => rfl
  | x :: L => by rw [tcells_cons]; simp only [List.length_cons]; rw [tcells_len L]; omega
theorem tcells_get : ∀ (L : List Tl) (j : Nat), j < L.length → (tcells L)[j * 4]? = some (.int .i64 (L.getD j tl0).c) ∧ (tcells L)[j * 4 + 1]? = some (.int .i64 (L.getD j tl0).s) ∧ (tcells L)[j * 4 + 2]? = some (.int .i64 (L.getD j tl0).m) ∧ (tcells L)[j * 4 + 3]? = some (.int .i64 (L.getD j tl0).x)
  | x :: L, 0, _ => ⟨rfl, rfl, rfl, rfl⟩
  | x :: L, j + 1, hj => by
    have := tcells_get L j (by simpa using hj)
    rw [tcells_cons]
    have e : (j + 1) * 4 = j * 4 + 1 + 1 + 1 + 1 := by omega
    rw [e]
    simpa using this
theorem tcells_one (L : List Tl) : ∀ u ∈ tcells L, u.oneCell' = true := fun u hu => by
  unfold tcells at hu
  obtain ⟨a, _, h⟩ := List.mem_flatMap.1 hu
  simp at h
  rcases h with rfl | rfl | rfl | rfl <;> rfl

/-- Tallies in a row of one's own. -/
def OwnL (w : World) (base : Nat) (v : Value) (L : List Tl) : Prop := w.ownsRow base 24 4 v L.length (tcells L)

theorem OwnL.touch {S : Nat → Prop} {w w' : World} {base : Nat} {v : Value} {L : List Tl} (h : OwnL w base v L) (ht : Touch S w w') (hn : ∀ g, v.ownBlock = some g → ¬ S g) : OwnL w' base v L := own_touch h ht hn
theorem OwnL.calm {w w' : World} {base : Nat} {v : Value} {L : List Tl} (h : OwnL w base v L) (ht : Calm w w') : OwnL w' base v L := h.touch ht fun _ _ h => h

theorem OwnL.tls {w : World} {base : Nat} {ao : Option Addr} {n cap : Nat} {L : List Tl} (h : OwnL w base (.slice ao n cap) L) : n = L.length ∧ Tls w ao L ∧ L.length ≤ cap ∧ (ao = none → cap = 0) := by
  have h' := h
  obtain ⟨h1, ⟨hv, h2⟩ | ⟨g, cap', cur, hv, h3, h4, h5, h6, h7, h8⟩⟩ := h'
  · injection hv with e1 e2 e3
    subst e1 e2 e3
    have hL : L = [] := List.eq_nil_of_length_eq_zero h2
    subst hL
    exact ⟨rfl, Tls.nil _ _, Nat.le_refl _, fun _ => rfl⟩
  · injection hv with e1 e2 e3
    subst e1 e3
    have c : ∀ i u, (tcells L)[i]? = some u → w.cell? ⟨g, 0 + i, none⟩ = some u := fun i u hu => by
      have := World.ownsRow.cells h (g := g) rfl i u hu
      rwa [Addr.add_lit] at this
    refine ⟨e2, fun j hj => ?_, h5, fun h => (nomatch h)⟩
    obtain ⟨g0, g1, g2, g3⟩ := tcells_get L j hj
    exact ⟨g, 0, rfl, c _ _ g0, by rw [Nat.add_assoc]; exact c _ _ g1, by rw [Nat.add_assoc]; exact c _ _ g2, by rw [Nat.add_assoc]; exact c _ _ g3⟩

theorem Tls.take {w : World} {ao : Option Addr} {L M : List Tl} (h : Tls w ao (L ++ M)) : Tls w ao L := fun j hj => by
  have := h j (by rw [List.length_append]; omega)
  have e : (L ++ M).getD j tl0 = L.getD j tl0 := by rw [List.getD_eq_getElem?_getD, List.getD_eq_getElem?_getD, List.getElem?_append_left hj]
  rwa [e] at this

theorem infoTally : (Tryd.prog.info? 24).map (fun i => (i.zero, i.size, i.bytes)) = some (some (.agg #[.int .i64 0, .int .i64 0, .int .i64 0, .int .i64 0]), 4, 32) := by kernel_rfl

theorem Tls.cells {w : World} {a : Addr} {L : List Tl} (h : Tls w (some a) L) : ∀ j u, (tcells L)[j]? = some u → w.cell? (a.add j) = some u := fun j u hu => by
  have hj : j < L.length * 4 := by
    have := (List.getElem?_eq_some_iff.1 hu).1
    rwa [tcells_len] at this
  obtain ⟨b, off, e, h0, h1, h2, h3⟩ := h (j / 4) (by omega)
  injection e with e
  subst e
  rw [Addr.add_lit]
  obtain ⟨g0, g1, g2, g3⟩ := tcells_get L (j / 4) (by omega)
  rcases (show j = j / 4 * 4 ∨ j = j / 4 * 4 + 1 ∨ j = j / 4 * 4 + 2 ∨ j = j / 4 * 4 + 3 by omega) with hj2 | hj2 | hj2 | hj2
  · rw [hj2, g0] at hu; injection hu with hu; rw [hj2, h0, hu]
  · rw [hj2, g1] at hu; injection hu with hu; rw [hj2, ← Nat.add_assoc, h1, hu]
  · rw [hj2, g2] at hu; injection hu with hu; rw [hj2, ← Nat.add_assoc, h2, hu]
  · rw [hj2, g3] at hu; injection hu with hu; rw [hj2, ← Nat.add_assoc, h3, hu]

/-- 'append' of tallies onto a row of one's own. -/
theorem run_lapp (w : World) (base : Nat) (ty : TypeId) (v : Value) (L : List Tl) (hown : OwnL w base v L) (ao : Option Addr) (c : Nat) (M : List Tl) (hp : Tls w ao M) (hc : ao = none → c = 0)
    (hb : L.length + M.length ≤ 4398046511104) (hbase : base ≤ w.heap.size) :
    ∃ ao' cap' w', (Builtin.append_ #[32, 32] ty #[v, .slice ao M.length c]).run Tryd.prog w = .ok (.slice ao' (L ++ M).length cap') w' ∧ OwnL w' base (.slice ao' (L ++ M).length cap') (L ++ M) ∧ Touch (fun g => v.ownBlock = some g) w w' ∧
      (∀ g, (Value.slice ao' (L ++ M).length cap').ownBlock = some g → v.ownBlock = some g ∨ w.heap.size ≤ g) := by
  obtain ⟨i, hi, hz, hs, hby⟩ := info_parts2 infoTally
  cases ao with
  | none =>
    have hM : M = [] := by
      cases M with
      | nil => rfl
      | cons x M => obtain ⟨b, off, e, _⟩ := hp 0 (by simp); cases e
    subst hM
    obtain rfl := hc rfl
    have hr := run_append_owned_none (P := Tryd.prog) (w := w) base 32 ty 24 i 4 Tryd.underlying32 hi v L.length (tcells L) hown
    obtain ⟨ao', cap', hv⟩ := own_shape hown
    refine ⟨ao', cap', w, ?_, ?_, Touch.refl _ _, ?_⟩
    · rw [List.append_nil, ← hv]; exact hr
    · rw [List.append_nil, ← hv]; exact hown
    · rw [List.append_nil, ← hv]; exact fun g hg => .inl hg
  | some a =>
    obtain ⟨v', w', hr, h1, h2, _, h3⟩ := run_append_own_at (P := Tryd.prog) w base 32 ty 24 i (.agg #[.int .i64 0, .int .i64 0, .int .i64 0, .int .i64 0]) 4 32 Tryd.underlying32 hi hz hs hby rfl (by decide) v L.length (tcells L) hown a M.length c (tcells M) (tcells_len M) hp.cells (tcells_one M) (by unfold maxLen; omega) (by omega) hbase
    have h1' : OwnL w' base v' (L ++ M) := by unfold OwnL; rw [tcells_append, List.length_append]; exact h1
    obtain ⟨ao', cap', hv⟩ := own_shape h1'
    refine ⟨ao', cap', w', by rw [← hv]; exact hr, by rw [← hv]; exact h1', Touch.of_grownBy h2 |>.mono fun g _ h => h, ?_⟩
    rw [← hv]
    intro g hg
    rcases h3 with h3 | h3
    · exact .inl (h3 ▸ hg)
    · rw [h3] at hg; injection hg with hg; exact .inr (by omega)

/-- An empty row, just made. -/
theorem own_empty (w : World) : OwnL (w.alloc (.cells #[] 24)) w.heap.size (.slice (some ⟨w.heap.size, 0, none⟩) 0 0) [] :=
  ⟨rfl, .inr ⟨w.heap.size, 0, #[], rfl, Nat.le_refl _, heap_alloc_last w _, Nat.le_refl _, by simp, rfl, rfl⟩⟩

theorem tls_one (w : World) (t : Tl) (e : TypeId) : Tls (w.alloc (.cells (tlc t) e)) (some ⟨w.heap.size, 0, none⟩) [t] := fun j hj => by
  refine ⟨w.heap.size, 0, rfl, ?_⟩
  have : j = 0 := by simp at hj; omega
  subst this
  simp

/-- An 'append' whose outcome is known. -/
theorem wpList_appR {P : Program} {w w' : World} {ops : Array Oper} {rest : List Oper} {o : Oper} {a : Act} {Q : Exit → Act → World → Prop} (hgd : o.guard = none) (s x : Operand) (t tx : TypeId)
    (ho : o.op = .call { callee := .builtin .append, args := #[s, x], argTypes := #[t, tx] }) (v y r : Value) (hv : a.eval s = v) (hy : a.eval x = y) (hr : (Builtin.append_ #[t, tx] o.type #[v, y]).run P w = .ok r w')
    (h : wpList P ops Q rest (a.put o.dst r) w') : wpList P ops Q (o :: rest) a w :=
  wpList_plain hgd fun K hK => by
    unfold Oper.wp execOp
    simp only [ho, resolve, invoke, builtin, Sem.run_bind, Sem.run_pure, Result.andThen_ok, List.map_toArray, List.map_cons, List.map_nil, hv, hy, hr]
    exact hK _ _ h

end Go.Proofs.YtakpeopghhblmaaDoor
