/- Rows of timers. -/
import Derived.Test.YtlnblhajcbmmkaaTHeap
import Derived.Test.YtlnblhajcbmmkaaTCmp
import Derived.Test.YtlnblhajcbmmkaaSOwn
import Derived.Laws.OwnMore
import Derived.Maps.AppendAt
namespace Go.Proofs.Ytlnblhajcbmmkaa
open Go.RowKit

/-- Timers in memory. -/
def Tms (w : World) (ao : Option Addr) (L : List Tm) : Prop := ∀ j (hj : j < L.length), ∃ b off, ao = some ⟨b, off, none⟩ ∧ w.cell? ⟨b, off + j * 4, none⟩ = some (.int .i64 L[j].at_) ∧ w.cell? ⟨b, off + j * 4 + 1, none⟩ = some (.string L[j].key) ∧ w.cell? ⟨b, off + j * 4 + 2, none⟩ = some (.int .i64 L[j].start) ∧ w.cell? ⟨b, off + j * 4 + 3, none⟩ = some (.int .i64 L[j].stop)

theorem Tms.touch {S : Nat → Prop} {w w' : World} {ao : Option Addr} {L : List Tm} (h : Tms w ao L) (ht : Touch S w w') (hS : ∀ a, ao = some a → L ≠ [] → ¬ S a.block) : Tms w' ao L := fun j hj => by
  obtain ⟨b, off, e, h0, h1, h2, h3⟩ := h j hj
  have hn : ¬ S b := hS _ e (fun h => by rw [h] at hj; simp at hj)
  have g : ∀ {o : Nat} {v : Value}, w.cell? ⟨b, o, none⟩ = some v → w'.cell? ⟨b, o, none⟩ = some v := fun {o v} h => (ht.cell (p := ⟨b, o, none⟩) (lt_of_cell h) hn).trans h
  exact ⟨b, off, e, g h0, g h1, g h2, g h3⟩

theorem Tms.calm {w w' : World} {ao : Option Addr} {L : List Tm} (h : Tms w ao L) (ht : Calm w w') : Tms w' ao L := h.touch ht fun _ _ _ h => h
theorem Tms.nil (w : World) (ao : Option Addr) : Tms w ao [] := fun j hj => by simp at hj

theorem Tms.drop {w : World} {ao : Option Addr} {L : List Tm} (h : Tms w ao L) (k : Nat) : Tms w (ao.map fun x => x.add (k * 4)) (L.drop k) := fun j hj => by
  rw [List.length_drop] at hj
  obtain ⟨b, off, rfl, h0, h1, h2, h3⟩ := h (k + j) (by omega)
  have e : off + (k + j) * 4 = off + k * 4 + j * 4 := by omega
  rw [e] at h0 h1 h2 h3
  refine ⟨b, off + k * 4, by simp [Addr.add_lit], ?_⟩
  rw [List.getElem_drop]
  exact ⟨h0, h1, h2, h3⟩

theorem Tms.take {w : World} {ao : Option Addr} {L : List Tm} (h : Tms w ao L) (k : Nat) : Tms w ao (L.take k) := fun j hj => by
  rw [List.length_take] at hj
  rw [List.getElem_take]
  exact h j (by omega)

/-- The cells of timers. -/
def tcells (L : List Tm) : List Value := L.flatMap fun t => (tc t).toList

theorem tcells_cons (x : Tm) (L : List Tm) : tcells (x :: L) = .int .i64 x.at_ :: .string x.key :: .int .i64 x.start :: .int .i64 x.stop :: tcells L := rfl
theorem tcells_append (L M : List Tm) : tcells (L ++ M) = tcells L ++ tcells M := List.flatMap_append ..
theorem tcells_len : ∀ L : List Tm, (tcells L).length = L.length * 4
  | [] => rfl
  | x :: L => by rw [tcells_cons]; simp only [List.length_cons]; rw [tcells_len L]; omega
theorem tcells_get : ∀ (L : List Tm) (j : Nat) (hj : j < L.length), (tcells L)[j * 4]? = some (.int .i64 L[j].at_) ∧ (tcells L)[j * 4 + 1]? = some (.string L[j].key) ∧ (tcells L)[j * 4 + 2]? = some (.int .i64 L[j].start) ∧ (tcells L)[j * 4 + 3]? = some (.int .i64 L[j].stop)
  | x :: L, 0, _ => ⟨rfl, rfl, rfl, rfl⟩
  | x :: L, j + 1, hj => by
    have := tcells_get L j (by simpa using hj)
    rw [tcells_cons]
    have e : (j + 1) * 4 = j * 4 + 1 + 1 + 1 + 1 := by omega
    rw [e]
    simpa using this
theorem tcells_one (L : List Tm) : ∀ u ∈ tcells L, u.oneCell' = true := fun u hu => by
  unfold tcells at hu
  obtain ⟨a, _, h⟩ := List.mem_flatMap.1 hu
  simp at h
  rcases h with rfl | rfl | rfl | rfl <;> rfl

/-- The cells, one timer turned. -/
theorem tcells_set : ∀ (L : List Tm) (p : Nat) (t : Tm), p < L.length → tcells (L.set p t) = ((((tcells L).set (p * 4) (.int .i64 t.at_)).set (p * 4 + 1) (.string t.key)).set (p * 4 + 2) (.int .i64 t.start)).set (p * 4 + 3) (.int .i64 t.stop)
  | x :: L, 0, t, _ => by simp [tcells_cons]
  | x :: L, p + 1, t, h => by
    have := tcells_set L p t (by simpa using h)
    have e : (p + 1) * 4 = p * 4 + 1 + 1 + 1 + 1 := by omega
    rw [List.set_cons_succ, tcells_cons, tcells_cons, this, e]
    simp

/-- Timers in a row of one's own. -/
def OwnT (w : World) (base : Nat) (v : Value) (L : List Tm) : Prop := w.ownsRow base 35 4 v L.length (tcells L)

theorem OwnT.touch {S : Nat → Prop} {w w' : World} {base : Nat} {v : Value} {L : List Tm} (h : OwnT w base v L) (ht : Touch S w w') (hn : ∀ g, v.ownBlock = some g → ¬ S g) : OwnT w' base v L := own_touch h ht hn
theorem OwnT.calm {w w' : World} {base : Nat} {v : Value} {L : List Tm} (h : OwnT w base v L) (ht : Calm w w') : OwnT w' base v L := h.touch ht fun _ _ h => h

theorem OwnT.prs {w : World} {base : Nat} {ao : Option Addr} {n cap : Nat} {L : List Tm} (h : OwnT w base (.slice ao n cap) L) :
    n = L.length ∧ Tms w ao L ∧ (∀ a, ao = some a → a.spot = none ∧ a.off = 0 ∧ base ≤ a.block ∧ ∃ cs, w.heap[a.block]? = some (.cells cs 35 (0, 0))) ∧ L.length ≤ cap ∧ cap ≤ maxLen ∧ (ao = none → cap = 0) := by
  have h' := h
  obtain ⟨h1, ⟨hv, h2⟩ | ⟨g, cap', cur, hv, h3, h4, h5, h6, h7, h8⟩⟩ := h'
  · injection hv with e1 e2 e3
    subst e1 e2 e3
    have hL : L = [] := List.eq_nil_of_length_eq_zero h2
    subst hL
    exact ⟨rfl, Tms.nil _ _, fun _ h => (nomatch h), Nat.le_refl _, Nat.zero_le _, fun _ => rfl⟩
  · injection hv with e1 e2 e3
    subst e1 e3
    have c : ∀ i u, (tcells L)[i]? = some u → w.cell? ⟨g, 0 + i, none⟩ = some u := fun i u hu => by
      have := World.ownsRow.cells h (g := g) rfl i u hu
      rwa [Addr.add_lit] at this
    refine ⟨e2, fun j hj => ?_, fun a ha => ?_, h5, h6, fun h => (nomatch h)⟩
    · obtain ⟨g0, g1, g2, g3⟩ := tcells_get L j hj
      exact ⟨g, 0, rfl, c _ _ g0, by rw [Nat.add_assoc]; exact c _ _ g1, by rw [Nat.add_assoc]; exact c _ _ g2, by rw [Nat.add_assoc]; exact c _ _ g3⟩
    · injection ha with ha; subst ha; exact ⟨rfl, rfl, h3, cur, h4⟩

theorem infoTimer : (Try.prog.info? 35).map (fun i => (i.zero, i.size, i.bytes)) = some (some (.agg #[.int .i64 0, .string { data := #[] }, .int .i64 0, .int .i64 0]), 4, 40) := by kernel_rfl

theorem Tms.cells {w : World} {a : Addr} {L : List Tm} (h : Tms w (some a) L) : ∀ j u, (tcells L)[j]? = some u → w.cell? (a.add j) = some u := fun j u hu => by
  have hj : j < L.length * 4 := by
    have := (List.getElem?_eq_some_iff.1 hu).1
    rwa [tcells_len] at this
  obtain ⟨b, off, e, h0, h1, h2, h3⟩ := h (j / 4) (by omega)
  injection e with e
  subst e
  rw [Addr.add_lit]
  obtain ⟨g0, g1, g2, g3⟩ := tcells_get L (j / 4) (by omega)
  rcases (show j = j / 4 * 4 ∨ j = j / 4 * 4 + 1 ∨ j = j / 4 * 4 + 2 ∨ j = j / 4 * 4 + 3 by omega) with hj2 | hj2 | hj2 | hj2
  · rw [hj2, g0] at hu; injection hu with hu; rw [hj2, h0, hu]
  · rw [hj2, g1] at hu; injection hu with hu; rw [hj2, ← Nat.add_assoc, h1, hu]
  · rw [hj2, g2] at hu; injection hu with hu; rw [hj2, ← Nat.add_assoc, h2, hu]
  · rw [hj2, g3] at hu; injection hu with hu; rw [hj2, ← Nat.add_assoc, h3, hu]

/-- 'append' of timers onto a row of one's own. -/
theorem run_tapp (w : World) (base : Nat) (ty : TypeId) (v : Value) (L : List Tm) (hown : OwnT w base v L) (ao : Option Addr) (c : Nat) (M : List Tm) (hp : Tms w ao M) (hc : ao = none → c = 0)
    (hb : L.length + M.length ≤ 3518437208800) (hbase : base ≤ w.heap.size) :
    ∃ ao' cap' w', (Builtin.append_ #[22, 22] ty #[v, .slice ao M.length c]).run Try.prog w = .ok (.slice ao' (L ++ M).length cap') w' ∧ OwnT w' base (.slice ao' (L ++ M).length cap') (L ++ M) ∧ Touch (fun g => v.ownBlock = some g) w w' ∧
      (∀ g, (Value.slice ao' (L ++ M).length cap').ownBlock = some g → v.ownBlock = some g ∨ w.heap.size ≤ g) := by
  obtain ⟨i, hi, hz, hs, hby⟩ := info_parts2 infoTimer
  cases ao with
  | none =>
    have hM : M = [] := by
      cases M with
      | nil => rfl
      | cons x M => obtain ⟨b, off, e, _⟩ := hp 0 (by simp); cases e
    subst hM
    obtain rfl := hc rfl
    have hr := run_append_owned_none (P := Try.prog) (w := w) base 22 ty 35 i 4 Try.underlying22 hi v L.length (tcells L) hown
    obtain ⟨ao', cap', hv⟩ := own_shape hown
    refine ⟨ao', cap', w, ?_, ?_, Touch.refl _ _, ?_⟩
    · rw [List.append_nil, ← hv]; exact hr
    · rw [List.append_nil, ← hv]; exact hown
    · rw [List.append_nil, ← hv]; exact fun g hg => .inl hg
  | some a =>
    obtain ⟨v', w', hr, h1, h2, _, h3⟩ := run_append_own_at (P := Try.prog) w base 22 ty 35 i (.agg #[.int .i64 0, .string { data := #[] }, .int .i64 0, .int .i64 0]) 4 40 Try.underlying22 hi hz hs hby rfl (by decide) v L.length (tcells L) hown a M.length c (tcells M) (tcells_len M) hp.cells (tcells_one M) (by unfold maxLen; omega) (by omega) hbase
    have h1' : OwnT w' base v' (L ++ M) := by unfold OwnT; rw [tcells_append, List.length_append]; exact h1
    obtain ⟨ao', cap', hv⟩ := own_shape h1'
    refine ⟨ao', cap', w', by rw [← hv]; exact hr, by rw [← hv]; exact h1', Touch.of_grownBy h2 |>.mono fun g _ h => h, ?_⟩
    rw [← hv]
    intro g hg
    rcases h3 with h3 | h3
    · exact .inl (h3 ▸ hg)
    · rw [h3] at hg; injection hg with hg; exact .inr (by omega)

/-- One timer of a row turned. -/
theorem OwnT.set {w : World} {base g cap n : Nat} {L : List Tm} (h : OwnT w base (.slice (some ⟨g, 0, none⟩) n cap) L) {p : Nat} (hp : p < L.length) (t : Tm) {w' : World}
    (hw : w' = (((w.setCell ⟨g, p * 4, none⟩ (.int .i64 t.at_)).setCell ⟨g, p * 4 + 1, none⟩ (.string t.key)).setCell ⟨g, p * 4 + 2, none⟩ (.int .i64 t.start)).setCell ⟨g, p * 4 + 3, none⟩ (.int .i64 t.stop)) :
    OwnT w' base (.slice (some ⟨g, 0, none⟩) n cap) (L.set p t) ∧ Touch (fun x => x = g) w w' := by
  have ht : Touch (fun x => x = g) w w' := by
    rw [hw]
    exact ((((Touch.refl (fun x => x = g) w).setCell (p := ⟨g, p * 4, none⟩) (fun _ => rfl) _).setCell (p := ⟨g, p * 4 + 1, none⟩) (fun _ => rfl) _).setCell (p := ⟨g, p * 4 + 2, none⟩) (fun _ => rfl) _).setCell (p := ⟨g, p * 4 + 3, none⟩) (fun _ => rfl) _
  refine ⟨?_, ht⟩
  obtain ⟨h1, ⟨hv, h2⟩ | ⟨g', cap', cur, hv, h3, h4, h5, h6, h7, h8⟩⟩ := h
  · injection hv with e1; cases e1
  · injection hv with e1 e2 e3
    injection e1 with e1
    injection e1 with e1
    subst e1 e3
    have k1 := heap_setCell_row (i := p * 4) h4 (.int .i64 t.at_)
    have k2 := heap_setCell_row (i := p * 4 + 1) k1 (.string t.key)
    have k3 := heap_setCell_row (i := p * 4 + 2) k2 (.int .i64 t.start)
    have k4 := heap_setCell_row (i := p * 4 + 3) k3 (.int .i64 t.stop)
    rw [← hw] at k4
    have ln := tcells_len L
    refine ⟨by rw [tcells_len], .inr ⟨g, cap, _, by rw [e2, List.length_set], h3, k4, by simpa using h5, h6, by simpa using h7, ?_⟩⟩
    simp only [Array.toList_setIfInBounds, List.take_set, List.length_set, tcells_set L p t hp]
    rw [h8]

/-- The last timer left off. -/
theorem OwnT.cut {w : World} {base n m cap : Nat} {ao : Option Addr} {L : List Tm} (h : OwnT w base (.slice ao n cap) L) (hm : m ≤ L.length) (h0 : ao ≠ none) : OwnT w base (.slice ao m cap) (L.take m) := by
  obtain ⟨h1, ⟨hv, h2⟩ | ⟨g', cap', cur, hv, h3, h4, h5, h6, h7, h8⟩⟩ := h
  · injection hv with e1; exact absurd e1 h0
  · injection hv with e1 e2 e3
    subst e1 e3
    have hl : (L.take m).length = m := by rw [List.length_take]; omega
    have ht : tcells (L.take m) = (tcells L).take (m * 4) := by
      have e : tcells L = tcells (L.take m) ++ tcells (L.drop m) := by rw [← tcells_append, List.take_append_drop]
      rw [e]
      exact (List.take_left' (by rw [tcells_len, hl])).symm
    refine ⟨by rw [tcells_len], .inr ⟨g', cap, cur, by rw [hl], h3, h4, by rw [hl]; omega, h6, h7, ?_⟩⟩
    rw [ht, ← h8, hl, List.take_take, Nat.min_eq_left (by omega)]

end Go.Proofs.Ytlnblhajcbmmkaa
