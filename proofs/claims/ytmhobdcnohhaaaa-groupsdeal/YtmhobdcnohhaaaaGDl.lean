/- Lists of texts, one for each worker, in memory of their own. -/
import Derived.Test.YtmhobdcnohhaaaaGClone
import Derived.Test.YtmhobdcnohhaaaaMovP
namespace Go.Proofs.Ytmhobdcnohhaaaa
open Go.RowKit

section
variable {P : Program}
/-- 'append' onto an owned row, as one step of a region that draws its order: the row stays, or is new memory. -/
theorem step_append_sep {w : World} {ops : Array Oper} {o : Oper} {a : Act} {K : Act → World → Prop} {Q : Exit → Act → World → Prop} {E : Prop} (hgd : o.guard = none) (s x : Operand) (t : TypeId)
    (ho : o.op = .call { callee := .builtin .append, args := #[s, x], argTypes := #[t, t] })
    (base : Nat) (e : TypeId) (i : TypeInfo) (z : Value) (size bytes : Nat) (h1 : P.underlying t = some (.slice e)) (h2 : P.info? e = some i) (h3 : i.zero = some z) (h4 : i.size = size) (h5 : i.bytes = bytes) (h6 : z.cells.size = size) (h7 : 0 < size)
    (v : Value) (k : Nat) (xs : List Value) (hs : a.eval s = v) (hown : w.ownsRow base e size v k xs) (ad : Addr) (m c : Nat) (news : List Value) (hx : a.eval x = .slice (some ad) m c) (hn : news.length = m * size)
    (hc : ∀ j u, news[j]? = some u → w.cell? (ad.add j) = some u) (h1c : ∀ u ∈ news, u.oneCell' = true) (b1 : k + m ≤ maxLen) (b2 : (k + m) * bytes ≤ 140737488355328) (b3 : base ≤ w.heap.size)
    (h : ∀ ao cap w', w'.ownsRow base e size (.slice ao (k + m) cap) (k + m) (xs ++ news) → Touch (fun g => v.ownBlock = some g) w w' → (∀ g, (Value.slice ao (k + m) cap).ownBlock = some g → v.ownBlock = some g ∨ w.heap.size ≤ g) → K (a.put o.dst (.slice ao (k + m) cap)) w') :
    if Region.wanted o (yielded ops a.tmps) = true then Oper.wp P o a w K Q else E := by
  have hw : Region.wanted o (yielded ops a.tmps) = true := by simp [Region.wanted, hgd]
  rw [if_pos hw]
  obtain ⟨ao, cap, rfl⟩ := own_shape hown
  have fin : ∀ v' w', (Builtin.append_ #[t, t] o.type #[.slice ao k cap, .slice (some ad) m c]).run P w = .ok v' w' → K (a.put o.dst v') w' → Oper.wp P o a w K Q := fun v' w' hr hk => by
    unfold Oper.wp execOp
    simp only [ho, resolve, invoke, builtin, Sem.run_bind, Sem.run_pure, Result.andThen_ok, List.map_toArray, List.map_cons, List.map_nil, hs, hx, hr]
    exact hk
  have grow : ∀ v' w', w'.ownsRow w.heap.size e size v' (k + m) (xs ++ news) → w.grownBy w' none → K (a.put o.dst v') w' := fun v' w' r1 r2 => by
    obtain ⟨ao', cap', rfl⟩ := own_shape r1
    exact h ao' cap' w' (own_base r1 b3) ((Touch.of_grownBy r2).mono (fun _ _ h => (nomatch h))) (fun g hg => .inr (own_block r1 hg).1)
  have hlen := hown.1
  rcases hown.2 with ⟨hv, hk⟩ | ⟨g, c', cur, hv, q1, q2, q3⟩
  · injection hv with e1 e2 e3
    subst e1 e2 e3
    obtain rfl : xs = [] := List.eq_nil_of_length_eq_zero (by simpa using hlen)
    obtain ⟨v', w', hrun, r1, r2, _⟩ := run_append_own (P := P) w w.heap.size t o.type e i z size bytes h1 h2 h3 h4 h5 h6 h7 (.slice none 0 0) 0 [] (World.ownsRow_nil w _ e size) ad m c news hn hc h1c b1 b2 (Nat.le_refl _)
    exact fin v' w' hrun (grow v' w' r1 r2)
  · injection hv with e1 e2 e3
    subst e1 e3
    by_cases hr : k + m ≤ cap
    · obtain ⟨w', hrun, r1, r2⟩ := run_append_fits (P := P) w base t o.type e i size h1 h2 h4 g k cap xs hown ad m c news hn hc h1c hr
      exact fin _ w' hrun (h _ _ w' r1 ((Touch.of_grownBy r2).mono (fun j _ hj => by rw [← hj]; rfl)) (fun g' hg' => .inl hg'))
    · obtain ⟨v', w', hrun, r1, r2⟩ := run_append_arg_grows (P := P) w t o.type e i z size bytes h1 h2 h3 h4 h5 h6 h7 ⟨g, 0, none⟩ k cap xs hlen (hown.cells (g := g) rfl) ad m c news hn hc (by omega) b1 b2
      exact fin v' w' hrun (grow v' w' r1 r2)
end

/-- The lists: their slices in the row O, each list in memory of its own. -/
structure Dl (base : Nat) (W : World) (O : Nat) (vs : List Value) (ls : List (List ByteArray)) : Prop where
  row : W.heap[O]? = some (.cells vs.toArray 55 (0, 0))
  len : ls.length = vs.length
  own : ∀ i (h : i < vs.length), W.ownsRow base 9 1 vs[i] (ls[i]'(by rw [len]; exact h)).length ((ls[i]'(by rw [len]; exact h)).map Value.string)
  apart : ∀ i j (hi : i < vs.length) (hj : j < vs.length) g, i ≠ j → vs[i].ownBlock = some g → vs[j].ownBlock ≠ some g
  lo : base ≤ O

theorem Dl.cell {base O : Nat} {W : World} {vs : List Value} {ls : List (List ByteArray)} (h : Dl base W O vs ls) (i : Nat) (hi : i < vs.length) : W.cell? ⟨O, i, none⟩ = some vs[i] ∧ W.frozen? ⟨O, i, none⟩ = false := by
  refine ⟨?_, by simp [World.frozen?, h.row]⟩
  rw [cell_of_row _ _ _ _ _ _ h.row]
  simp [hi]

theorem Dl.touch {S : Nat → Prop} {base O : Nat} {W W' : World} {vs : List Value} {ls : List (List ByteArray)} (h : Dl base W O vs ls) (ht : Touch S W W') (hO : ¬ S O) (hv : ∀ i (hi : i < vs.length) g, vs[i].ownBlock = some g → ¬ S g) : Dl base W' O vs ls :=
  ⟨ht.heap h.row hO, h.len, fun i hi => own_touch (h.own i hi) ht (hv i hi), h.apart, h.lo⟩

/-- One list has grown (or is another one), and its slice is put into the row. -/
theorem Dl.put {base O i : Nat} {W W' : World} {vs : List Value} {ls : List (List ByteArray)} (h : Dl base W O vs ls) (hi : i < vs.length) {v : Value} {l : List ByteArray} (ht : Touch (fun g => vs[i].ownBlock = some g) W W') (ho : W'.ownsRow base 9 1 v l.length (l.map Value.string)) (hf : ∀ g, v.ownBlock = some g → vs[i].ownBlock = some g ∨ W.heap.size ≤ g) :
    Dl base (W'.setCell ⟨O, i, none⟩ v) O (vs.set i v) (ls.set i l) := by
  have t2 : Touch (fun g => g = O) W' (W'.setCell ⟨O, i, none⟩ v) := (Touch.refl (fun g => g = O) W').setCell (p := ⟨O, i, none⟩) (fun _ => rfl) _
  have nO : ∀ {n : Nat} {u : Value} {ys : List Value} {V : World}, V.ownsRow base 9 1 u n ys → V.heap[O]? = some (.cells vs.toArray 55 (0, 0)) → ∀ g, u.ownBlock = some g → g ≠ O := fun hu hO g hg e => by
    obtain ⟨_, cur, hc⟩ := own_block hu hg
    subst e
    exact tags (t := 9) (t' := 55) hc hO (by decide) rfl
  have row' : W'.heap[O]? = some (.cells vs.toArray 55 (0, 0)) := ht.heap h.row (fun hg => nO (h.own i hi) h.row O hg rfl)
  have other : ∀ j (hj : j < vs.length), j ≠ i → W'.ownsRow base 9 1 vs[j] (ls[j]'(by rw [h.len]; exact hj)).length ((ls[j]'(by rw [h.len]; exact hj)).map Value.string) := fun j hj hne => own_touch (h.own j hj) ht (fun g hg e => h.apart j i hj hi g hne hg e)
  refine ⟨?_, by simp [h.len], fun j hj => ?_, fun j k hj hk g hne hg hg' => ?_, h.lo⟩
  · have := heap_setCell_row (i := i) row' v
    rw [this]
    simp
  · simp only [List.length_set] at hj
    by_cases e : j = i
    · subst e
      simp only [List.getElem_set_self]
      exact own_touch ho t2 (nO ho row')
    · simp only [List.getElem_set_ne (Ne.symm e)]
      exact own_touch (other j hj e) t2 (nO (other j hj e) row')
  · have hj2 : j < vs.length := by simpa using hj
    have hk2 : k < vs.length := by simpa using hk
    have small : ∀ j (hj : j < vs.length) g, vs[j].ownBlock = some g → g < W.heap.size := fun j hj g hg => by
      obtain ⟨_, cur, hc⟩ := own_block (h.own j hj) hg
      exact lt_of_heap hc
    by_cases e1 : j = i
    · subst e1
      have e2 : k ≠ j := fun e => hne e.symm
      simp only [List.getElem_set_self] at hg
      simp only [List.getElem_set_ne (Ne.symm e2)] at hg'
      rcases hf g hg with h1 | h1
      · exact h.apart j k hj2 hk2 g hne h1 hg'
      · have := small k hk2 g hg'; omega
    · simp only [List.getElem_set_ne (Ne.symm e1)] at hg
      by_cases e2 : k = i
      · subst e2
        simp only [List.getElem_set_self] at hg'
        rcases hf g hg' with h1 | h1
        · exact h.apart j k hj2 hk2 g hne hg h1
        · have := small j hj2 g hg; omega
      · simp only [List.getElem_set_ne (Ne.symm e2)] at hg'
        exact h.apart j k hj2 hk2 g hne hg hg'

end Go.Proofs.Ytmhobdcnohhaaaa
