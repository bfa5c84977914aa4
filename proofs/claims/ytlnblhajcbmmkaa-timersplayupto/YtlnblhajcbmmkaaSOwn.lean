/- Rows that are owned: appends, cuts. -/
import Derived.Test.YtlnblhajcbmmkaaSRng
import Derived.ArgAppend
import Derived.OwnWalk
import Derived.OwnWalkIn
namespace Go.Proofs.Ytlnblhajcbmmkaa
open Go.RowKit

theorem own_shape {w : World} {base n sz : Nat} {e : TypeId} {v : Value} {xs : List Value} (h : w.ownsRow base e sz v n xs) : ∃ ao c, v = .slice ao n c := by
  rcases h.2 with ⟨rfl, rfl⟩ | ⟨g, cap, cur, rfl, _⟩
  · exact ⟨none, 0, rfl⟩
  · exact ⟨_, _, rfl⟩

/-- It stays where its block stays. -/
theorem own_stays {w w' : World} {base n sz : Nat} {e : TypeId} {v : Value} {xs : List Value} (h : w.ownsRow base e sz v n xs) (hb : ∀ g, v.ownBlock = some g → w'.heap[g]? = w.heap[g]?) : w'.ownsRow base e sz v n xs := by
  rcases h with ⟨h1, h2 | ⟨g, cap, cur, rfl, h3, h4, h5⟩⟩
  · exact ⟨h1, .inl h2⟩
  · exact ⟨h1, .inr ⟨g, cap, cur, rfl, h3, (hb g rfl).trans h4, h5⟩⟩

theorem own_block {w : World} {base n sz : Nat} {e : TypeId} {v : Value} {xs : List Value} (h : w.ownsRow base e sz v n xs) {g : Nat} (hg : v.ownBlock = some g) : base ≤ g ∧ ∃ cur, w.heap[g]? = some (.cells cur e (0, 0)) := by
  rcases h with ⟨h1, ⟨rfl, _⟩ | ⟨g', cap, cur, rfl, h3, h4, h5⟩⟩
  · simp [Value.ownBlock] at hg
  · simp [Value.ownBlock] at hg; subst hg; exact ⟨h3, cur, h4⟩

theorem own_touch {S : Nat → Prop} {w w' : World} {base n sz : Nat} {e : TypeId} {v : Value} {xs : List Value} (h : w.ownsRow base e sz v n xs) (ht : Touch S w w') (hn : ∀ g, v.ownBlock = some g → ¬ S g) : w'.ownsRow base e sz v n xs :=
  own_stays h fun g hg => by
    obtain ⟨_, cur, hc⟩ := own_block h hg
    exact ht.block g (lt_of_heap hc) (hn g hg)

theorem own_base {w : World} {base base' n sz : Nat} {e : TypeId} {v : Value} {xs : List Value} (h : w.ownsRow base e sz v n xs) (hb : base' ≤ base) : w.ownsRow base' e sz v n xs := by
  rcases h with ⟨h1, h2 | ⟨g, cap, cur, rfl, h3, h4, h5⟩⟩
  · exact ⟨h1, .inl h2⟩
  · exact ⟨h1, .inr ⟨g, cap, cur, rfl, by omega, h4, h5⟩⟩

theorem keeps_touch {S : Nat → Prop} {W W' : World} (ht : Touch S W W') (hS : ∀ g, S g → ∃ c t f, W.heap[g]? = some (.cells c t f)) : KeepsOthers W W' :=
  ⟨ht.size, fun k o hk ho => by
    by_cases s : S k
    · obtain ⟨c, t, f, e⟩ := hS k s
      rw [hk] at e; injection e with e; rw [e] at ho; cases ho
    · exact ht.heap hk s⟩

theorem info_parts2 {P : Program} {e : TypeId} {z : Value} {s b : Nat} (h : (P.info? e).map (fun i => (i.zero, i.size, i.bytes)) = some (some z, s, b)) : ∃ i, P.info? e = some i ∧ i.zero = some z ∧ i.size = s ∧ i.bytes = b := by
  cases hi : P.info? e with
  | none => rw [hi] at h; cases h
  | some i =>
    rw [hi] at h
    simp only [Option.map_some] at h
    injection h with h
    injection h with h1 h2
    injection h2 with h2 h3
    exact ⟨i, rfl, h1, h2, h3⟩

theorem own_len {w : World} {base n k sz c : Nat} {e : TypeId} {ao : Option Addr} {xs : List Value} (h : w.ownsRow base e sz (.slice ao n c) k xs) : n = k := by
  obtain ⟨_, _, hs⟩ := own_shape h
  injection hs

theorem wpList_append_sep {P : Program} (w : World) {ops : Array Oper} {rest : List Oper} {o : Oper} {a : Act} {Q : Exit → Act → World → Prop}
    (hg : o.guard = none) (s x : Operand) (t : TypeId) (hop : o.op = Op.call { callee := Callee.builtin Builtin.append, args := #[s, x], argTypes := #[t, t] })
    (base : Nat) (e : TypeId) (i : TypeInfo) (z : Value) (size bytes : Nat) (h1 : P.underlying t = some (.slice e)) (h2 : P.info? e = some i) (h3 : i.zero = some z) (h4 : i.size = size) (h5 : i.bytes = bytes) (h6 : z.cells.size = size) (h7 : 0 < size)
    (v : Value) (k : Nat) (xs : List Value) (hs : a.eval s = v) (hown : w.ownsRow base e size v k xs) (ad : Addr) (m c : Nat) (news : List Value) (hx : a.eval x = .slice (some ad) m c) (hn : news.length = m * size)
    (hc : ∀ j u, news[j]? = some u → w.cell? (ad.add j) = some u) (h1c : ∀ u ∈ news, u.oneCell' = true) (b1 : k + m ≤ maxLen) (b2 : (k + m) * bytes ≤ 140737488355328) (b3 : base ≤ w.heap.size) (hm : 0 < m)
    (h : ∀ ao cap w', w'.ownsRow base e size (.slice ao (k + m) cap) (k + m) (xs ++ news) → Touch (fun g => v.ownBlock = some g) w w' → (∀ g, (Value.slice ao (k + m) cap).ownBlock = some g → v.ownBlock = some g ∨ w.heap.size ≤ g) → wpList P ops Q rest (a.put o.dst (.slice ao (k + m) cap)) w') :
    wpList P ops Q (o :: rest) a w := by
  obtain ⟨ao, cap, rfl⟩ := own_shape hown
  have grow : ∀ v' w', w'.ownsRow w.heap.size e size v' (k + m) (xs ++ news) → w.grownBy w' none → wpList P ops Q rest (a.put o.dst v') w' := fun v' w' r1 r2 => by
    obtain ⟨ao', cap', rfl⟩ := own_shape r1
    exact h ao' cap' w' (own_base r1 b3) ((Touch.of_grownBy r2).mono (fun _ _ h => (nomatch h))) (fun g hg => .inr (own_block r1 hg).1)
  have hlen := hown.1
  rcases hown.2 with ⟨hv, hk⟩ | ⟨g, c', cur, hv, q1, q2, q3⟩
  · injection hv with e1 e2 e3
    subst e1 e2 e3
    exact wpList_append_grows w hg s x t hop e i z size bytes h1 h2 h3 h4 h5 h6 h7 none 0 0 xs hs (fun _ => ⟨rfl, rfl⟩) (by simpa using hlen) (fun b hb => (nomatch hb)) ad m c news hx hn hc h1c (by omega) b1 b2 grow
  · injection hv with e1 e2 e3
    subst e1 e3
    by_cases hr : k + m ≤ cap
    · exact wpList_append_fits w hg s x t hop base e i size h1 h2 h4 g k cap xs hs hown ad m c news hx hn hc h1c hr (fun w' r1 r2 => h _ _ w' r1 ((Touch.of_grownBy r2).mono (fun j _ hj => by rw [← hj]; rfl)) (fun g' hg' => .inl hg'))
    · exact wpList_append_grows w hg s x t hop e i z size bytes h1 h2 h3 h4 h5 h6 h7 (some ⟨g, 0, none⟩) k cap xs hs (fun e => (nomatch e)) hlen (fun b hb j u hj => by
        injection hb with hb; subst hb
        exact hown.cells (g := g) rfl j u hj) ad m c news hx hn hc h1c (by omega) b1 b2 grow

theorem new_cells1 (w : World) (u : Value) (t : TypeId) : ∀ (j : Nat) (x : Value), ([u] : List Value)[j]? = some x → (w.alloc (.cells #[u] t)).cell? ((⟨w.heap.size, 0, none⟩ : Addr).add j) = some x := fun j x hx => by
  have hb := heap_alloc_last w (.cells #[u] t)
  rw [Addr.add_lit, Nat.zero_add, cell_of_row _ _ j _ _ _ hb]
  simpa using hx

theorem one_cells1 {u : Value} (hu : u.oneCell' = true) : ∀ x ∈ ([u] : List Value), x.oneCell' = true := fun x hx => by
  obtain rfl := List.mem_singleton.1 hx; exact hu

/-- An owned row of pointers, the last one left off. -/
theorem own_cut {w : World} {base n : Nat} {e : TypeId} {ao : Option Addr} {cap : Nat} {xs : List Value} {x : Value} (h : w.ownsRow base e 1 (.slice ao (n + 1) cap) (n + 1) (xs ++ [x])) :
    ∃ g, ao = some ⟨g, 0, none⟩ ∧ base ≤ g ∧ n + 1 ≤ cap ∧ cap ≤ maxLen ∧ w.cell? ⟨g, n, none⟩ = some x ∧ w.ownsRow base e 1 (.slice ao n cap) n xs := by
  obtain ⟨h1, ⟨hv, h2⟩ | ⟨g, cap', cur, hv, h3, h4, h5, h6, h7, h8⟩⟩ := h
  · cases h2
  · injection hv with e1 e2 e3
    subst e1 e3
    simp only [List.length_append, List.length_cons, List.length_nil] at h1
    have hl : xs.length = n := by omega
    have ht : cur.toList.take (n + 1) = xs ++ [x] := by simpa using h8
    have hx : cur[n]? = some x := by
      have := congrArg (fun l => l[n]?) ht
      simp only [List.getElem?_take] at this
      rw [if_pos (by omega), List.getElem?_append_right (by omega)] at this
      simpa [hl] using this
    refine ⟨g, rfl, h3, h5, h6, ?_, ⟨by simpa using hl, .inr ⟨g, cap, cur, rfl, h3, h4, by omega, h6, h7, ?_⟩⟩⟩
    · rw [cell_of_row _ _ n _ _ _ h4]; exact hx
    · have := congrArg (List.take n) ht
      have e : List.take n (xs ++ [x]) = xs := by rw [List.take_append_of_le_length (by omega), List.take_of_length_le (by omega)]
      rw [List.take_take, Nat.min_eq_left (by omega), e] at this
      simpa using this

/-- The least number of which something holds. -/
theorem least_ex {p : Nat → Prop} (h : ∃ n, p n) : ∃ n, p n ∧ ∀ m, p m → n ≤ m := by
  obtain ⟨n, hn⟩ := h
  induction n using Nat.strongRecOn with
  | ind n ih =>
    by_cases hm : ∃ m, m < n ∧ p m
    · obtain ⟨m, hlt, hp⟩ := hm
      exact ih m hlt hp
    · exact ⟨n, hn, fun m hp => Nat.le_of_not_lt fun hlt => hm ⟨m, hlt, hp⟩⟩

open Classical in
noncomputable def least (p : Nat → Prop) : Nat := if h : ∃ n, p n then Classical.choose (least_ex h) else 0

theorem least_spec {p : Nat → Prop} (h : ∃ n, p n) : p (least p) ∧ ∀ m, p m → least p ≤ m := by
  unfold least
  rw [dif_pos h]
  exact Classical.choose_spec (least_ex h)

end Go.Proofs.Ytlnblhajcbmmkaa
