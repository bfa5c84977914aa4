/- Appends that stay apart; a list of moves written over. -/
import Derived.Test.YtmhobdcnohhaaaaGSame
import Derived.ArgAppend
import Derived.OwnWalk
namespace Go.Proofs.Ytmhobdcnohhaaaa
open Go.RowKit

theorem own_len {w : World} {base n k sz c : Nat} {e : TypeId} {ao : Option Addr} {xs : List Value} (h : w.ownsRow base e sz (.slice ao n c) k xs) : n = k := by
  obtain ⟨_, _, hs⟩ := own_shape h
  injection hs

theorem wpList_append_sep {P : Program} (w : World) {ops : Array Oper} {rest : List Oper} {o : Oper} {a : Act} {Q : Exit → Act → World → Prop}
    (hg : o.guard = none) (s x : Operand) (t : TypeId) (hop : o.op = Op.call { callee := Callee.builtin Builtin.append, args := #[s, x], argTypes := #[t, t] })
    (base : Nat) (e : TypeId) (i : TypeInfo) (z : Value) (size bytes : Nat) (h1 : P.underlying t = some (.slice e)) (h2 : P.info? e = some i) (h3 : i.zero = some z) (h4 : i.size = size) (h5 : i.bytes = bytes) (h6 : z.cells.size = size) (h7 : 0 < size)
    (v : Value) (k : Nat) (xs : List Value) (hs : a.eval s = v) (hown : w.ownsRow base e size v k xs) (ad : Addr) (m c : Nat) (news : List Value) (hx : a.eval x = .slice (some ad) m c) (hn : news.length = m * size)
    (hc : ∀ j u, news[j]? = some u → w.cell? (ad.add j) = some u) (h1c : ∀ u ∈ news, u.oneCell' = true) (b1 : k + m ≤ maxLen) (b2 : (k + m) * bytes ≤ 140737488355328) (b3 : base ≤ w.heap.size) (hm : 0 < m)
    (h : ∀ ao cap w', w'.ownsRow base e size (.slice ao (k + m) cap) (k + m) (xs ++ news) → Touch (fun g => v.ownBlock = some g) w w' → (∀ g, (Value.slice ao (k + m) cap).ownBlock = some g → v.ownBlock = some g ∨ w.heap.size ≤ g) → wpList P ops Q rest (a.put o.dst (.slice ao (k + m) cap)) w') :
    wpList P ops Q (o :: rest) a w := by
  obtain ⟨ao, cap, rfl⟩ := own_shape hown
  have grow : ∀ v' w', w'.ownsRow w.heap.size e size v' (k + m) (xs ++ news) → w.grownBy w' none → wpList P ops Q rest (a.put o.dst v') w' := fun v' w' r1 r2 => by
    obtain ⟨ao', cap', rfl⟩ := own_shape r1
    exact h ao' cap' w' (own_base r1 b3) ((Touch.of_grownBy r2).mono (fun _ _ h => (nomatch h))) (fun g hg => .inr (own_block r1 hg).1)
  have hlen := hown.1
  rcases hown.2 with ⟨hv, hk⟩ | ⟨g, c', cur, hv, q1, q2, q3⟩
  · injection hv with e1 e2 e3
    subst e1 e2 e3
    exact wpList_append_grows w hg s x t hop e i z size bytes h1 h2 h3 h4 h5 h6 h7 none 0 0 xs hs (fun _ => ⟨rfl, rfl⟩) (by simpa using hlen) (fun b hb => (nomatch hb)) ad m c news hx hn hc h1c (by omega) b1 b2 grow
  · injection hv with e1 e2 e3
    subst e1 e3
    by_cases hr : k + m ≤ cap
    · exact wpList_append_fits w hg s x t hop base e i size h1 h2 h4 g k cap xs hs hown ad m c news hx hn hc h1c hr (fun w' r1 r2 => h _ _ w' r1 ((Touch.of_grownBy r2).mono (fun j _ hj => by rw [← hj]; rfl)) (fun g' hg' => .inl hg'))
    · exact wpList_append_grows w hg s x t hop e i z size bytes h1 h2 h3 h4 h5 h6 h7 (some ⟨g, 0, none⟩) k cap xs hs (fun e => (nomatch e)) hlen (fun b hb j u hj => by
        injection hb with hb; subst hb
        exact hown.cells (g := g) rfl j u hj) ad m c news hx hn hc h1c (by omega) b1 b2 grow

/-- Four cells of an owned row written over. -/
theorem own_over {w : World} {base n b cap j : Nat} {e : TypeId} {ys : List Value} (h : w.ownsRow base e 4 (.slice (some ⟨b, 0, none⟩) n cap) n ys) (u0 u1 u2 u3 : Value) :
    ∃ zs, ((((w.setCell ⟨b, j, none⟩ u0).setCell ⟨b, j + 1, none⟩ u1).setCell ⟨b, j + 2, none⟩ u2).setCell ⟨b, j + 3, none⟩ u3).ownsRow base e 4 (.slice (some ⟨b, 0, none⟩) n cap) n zs :=
  ⟨_, own_set (own_set (own_set (own_set h u0) u1) u2) u3⟩

theorem touch_over (w : World) (b j : Nat) (u0 u1 u2 u3 : Value) : Touch (fun g => g = b) w ((((w.setCell ⟨b, j, none⟩ u0).setCell ⟨b, j + 1, none⟩ u1).setCell ⟨b, j + 2, none⟩ u2).setCell ⟨b, j + 3, none⟩ u3) :=
  (((((Touch.refl (fun g => g = b) w).setCell (p := ⟨b, j, none⟩) (fun _ => rfl) _).setCell (p := ⟨b, j + 1, none⟩) (fun _ => rfl) _).setCell (p := ⟨b, j + 2, none⟩) (fun _ => rfl) _).setCell (p := ⟨b, j + 3, none⟩) (fun _ => rfl) _)

end Go.Proofs.Ytmhobdcnohhaaaa
