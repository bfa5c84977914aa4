/- TimersAgree: the list told backward and forward. TimersAgree: what is due, in two steps and one by one. -/
import Derived.Test.YtlnblhajcbmmkaaTEq
import Derived.Test.YtlnblhajcbmmkaaTDrop
import Derived.Test.YtlnblhajcbmmkaaTKnow
import Derived.Test.YtlnblhajcbmmkaaTRDue
namespace Go.Proofs.Ytlnblhajcbmmkaa
open Go.RowKit

/-- Two timers in a row just made. -/
theorem tms_two (w : World) (s t : Tm) : Tms (w.alloc (.cells #[.int .i64 s.at_, .string s.key, .int .i64 s.start, .int .i64 s.stop, .int .i64 t.at_, .string t.key, .int .i64 t.start, .int .i64 t.stop] 35)) (some ⟨w.heap.size, 0, none⟩) [s, t] := fun j hj => by
  have h := heap_alloc_last w (.cells #[.int .i64 s.at_, .string s.key, .int .i64 s.start, .int .i64 s.stop, .int .i64 t.at_, .string t.key, .int .i64 t.start, .int .i64 t.stop] 35)
  refine ⟨w.heap.size, 0, rfl, ?_⟩
  generalize w.alloc (.cells #[.int .i64 s.at_, .string s.key, .int .i64 s.start, .int .i64 s.stop, .int .i64 t.at_, .string t.key, .int .i64 t.start, .int .i64 t.stop] 35) = W at *
  generalize w.heap.size = A at *
  have hj2 : j < 2 := by simpa using hj
  rcases (show j = 0 ∨ j = 1 by omega) with rfl | rfl <;> simp [World.cell?, h]

/-- So much of `back` is laid. -/
structure Bk (w : World) (l : List Tm) (j : Nat) (bo : Option Addr) (bc : Nat) (B : List Tm) (wr : World) : Prop where
  own : OwnT wr w.heap.size (.slice bo (2 * j) bc) B
  len : B.length = 2 * j
  sub : ∀ x ∈ B, x ∈ l
  all : ∀ i, i < j → nth l (l.length - 1 - i) ∈ B
  calm : Calm w wr

theorem Bk.none (w : World) (l : List Tm) : Bk w l 0 none 0 [] w := ⟨World.ownsRow_nil _ _ _ _, rfl, fun x h => (nomatch h), fun i h => by omega, Touch.refl _ _⟩

theorem nth_in {l : List Tm} {i : Nat} (h : i < l.length) : nth l i ∈ l := mem_nth.2 ⟨i, h, rfl⟩

theorem Bk.next {w wr w' : World} {l : List Tm} {j : Nat} {bo bo' : Option Addr} {bc bc' : Nat} {B : List Tm} (h : Bk w l j bo bc B wr) (hj : j < l.length)
    (ow : OwnT w' w.heap.size (.slice bo' (B ++ [nth l (l.length - 1 - j), nth l j]).length bc') (B ++ [nth l (l.length - 1 - j), nth l j])) (ht : Calm w w') : Bk w l (j + 1) bo' bc' (B ++ [nth l (l.length - 1 - j), nth l j]) w' := by
  have e : (B ++ [nth l (l.length - 1 - j), nth l j]).length = 2 * (j + 1) := by simp [h.len]; omega
  refine ⟨by rw [e] at ow; exact ow, e, fun x hx => ?_, fun i hi => ?_, ht⟩
  · rcases List.mem_append.1 hx with hx | hx
    · exact h.sub x hx
    · simp at hx
      rcases hx with rfl | rfl
      · exact nth_in (by omega)
      · exact nth_in hj
  · rcases (show i < j ∨ i = j by omega) with hi | rfl
    · exact List.mem_append_left _ (h.all i hi)
    · exact List.mem_append_right _ (by simp)

/-- The whole list stands in `back`. -/
theorem Bk.whole {w wr : World} {l : List Tm} {bo : Option Addr} {bc : Nat} {B : List Tm} (h : Bk w l l.length bo bc B wr) : ∀ x, x ∈ B ↔ x ∈ l := fun x => ⟨h.sub x, fun hx => by
  obtain ⟨i, hi, rfl⟩ := mem_nth.1 hx
  have := h.all (l.length - 1 - i) (by omega)
  rwa [show l.length - 1 - (l.length - 1 - i) = i by omega] at this⟩

end Go.Proofs.Ytlnblhajcbmmkaa

namespace Go.Proofs.Ytlnblhajcbmmkaa
open Go.RowKit

theorem at_cmp {a b : Tm} (h : a.at_ < b.at_) : cmpT a b < 0 := by
  rcases Classical.em (cmpT a b < 0) with h1 | h1
  · exact h1
  · have hn : a ≠ b := fun e => by rw [e] at h; omega
    have := cmp_at (cgt h1 hn); omega

/-- Due in two steps. -/
theorem one_srt {V D1 V1 D2 : List Tm} {first last : Int} (s1 : D1.Pairwise fun a b => cmpT a b < 0) (s2 : D2.Pairwise fun a b => cmpT a b < 0) (d1 : ∀ x, x ∈ D1 ↔ x ∈ V ∧ x.at_ ≤ first) (v1 : ∀ x, x ∈ V1 ↔ x ∈ V ∧ first < x.at_)
    (d2 : ∀ x, x ∈ D2 ↔ x ∈ V1 ∧ x.at_ ≤ last) (h : first ≤ last) : ((D1 ++ D2).Pairwise fun a b => cmpT a b < 0) ∧ ∀ x, x ∈ D1 ++ D2 ↔ x ∈ V ∧ x.at_ ≤ last := by
  refine ⟨List.pairwise_append.2 ⟨s1, s2, fun a ha b hb => at_cmp ?_⟩, fun x => ?_⟩
  · have h1 := (d1 a).1 ha
    have h2 := (v1 b).1 ((d2 b).1 hb).1
    omega
  · rw [List.mem_append, d1, d2, v1]
    constructor
    · rintro (⟨h1, h2⟩ | ⟨⟨h1, h2⟩, h3⟩)
      · exact ⟨h1, by omega⟩
      · exact ⟨h1, h3⟩
    · rintro ⟨h1, h2⟩
      rcases Int.lt_or_le first x.at_ with h3 | h3
      · exact .inr ⟨⟨h1, h3⟩, h2⟩
      · exact .inl ⟨h1, h3⟩

section
variable {V O l : List Tm} {last : Int} {k : Nat}

theorem nth_fresh (hs : O.Pairwise fun a b => cmpT a b < 0) (hk : k < O.length) : nth O k ∉ O.take k := fun h => by
  obtain ⟨i, hi, e⟩ := mem_nth.1 h
  rw [List.length_take] at hi
  have hik : i < k := by omega
  have e2 : nth (O.take k) i = nth O i := by simp [nth, hik]
  rw [e2] at e
  have h3 := List.pairwise_iff_getElem.1 hs i k (by omega) hk hik
  rw [← nth_eq, ← nth_eq, e, cmpT_eq.2 rfl] at h3
  omega

/-- The first of what is left is the next one. -/
theorem front_is (hs : O.Pairwise fun a b => cmpT a b < 0) (mo : ∀ x, x ∈ O ↔ x ∈ l ∧ x.at_ ≤ last) (mv : ∀ x, x ∈ V ↔ x ∈ l ∧ x ∉ O.take k) (hf : ∀ x ∈ V, x ≠ nth V 0 → cmpT (nth V 0) x < 0) (hk : k < O.length) :
    0 < V.length ∧ nth V 0 = nth O k := by
  have hO : nth O k ∈ O := mem_nth.2 ⟨k, hk, rfl⟩
  have hV : nth O k ∈ V := (mv _).2 ⟨((mo _).1 hO).1, nth_fresh hs hk⟩
  have h0 : 0 < V.length := List.length_pos_of_mem hV
  refine ⟨h0, ?_⟩
  rcases Classical.em (nth O k = nth V 0) with h | h
  · exact h.symm
  · exfalso
    have h1 := hf _ hV h
    have h2 := cmp_at h1
    have h3 : nth V 0 ∈ V := mem_nth.2 ⟨0, h0, rfl⟩
    obtain ⟨h4, h5⟩ := (mv _).1 h3
    have h6 : nth V 0 ∈ O := (mo _).2 ⟨h4, by have := ((mo _).1 hO).2; omega⟩
    obtain ⟨i, hi, e⟩ := mem_nth.1 h6
    rcases (show i < k ∨ i = k ∨ k < i by omega) with hik | hik | hik
    · refine h5 (mem_nth.2 ⟨i, by rw [List.length_take]; omega, ?_⟩)
      rw [← e]; simp [nth, hik]
    · subst hik; exact h e
    · have h7 := List.pairwise_iff_getElem.1 hs k i hk hi hik
      rw [← nth_eq, ← nth_eq, e] at h7
      have h8 := clt h1 h7
      rw [cmpT_eq.2 rfl] at h8
      omega

theorem left_less {V' : List Tm} (mv : ∀ x, x ∈ V ↔ x ∈ l ∧ x ∉ O.take k) (m' : ∀ x, x ∈ V' ↔ x ∈ V ∧ x ≠ nth O k) (hk : k < O.length) (x : Tm) : x ∈ V' ↔ x ∈ l ∧ x ∉ O.take (k + 1) := by
  rw [m', mv, take_mem hk]
  constructor
  · rintro ⟨⟨h1, h2⟩, h3⟩; exact ⟨h1, fun h => h.elim h2 h3⟩
  · rintro ⟨h1, h2⟩; exact ⟨⟨h1, fun h => h2 (.inl h)⟩, fun h => h2 (.inr h)⟩

theorem left_last (mo : ∀ x, x ∈ O ↔ x ∈ l ∧ x.at_ ≤ last) (mv : ∀ x, x ∈ V ↔ x ∈ l ∧ x ∉ O.take O.length) (x : Tm) : x ∈ V ↔ x ∈ l ∧ last < x.at_ := by
  rw [mv, List.take_length]
  constructor
  · rintro ⟨h1, h2⟩; exact ⟨h1, by rcases Int.lt_or_le last x.at_ with h | h; exact h; exact absurd ((mo x).2 ⟨h1, h⟩) h2⟩
  · rintro ⟨h1, h2⟩; exact ⟨h1, fun h => by have := ((mo x).1 h).2; omega⟩

end

/-- What the verifier keeps while it takes them out one by one. -/
structure Ag (w : World) (l O : List Tm) (q1 q3 : Nat) (F1 F3 : Nat → Prop) (R : List Tm) (oa ta : Option Addr) (k : Nat) (V : List Tm) (W : World) : Prop where
  one : Tms W oa O
  two : Tms W ta O
  c : Tq W q3 F3 V
  mem : ∀ x, x ∈ V ↔ x ∈ l ∧ x ∉ O.take k
  a : Tq W q1 F1 R
  calm : Calm w W
  rows : (∀ p, oa = some p → ¬ F3 p.block) ∧ ∀ p, ta = some p → ¬ F3 p.block
  dis : ∀ g, F3 g → ¬ F1 g ∧ w.heap.size ≤ g

theorem Ag.still {w W W' : World} {l O R V : List Tm} {q1 q3 k : Nat} {F1 F3 : Nat → Prop} {oa ta : Option Addr} (h : Ag w l O q1 q3 F1 F3 R oa ta k V W) (ht : Calm W W') : Ag w l O q1 q3 F1 F3 R oa ta k V W' :=
  ⟨h.one.calm ht, h.two.calm ht, h.c.calm ht, h.mem, h.a.calm ht, h.calm.tr ht, h.rows, h.dis⟩

theorem Ag.turn {w W W' : World} {l O R V V' : List Tm} {q1 q3 k k' : Nat} {F1 F3 : Nat → Prop} {oa ta : Option Addr} (h : Ag w l O q1 q3 F1 F3 R oa ta k V W) (ht : Touch F3 W W') (tq : Tq W' q3 F3 V') (hm : ∀ x, x ∈ V' ↔ x ∈ l ∧ x ∉ O.take k') : Ag w l O q1 q3 F1 F3 R oa ta k' V' W' :=
  ⟨h.one.touch ht (fun a ha _ => h.rows.1 a ha), h.two.touch ht (fun a ha _ => h.rows.2 a ha), tq, hm, h.a.touch ht (fun g hg => (h.dis g hg).1), h.calm.trans ht (fun g hg hs => by have := (h.dis g hs).2; omega), h.rows, h.dis⟩

/-- 'append' of timers, with letters for the lists. -/
theorem wpList_tapp2 {w : World} {ops : Array Oper} {rest : List Oper} {o : Oper} {a : Act} {Q : Exit → Act → World → Prop} (hgd : o.guard = none) (s x : Operand)
    (ho : o.op = .call { callee := .builtin .append, args := #[s, x], argTypes := #[22, 22] }) (base : Nat) (v : Value) (L : List Tm) (hs : a.eval s = v) (hown : OwnT w base v L)
    (ao : Option Addr) (m c : Nat) (M : List Tm) (hm : M.length = m) (hx : a.eval x = .slice ao m c) (hp : Tms w ao M) (hc : ao = none → c = 0) (O : List Tm) (N : Nat) (hO : L ++ M = O) (hN : O.length = N) (hb : N ≤ 3518437208800) (hbase : base ≤ w.heap.size)
    (h : ∀ ao' cap' w', OwnT w' base (.slice ao' N cap') O → Touch (fun g => v.ownBlock = some g) w w' → wpList Try.prog ops Q rest (a.put o.dst (.slice ao' N cap')) w') : wpList Try.prog ops Q (o :: rest) a w := by
  subst hO hN
  exact wpList_tapp hgd s x ho base v L hs hown ao m c M hm hx hp hc (by rw [List.length_append] at hb; exact hb) hbase h

end Go.Proofs.Ytlnblhajcbmmkaa
