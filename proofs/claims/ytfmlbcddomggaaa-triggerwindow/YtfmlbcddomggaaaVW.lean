/- TriggerWindow: a window that begins with nothing, value by value (pure). -/
import Derived.Test.YtfmlbcddomggaaaVA
namespace Go.Proofs.Ytfmlbcddomggaaa

/-- What holds behind i values: the window x and the panes P that were told. -/
structure Tw (c : Cf) (s : Sp) (k : ByteArray) (i : Nat) (x : Wn) (P : List Pn) : Prop where
  a : x.a = s.a
  b : x.b = s.b
  n0 : 0 ≤ x.n
  c0 : 0 ≤ x.t.c
  p : x.p = P.length
  len : P.length ≤ i
  cnt : if c.di then (P.map fun q => q.t.c).sum + x.t.c = i else x.t.c = i
  nth : ∀ j (h : j < P.length), P[j].n = j
  rise : c.di = false → P.Pairwise fun q r => q.t.c < r.t.c
  top : c.di = false → ∀ q ∈ P, q.t.c ≤ x.t.c

theorem Tw.begin (c : Cf) (s : Sp) (k : ByteArray) (h : Int) : Tw c s k 0 ⟨s.a, s.b, h, tl0, 0, 0⟩ [] := by
  refine ⟨rfl, rfl, Int.le_refl _, Int.le_refl _, rfl, Nat.le_refl _, ?_, fun j h => (nomatch h), fun _ => List.Pairwise.nil, fun _ q hq => (nomatch hq)⟩
  split <;> rfl

theorem sum_nonneg : ∀ (l : List Int), (∀ x ∈ l, 0 ≤ x) → 0 ≤ l.sum
  | [], _ => by simp
  | x :: l, h => by
    have := sum_nonneg l fun y hy => h y (by simp [hy])
    have := h x (by simp)
    simp only [List.sum_cons]
    omega

theorem addT_c {t : Tl} {v : Int} (hv : I64 v) (h0 : 0 ≤ t.c) (h1 : t.c < 9007199254740992) : (addT t v).c = t.c + 1 := by
  rw [addT_eq hv]
  by_cases h : t.c < 1
  · rw [if_pos h]; show (1 : Int) = _; omega
  · rw [if_neg h, if_pos h1]

theorem Tw.step {c : Cf} {s : Sp} {k : ByteArray} {i : Nat} {x : Wn} {P : List Pn} (h : Tw c s k i x P) (hi : i < 1000000) (hcs : ∀ q ∈ P, 0 ≤ q.t.c) (v t m : Int) (hv : I64 v) :
    Tw c s k (i + 1) (evW c x v t m) (P ++ evP c k x v t m) ∧ (∀ q ∈ P ++ evP c k x v t m, 0 ≤ q.t.c) := by
  have hs := sum_nonneg (P.map fun q => q.t.c) (fun y hy => by
    obtain ⟨q, hq, rfl⟩ := List.mem_map.1 hy
    exact hcs q hq)
  have hci : x.t.c ≤ i := by
    have := h.cnt
    split at this <;> omega
  have hgc : (grewW x v t m).t.c = x.t.c + 1 := addT_c hv h.c0 (by omega)
  have hgn : 0 ≤ (grewW x v t m).n := by
    have := h.n0
    show 0 ≤ moreN x.n
    unfold moreN
    split <;> omega
  have hp := h.p
  have hl := h.len
  have hmp : moreN x.p = x.p + 1 := by unfold moreN; rw [if_neg (by omega)]
  unfold evW evP
  cases hb : behB c.ea m (grewW x v t m) with
  | false =>
    simp only [Bool.false_eq_true, if_false, List.append_nil]
    refine ⟨⟨h.a, h.b, hgn, by rw [hgc]; have := h.c0; omega, hp, by omega, ?_, h.nth, h.rise, fun hd q hq => by have := h.top hd q hq; rw [hgc]; omega⟩, hcs⟩
    rw [hgc]
    have := h.cnt
    split
    · rename_i hd; rw [if_pos hd] at this; omega
    · rename_i hd; rw [if_neg hd] at this; omega
  | true =>
    simp only [if_true]
    have hq : (tellP k (grewW x v t m) (behK c.ea m (grewW x v t m))).t.c = x.t.c + 1 := hgc
    have hqn : (tellP k (grewW x v t m) (behK c.ea m (grewW x v t m))).n = x.p := rfl
    generalize tellP k (grewW x v t m) (behK c.ea m (grewW x v t m)) = q at *
    refine ⟨⟨h.a, h.b, Int.le_refl _, ?_, ?_, by simp; omega, ?_, ?_, ?_, ?_⟩, ?_⟩
    · show 0 ≤ (if c.di then tl0 else (grewW x v t m).t).c
      split
      · exact Int.le_refl _
      · rw [hgc]; have := h.c0; omega
    · show moreN x.p = _
      rw [hmp, hp]; simp
    · have := h.cnt
      split
      · rename_i hd
        rw [if_pos hd] at this
        have e : (tellW (grewW x v t m) c.di).t.c = 0 := by unfold tellW; rw [if_pos hd]
        rw [e]
        simp only [List.map_append, List.sum_append, List.map_cons, List.map_nil, List.sum_cons, List.sum_nil, hq]
        omega
      · rename_i hd
        rw [if_neg hd] at this
        have e : (tellW (grewW x v t m) c.di).t.c = x.t.c + 1 := by unfold tellW; rw [if_neg hd]; exact hgc
        rw [e]
        omega
    · intro j hj
      rw [List.length_append] at hj
      by_cases hjl : j < P.length
      · rw [List.getElem_append_left hjl]; exact h.nth j hjl
      · have e : j = P.length := by simp at hj; omega
        subst e
        rw [List.getElem_append_right (Nat.le_refl _)]
        simp [hqn, hp]
    · intro hd
      rw [List.pairwise_append]
      refine ⟨h.rise hd, List.pairwise_singleton _ _, fun r hr r2 hr2 => ?_⟩
      have : r2 = q := by simpa using hr2
      subst this
      have := h.top hd r hr
      rw [hq]; omega
    · intro hd r hr
      have e : (tellW (grewW x v t m) c.di).t.c = x.t.c + 1 := by unfold tellW; rw [if_neg (by simp [hd])]; exact hgc
      rw [e]
      rcases List.mem_append.1 hr with hr | hr
      · have := h.top hd r hr; omega
      · have : r = q := by simpa using hr
        subst this
        rw [hq]; omega
    · intro r hr
      rcases List.mem_append.1 hr with hr | hr
      · exact hcs r hr
      · have : r = q := by simpa using hr
        subst this
        have := h.c0
        rw [hq]; omega

/-- Behind an event a window tells none, but where it is due. -/
theorem beh_again (c : Cf) (x : Wn) (v t m : Int) (he : 0 ≤ c.ea) : behB c.ea m (evW c x v t m) = decide (x.b ≤ m) := by
  unfold evW
  cases hb : behB c.ea m (grewW x v t m) with
  | false =>
    simp only [Bool.false_eq_true, if_false]
    have hd : decide (x.b ≤ m) = false := by
      unfold behB at hb
      simp only [Bool.or_eq_false_iff] at hb
      exact hb.1
    rw [hb, hd]
  | true =>
    simp only [if_true]
    unfold behB
    show (decide (x.b ≤ m) || (decide (¬ c.ea = 0) && decide (c.ea ≤ 0))) = _
    by_cases h : c.ea = 0
    · have hz : decide (¬ c.ea = 0) = false := decide_eq_false (fun hn => hn h)
      rw [hz]; simp
    · rw [decide_eq_false (show ¬ c.ea ≤ 0 by omega)]; simp

end Go.Proofs.Ytfmlbcddomggaaa
