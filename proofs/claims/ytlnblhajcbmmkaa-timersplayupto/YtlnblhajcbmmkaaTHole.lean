/- A heap with a hole, and its places. No memory. -/
import Derived.Test.YtlnblhajcbmmkaaTMap
namespace Go.Proofs.Ytlnblhajcbmmkaa

/-- All but t stand where f tells; t is to stand at p. -/
structure Hole (V0 : List Tm) (t : Tm) (b : Bool) (R : List Tm) (p : Nat) (f : Tm → Option Nat) : Prop where
  lt : p < R.length
  nd : Nd (R.set p t)
  mem : ∀ x, x ∈ R.set p t ↔ x ∈ V0
  pl : ∀ i, i < R.length → i ≠ p → f (nth R i) = some i
  dom : ∀ x, (f x).isSome = true → x ∈ V0
  own : (f t).isSome = b

/-- A heap whose places are told. -/
structure Heap (V : List Tm) (f : Tm → Option Nat) : Prop where
  ord : Hord V
  nd : Nd V
  pl : ∀ i, i < V.length → f (nth V i) = some i
  dom : ∀ x, (f x).isSome = true → x ∈ V

section
variable {V0 R : List Tm} {t : Tm} {b : Bool} {p q : Nat} {f : Tm → Option Nat}

theorem Hole.ne (h : Hole V0 t b R p f) (hq : q < R.length) (hqp : q ≠ p) : nth R q ≠ t := fun e => by
  have := h.nd q p (by simpa using hq) (by simpa using h.lt) (by rw [nth_set_other hqp, nth_set_same h.lt]; exact e)
  exact hqp this

theorem Hole.apart (h : Hole V0 t b R p f) {i : Nat} (hi : i < R.length) (hq : q < R.length) (hip : i ≠ p) (hqp : q ≠ p) (hiq : i ≠ q) : nth R i ≠ nth R q := fun e => by
  have := h.nd i q (by simpa using hi) (by simpa using hq) (by rw [nth_set_other hip, nth_set_other hqp]; exact e)
  exact hiq this

/-- The hole goes to q. -/
theorem Hole.step (h : Hole V0 t b R p f) (hq : q < R.length) (hqp : q ≠ p) : Hole V0 t b (R.set p (nth R q)) q (putf f (nth R q) p) ∧ (f (nth R q)).isSome = true := by
  refine ⟨⟨by simpa using hq, swap_nd h.lt hq (Ne.symm hqp) h.nd, fun x => (swap_mem h.lt hq (Ne.symm hqp) x).trans (h.mem x), fun i hi hiq => ?_, fun x hx => ?_, ?_⟩, by rw [h.pl q hq hqp]; rfl⟩
  · rw [List.length_set] at hi
    by_cases ip : i = p
    · subst ip
      rw [nth_set_same h.lt]
      simp [putf]
    · rw [nth_set_other ip]
      have hne := h.apart hi hq ip hqp hiq
      simp only [putf, if_neg hne]
      exact h.pl i hi ip
  · by_cases e : x = nth R q
    · rw [e]
      refine (h.mem _).1 (mem_nth.2 ⟨q, by simpa using hq, nth_set_other hqp⟩)
    · simp only [putf, if_neg e] at hx
      exact h.dom x hx
  · have hne := h.ne hq hqp
    simp only [putf, if_neg (Ne.symm hne)]
    exact h.own

/-- The hole is filled. -/
theorem Hole.fill (h : Hole V0 t b R p f) (ho : Hord (R.set p t)) : Heap (R.set p t) (putf f t p) := by
  refine ⟨ho, h.nd, fun i hi => ?_, fun x hx => ?_⟩
  · rw [List.length_set] at hi
    by_cases ip : i = p
    · subst ip; rw [nth_set_same h.lt]; simp [putf]
    · rw [nth_set_other ip]
      simp only [putf, if_neg (h.ne hi ip)]
      exact h.pl i hi ip
  · by_cases e : x = t
    · rw [e]; exact mem_nth.2 ⟨p, by simpa using h.lt, nth_set_same h.lt⟩
    · simp only [putf, if_neg e] at hx
      exact (h.mem x).2 (h.dom x hx)
end

/-- A timer more, at the end. -/
theorem Heap.put {V : List Tm} {f : Tm → Option Nat} {t : Tm} (h : Heap V f) (ht : t ∉ V) : Hole (V ++ [t]) t false (V ++ [t]) V.length f ∧ Rord ((V ++ [t]).set V.length t) V.length := by
  have hs : (V ++ [t]).set V.length t = V ++ [t] := by simp
  have hn : ∀ i, i < V.length → nth (V ++ [t]) i = nth V i := fun i hi => by simp [nth, List.getElem?_append_left hi]
  have hl : nth (V ++ [t]) V.length = t := by simp [nth]
  refine ⟨⟨by simp, ?_, fun x => by rw [hs], fun i hi hip => ?_, fun x hx => by have := h.dom x hx; simp [this], ?_⟩, by rw [hs]; exact put_rord h.ord⟩
  · rw [hs]
    intro i j hi hj e
    simp only [List.length_append, List.length_cons, List.length_nil] at hi hj
    by_cases i1 : i = V.length
    · by_cases j1 : j = V.length
      · omega
      · subst i1
        rw [hl, hn j (by omega)] at e
        exact absurd (mem_nth.2 ⟨j, by omega, e.symm⟩) ht
    · by_cases j1 : j = V.length
      · subst j1
        rw [hl, hn i (by omega)] at e
        exact absurd (mem_nth.2 ⟨i, by omega, e⟩) ht
      · rw [hn i (by omega), hn j (by omega)] at e
        exact h.nd i j (by omega) (by omega) e
  · simp only [List.length_append, List.length_cons, List.length_nil] at hi
    rw [hn i (by omega)]
    exact h.pl i (by omega)
  · cases hf : (f t).isSome with
    | false => rfl
    | true => exact absurd (h.dom t hf) ht

/-- A timer is taken, and the last one is to stand at its place. -/
theorem Heap.take {V : List Tm} {f : Tm → Option Nat} (h : Heap V f) {p m : Nat} (hm : V.length = m + 1) (hp : p < m) :
    Hole ((V.take m).set p (nth V m)) (nth V m) true (V.take m) p (delf f (nth V p)) ∧ Sord ((V.take m).set p (nth V m)) p ∧ (∀ x, x ∈ (V.take m).set p (nth V m) ↔ x ∈ V ∧ x ≠ nth V p) := by
  have hl : (V.take m).length = m := by rw [List.length_take]; omega
  have hn : ∀ i, i < m → nth (V.take m) i = nth V i := fun i hi => by simp [nth, hi]
  have hs : ∀ i, i < m → nth ((V.take m).set p (nth V m)) i = if i = p then nth V m else nth V i := fun i hi => by
    rw [nth_set (by omega)]
    split
    · rfl
    · exact hn i hi
  have hmem : ∀ x, x ∈ (V.take m).set p (nth V m) ↔ x ∈ V ∧ x ≠ nth V p := fun x => by
    rw [mem_nth, mem_nth]
    simp only [List.length_set, hl]
    constructor
    · rintro ⟨i, hi, e⟩
      rw [hs i hi] at e
      by_cases ip : i = p
      · rw [if_pos ip] at e
        exact ⟨⟨m, by omega, e⟩, fun e2 => by have := h.nd m p (by omega) (by omega) (e.trans e2); omega⟩
      · rw [if_neg ip] at e
        exact ⟨⟨i, by omega, e⟩, fun e2 => ip (h.nd i p (by omega) (by omega) (e.trans e2))⟩
    · rintro ⟨⟨i, hi, e⟩, hne⟩
      have ip : i ≠ p := fun e2 => hne (by rw [← e, e2])
      by_cases im : i = m
      · exact ⟨p, hp, by rw [hs p hp, if_pos rfl, ← im]; exact e⟩
      · exact ⟨i, by omega, by rw [hs i (by omega), if_neg ip]; exact e⟩
  refine ⟨⟨by omega, ?_, fun x => Iff.rfl, fun i hi hip => ?_, fun x hx => ?_, ?_⟩, take_sord h.ord hm hp, hmem⟩
  · intro i j hi hj e
    simp only [List.length_set, hl] at hi hj
    rw [hs i hi, hs j hj] at e
    by_cases i1 : i = p
    · by_cases j1 : j = p
      · omega
      · rw [if_pos i1, if_neg j1] at e
        have := h.nd m j (by omega) (by omega) e; omega
    · by_cases j1 : j = p
      · rw [if_neg i1, if_pos j1] at e
        have := h.nd i m (by omega) (by omega) e; omega
      · rw [if_neg i1, if_neg j1] at e
        exact h.nd i j (by omega) (by omega) e
  · rw [hl] at hi
    rw [hn i hi]
    have hne : nth V i ≠ nth V p := fun e => hip (h.nd i p (by omega) (by omega) e)
    simp only [delf, if_neg hne]
    exact h.pl i (by omega)
  · by_cases e : x = nth V p
    · simp [delf, e] at hx
    · simp only [delf, if_neg e] at hx
      exact (hmem x).2 ⟨h.dom x hx, e⟩
  · have hne : nth V m ≠ nth V p := fun e => by have := h.nd m p (by omega) (by omega) e; omega
    simp only [delf, if_neg hne]
    rw [h.pl m (by omega)]
    rfl

/-- The last one is taken. -/
theorem Heap.cut {V : List Tm} {f : Tm → Option Nat} (h : Heap V f) {m : Nat} (hm : V.length = m + 1) : Heap (V.take m) (delf f (nth V m)) ∧ (∀ x, x ∈ V.take m ↔ x ∈ V ∧ x ≠ nth V m) := by
  have hl : (V.take m).length = m := by rw [List.length_take]; omega
  have hn : ∀ i, i < m → nth (V.take m) i = nth V i := fun i hi => by simp [nth, hi]
  have hmem : ∀ x, x ∈ V.take m ↔ x ∈ V ∧ x ≠ nth V m := fun x => by
    rw [mem_nth, mem_nth, hl]
    constructor
    · rintro ⟨i, hi, e⟩
      rw [hn i hi] at e
      exact ⟨⟨i, by omega, e⟩, fun e2 => by have := h.nd i m (by omega) (by omega) (e.trans e2); omega⟩
    · rintro ⟨⟨i, hi, e⟩, hne⟩
      have im : i ≠ m := fun e2 => hne (by rw [← e, e2])
      exact ⟨i, by omega, by rw [hn i (by omega)]; exact e⟩
  refine ⟨⟨fun i h0 hi => ?_, fun i j hi hj e => ?_, fun i hi => ?_, fun x hx => ?_⟩, hmem⟩
  · rw [hl] at hi
    rw [hn i hi, hn _ (by omega)]
    exact h.ord i h0 (by omega)
  · rw [hl] at hi hj
    rw [hn i hi, hn j hj] at e
    exact h.nd i j (by omega) (by omega) e
  · rw [hl] at hi
    rw [hn i hi]
    have hne : nth V i ≠ nth V m := fun e => by have := h.nd i m (by omega) (by omega) e; omega
    simp only [delf, if_neg hne]
    exact h.pl i (by omega)
  · by_cases e : x = nth V m
    · simp [delf, e] at hx
    · simp only [delf, if_neg e] at hx
      exact (hmem x).2 ⟨h.dom x hx, e⟩

end Go.Proofs.Ytlnblhajcbmmkaa
