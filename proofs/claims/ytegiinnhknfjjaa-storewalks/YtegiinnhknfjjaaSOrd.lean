/- Orders: lists that rise by one, with a key put or taken. No memory. -/
import Derived.Test.YtegiinnhknfjjaaSMath
namespace Go.Proofs.Ytegiinnhknfjjaa

/-- An order. -/
structure Ordr {K : Type} (c : K → K → Int) : Prop where
  anti : ∀ a b, c b a = - c a b
  trans : ∀ a b d, c a b ≤ 0 → c b d ≤ 0 → c a d ≤ 0

section
variable {K V : Type} {c : K → K → Int}

theorem Ordr.lt_le (h : Ordr c) {a b d : K} (h1 : c a b < 0) (h2 : c b d ≤ 0) : c a d < 0 := by
  rcases (show c a d < 0 ∨ 0 ≤ c a d by omega) with h3 | h3
  · exact h3
  · have h4 := h.trans b d a h2 (by rw [h.anti a d]; omega)
    rw [h.anti a b] at h4
    omega

theorem Ordr.le_lt (h : Ordr c) {a b d : K} (h1 : c a b ≤ 0) (h2 : c b d < 0) : c a d < 0 := by
  rcases (show c a d < 0 ∨ 0 ≤ c a d by omega) with h3 | h3
  · exact h3
  · have h4 := h.trans d a b (by rw [h.anti a d]; omega) h1
    rw [h.anti b d] at h4
    omega

theorem Ordr.self (h : Ordr c) (a : K) : c a a = 0 := by have := h.anti a a; omega

/-- What rises. -/
def Up (c : K → K → Int) (X : List (K × V)) : Prop := X.Pairwise fun a b => c a.1 b.1 < 0

theorem Up.dec (h : Ordr c) {X : List (K × V)} (hX : Up c X) (key : K) : Dec (c key) X := by
  unfold Up at hX
  exact hX.imp fun {a b} hab ha => h.le_lt ha hab

theorem up_mem {f : K → Int} {X : List (K × V)} {a : K × V} : a ∈ up f X ↔ a ∈ X ∧ 0 < f a.1 := by unfold up; simp
theorem dn_mem {f : K → Int} {X : List (K × V)} {a : K × V} : a ∈ dn f X ↔ a ∈ X ∧ f a.1 < 0 := by unfold dn; simp
theorem it_some {f : K → Int} {X : List (K × V)} {a : K × V} (h : it f X = some a) : a ∈ X ∧ f a.1 = 0 := by
  unfold it at h
  exact ⟨List.mem_of_find?_eq_some h, by simpa using List.find?_some h⟩

theorem Up.put (h : Ordr c) {X : List (K × V)} (hX : Up c X) (key : K) (v : V) : Up c (lput (c key) key v X) := by
  unfold Up at hX ⊢
  have hk : ∃ k', Go.Proofs.Ytegiinnhknfjjaa.lput (c key) key v X = up (c key) X ++ (k', v) :: dn (c key) X ∧ c key k' = 0 := by
    unfold Go.Proofs.Ytegiinnhknfjjaa.lput
    cases hi : it (c key) X with
    | none => exact ⟨key, rfl, h.self key⟩
    | some a => exact ⟨a.1, rfl, (it_some hi).2⟩
  obtain ⟨k', e, hk'⟩ := hk
  rw [e, List.pairwise_append, List.pairwise_cons]
  have hxk : ∀ a ∈ up (c key) X, c a.1 k' < 0 := fun a ha => by
    have := (up_mem.1 ha).2
    exact h.lt_le (b := key) (by rw [h.anti key a.1]; omega) (by omega)
  have hky : ∀ b ∈ dn (c key) X, c k' b.1 < 0 := fun b hb => by
    have := (dn_mem.1 hb).2
    exact h.le_lt (b := key) (by rw [h.anti key k']; omega) this
  refine ⟨hX.sublist List.filter_sublist, ⟨hky, hX.sublist List.filter_sublist⟩, fun a ha b hb => ?_⟩
  rcases List.mem_cons.1 hb with rfl | hb
  · exact hxk a ha
  · exact h.lt_le (hxk a ha) (Int.le_of_lt (hky b hb))

theorem Up.drop (h : Ordr c) {X : List (K × V)} (hX : Up c X) (key : K) : Up c (ldrop (c key) X) := by
  unfold Up at hX ⊢
  unfold Go.Proofs.Ytegiinnhknfjjaa.ldrop
  rw [List.pairwise_append]
  refine ⟨hX.sublist List.filter_sublist, hX.sublist List.filter_sublist, fun a ha b hb => ?_⟩
  have h1 := (up_mem.1 ha).2
  have h2 := (dn_mem.1 hb).2
  exact h.lt_le (b := key) (by rw [h.anti key a.1]; omega) (Int.le_of_lt h2)

/-- The place of a key that is there. -/
theorem Up.place (h : Ordr c) {X : List (K × V)} (hX : Up c X) {n : Nat} (hn : n < X.length) : (up (c X[n].1) X).length = n ∧ it (c X[n].1) X = some X[n] := by
  have e : X = X.take n ++ X[n] :: X.drop (n + 1) := by
    rw [← List.drop_eq_getElem_cons hn, List.take_append_drop]
  have hd := hX.dec h X[n].1
  generalize hx : X[n] = x at *
  rw [e] at hd ⊢
  obtain ⟨a, b, d⟩ := at_way hd (h.self x.1)
  rw [a, d]
  exact ⟨by rw [List.length_take]; omega, rfl⟩

theorem mem_lput {f : K → Int} {k : K} {v : V} {X : List (K × V)} {a : K × V} (ha : a ∈ lput f k v X) : (a ∈ X) ∨ (a.2 = v ∧ (a.1 = k ∨ ∃ b ∈ X, f b.1 = 0 ∧ a.1 = b.1)) := by
  unfold lput at ha
  rcases List.mem_append.1 ha with ha | ha
  · exact .inl (up_mem.1 ha).1
  · rcases List.mem_cons.1 ha with rfl | ha
    · refine .inr ⟨rfl, ?_⟩
      cases hi : it f X with
      | none => exact .inl rfl
      | some b => exact .inr ⟨b, (it_some hi).1, (it_some hi).2, rfl⟩
    · exact .inl (dn_mem.1 ha).1

theorem mem_ldrop {f : K → Int} {X : List (K × V)} {a : K × V} (ha : a ∈ ldrop f X) : a ∈ X := by
  unfold ldrop at ha
  rcases List.mem_append.1 ha with ha | ha
  · exact (up_mem.1 ha).1
  · exact (dn_mem.1 ha).1
end

end Go.Proofs.Ytegiinnhknfjjaa
