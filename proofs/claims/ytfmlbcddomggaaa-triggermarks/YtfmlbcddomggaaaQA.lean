/- Stable sorting: what exchanges of neighbours and of blocks keep (pure). -/
import Derived.Sort.LotA
namespace Go.Proofs.Ytfmlbcddomggaaa
open Go.Sort

namespace Sb
variable {α : Type} [Inhabited α] (key : α → Int)

/-- Those of one key, in their order. -/
def at_ (e : Int) (l : List α) : List α := l.filter fun x => decide (key x = e)
/-- Less by the key. -/
def lt (x y : α) : Bool := decide (key x < key y)

omit [Inhabited α] in
theorem swo : SWO (lt key) where
  irrefl x := by unfold lt; simp
  trans x y z h1 h2 := by unfold lt at *; simp at *; omega
  ntrans x y z h1 h2 := by unfold lt at *; simp at *; omega

/-- d' is d with [a, b) permuted; those of one key stand in their order. -/
structure St (a b : Nat) (d d' : Array α) : Prop where
  perm : PermIn a b d d'
  stab : ∀ e, at_ key e d'.toList = at_ key e d.toList

variable {key}

theorem St.refl (a b : Nat) (d : Array α) : St key a b d d := ⟨permIn_refl d a b, fun _ => rfl⟩
theorem St.size {a b : Nat} {d d' : Array α} (h : St key a b d d') : d'.size = d.size := h.perm.1
theorem St.out {a b : Nat} {d d' : Array α} (h : St key a b d d') (i : Nat) (hi : i < a ∨ b ≤ i) : d'[i]! = d[i]! := h.perm.2.1 i hi
theorem St.trans {a b : Nat} {d d' d'' : Array α} (h : St key a b d d') (h' : St key a b d' d'') : St key a b d d'' :=
  ⟨permIn_trans d d' d'' a b h.perm h'.perm, fun e => (h'.stab e).trans (h.stab e)⟩
theorem St.mono {a b a' b' : Nat} {d d' : Array α} (h : St key a b d d') (ha : a' ≤ a) (hb : b ≤ b') (hs : b' ≤ d.size) : St key a' b' d d' :=
  ⟨permIn_mono d d' a b a' b' ha hb hs h.perm, h.stab⟩
theorem St.all {a b : Nat} {d d' : Array α} (h : St key a b d d') (hs : b ≤ d.size) (p : α → Prop) (hp : ∀ i, a ≤ i → i < b → p d[i]!) : ∀ i, a ≤ i → i < b → p d'[i]! :=
  permIn_all d d' a b p hs h.perm hp

omit [Inhabited α] in
theorem at_append (e : Int) (l m : List α) : at_ key e (l ++ m) = at_ key e l ++ at_ key e m := List.filter_append ..

theorem get_list (d : Array α) (A B : List α) (x : α) (h : d.toList = A ++ x :: B) : d[A.length]! = x := by
  have hs : A.length < d.size := by rw [← Array.length_toList, h]; simp
  rw [getElem!_pos d A.length hs, ← Array.getElem_toList]
  simp [h]

theorem swp_list (d : Array α) (A M B : List α) (x y : α) (h : d.toList = A ++ x :: (M ++ y :: B)) : (swp d A.length (A.length + 1 + M.length)).toList = A ++ y :: (M ++ x :: B) := by
  have hx := get_list d A _ x h
  have hy := get_list d (A ++ x :: M) B y (by rw [h]; simp)
  rw [show (A ++ x :: M).length = A.length + 1 + M.length by simp; omega] at hy
  unfold swp
  rw [hx, hy, Array.toList_setIfInBounds, Array.toList_setIfInBounds, h]
  rw [List.set_append_right _ _ (Nat.le_refl _), Nat.sub_self, List.set_cons_zero, List.set_append_right _ _ (by omega)]
  rw [show A.length + 1 + M.length - A.length = M.length + 1 by omega, List.set_cons_succ, List.set_append_right _ _ (Nat.le_refl _), Nat.sub_self, List.set_cons_zero]

theorem swp_comm (d : Array α) (i j : Nat) (hi : i < d.size) (hj : j < d.size) : swp d i j = swp d j i := by
  apply Array.ext
  · rw [swp_size, swp_size]
  · intro k h1 h2
    have a := swp_get d hi hj k
    have b := swp_get d hj hi k
    rw [getElem!_pos _ k h1] at a
    rw [getElem!_pos _ k h2] at b
    rw [a, b]
    by_cases e1 : k = j
    · by_cases e2 : k = i
      · subst e1 e2; simp
      · simp [e1]; intro e3; rw [e3]
    · by_cases e2 : k = i
      · subst e2; simp [e1]
      · simp [e1, e2]

theorem split2 (d : Array α) (i : Nat) (hi : i + 1 < d.size) : ∃ A B, d.toList = A ++ d[i]! :: ([] ++ d[i + 1]! :: B) ∧ A.length = i := by
  refine ⟨d.toList.take i, d.toList.drop (i + 2), ?_, by rw [List.length_take, Array.length_toList]; omega⟩
  have l : d.toList.length = d.size := Array.length_toList
  rw [getElem!_pos d i (by omega), getElem!_pos d (i + 1) hi, ← Array.getElem_toList (xs := d) (by omega), ← Array.getElem_toList (xs := d) hi, List.nil_append, ← List.drop_eq_getElem_cons (by omega), ← List.drop_eq_getElem_cons (by omega), List.take_append_drop]

/-- Two neighbours change places, where the second one is less. -/
theorem St.swap (d : Array α) (i : Nat) (hi : i + 1 < d.size) (hk : key d[i + 1]! < key d[i]!) : St key i (i + 2) d (swp d i (i + 1)) := by
  refine ⟨swp_permIn d i (i + 2) i (i + 1) (by omega) (by omega) (by omega) (by omega) (by omega), fun e => ?_⟩
  obtain ⟨A, B, h, hl⟩ := split2 d i hi
  have h' := swp_list d A [] B _ _ h
  rw [hl, show i + 1 + ([] : List α).length = i + 1 by simp] at h'
  rw [h', h, at_append, at_append]
  congr 1
  simp only [List.nil_append]
  unfold at_
  simp only [List.filter_cons]
  by_cases e1 : key d[i]! = e
  · rw [if_neg (by simp; omega)]; simp [e1]; omega
  · by_cases e2 : key d[i + 1]! = e
    · simp [e1, e2]
    · simp [e1, e2]

theorem St.swap' (d : Array α) (i : Nat) (hi : i + 1 < d.size) (hk : key d[i + 1]! < key d[i]!) : St key i (i + 2) d (swp d (i + 1) i) := by
  rw [swp_comm d (i + 1) i hi (by omega)]; exact St.swap d i hi hk

omit [Inhabited α] in
theorem extract_list (d : Array α) (A M B : List α) (h : d.toList = A ++ M ++ B) : (d.extract A.length (A.length + M.length)).toList = M := by
  rw [Array.toList_extract, h]
  simp

/-- Two blocks change places, where all of the second are less than all of the first. -/
theorem St.rot (d d' : Array α) (A X Y B : List α) (h : d.toList = A ++ (X ++ (Y ++ B))) (h' : d'.toList = A ++ (Y ++ (X ++ B))) (hk : ∀ x ∈ X, ∀ y ∈ Y, key y < key x) : St key A.length (A.length + X.length + Y.length) d d' := by
  have hs : d'.size = d.size := by rw [← Array.length_toList, ← Array.length_toList, h, h']; simp; omega
  refine ⟨⟨hs, fun i hi => ?_, ?_⟩, fun e => ?_⟩
  · by_cases hid : i < d.size
    · rw [getElem!_pos d i hid, getElem!_pos d' i (by omega), ← Array.getElem_toList, ← Array.getElem_toList]
      have : d'.toList[i]? = d.toList[i]? := by
        rw [h, h']
        rcases hi with hi | hi
        · rw [List.getElem?_append_left hi, List.getElem?_append_left hi]
        · rw [List.getElem?_append_right (by omega), List.getElem?_append_right (by omega), List.getElem?_append_right (by omega), List.getElem?_append_right (by omega), List.getElem?_append_right (by omega), List.getElem?_append_right (by omega)]
          congr 1; omega
      rw [List.getElem?_eq_getElem (by rw [Array.length_toList]; omega), List.getElem?_eq_getElem (by rw [Array.length_toList]; omega)] at this
      exact Option.some.inj this
    · rw [getElem!_neg d i hid, getElem!_neg d' i (by omega)]
  · have e1 := extract_list d A (X ++ Y) B (by rw [h]; simp)
    have e2 := extract_list d' A (Y ++ X) B (by rw [h']; simp)
    rw [List.length_append, ← Nat.add_assoc] at e1 e2
    rw [show A.length + X.length + Y.length = A.length + Y.length + X.length by omega, e2, show A.length + Y.length + X.length = A.length + X.length + Y.length by omega, e1]
    exact List.perm_append_comm
  · simp only [h, h', at_append]
    congr 1
    rw [← List.append_assoc, ← List.append_assoc]
    congr 1
    by_cases hx : at_ key e X = []
    · rw [hx]; simp
    · have hy : at_ key e Y = [] := by
        refine List.filter_eq_nil_iff.2 fun y hy hc => hx ?_
        refine List.filter_eq_nil_iff.2 fun x hx' hc' => ?_
        have := hk x hx' y hy
        simp at hc hc'
        omega
      rw [hy]; simp

omit [Inhabited α] in
/-- Lists that rise by the key and have the same of each key are the same. -/
theorem sorted_ext : ∀ (l m : List α), l.Pairwise (fun x y => key x ≤ key y) → m.Pairwise (fun x y => key x ≤ key y) → (∀ e, at_ key e l = at_ key e m) → l = m
  | [], [], _, _, _ => rfl
  | [], y :: m, _, _, h => by have := h (key y); simp [at_] at this
  | x :: l, [], _, _, h => by have := h (key x); simp [at_] at this
  | x :: l, y :: m, hl, hm, h => by
    obtain ⟨l1, l2⟩ := List.pairwise_cons.1 hl
    obtain ⟨m1, m2⟩ := List.pairwise_cons.1 hm
    have le1 : key y ≤ key x := by
      have hx : x ∈ at_ key (key x) (y :: m) := by rw [← h]; simp [at_]
      rcases List.mem_cons.1 (List.mem_filter.1 hx).1 with e | e
      · rw [e]; exact Int.le_refl _
      · exact m1 x e
    have le2 : key x ≤ key y := by
      have hy : y ∈ at_ key (key y) (x :: l) := by rw [h]; simp [at_]
      rcases List.mem_cons.1 (List.mem_filter.1 hy).1 with e | e
      · rw [e]; exact Int.le_refl _
      · exact l1 y e
    have he : key x = key y := by omega
    have h0 := h (key x)
    unfold at_ at h0
    rw [List.filter_cons_of_pos (by simp), List.filter_cons_of_pos (by simp [he])] at h0
    injection h0 with e1 e2
    subst e1
    congr 1
    refine sorted_ext l m l2 m2 fun e => ?_
    have := h e
    unfold at_ at *
    by_cases hc : key x = e
    · rw [List.filter_cons_of_pos (by simpa using hc), List.filter_cons_of_pos (by simpa using hc)] at this
      exact (List.cons.inj this).2
    · rw [List.filter_cons_of_neg (by simpa using hc), List.filter_cons_of_neg (by simpa using hc)] at this
      exact this

/-- A row that is sorted whole. -/
theorem sorted_list (d : Array α) (h : SortedIn (lt key) 0 d.size d) : d.toList.Pairwise fun x y => key x ≤ key y := by
  rw [List.pairwise_iff_getElem]
  intro i j hi hj hij
  rw [Array.length_toList] at hi hj
  have := h i j (by omega) hij hj
  rw [getElem!_pos d i hi, getElem!_pos d j hj] at this
  unfold lt at this
  simp at this
  simpa using this

/-- The insertion sort keeps the order of those of one key. -/
theorem inner_size (a : Nat) : ∀ (j : Nat) (d : Array α), (insInner (lt key) a j d).size = d.size
  | 0, d => by simp [insInner]
  | j + 1, d => by
    unfold insInner
    split
    · rw [inner_size a j, swp_size]
    · rfl
theorem inner_stab (a : Nat) (e : Int) : ∀ (j : Nat) (d : Array α), j < d.size → at_ key e (insInner (lt key) a j d).toList = at_ key e d.toList
  | 0, d, _ => by simp [insInner]
  | j + 1, d, hj => by
    unfold insInner
    split
    · rename_i hc
      rw [inner_stab a e j _ (by rw [swp_size]; omega)]
      refine (St.swap' d j hj ?_).stab e
      simp [lt] at hc
      exact hc.2
    · rfl
theorem outer_stab (a b : Nat) (e : Int) : ∀ (n i : Nat) (d : Array α), b - i ≤ n → b ≤ d.size → at_ key e (insOuter (lt key) a b i d).toList = at_ key e d.toList
  | 0, i, d, hn, hb => by rw [insOuter, if_neg (by omega)]
  | n + 1, i, d, hn, hb => by
    rw [insOuter]
    split
    · rename_i hi
      rw [outer_stab a b e n (i + 1) _ (by omega) (by rw [inner_size]; exact hb), inner_stab a e i d (by omega)]
    · rfl
theorem St.ins (d : Array α) (a b : Nat) (hab : a ≤ b) (hb : b ≤ d.size) : St key a b d (insertionSort (lt key) d a b) ∧ SortedIn (lt key) a b (insertionSort (lt key) d a b) := by
  obtain ⟨h1, h2⟩ := insertionSort_holds (lt := lt key) (swo key) d a b hab hb
  exact ⟨⟨h1, fun e => outer_stab a b e _ (a + 1) d (Nat.le_refl _) hb⟩, h2⟩

end Sb
end Go.Proofs.Ytfmlbcddomggaaa
