/- The library's stable sort: symMerge's mathematics. -/
import Derived.Test.YtfmlbcddomggaaaQH
namespace Go.Proofs.Ytfmlbcddomggaaa
open Go.Shelf Go.RowKit Go.Lib Go.Sort
namespace Sb
variable {α : Type} [Inhabited α] {key : α → Int}

/-- Rising by the key on [a, b). -/
def Up (key : α → Int) (a b : Nat) (d : Array α) : Prop := ∀ i j, a ≤ i → i ≤ j → j < b → key d[i]! ≤ key d[j]!

theorem Up.of {a b : Nat} {d : Array α} (h : SortedIn (lt key) a b d) : Up key a b d := fun i j h1 h2 h3 => by
  rcases Nat.lt_or_ge i j with h4 | h4
  · have := h i j h1 h4 h3
    unfold lt at this
    simp at this
    exact this
  · obtain rfl : i = j := by omega
    exact Int.le_refl _
theorem Up.in_ {a b : Nat} {d : Array α} (h : Up key a b d) : SortedIn (lt key) a b d := fun i j h1 h2 h3 => by
  have := h i j h1 (by omega) h3
  unfold lt
  simp
  exact this
theorem Up.mono {a b a' b' : Nat} {d : Array α} (h : Up key a b d) (ha : a ≤ a') (hb : b' ≤ b) : Up key a' b' d := fun i j h1 h2 h3 => h i j (by omega) h2 (by omega)
theorem Up.same {a b : Nat} {d d' : Array α} (h : Up key a b d) (he : ∀ i, a ≤ i → i < b → d'[i]! = d[i]!) : Up key a b d' := fun i j h1 h2 h3 => by
  rw [he i h1 (by omega), he j (by omega) h3]; exact h i j h1 h2 h3

/-- What a merge leaves. -/
structure Mg (key : α → Int) (a b : Nat) (d d' : Array α) : Prop where
  st : St key a b d d'
  up : Up key a b d'

/-- One at the left is moved to its place: it stands at t now. -/
structure Mv (key : α → Int) (a t : Nat) (d dk : Array α) : Prop where
  st : St key a (t + 1) d dk
  low : ∀ x, a ≤ x → x < t → dk[x]! = d[x + 1]!
  at_ : dk[t]! = d[a]!
  high : ∀ x, t < x → dk[x]! = d[x]!

theorem Mv.begin (key : α → Int) (a : Nat) (d : Array α) : Mv key a a d d := ⟨St.refl _ _ _, fun x h1 h2 => by omega, rfl, fun _ _ => rfl⟩
theorem Mv.step {a t : Nat} {d dk : Array α} (h : Mv key a t d dk) (hat : a ≤ t) (ht : t + 1 < d.size) (hk : key d[t + 1]! < key d[a]!) : Mv key a (t + 1) d (swp dk t (t + 1)) := by
  have hs := h.st.size
  have e1 : dk[t + 1]! = d[t + 1]! := h.high (t + 1) (by omega)
  have s := St.swap (key := key) dk t (by omega) (by rw [e1, h.at_]; exact hk)
  have g := fun x => swp_get dk (i := t) (j := t + 1) (by omega) (by omega) x
  refine ⟨(h.st.mono (Nat.le_refl _) (by omega) (by omega)).trans (s.mono hat (by omega) (by omega)), fun x h1 h2 => ?_, ?_, fun x hx => ?_⟩
  · rw [g x, if_neg (by omega)]
    by_cases hx : x = t
    · rw [if_pos hx, hx]; exact e1
    · rw [if_neg hx]; exact h.low x h1 (by omega)
  · rw [g (t + 1), if_pos rfl]; exact h.at_
  · rw [g x, if_neg (by omega), if_neg (by omega)]; exact h.high x (by omega)

theorem Mv.done {a t b : Nat} {d dk : Array α} (h : Mv key a t d dk) (hat : a ≤ t) (htb : t < b) (hb : b ≤ d.size) (hu : Up key (a + 1) b d) (hl : ∀ x, a + 1 ≤ x → x < t + 1 → key d[x]! < key d[a]!) (hh : ∀ x, t + 1 ≤ x → x < b → ¬ key d[x]! < key d[a]!) : Mg key a b d dk := by
  refine ⟨h.st.mono (Nat.le_refl _) (by omega) hb, fun i j h1 h2 h3 => ?_⟩
  have val : ∀ x, a ≤ x → x < t → dk[x]! = d[x + 1]! := h.low
  rcases Nat.lt_trichotomy j t with hj | hj | hj
  · rw [h.low i h1 (by omega), h.low j (by omega) hj]
    exact hu (i + 1) (j + 1) (by omega) (by omega) (by omega)
  · subst hj
    rcases Nat.lt_or_ge i j with hi | hi
    · rw [h.low i h1 hi, h.at_]
      have := hl (i + 1) (by omega) (by omega)
      omega
    · obtain rfl : i = j := by omega
      exact Int.le_refl _
  · rw [h.high j hj]
    rcases Nat.lt_trichotomy i t with hi | hi | hi
    · rw [h.low i h1 hi]
      exact hu (i + 1) j (by omega) (by omega) h3
    · subst hi
      rw [h.at_]
      have := hh j (by omega) h3
      omega
    · rw [h.high i hi]
      exact hu i j (by omega) h2 h3

/-- One at the right is moved to its place: it stands at t now. -/
structure Mw (key : α → Int) (m t : Nat) (d dk : Array α) : Prop where
  st : St key t (m + 1) d dk
  low : ∀ x, x < t → dk[x]! = d[x]!
  at_ : dk[t]! = d[m]!
  high : ∀ x, t < x → x ≤ m → dk[x]! = d[x - 1]!

theorem Mw.begin (key : α → Int) (m : Nat) (d : Array α) : Mw key m m d d := ⟨St.refl _ _ _, fun _ _ => rfl, rfl, fun x h1 h2 => by omega⟩
theorem Mw.step {m t : Nat} {d dk : Array α} (h : Mw key m (t + 1) d dk) (htm : t + 1 ≤ m) (hm : m < d.size) (hk : key d[m]! < key d[t]!) : Mw key m t d (swp dk (t + 1) t) := by
  have hs := h.st.size
  have e1 : dk[t]! = d[t]! := h.low t (by omega)
  have s := St.swap' (key := key) dk t (by omega) (by rw [e1, h.at_]; exact hk)
  have g := fun x => swp_get dk (i := t + 1) (j := t) (by omega) (by omega) x
  refine ⟨(h.st.mono (by omega) (Nat.le_refl _) (by omega)).trans (s.mono (Nat.le_refl _) (by omega) (by omega)), fun x hx => ?_, ?_, fun x h1 h2 => ?_⟩
  · rw [g x, if_neg (by omega), if_neg (by omega)]; exact h.low x (by omega)
  · rw [g t, if_pos rfl]; exact h.at_
  · rw [g x, if_neg (by omega)]
    by_cases hx : x = t + 1
    · rw [if_pos hx, hx]; exact e1
    · rw [if_neg hx]; exact h.high x (by omega) h2

theorem Mw.done {a t m : Nat} {d dk : Array α} (h : Mw key m t d dk) (hat : a ≤ t) (htm : t ≤ m) (hm : m < d.size) (hu : Up key a m d) (hl : ∀ x, a ≤ x → x < t → ¬ key d[m]! < key d[x]!) (hh : ∀ x, t ≤ x → x < m → key d[m]! < key d[x]!) : Mg key a (m + 1) d dk := by
  refine ⟨h.st.mono hat (Nat.le_refl _) (by omega), fun i j h1 h2 h3 => ?_⟩
  rcases Nat.lt_trichotomy j t with hj | hj | hj
  · rw [h.low i (by omega), h.low j hj]
    exact hu i j h1 h2 (by omega)
  · subst hj
    rcases Nat.lt_or_ge i j with hi | hi
    · rw [h.low i hi, h.at_]
      have := hl i h1 hi
      omega
    · obtain rfl : i = j := by omega
      exact Int.le_refl _
  · rw [h.high j hj (by omega)]
    rcases Nat.lt_trichotomy i t with hi | hi | hi
    · rw [h.low i hi]
      exact hu i (j - 1) h1 (by omega) (by omega)
    · subst hi
      rw [h.at_]
      have := hh (j - 1) (by omega) (by omega)
      omega
    · rw [h.high i hi (by omega)]
      exact hu (i - 1) (j - 1) (by omega) (by omega) (by omega)

/-- What the search behind a merge's middle has found: where the first part is cut. -/
structure Cut (key : α → Int) (a m b mid start : Nat) (d : Array α) : Prop where
  s0 : a ≤ start
  s1 : start ≤ m
  s2 : start ≤ mid
  e0 : mid + m - start ≤ b
  yes : ∀ x y, a ≤ x → x < start → mid + m - start ≤ y → y < b → key d[x]! ≤ key d[y]!
  no : ∀ x y, m ≤ x → x < mid + m - start → start ≤ y → y < m → key d[x]! < key d[y]!

theorem Cut.of {a m b mid start s r : Nat} {d : Array α} (ham : a < m) (hmb : m < b) (hmid : mid = (a + b) / 2) (hu1 : Up key a m d) (hu2 : Up key m b d)
    (hs : s = if m > mid then mid + m - b else a) (hr : r = if m > mid then mid else m) (h1 : s ≤ start) (h2 : start ≤ r)
    (lo : ∀ x, s ≤ x → x < start → ¬ key d[mid + m - 1 - x]! < key d[x]!) (hi : ∀ x, start ≤ x → x < r → key d[mid + m - 1 - x]! < key d[x]!) : Cut key a m b mid start d := by
  have q : a ≤ s ∧ r ≤ m ∧ r ≤ mid ∧ mid + m - s ≤ b ∧ (s = a ∨ mid + m - s = b) ∧ (r = m ∨ mid + m - r = m) := by
    rw [hs, hr]
    split <;> omega
  obtain ⟨q1, q2, q3, q4, q5, q6⟩ := q
  refine ⟨by omega, by omega, by omega, by omega, fun x y hx1 hx2 hy1 hy2 => ?_, fun x y hx1 hx2 hy1 hy2 => ?_⟩
  · have hne : s < start := by omega
    have := lo (start - 1) (by omega) (by omega)
    rw [show mid + m - 1 - (start - 1) = mid + m - start by omega] at this
    have u1 := hu1 x (start - 1) hx1 (by omega) (by omega)
    have u2 := hu2 (mid + m - start) y (by omega) hy1 hy2
    omega
  · have hne : start < r := by omega
    have := hi start (Nat.le_refl _) hne
    have u1 := hu1 start y (by omega) hy1 hy2
    have u2 := hu2 x (mid + m - 1 - start) hx1 (by omega) (by omega)
    omega

omit [Inhabited α] in
/-- The four parts of a row. -/
theorem parts (d : Array α) (a m b : Nat) (ham : a ≤ m) (hmb : m ≤ b) (hb : b ≤ d.size) : ∃ A X Y B : List α, d.toList = A ++ (X ++ (Y ++ B)) ∧ A.length = a ∧ X.length = m - a ∧ Y.length = b - m := by
  refine ⟨d.toList.take a, (d.toList.drop a).take (m - a), (d.toList.drop m).take (b - m), d.toList.drop b, ?_, ?_, ?_, ?_⟩
  · have e1 : (d.toList.drop m).take (b - m) ++ d.toList.drop b = d.toList.drop m := by
      conv => rhs; rw [← List.take_append_drop (b - m) (d.toList.drop m)]
      rw [List.drop_drop, show m + (b - m) = b by omega]
    have e2 : (d.toList.drop a).take (m - a) ++ d.toList.drop m = d.toList.drop a := by
      conv => rhs; rw [← List.take_append_drop (m - a) (d.toList.drop a)]
      rw [List.drop_drop, show a + (m - a) = m by omega]
    rw [e1, e2, List.take_append_drop]
  all_goals simp
  all_goals omega

/-- A row behind two blocks of it changed places, cell by cell. -/
theorem rot_get (d d' : Array α) (A X Y B : List α) (h : d.toList = A ++ (X ++ (Y ++ B))) (h' : d'.toList = A ++ (Y ++ (X ++ B))) (x : Nat) :
    d'[x]! = if x < A.length then d[x]! else if x < A.length + Y.length then d[x + X.length]! else if x < A.length + Y.length + X.length then d[x - Y.length]! else d[x]! := by
  have g : ∀ (e : Array α) (i : Nat), e[i]! = (e.toList[i]?).getD default := fun e i => by
    rw [Array.getElem!_eq_getD, Array.getD_eq_getD_getElem?, Array.getElem?_toList]
  rw [g d', h']
  have gd : ∀ i, d[i]! = ((A ++ (X ++ (Y ++ B)))[i]?).getD default := fun i => by rw [g d, h]
  simp only [gd]
  by_cases h1 : x < A.length
  · rw [if_pos h1, List.getElem?_append_left h1, List.getElem?_append_left h1]
  · rw [if_neg h1, List.getElem?_append_right (by omega)]
    by_cases h2 : x < A.length + Y.length
    · rw [if_pos h2, List.getElem?_append_left (by omega), List.getElem?_append_right (by omega), List.getElem?_append_right (by omega), List.getElem?_append_left (by omega)]
      congr 2; omega
    · rw [if_neg h2, List.getElem?_append_right (by omega)]
      by_cases h3 : x < A.length + Y.length + X.length
      · rw [if_pos h3, List.getElem?_append_left (by omega), List.getElem?_append_right (by omega), List.getElem?_append_left (by omega)]
        congr 2; omega
      · rw [if_neg h3, List.getElem?_append_right (by omega), List.getElem?_append_right (by omega), List.getElem?_append_right (by omega), List.getElem?_append_right (by omega)]
        congr 2; omega

/-- The middle of a merge: the first half is not greater than the second; each half is two rising parts. -/
structure Half (key : α → Int) (a s mid e b : Nat) (d d' : Array α) : Prop where
  st : St key a b d d'
  u1 : Up key a s d'
  u2 : Up key s mid d'
  u3 : Up key mid e d'
  u4 : Up key e b d'
  cross : ∀ x y, a ≤ x → x < mid → mid ≤ y → y < b → key d'[x]! ≤ key d'[y]!

theorem Half.of {a m b mid s : Nat} {d d' : Array α} (A X Y B : List α) (hb : b ≤ d.size) (ham : a ≤ m) (_ : m ≤ b) (c : Cut key a m b mid s d) (hu1 : Up key a m d) (hu2 : Up key m b d)
    (h : d.toList = A ++ (X ++ (Y ++ B))) (h' : d'.toList = A ++ (Y ++ (X ++ B))) (hA : A.length = s) (hX : X.length = m - s) (hY : Y.length = mid + m - s - m) : Half key a s mid (mid + m - s) b d d' := by
  have c0 := c.s0
  have c1 := c.s1
  have c2 := c.s2
  have c3 := c.e0
  have g := rot_get d d' A X Y B h h'
  have mem : ∀ (Z C D : List α), d.toList = C ++ (Z ++ D) → ∀ z ∈ Z, ∃ i, C.length ≤ i ∧ i < C.length + Z.length ∧ d[i]! = z := fun Z C D hd z hz => by
    obtain ⟨i, hi, rfl⟩ := List.mem_iff_getElem.1 hz
    refine ⟨C.length + i, by omega, by omega, ?_⟩
    have := get_list d (C ++ Z.take i) (Z.drop (i + 1) ++ D) Z[i] (by
      rw [hd]
      conv => lhs; arg 2; arg 1; rw [← List.take_append_drop i Z, List.drop_eq_getElem_cons hi]
      simp only [List.append_assoc, List.cons_append])
    rwa [List.length_append, List.length_take, Nat.min_eq_left (by omega)] at this
  have st : St key s (mid + m - s) d d' := by
    have := St.rot (key := key) d d' A X Y B h h' (fun x hx y hy => by
      obtain ⟨i, i1, i2, rfl⟩ := mem X A (Y ++ B) h x hx
      obtain ⟨j, j1, j2, rfl⟩ := mem Y (A ++ X) B (by rw [h]; simp) y hy
      rw [List.length_append] at j1 j2
      exact c.no j i (by omega) (by omega) (by omega) (by omega))
    rwa [hA, hX, hY, show s + (m - s) + (mid + m - s - m) = mid + m - s by omega] at this
  have g1 : ∀ x, x < s → d'[x]! = d[x]! := fun x hx => by rw [g x, if_pos (by omega)]
  have g2 : ∀ x, s ≤ x → x < mid → d'[x]! = d[x + (m - s)]! := fun x h1 h2 => by rw [g x, if_neg (by omega), if_pos (by omega), hX]
  have g3 : ∀ x, mid ≤ x → x < mid + m - s → d'[x]! = d[x - (mid - s)]! := fun x h1 h2 => by
    rw [g x, if_neg (by omega), if_neg (by omega), if_pos (by omega), hY]; congr 1; omega
  have g4 : ∀ x, mid + m - s ≤ x → d'[x]! = d[x]! := fun x h1 => by
    rw [g x]
    by_cases q : x < A.length
    · rw [if_pos q]
    · rw [if_neg q, if_neg (by omega), if_neg (by omega)]
  refine ⟨st.mono c0 c3 hb, fun i j h1 h2 h3 => ?_, fun i j h1 h2 h3 => ?_, fun i j h1 h2 h3 => ?_, fun i j h1 h2 h3 => ?_, fun x y h1 h2 h3 h4 => ?_⟩
  · rw [g1 i (by omega), g1 j (by omega)]; exact hu1 i j h1 h2 (by omega)
  · rw [g2 i h1 (by omega), g2 j (by omega) h3]; exact hu2 _ _ (by omega) (by omega) (by omega)
  · rw [g3 i h1 (by omega), g3 j (by omega) h3]; exact hu1 _ _ (by omega) (by omega) (by omega)
  · rw [g4 i h1, g4 j (by omega)]; exact hu2 i j (by omega) h2 h3
  · by_cases hx : x < s
    · rw [g1 x hx]
      by_cases hy : y < mid + m - s
      · rw [g3 y h3 hy]; exact hu1 _ _ h1 (by omega) (by omega)
      · rw [g4 y (by omega)]; exact c.yes x y h1 hx (by omega) h4
    · rw [g2 x (by omega) h2]
      by_cases hy : y < mid + m - s
      · rw [g3 y h3 hy]
        exact Int.le_of_lt (c.no _ _ (by omega) (by omega) (by omega) (by omega))
      · rw [g4 y (by omega)]; exact hu2 _ _ (by omega) (by omega) h4

/-- Both halves merged. -/
theorem Half.done {a s mid e b : Nat} {d d1 d2 d3 : Array α} (h : Half key a s mid e b d d1) (ham : a ≤ mid) (hmb : mid ≤ b) (hb : b ≤ d.size) (h1 : Mg key a mid d1 d2) (h2 : Mg key mid b d2 d3) : Mg key a b d d3 := by
  have z1 := h.st.size
  have z2 := h1.st.size
  refine ⟨(h.st.trans (h1.st.mono (Nat.le_refl _) hmb (by omega))).trans (h2.st.mono ham (Nat.le_refl _) (by omega)), fun i j q1 q2 q3 => ?_⟩
  have cr2 : ∀ x y, a ≤ x → x < mid → mid ≤ y → y < b → key d2[x]! ≤ key d2[y]! := fun x y p1 p2 p3 p4 => by
    rw [h1.st.out y (by omega)]
    exact h1.st.all (by omega) (fun v => key v ≤ key d1[y]!) (fun i i1 i2 => h.cross i y i1 i2 p3 p4) x p1 p2
  by_cases hj : j < mid
  · rw [h2.st.out i (by omega), h2.st.out j (by omega)]
    exact h1.up i j q1 q2 hj
  · by_cases hi : i < mid
    · rw [h2.st.out i (by omega)]
      exact h2.st.all (by omega) (fun v => key d2[i]! ≤ key v) (fun y y1 y2 => cr2 i y q1 hi y1 y2) j (by omega) q3
    · exact h2.up i j (by omega) q2 q3

theorem Mg.none {a b : Nat} {d : Array α} (h : Up key a b d) : Mg key a b d d := ⟨St.refl _ _ _, h⟩

end Sb
end Go.Proofs.Ytfmlbcddomggaaa
