/- Mark: which windows are left, which panes are told, in what order (pure). -/
import Derived.Test.YtfmlbcddomggaaaVA
namespace Go.Proofs.Ytfmlbcddomggaaa

/-- How many at the end have a greater End; a pane put ahead of them. -/
def tailE (P : List Pn) (p : Pn) : Nat := (P.reverse.takeWhile fun x => decide (p.b < x.b)).length
def putE (P : List Pn) (p : Pn) : List Pn := P.take (P.length - tailE P p) ++ [p] ++ P.drop (P.length - tailE P p)
/-- The panes of a mark; all windows behind it; those that are left. -/
def panesM (k : ByteArray) (f t : Int) (L : List Wn) : List Pn := (L.filter fun x => onT x f t).foldl (fun P x => putE P (tellP k x 2)) []
def markedW (f t : Int) (di : Bool) (x : Wn) : Wn := if onT x f t then tellW x di else x
def allM (f t : Int) (di : Bool) (L : List Wn) : List Wn := L.map (markedW f t di)
def outM (f t lt : Int) (di : Bool) (L : List Wn) : List Wn := (allM f t di L).filter fun x => !overB x.b lt t

theorem tailE_le (P : List Pn) (p : Pn) : tailE P p ≤ P.length := by
  have := (List.takeWhile_prefix (l := P.reverse) (fun x => decide (p.b < x.b))).length_le
  simpa [tailE] using this

theorem putE_len (P : List Pn) (p : Pn) : (putE P p).length = P.length + 1 := by
  have := tailE_le P p
  unfold putE
  simp only [List.length_append, List.length_take, List.length_drop, List.length_cons, List.length_nil]
  omega

/-- Where a pane comes to stand. -/
theorem putE_at {P : List Pn} {q : Pn} (kk : Nat) (hk : kk ≤ P.length) (h1 : ∀ i (_ : kk ≤ i) (hi : i < P.length), q.b < P[i].b) (h2 : ∀ j (hj : kk = j + 1), ¬ q.b < (P[j]'(by omega)).b) : putE P q = P.take kk ++ [q] ++ P.drop kk := by
  have ht : tailE P q = P.length - kk := by
    unfold tailE
    have e : P.reverse = (P.drop kk).reverse ++ (P.take kk).reverse := by rw [← List.reverse_append, List.take_append_drop]
    rw [e, List.takeWhile_append_of_pos]
    · rw [List.length_append, List.length_reverse, List.length_drop]
      have : (P.take kk).reverse.takeWhile (fun x => decide (q.b < x.b)) = [] := by
        cases kk with
        | zero => simp
        | succ j =>
          rw [List.take_succ_eq_append_getElem (by omega), List.reverse_append, List.reverse_singleton, List.singleton_append, List.takeWhile_cons, if_neg]
          simpa using h2 j rfl
      rw [this]; rfl
    · intro y hy
      obtain ⟨i, hi, rfl⟩ := List.mem_iff_getElem.1 (List.mem_reverse.1 hy)
      rw [List.getElem_drop]
      rw [List.length_drop] at hi
      exact decide_eq_true (h1 (kk + i) (by omega) (by omega))
  unfold putE
  rw [ht, show P.length - (P.length - kk) = kk by omega]

/-- A pane and the one ahead of it change places. -/
theorem swapE (P : List Pn) (q : Pn) (j : Nat) (hj : j < P.length) : ((P.take (j + 1) ++ [q] ++ P.drop (j + 1)).set (j + 1) (P.getD j pn0)).set j q = P.take j ++ [q] ++ P.drop j := by
  have hl : (P.take (j + 1)).length = j + 1 := by rw [List.length_take]; omega
  rw [List.append_assoc, List.set_append_right _ _ (by omega), hl, Nat.sub_self, List.singleton_append, List.set_cons_zero, List.set_append_left _ _ (by omega), List.take_succ_eq_append_getElem hj, List.set_append_right _ _ (by rw [List.length_take]; omega)]
  rw [List.length_take, Nat.min_eq_left (by omega), Nat.sub_self, List.set_cons_zero, List.getD_eq_getElem?_getD, List.getElem?_eq_getElem hj, Option.getD_some, List.drop_eq_getElem_cons hj]
theorem swapE_at (P : List Pn) (q : Pn) (j : Nat) (hj : j < P.length) : (P.take (j + 1) ++ [q] ++ P.drop (j + 1)).getD j pn0 = P.getD j pn0 := by
  rw [List.getD_eq_getElem?_getD, List.getD_eq_getElem?_getD, List.append_assoc, List.getElem?_append_left (by rw [List.length_take]; omega), List.getElem?_take, if_pos (by omega)]

/-- In a rising list: behind all whose End is not greater. -/
theorem putE_rise {P : List Pn} {p : Pn} (h : P.Pairwise fun q r => q.b ≤ r.b) : putE P p = P.filter (fun q => decide (q.b ≤ p.b)) ++ [p] ++ P.filter (fun q => !decide (q.b ≤ p.b)) := by
  have key : ∀ (P : List Pn), P.Pairwise (fun q r => q.b ≤ r.b) → P = P.filter (fun q => decide (q.b ≤ p.b)) ++ P.filter (fun q => !decide (q.b ≤ p.b)) := by
    intro P
    induction P with
    | nil => intro _; rfl
    | cons x P ih =>
      intro hP
      obtain ⟨h1, h2⟩ := List.pairwise_cons.1 hP
      have ih := ih h2
      by_cases hx : x.b ≤ p.b
      · rw [List.filter_cons_of_pos (by simpa using hx), List.filter_cons_of_neg (by simpa using hx), List.cons_append, ← ih]
      · have e : P.filter (fun q => decide (q.b ≤ p.b)) = [] := List.filter_eq_nil_iff.2 fun y hy hc => by
          have := h1 y hy
          have : y.b ≤ p.b := by simpa using hc
          omega
        rw [e, List.nil_append] at ih
        rw [List.filter_cons_of_neg (by simpa using hx), List.filter_cons_of_pos (by simpa using hx), e, List.nil_append, ← ih]
  have e := key P h
  have ht : tailE P p = (P.filter (fun q => !decide (q.b ≤ p.b))).length := by
    unfold tailE
    conv => lhs; arg 1; arg 2; rw [e]
    rw [List.reverse_append, List.takeWhile_append_of_pos]
    · rw [List.length_append, List.length_reverse]
      have : (List.filter (fun q => decide (q.b ≤ p.b)) P).reverse.takeWhile (fun x => decide (p.b < x.b)) = [] := by
        have hR : ∀ y ∈ (List.filter (fun q => decide (q.b ≤ p.b)) P).reverse, y.b ≤ p.b := fun y hy => by
          have := (List.mem_filter.1 (List.mem_reverse.1 hy)).2
          simpa using this
        generalize (List.filter (fun q => decide (q.b ≤ p.b)) P).reverse = R at hR
        cases R with
        | nil => rfl
        | cons y R =>
          have := hR y (by simp)
          rw [List.takeWhile_cons, if_neg (by simp; omega)]
      rw [this]; rfl
    · intro y hy
      have := (List.mem_filter.1 (List.mem_reverse.1 hy)).2
      simp at this ⊢
      omega
  unfold putE
  have hl : P.length - tailE P p = (P.filter (fun q => decide (q.b ≤ p.b))).length := by
    have := congrArg List.length e
    rw [List.length_append] at this
    omega
  rw [hl]
  have e1 : P.take (P.filter (fun q => decide (q.b ≤ p.b))).length = P.filter (fun q => decide (q.b ≤ p.b)) := by
    conv => lhs; arg 2; rw [e]
    exact List.take_left' rfl
  have e2 : P.drop (P.filter (fun q => decide (q.b ≤ p.b))).length = P.filter (fun q => !decide (q.b ≤ p.b)) := by
    conv => lhs; arg 2; rw [e]
    exact List.drop_left' rfl
  rw [e1, e2]

theorem putE_keeps {P : List Pn} {p : Pn} (h : P.Pairwise fun q r => q.b ≤ r.b) : (putE P p).Pairwise fun q r => q.b ≤ r.b := by
  rw [putE_rise h, List.append_assoc]
  rw [List.pairwise_append]
  refine ⟨h.filter _, ?_, fun q hq r hr => ?_⟩
  · rw [List.singleton_append, List.pairwise_cons]
    refine ⟨fun r hr => ?_, h.filter _⟩
    have := (List.mem_filter.1 hr).2
    simp at this
    omega
  · have h1 := (List.mem_filter.1 hq).2
    simp at h1
    rcases List.mem_append.1 hr with hr | hr
    · have : r = p := by simpa using hr
      subst this
      exact h1
    · have h2 := (List.mem_filter.1 hr).2
      simp at h2
      omega

theorem panes_fold (k : ByteArray) : ∀ (l : List Wn) (P : List Pn), (P.Pairwise fun q r => q.b ≤ r.b) → ((l.foldl (fun P x => putE P (tellP k x 2)) P).Pairwise fun q r => q.b ≤ r.b) ∧ (l.foldl (fun P x => putE P (tellP k x 2)) P).length = P.length + l.length
  | [], P, h => ⟨h, rfl⟩
  | x :: l, P, h => by
    obtain ⟨h1, h2⟩ := panes_fold k l (putE P (tellP k x 2)) (putE_keeps h)
    refine ⟨h1, ?_⟩
    rw [List.foldl_cons, h2, putE_len, List.length_cons]
    omega

theorem panesM_le (k : ByteArray) (f t : Int) (L : List Wn) (j : Nat) : (panesM k f t (L.take j)).length ≤ j := by
  have h1 := (panes_fold k ((L.take j).filter fun x => onT x f t) [] List.Pairwise.nil).2
  have h2 := List.length_filter_le (fun x => onT x f t) (L.take j)
  have h3 := List.length_take_le j L
  unfold panesM
  rw [h1]
  simp
  omega

/-- The panes of a mark rise by End, one for each window that should tell. -/
theorem panesM_rise (k : ByteArray) (f t : Int) (L : List Wn) : ((panesM k f t L).Pairwise fun q r => q.b ≤ r.b) ∧ (panesM k f t L).length = (L.filter fun x => onT x f t).length := by
  obtain ⟨h1, h2⟩ := panes_fold k (L.filter fun x => onT x f t) [] List.Pairwise.nil
  exact ⟨h1, by unfold panesM; rw [h2]; simp⟩

theorem panesM_next (k : ByteArray) (f t : Int) (L : List Wn) (i : Nat) (hi : i < L.length) : panesM k f t (L.take (i + 1)) = if onT (L.getD i wn0) f t then putE (panesM k f t (L.take i)) (tellP k (L.getD i wn0) 2) else panesM k f t (L.take i) := by
  unfold panesM
  rw [List.take_succ_eq_append_getElem hi, List.filter_append, List.foldl_append, List.getD_eq_getElem?_getD, List.getElem?_eq_getElem hi]
  simp only [Option.getD_some, List.filter_cons, List.filter_nil]
  split <;> rfl

theorem marked_b (f t : Int) (di : Bool) (x : Wn) : (markedW f t di x).a = x.a ∧ (markedW f t di x).b = x.b ∧ (markedW f t di x).h = x.h := by
  unfold markedW; split <;> exact ⟨rfl, rfl, rfl⟩

/-- How many of the first i are left; the window that is left at that place. -/
def leftN (lt t : Int) (L : List Wn) (i : Nat) : Nat := ((L.take i).filter fun x => !overB x.b lt t).length
theorem leftN_next (lt t : Int) (L : List Wn) (i : Nat) (hi : i < L.length) : leftN lt t L (i + 1) = leftN lt t L i + (!overB (L.getD i wn0).b lt t).toNat := by
  unfold leftN
  rw [List.take_succ_eq_append_getElem hi, List.filter_append, List.length_append, List.getD_eq_getElem?_getD, List.getElem?_eq_getElem hi]
  simp only [Option.getD_some, List.filter_cons, List.filter_nil]
  split
  · rename_i h; rw [h]; rfl
  · rename_i h; rw [Bool.not_eq_true] at h; rw [h]; rfl
theorem outM_eq (f t lt : Int) (di : Bool) (L : List Wn) : outM f t lt di L = (L.filter fun x => !overB x.b lt t).map (markedW f t di) := by
  unfold outM allM
  rw [List.filter_map]
  congr 1
  exact List.filter_congr fun x _ => by simp only [Function.comp]; rw [(marked_b f t di x).2.1]
theorem outM_len (f t lt : Int) (di : Bool) (L : List Wn) : (outM f t lt di L).length = leftN lt t L L.length := by
  rw [outM_eq, List.length_map]; unfold leftN; rw [List.take_length]
theorem outM_at (f t lt : Int) (di : Bool) (L : List Wn) (i : Nat) (hi : i < L.length) (h : overB (L.getD i wn0).b lt t = false) :
    leftN lt t L i < (outM f t lt di L).length ∧ (outM f t lt di L).getD (leftN lt t L i) wn0 = markedW f t di (L.getD i wn0) := by
  have hl : leftN lt t L i < (outM f t lt di L).length := by
    rw [outM_len]
    have h1 := leftN_next lt t L i hi
    rw [h] at h1
    have h2 : leftN lt t L (i + 1) ≤ leftN lt t L L.length := by
      unfold leftN
      rw [List.take_length]
      exact ((List.take_sublist (i + 1) L).filter _).length_le
    simp at h1
    omega
  refine ⟨hl, ?_⟩
  have e : L = L.take i ++ L.getD i wn0 :: L.drop (i + 1) := by
    rw [List.getD_eq_getElem?_getD, List.getElem?_eq_getElem hi, Option.getD_some, ← List.drop_eq_getElem_cons hi, List.take_append_drop]
  rw [outM_eq, List.getD_eq_getElem?_getD, List.getElem?_map]
  have e2 : (L.filter fun x => !overB x.b lt t) = ((L.take i).filter fun x => !overB x.b lt t) ++ L.getD i wn0 :: ((L.drop (i + 1)).filter fun x => !overB x.b lt t) := by
    conv => lhs; rw [e]
    rw [List.filter_append, List.filter_cons_of_pos (by simp only [h]; rfl)]
  rw [e2]
  unfold leftN
  rw [List.getElem?_append_right (Nat.le_refl _), Nat.sub_self]
  rfl

end Go.Proofs.Ytfmlbcddomggaaa
