/- What a tally of values is, and that it can be. -/
import Derived.Test.YtakpeopghhblmaaDoorYJ
namespace Go.Proofs.YtakpeopghhblmaaDoor
open Go.RowKit Go.Lib

/-- The sum of values. -/
def tot : List Int → Int
  | [] => 0
  | x :: l => x + tot l

theorem tot_append : ∀ a b : List Int, tot (a ++ b) = tot a + tot b
  | [], b => by simp [tot]
  | x :: a, b => by simp only [List.cons_append, tot]; rw [tot_append a b]; omega

theorem wrap_add (a b : Int) : wrap64 (wrap64 a + wrap64 b) = wrap64 (a + b) := by unfold wrap64; omega

/-- The tally of just these values. -/
structure IsT (t : Tl) (xs : List Int) : Prop where
  none : xs = [] → t = tl0
  c : xs ≠ [] → t.c = xs.length
  s : xs ≠ [] → t.s = wrap64 (tot xs)
  lo : ∀ x ∈ xs, t.m ≤ x
  lin : xs ≠ [] → t.m ∈ xs
  hi : ∀ x ∈ xs, x ≤ t.x
  hin : xs ≠ [] → t.x ∈ xs

theorem IsT.nothing : IsT tl0 [] := ⟨fun _ => rfl, fun h => absurd rfl h, fun h => absurd rfl h, fun _ h => (nomatch h), fun h => absurd rfl h, fun _ h => (nomatch h), fun h => absurd rfl h⟩

theorem IsT.one {v : Int} (h : I64 v) : IsT ⟨1, v, v, v⟩ [v] :=
  ⟨fun h => (nomatch h), fun _ => rfl, fun _ => by simp [tot, wrap64_id h], by simp, by simp, by simp, by simp⟩

theorem IsT.count {t : Tl} {xs : List Int} (h : IsT t xs) : t.c = xs.length := by
  by_cases hx : xs = []
  · rw [h.none hx, hx]; rfl
  · exact h.c hx

theorem IsT.uniq {t u : Tl} {xs ys : List Int} (h : IsT t xs) (g : IsT u ys) (hl : xs.length = ys.length) (hs : tot xs = tot ys) (hm : ∀ x, x ∈ xs ↔ x ∈ ys) : t = u := by
  by_cases hx : xs = []
  · have hy : ys = [] := by subst hx; exact List.eq_nil_of_length_eq_zero hl.symm
    rw [h.none hx, g.none hy]
  · have hy : ys ≠ [] := fun e => hx (by subst e; exact List.eq_nil_of_length_eq_zero hl)
    obtain ⟨c, s, m, x⟩ := t
    obtain ⟨c', s', m', x'⟩ := u
    have e1 : c = c' := by have := h.c hx; have := g.c hy; simp_all
    have e2 : s = s' := by have := h.s hx; have := g.s hy; simp_all
    have e3 : m = m' := Int.le_antisymm (h.lo _ ((hm _).2 (g.lin hy))) (g.lo _ ((hm _).1 (h.lin hx)))
    have e4 : x = x' := Int.le_antisymm (g.hi _ ((hm _).1 (h.hin hx))) (h.hi _ ((hm _).2 (g.hin hy)))
    rw [e1, e2, e3, e4]

/-- Put together. -/
theorem IsT.join {t u : Tl} {xs ys : List Int} (h : IsT t xs) (g : IsT u ys) (hl : xs.length + ys.length ≤ 9007199254740992) : IsT (joinS t u) (xs ++ ys) := by
  unfold joinS
  by_cases hy : ys = []
  · have : u = tl0 := g.none hy
    subst this
    subst hy
    rw [if_pos (by decide), List.append_nil]
    exact h
  · have hyl : 0 < ys.length := List.length_pos_iff.2 hy
    have uc := g.c hy
    rw [if_neg (by rw [uc]; omega)]
    unfold putT rawT
    by_cases hx : xs = []
    · have : t = tl0 := h.none hx
      subst this
      subst hx
      rw [if_pos (by decide), List.nil_append]
      refine ⟨fun e => absurd e hy, fun _ => ?_, fun _ => ?_, fun x hx => ?_, fun _ => ?_, fun x hx => ?_, fun _ => ?_⟩
      · show cnt 0 u.c = _
        rw [uc]; unfold cnt; simp at hl; omega
      · show wrap64 (0 + u.s) = _
        rw [Int.zero_add, g.s hy]; unfold wrap64; omega
      · show min u.m u.m ≤ x
        rw [Int.min_self]; exact g.lo x hx
      · show min u.m u.m ∈ _
        rw [Int.min_self]; exact g.lin hy
      · show x ≤ max u.x u.x
        rw [Int.max_self]; exact g.hi x hx
      · show max u.x u.x ∈ _
        rw [Int.max_self]; exact g.hin hy
    · have hxl : 0 < xs.length := List.length_pos_iff.2 hx
      have tc := h.c hx
      rw [if_neg (by rw [tc]; omega)]
      have hne : xs ++ ys ≠ [] := by simp [hx]
      refine ⟨fun e => absurd e hne, fun _ => ?_, fun _ => ?_, fun x hx' => ?_, fun _ => ?_, fun x hx' => ?_, fun _ => ?_⟩
      · show cnt t.c u.c = _
        rw [uc, tc]; unfold cnt; rw [List.length_append]; omega
      · show wrap64 (t.s + u.s) = _
        rw [h.s hx, g.s hy, wrap_add, tot_append]
      · show min t.m u.m ≤ x
        rcases List.mem_append.1 hx' with h' | h'
        · have := h.lo x h'; omega
        · have := g.lo x h'; omega
      · show min t.m u.m ∈ _
        rcases Int.le_total t.m u.m with h' | h'
        · rw [Int.min_eq_left h']; exact List.mem_append_left _ (h.lin hx)
        · rw [Int.min_eq_right h']; exact List.mem_append_right _ (g.lin hy)
      · show x ≤ max t.x u.x
        rcases List.mem_append.1 hx' with h' | h'
        · have := h.hi x h'; omega
        · have := g.hi x h'; omega
      · show max t.x u.x ∈ _
        rcases Int.le_total t.x u.x with h' | h'
        · rw [Int.max_eq_right h']; exact List.mem_append_right _ (g.hin hy)
        · rw [Int.max_eq_left h']; exact List.mem_append_left _ (h.hin hx)

theorem IsT.add {t : Tl} {xs : List Int} {v : Int} (h : IsT t xs) (hv : I64 v) (hl : xs.length + 1 ≤ 9007199254740992) : IsT (addT t v) (xs ++ [v]) := by
  have := h.join (IsT.one hv) (by simpa using hl)
  unfold joinS at this
  rw [if_neg (by simp)] at this
  exact this

theorem IsT.fold : ∀ (ys xs : List Int) (t : Tl), IsT t xs → (∀ y ∈ ys, I64 y) → xs.length + ys.length ≤ 9007199254740992 → IsT (ys.foldl addT t) (xs ++ ys)
  | [], xs, t, h, _, _ => by rw [List.append_nil]; exact h
  | y :: ys, xs, t, h, hy, hl => by
    have := IsT.fold ys (xs ++ [y]) (addT t y) (h.add (hy y (by simp)) (by simp at hl; omega)) (fun z hz => hy z (by simp [hz])) (by simp at hl ⊢; omega)
    rw [List.append_assoc] at this
    exact this

theorem IsT.of {xs : List Int} (h : ∀ x ∈ xs, I64 x) (hl : xs.length ≤ 9007199254740992) : IsT (ofT xs) xs := by
  have := IsT.fold xs [] tl0 IsT.nothing h (by simpa using hl)
  rwa [List.nil_append] at this

theorem IsT.of_eq {t : Tl} {xs : List Int} (h : IsT t xs) (h64 : ∀ x ∈ xs, I64 x) (hl : xs.length ≤ 9007199254740992) : t = ofT xs := h.uniq (IsT.of h64 hl) rfl rfl (fun _ => Iff.rfl)

/-- The sum is no less than so many times the least, one of them being x. -/
theorem tot_ge {m : Int} : ∀ (xs : List Int), (∀ y ∈ xs, m ≤ y) → (xs.length : Int) * m ≤ tot xs
  | [], _ => by simp [tot]
  | y :: l, h => by
    have := tot_ge l (fun z hz => h z (by simp [hz]))
    have := h y (by simp)
    simp only [tot, List.length_cons]
    rw [Int.natCast_add, Int.add_mul]
    omega

theorem tot_le {m : Int} : ∀ (xs : List Int), (∀ y ∈ xs, y ≤ m) → tot xs ≤ (xs.length : Int) * m
  | [], _ => by simp [tot]
  | y :: l, h => by
    have := tot_le l (fun z hz => h z (by simp [hz]))
    have := h y (by simp)
    simp only [tot, List.length_cons]
    rw [Int.natCast_add, Int.add_mul]
    omega

theorem tot_low {m x : Int} : ∀ (xs : List Int), (∀ y ∈ xs, m ≤ y) → x ∈ xs → x + ((xs.length : Int) - 1) * m ≤ tot xs
  | y :: l, h, hx => by
    have hy := h y (by simp)
    have hl := fun z hz => h z (List.mem_cons_of_mem y hz)
    simp only [tot, List.length_cons]
    have e : (((l.length + 1 : Nat) : Int) - 1) = (l.length : Int) := by omega
    rw [e]
    rcases List.mem_cons.1 hx with rfl | hx
    · have := tot_ge l hl
      omega
    · have := tot_low l hl hx
      have e2 : (l.length : Int) * m = ((l.length : Int) - 1) * m + m := by rw [Int.sub_mul]; omega
      omega

theorem tot_high {m x : Int} : ∀ (xs : List Int), (∀ y ∈ xs, y ≤ m) → x ∈ xs → tot xs ≤ x + ((xs.length : Int) - 1) * m
  | y :: l, h, hx => by
    have hy := h y (by simp)
    have hl := fun z hz => h z (List.mem_cons_of_mem y hz)
    simp only [tot, List.length_cons]
    have e : (((l.length + 1 : Nat) : Int) - 1) = (l.length : Int) := by omega
    rw [e]
    rcases List.mem_cons.1 hx with rfl | hx
    · have := tot_le l hl
      omega
    · have := tot_high l hl hx
      have e2 : (l.length : Int) * m = ((l.length : Int) - 1) * m + m := by rw [Int.sub_mul]; omega
      omega

theorem U_form (a : Int) : ∃ k, U a = a - 18446744073709551616 * k := ⟨a / 18446744073709551616, by unfold U; rw [IntKind.wrap_u64]; omega⟩
theorem U_of {a b : Int} (k : Int) (h : a = b - 18446744073709551616 * k) (h0 : 0 ≤ b) (h1 : b < 18446744073709551616) : U a = b := by unfold U; rw [IntKind.wrap_u64]; omega
theorem wrap_form (a : Int) : ∃ k, wrap64 a = a - 18446744073709551616 * k := ⟨(a + 9223372036854775808) / 18446744073709551616, by unfold wrap64; omega⟩

/-- A sum that lies where it must is reached. -/
theorem reach_of {t : Tl} {S : Int} (hm : I64 t.m) (hx : I64 t.x) (hmx : t.m ≤ t.x) (hs : t.s = wrap64 S) (h1 : t.m + t.x + (t.c - 2) * t.m ≤ S) (h2 : S ≤ t.m + t.x + (t.c - 2) * t.x) (hc : 2 ≤ t.c) : reach t = true := by
  have hw : wid t = t.x - t.m := by
    unfold wid U I64 at *
    rw [IntKind.wrap_u64, IntKind.wrap_u64, IntKind.wrap_u64]
    omega
  unfold reach
  rw [hw]
  have hd : (t.c - 2) * (t.x - t.m) = (t.c - 2) * t.x - (t.c - 2) * t.m := Int.mul_sub ..
  by_cases hg : 0 < (t.c - 2) * (t.x - t.m) / 18446744073709551616
  · simp [hg]
  · have hpos : 0 ≤ (t.c - 2) * (t.x - t.m) := Int.mul_nonneg (by omega) (by omega)
    have hlt : (t.c - 2) * (t.x - t.m) < 18446744073709551616 := by
      rcases Int.lt_or_le ((t.c - 2) * (t.x - t.m)) 18446744073709551616 with h | h
      · exact h
      · exfalso; apply hg; omega
    have hmod : (t.c - 2) * (t.x - t.m) % 18446744073709551616 = (t.c - 2) * (t.x - t.m) := Int.emod_eq_of_lt hpos hlt
    have hr : rais t = S - (t.m + t.x + (t.c - 2) * t.m) := by
      unfold rais low64
      obtain ⟨k1, e1⟩ := U_form t.m
      obtain ⟨k2, e2⟩ := U_form t.x
      obtain ⟨k3, e3⟩ := U_form (U t.m + U t.x)
      obtain ⟨k4, e4⟩ := U_form ((t.c - 2) * U t.m)
      obtain ⟨k5, e5⟩ := U_form (U (U t.m + U t.x) + U ((t.c - 2) * U t.m))
      obtain ⟨k6, e6⟩ := U_form t.s
      obtain ⟨k7, e7⟩ := wrap_form S
      have e8 : (t.c - 2) * U t.m = (t.c - 2) * t.m - 18446744073709551616 * ((t.c - 2) * k1) := by rw [e1, Int.mul_sub, Int.mul_left_comm]
      refine U_of (k6 + k7 - k1 - k2 - k3 - k4 - k5 - (t.c - 2) * k1) ?_ (by omega) (by omega)
      rw [e5, e3, e4, e8, e6, hs, e7]
      generalize (t.c - 2) * k1 = q at *
      generalize (t.c - 2) * t.m = p at *
      omega
    rw [hr, hmod]
    simp
    right
    omega

/-- A tally of values can be. -/
theorem IsT.can {t : Tl} {xs : List Int} (h : IsT t xs) (h64 : ∀ x ∈ xs, I64 x) (hl : xs.length < 9007199254740992) : canT t = true := by
  by_cases hx : xs = []
  · rw [h.none hx]; decide
  · have hxl : 0 < xs.length := List.length_pos_iff.2 hx
    have tc := h.c hx
    have hm := h64 _ (h.lin hx)
    have hM := h64 _ (h.hin hx)
    have hmx := h.lo _ (h.hin hx)
    unfold canT
    rw [if_neg (by omega), if_neg (by omega), if_neg (by omega), if_neg (by omega)]
    by_cases h1 : t.c = 1
    · rw [if_pos h1]
      match xs, hx, h, h64, tc with
      | [x], _, h, h64, _ =>
        have a := h.lin (by simp)
        have b := h.hin (by simp)
        have s := h.s (by simp)
        simp at a b
        simp only [tot, Int.add_zero] at s
        rw [wrap64_id (h64 x (by simp))] at s
        simp [a, b, s]
      | x :: y :: l, _, _, _, tc => simp at tc; omega
    · rw [if_neg h1, if_pos (by omega)]
      have a := tot_low xs h.lo (h.hin hx)
      have b := tot_high xs h.hi (h.lin hx)
      refine reach_of hm hM hmx (h.s hx) ?_ ?_ (by omega)
      · have e : ((xs.length : Int) - 1) * t.m = (t.c - 2) * t.m + t.m := by rw [tc, Int.sub_mul, Int.sub_mul]; omega
        omega
      · have e : ((xs.length : Int) - 1) * t.x = (t.c - 2) * t.x + t.x := by rw [tc, Int.sub_mul, Int.sub_mul]; omega
        omega

end Go.Proofs.YtakpeopghhblmaaDoor
