/- Which groups move: the mathematics. -/
import Derived.Test.YtmhobdcnohhaaaaGNum
namespace Go.Proofs.Ytmhobdcnohhaaaa
open Go.RowKit

/-- A move: the groups from a on up to below b go from f to t. -/
structure Mv where
  a : Nat
  b : Nat
  f : Nat
  t : Nat

/-- One group more. -/
def stepM (l : List Mv) (k x y : Nat) : List Mv :=
  if x = y then l else
  match l.getLast? with
  | some m => if m.b = k ∧ m.f = x ∧ m.t = y then l.dropLast ++ [⟨m.a, k + 1, x, y⟩] else l ++ [⟨k, k + 1, x, y⟩]
  | none => l ++ [⟨k, k + 1, x, y⟩]

/-- The moves of the groups below k. -/
def scan (A B : Nat → Nat) : Nat → List Mv
  | 0 => []
  | k + 1 => stepM (scan A B k) k (A k) (B k)

theorem last_append {α : Type} (l : List α) (x : α) : (l ++ [x]).getLast? = some x := by simp

theorem scan_last (A B : Nat → Nat) : ∀ (k : Nat) (m : Mv), (scan A B k).getLast? = some m → m.b ≤ k ∧ 0 < m.b ∧ m.f = A (m.b - 1) ∧ m.t = B (m.b - 1)
  | 0, m, h => by simp [scan] at h
  | k + 1, m, h => by
    have ih := scan_last A B k
    unfold scan stepM at h
    split at h
    · have := ih m h
      exact ⟨by omega, this.2⟩
    · split at h
      · split at h
        · rw [last_append] at h
          injection h with h
          subst h
          exact ⟨Nat.le_refl _, Nat.succ_pos _, rfl, rfl⟩
        · rw [last_append] at h
          injection h with h
          subst h
          exact ⟨Nat.le_refl _, Nat.succ_pos _, rfl, rfl⟩
      · rw [last_append] at h
        injection h with h
        subst h
        exact ⟨Nat.le_refl _, Nat.succ_pos _, rfl, rfl⟩

theorem stepM_len (l : List Mv) (k x y : Nat) : (stepM l k x y).length ≤ l.length + 1 := by
  unfold stepM
  split
  · omega
  · split
    · split
      · simp
      · simp
    · simp

theorem scan_len (A B : Nat → Nat) : ∀ k, (scan A B k).length ≤ k
  | 0 => Nat.le_refl _
  | k + 1 => by
    have := scan_len A B k
    have h2 := stepM_len (scan A B k) k (A k) (B k)
    show (stepM (scan A B k) k (A k) (B k)).length ≤ k + 1
    omega

theorem scan_stays (A B : Nat → Nat) (f : Nat) : ∀ n, (∀ x, f ≤ x → x < f + n → A x = B x) → scan A B (f + n) = scan A B f
  | 0, _ => rfl
  | n + 1, h => by
    show stepM (scan A B (f + n)) (f + n) (A (f + n)) (B (f + n)) = _
    unfold stepM
    rw [if_pos (h (f + n) (by omega) (by omega))]
    exact scan_stays A B f n (fun x h1 h2 => h x h1 (by omega))

theorem scan_run (A B : Nat → Nat) (f o t : Nat) (ho : o ≠ t) (hb : 0 < f → A (f - 1) ≠ o ∨ B (f - 1) ≠ t) : ∀ n, (∀ x, f ≤ x → x < f + (n + 1) → A x = o ∧ B x = t) → scan A B (f + (n + 1)) = scan A B f ++ [⟨f, f + (n + 1), o, t⟩]
  | 0, h => by
    obtain ⟨h1, h2⟩ := h f (Nat.le_refl _) (by omega)
    show stepM (scan A B f) f (A f) (B f) = _
    rw [h1, h2]
    unfold stepM
    rw [if_neg ho]
    cases hl : (scan A B f).getLast? with
    | none => rfl
    | some m =>
      simp only
      obtain ⟨l1, l2, l3, l4⟩ := scan_last A B f m hl
      rw [if_neg]
      rintro ⟨e1, e2, e3⟩
      rw [e1] at l2 l3 l4
      rcases hb l2 with h | h
      · exact h (by rw [← l3]; exact e2)
      · exact h (by rw [← l4]; exact e3)
  | n + 1, h => by
    obtain ⟨h1, h2⟩ := h (f + (n + 1)) (by omega) (by omega)
    have ih := scan_run A B f o t ho hb n (fun x h1 h2 => h x h1 (by omega))
    show stepM (scan A B (f + (n + 1))) (f + (n + 1)) (A (f + (n + 1))) (B (f + (n + 1))) = _
    rw [h1, h2, ih]
    unfold stepM
    rw [if_neg ho, last_append]
    simp [Nat.add_assoc]

def Mv.swap (m : Mv) : Mv := ⟨m.a, m.b, m.t, m.f⟩

theorem stepM_swap (l : List Mv) (k x y : Nat) : stepM (l.map Mv.swap) k y x = (stepM l k x y).map Mv.swap := by
  unfold stepM
  by_cases h : x = y
  · rw [if_pos h, if_pos h.symm]
  · rw [if_neg h, if_neg (fun e => h e.symm), List.getLast?_map]
    cases hl : l.getLast? with
    | none => simp [Mv.swap]
    | some m =>
      simp only [Option.map_some]
      by_cases hc : m.b = k ∧ m.f = x ∧ m.t = y
      · rw [if_pos hc, if_pos ⟨hc.1, hc.2.2, hc.2.1⟩]
        simp [Mv.swap]
      · rw [if_neg hc, if_neg (fun e => hc ⟨e.1, e.2.2, e.2.1⟩)]
        simp [Mv.swap]

theorem scan_swap (A B : Nat → Nat) : ∀ k, scan B A k = (scan A B k).map Mv.swap
  | 0 => rfl
  | k + 1 => by
    show stepM (scan B A k) k (B k) (A k) = (stepM (scan A B k) k (A k) (B k)).map Mv.swap
    rw [scan_swap A B k, stepM_swap]

/-- One piece: the groups that the worker k of p has, and m of q. -/
theorem scan_piece {p q g k m : Nat} (hp : May p g) (hq : May q g) (h1 : st q g m < st p g (k + 1)) (h2 : st p g k < st q g (m + 1)) :
    max (st p g k) (st q g m) < min (st p g (k + 1)) (st q g (m + 1)) ∧
    scan (wk p g) (wk q g) (min (st p g (k + 1)) (st q g (m + 1))) = if m = k then scan (wk p g) (wk q g) (max (st p g k) (st q g m)) else scan (wk p g) (wk q g) (max (st p g k) (st q g m)) ++ [⟨max (st p g k) (st q g m), min (st p g (k + 1)) (st q g (m + 1)), k, m⟩] := by
  have r1 := st_rise hp (k := k)
  have r2 := st_rise hq (k := m)
  have hfb : max (st p g k) (st q g m) < min (st p g (k + 1)) (st q g (m + 1)) := by omega
  refine ⟨hfb, ?_⟩
  obtain ⟨n, hn⟩ : ∃ n, min (st p g (k + 1)) (st q g (m + 1)) = max (st p g k) (st q g m) + (n + 1) := ⟨min (st p g (k + 1)) (st q g (m + 1)) - max (st p g k) (st q g m) - 1, by omega⟩
  have hAB : ∀ x, max (st p g k) (st q g m) ≤ x → x < max (st p g k) (st q g m) + (n + 1) → wk p g x = k ∧ wk q g x = m := fun x h3 h4 => by
    rw [← hn] at h4
    exact ⟨wk_uniq hp (by omega) (by omega), wk_uniq hq (by omega) (by omega)⟩
  rw [hn]
  by_cases e : m = k
  · rw [if_pos e]
    exact scan_stays _ _ _ _ (fun x h3 h4 => by obtain ⟨a, b⟩ := hAB x h3 h4; rw [a, b, e])
  · rw [if_neg e]
    refine scan_run _ _ _ k m (fun h => e h.symm) (fun h0 => ?_) n hAB
    by_cases hc : st q g m ≤ st p g k
    · refine .inl fun ha => ?_
      have := wk_above hp (k := max (st p g k) (st q g m) - 1) (m := k) (by rw [ha]; exact Nat.le_refl _)
      omega
    · refine .inr fun ha => ?_
      have := wk_above hq (k := max (st p g k) (st q g m) - 1) (m := m) (by rw [ha]; exact Nat.le_refl _)
      omega

end Go.Proofs.Ytmhobdcnohhaaaa
