/- MergeStays: the mathematics that its walk asks for. -/
import Derived.Test.YtbhofihikimgeaaRRPH
namespace Go.Proofs.YtbhofihikimgeaaRR
open Go.RowKit

/-- How many of the first k the span does not overlap. -/
def offN (L : List Wn) (s : Sp) (k : Nat) : Nat := ((L.take k).filter fun x => !over x.sp s).length
theorem offN_next (L : List Wn) (s : Sp) (k : Nat) (hk : k < L.length) : offN L s (k + 1) = offN L s k + (!over (L.getD k wn0).sp s).toNat := by
  unfold offN
  rw [List.take_succ_eq_append_getElem hk, List.filter_append, List.length_append, List.getD_eq_getElem?_getD, List.getElem?_eq_getElem hk]
  simp only [Option.getD_some, List.filter_cons, List.filter_nil]
  split
  · rename_i h; rw [h]; rfl
  · rename_i h; rw [Bool.not_eq_true] at h; rw [h]; rfl
theorem offN_le (L : List Wn) (s : Sp) (k : Nat) : offN L s k ≤ k := Nat.le_trans (List.length_filter_le _ _) (by rw [List.length_take]; omega)

theorem parts_len (s : Sp) : ∀ L : List Wn, (L.filter (aheadW s)).length + (L.filter (behindW s)).length = (L.filter fun x => !over x.sp s).length
  | [] => rfl
  | x :: L => by
    have ih := parts_len s L
    rcases Bool.eq_false_or_eq_true (over x.sp s) with h1 | h1 <;> by_cases h2 : x.b ≤ s.a <;> simp [aheadW, behindW, h1, h2] at ih ⊢ <;> omega

theorem stay_len {L : List Wn} (h : apartR L = true) {s : Sp} (hs : s.a < s.b) (m hh : Int) : (joinL L s m hh).length = offN L s L.length + 1 := by
  rw [joinL_eq (apart_rise h).1 hs]
  have := parts_len s L
  unfold offN
  rw [List.take_length]
  simp only [List.length_append, List.length_cons, List.length_nil]
  omega

theorem stay_at {L : List Wn} (h : apartR L = true) {s : Sp} (hs : s.a < s.b) (m hh : Int) (i : Nat) (hi : i < L.length) (ho : over (L.getD i wn0).sp s = false) :
    ∃ k, k < (joinL L s m hh).length ∧ k ≠ fromR L s ∧ (joinL L s m hh).getD k wn0 = L.getD i wn0 := by
  have ef : fromR L s = (L.filter (aheadW s)).length := rfl
  rw [joinL_eq (apart_rise h).1 hs, ef]
  have hx : L.getD i wn0 ∈ L := by rw [List.getD_eq_getElem?_getD, List.getElem?_eq_getElem hi]; exact List.getElem_mem hi
  generalize L.getD i wn0 = x at *
  generalize madeW m s hh (L.filter (onW s)) = X
  cases hb : decide (x.b ≤ s.a) with
  | true =>
    have hm : x ∈ L.filter (aheadW s) := List.mem_filter.2 ⟨hx, by unfold aheadW; rw [ho, hb]; rfl⟩
    obtain ⟨k, hk, e⟩ := List.mem_iff_getElem.1 hm
    refine ⟨k, by simp only [List.length_append]; omega, by omega, ?_⟩
    rw [List.getD_eq_getElem?_getD, List.getElem?_append_left (by simp only [List.length_append]; omega), List.getElem?_append_left hk, List.getElem?_eq_getElem hk, e]
    rfl
  | false =>
    have hm : x ∈ L.filter (behindW s) := List.mem_filter.2 ⟨hx, by unfold behindW; rw [ho, hb]; rfl⟩
    obtain ⟨k, hk, e⟩ := List.mem_iff_getElem.1 hm
    refine ⟨(L.filter (aheadW s)).length + 1 + k, by simp only [List.length_append, List.length_cons, List.length_nil]; omega, by omega, ?_⟩
    rw [List.getD_eq_getElem?_getD, List.getElem?_append_right (by simp only [List.length_append, List.length_cons, List.length_nil]; omega)]
    simp only [List.length_append, List.length_cons, List.length_nil, Nat.zero_add]
    rw [show (L.filter (aheadW s)).length + 1 + k - ((L.filter (aheadW s)).length + 1) = k by omega, List.getElem?_eq_getElem hk, e]
    rfl

theorem comm_len {L : List Wn} (h : apartR L = true) {s1 s2 : Sp} (hs1 : s1.a < s1.b) (hs2 : s2.a < s2.b) (m1 h1 m2 h2 : Int) :
    (joinL (joinL L s1 m1 h1) s2 m2 h2).length = (joinL (joinL L s2 m2 h2) s1 m1 h1).length ∧
    ∀ i, i < (joinL (joinL L s1 m1 h1) s2 m2 h2).length → (((joinL (joinL L s1 m1 h1) s2 m2 h2).getD i wn0).sp = ((joinL (joinL L s2 m2 h2) s1 m1 h1).getD i wn0).sp ∧ ((joinL (joinL L s1 m1 h1) s2 m2 h2).getD i wn0).t = ((joinL (joinL L s2 m2 h2) s1 m1 h1).getD i wn0).t ∧ ((joinL (joinL L s1 m1 h1) s2 m2 h2).getD i wn0).n = ((joinL (joinL L s2 m2 h2) s1 m1 h1).getD i wn0).n ∧ ((joinL (joinL L s1 m1 h1) s2 m2 h2).getD i wn0).p = ((joinL (joinL L s2 m2 h2) s1 m1 h1).getD i wn0).p) := by
  have hn : ∀ x ∈ L, NN x := fun x hx => by
    obtain ⟨a, b⟩ := apart_in h x hx
    unfold inC at a b
    simp at a b
    exact ⟨a.1, b.1⟩
  have e := joins_comm (apart_rise h).1 hn hs1 hs2 m1 h1 m2 h2 m2 h2 m1 h1
  have el : (joinL (joinL L s1 m1 h1) s2 m2 h2).length = (joinL (joinL L s2 m2 h2) s1 m1 h1).length := by
    have := congrArg List.length e
    simpa using this
  refine ⟨el, fun i hi => ?_⟩
  generalize joinL (joinL L s1 m1 h1) s2 m2 h2 = A at *
  generalize joinL (joinL L s2 m2 h2) s1 m1 h1 = B at *
  have g : fw (A.getD i wn0) = fw (B.getD i wn0) := by
    have := congrArg (fun l => l[i]?) e
    simp only [List.getElem?_map] at this
    rw [List.getElem?_eq_getElem hi, List.getElem?_eq_getElem (show i < B.length by omega)] at this
    rw [List.getD_eq_getElem?_getD, List.getD_eq_getElem?_getD, List.getElem?_eq_getElem hi, List.getElem?_eq_getElem (show i < B.length by omega)]
    simpa using this
  generalize A.getD i wn0 = x at *
  generalize B.getD i wn0 = y at *
  unfold fw at g
  injection g with g1 g2 g3 g4 g5 g6
  exact ⟨by unfold Wn.sp; rw [g1, g2], g4, g5, g6⟩

theorem bad_no {L : List Wn} (h : apartR L = true) {s : Sp} (hs : s.a < s.b) : badT L s = false := by unfold badT; rw [h, decide_eq_true hs]; rfl
theorem bad_out {L : List Wn} {s : Sp} (h : badT L s = false) : apartR L = true ∧ s.a < s.b := by
  unfold badT at h
  simp only [Bool.not_eq_eq_eq_not, Bool.not_false, Bool.and_eq_true, decide_eq_true_eq] at h
  exact h
theorem join_len (L : List Wn) (s : Sp) (m h : Int) : (joinL L s m h).length ≤ L.length + 1 := by
  have := fromR_ovR L s
  unfold joinL
  simp only [List.length_append, List.length_take, List.length_drop, List.length_cons, List.length_nil]
  omega

/-- Two windows that are not the same: the first number in which they part. -/
theorem wn_diff {v z : Wn} (hne : v ≠ z) : ((v.a == z.a) = false) ∨ (v.a = z.a ∧ (v.b == z.b) = false) ∨ (v.a = z.a ∧ v.b = z.b ∧ (v.h == z.h) = false) ∨ (v.a = z.a ∧ v.b = z.b ∧ v.h = z.h ∧ (v.t.c == z.t.c) = false) ∨ (v.a = z.a ∧ v.b = z.b ∧ v.h = z.h ∧ v.t.c = z.t.c ∧ (v.t.s == z.t.s) = false) ∨ (v.a = z.a ∧ v.b = z.b ∧ v.h = z.h ∧ v.t.c = z.t.c ∧ v.t.s = z.t.s ∧ (v.t.m == z.t.m) = false) ∨ (v.a = z.a ∧ v.b = z.b ∧ v.h = z.h ∧ v.t.c = z.t.c ∧ v.t.s = z.t.s ∧ v.t.m = z.t.m ∧ (v.t.x == z.t.x) = false) ∨ (v.a = z.a ∧ v.b = z.b ∧ v.h = z.h ∧ v.t.c = z.t.c ∧ v.t.s = z.t.s ∧ v.t.m = z.t.m ∧ v.t.x = z.t.x ∧ (v.n == z.n) = false) ∨ (v.a = z.a ∧ v.b = z.b ∧ v.h = z.h ∧ v.t.c = z.t.c ∧ v.t.s = z.t.s ∧ v.t.m = z.t.m ∧ v.t.x = z.t.x ∧ v.n = z.n ∧ (v.p == z.p) = false) := by
  have key : ∀ (c d : Int), c = d ∨ (c == d) = false := fun c d => by
    by_cases h : c = d
    · exact .inl h
    · exact .inr (by simpa using h)
  rcases key v.a z.a with e0 | h
  rotate_left
  · exact .inl h
  rcases key v.b z.b with e1 | h
  rotate_left
  · exact .inr (.inl ⟨e0, h⟩)
  rcases key v.h z.h with e2 | h
  rotate_left
  · exact .inr (.inr (.inl ⟨e0, e1, h⟩))
  rcases key v.t.c z.t.c with e3 | h
  rotate_left
  · exact .inr (.inr (.inr (.inl ⟨e0, e1, e2, h⟩)))
  rcases key v.t.s z.t.s with e4 | h
  rotate_left
  · exact .inr (.inr (.inr (.inr (.inl ⟨e0, e1, e2, e3, h⟩))))
  rcases key v.t.m z.t.m with e5 | h
  rotate_left
  · exact .inr (.inr (.inr (.inr (.inr (.inl ⟨e0, e1, e2, e3, e4, h⟩)))))
  rcases key v.t.x z.t.x with e6 | h
  rotate_left
  · exact .inr (.inr (.inr (.inr (.inr (.inr (.inl ⟨e0, e1, e2, e3, e4, e5, h⟩))))))
  rcases key v.n z.n with e7 | h
  rotate_left
  · exact .inr (.inr (.inr (.inr (.inr (.inr (.inr (.inl ⟨e0, e1, e2, e3, e4, e5, e6, h⟩)))))))
  rcases key v.p z.p with e8 | h
  rotate_left
  · exact .inr (.inr (.inr (.inr (.inr (.inr (.inr (.inr (⟨e0, e1, e2, e3, e4, e5, e6, e7, h⟩))))))))
  · refine absurd ?_ hne
    obtain ⟨va, vb, vh, ⟨vc, vs, vm, vx⟩, vn, vp⟩ := v
    obtain ⟨za, zb, zh, ⟨zc, zs, zm, zx⟩, zn, zp⟩ := z
    simp only at e0 e1 e2 e3 e4 e5 e6 e7 e8
    subst e0 e1 e2 e3 e4 e5 e6 e7 e8
    rfl

end Go.Proofs.YtbhofihikimgeaaRR
