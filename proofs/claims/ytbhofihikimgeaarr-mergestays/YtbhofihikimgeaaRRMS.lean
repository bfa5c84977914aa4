/- The row behind a Join: which windows stay, which are taken in; its spans are those that Gaps makes. -/
import Derived.Test.YtbhofihikimgeaaRRMJ
import Derived.Test.YtbhofihikimgeaaRRMP
namespace Go.Proofs.YtbhofihikimgeaaRR

/-- Ahead of the span; behind it. -/
def aheadW (s : Sp) (x : Wn) : Bool := !over x.sp s && decide (x.b ≤ s.a)
def behindW (s : Sp) (x : Wn) : Bool := !over x.sp s && !decide (x.b ≤ s.a)
def onW (s : Sp) (x : Wn) : Bool := over x.sp s

theorem split3 : ∀ (L : List Wn) (s : Sp), Rise (L.map Wn.sp) → s.a < s.b → L = L.filter (aheadW s) ++ (L.filter (onW s) ++ L.filter (behindW s))
  | [], _, _, _ => rfl
  | x :: L, s, h, hs => by
    have h' : Rise (L.map Wn.sp) := ⟨(List.pairwise_cons.1 h.1).2, fun y hy => h.2 y (by simp only [List.map_cons, List.mem_cons]; exact .inr hy)⟩
    have ih := split3 L s h' hs
    have hx : x.a < x.b := h.2 x.sp (by simp)
    have hb : ∀ y ∈ L, x.b ≤ y.a ∧ y.a < y.b := fun y hy => ⟨(List.pairwise_cons.1 h.1).1 y.sp (List.mem_map.2 ⟨y, hy, rfl⟩), h'.2 y.sp (List.mem_map.2 ⟨y, hy, rfl⟩)⟩
    cases ho : over x.sp s with
    | true =>
      have e1 : L.filter (aheadW s) = [] := List.filter_eq_nil_iff.2 fun y hy hc => by
        have := hb y hy
        obtain ⟨o1, o2, o3, o4⟩ := (over_iff _ _).1 ho
        simp only at o1 o2 o3 o4
        unfold aheadW at hc
        simp only [Bool.and_eq_true, decide_eq_true_eq] at hc
        omega
      rw [e1] at ih
      simp only [List.filter_cons, aheadW, onW, behindW, ho, Bool.not_true, Bool.false_and, if_true, Bool.false_eq_true, if_false]
      rw [e1]
      exact congrArg (x :: ·) ih
    | false =>
      by_cases hxb : x.b ≤ s.a
      · simp only [List.filter_cons, aheadW, onW, behindW, ho, Bool.not_false, Bool.true_and, hxb, decide_true, if_true, Bool.not_true, Bool.false_eq_true, if_false]
        exact congrArg (x :: ·) ih
      · have hxs : s.b ≤ x.a := by
          refine Int.not_lt.1 fun h => ?_
          have := (over_iff x.sp s).2 ⟨hx, hs, h, by show s.a < x.b; omega⟩
          rw [ho] at this; cases this
        have e1 : L.filter (aheadW s) = [] := List.filter_eq_nil_iff.2 fun y hy hc => by
          have := hb y hy
          unfold aheadW at hc
          simp only [Bool.and_eq_true, decide_eq_true_eq] at hc
          omega
        have e2 : L.filter (onW s) = [] := List.filter_eq_nil_iff.2 fun y hy hc => by
          have := hb y hy
          obtain ⟨o1, o2, o3, o4⟩ := (over_iff _ _).1 hc
          simp only at o1 o2 o3 o4
          omega
        rw [e1, e2] at ih
        simp only [List.filter_cons, aheadW, onW, behindW, ho, Bool.not_false, Bool.true_and, hxb, decide_false, Bool.false_eq_true, if_false, if_true]
        rw [e1, e2]
        exact congrArg (x :: ·) ih

/-- The row behind a Join. -/
theorem joinL_eq {L : List Wn} {s : Sp} (h : Rise (L.map Wn.sp)) (hs : s.a < s.b) (m hh : Int) : joinL L s m hh = L.filter (aheadW s) ++ [madeW m s hh (L.filter (onW s))] ++ L.filter (behindW s) := by
  have e := split3 L s h hs
  have ef : fromR L s = (L.filter (aheadW s)).length := rfl
  have eo : ovR L s = (L.filter (onW s)).length := rfl
  have e1 : L.take (fromR L s) = L.filter (aheadW s) := by
    rw [ef]; conv => lhs; arg 2; rw [e]
    exact List.take_left' rfl
  have e2 : L.drop (fromR L s) = L.filter (onW s) ++ L.filter (behindW s) := by
    rw [ef]; conv => lhs; arg 2; rw [e]
    exact List.drop_left' rfl
  have e3 : (L.drop (fromR L s)).take (ovR L s) = L.filter (onW s) := by rw [e2, eo]; exact List.take_left' rfl
  have e4 : L.drop (fromR L s + ovR L s) = L.filter (behindW s) := by rw [← List.drop_drop, e2, eo]; exact List.drop_left' rfl
  unfold joinL midR
  rw [e1, e3, e4]

theorem made_sp (m : Int) (s : Sp) (h : Int) (L : List Wn) : (madeW m s h (L.filter (onW s))).sp = (inM (fun _ x => over x s) (L.map Wn.sp) s).1 := by
  have key : ∀ (L : List Wn) (x0 : Wn) (p : Sp × List Sp), x0.sp = p.1 → ((L.filter (onW s)).foldl (accW m) x0).sp = ((L.map Wn.sp).foldl (fun p x => metS (over x s) p x) p).1 := by
    intro L
    induction L with
    | nil => intro x0 p e; exact e
    | cons y L ih =>
      intro x0 p e
      cases ho : over y.sp s with
      | true =>
        have e1 : (y :: L).filter (onW s) = y :: L.filter (onW s) := by rw [List.filter_cons, if_pos (show onW s y = true from ho)]
        rw [e1, List.foldl_cons, List.map_cons, List.foldl_cons]
        refine ih _ _ ?_
        rw [ho]
        show (⟨min x0.a y.a, max x0.b y.b⟩ : Sp) = _
        simp only [metS, if_true]
        rw [← e]
      | false =>
        have e1 : (y :: L).filter (onW s) = L.filter (onW s) := by rw [List.filter_cons, if_neg (show ¬ onW s y = true by rw [show onW s y = false from ho]; simp)]
        rw [e1, List.map_cons, List.foldl_cons]
        refine ih _ _ ?_
        rw [ho]
        exact e
  exact key L ⟨s.a, s.b, h, tl0, 0, 0⟩ (s, []) rfl

theorem putS_mid (X Y : List Sp) (p : Sp) (hX : ∀ x ∈ X, x.a < p.a) (hY : ∀ y ∈ Y, ¬ y.a < p.a) : putS (X ++ Y) p = X ++ [p] ++ Y := by
  induction X with
  | nil =>
    cases Y with
    | nil => rfl
    | cons y Y => rw [List.nil_append, putS_cons, if_neg (hY y (by simp))]; rfl
  | cons x X ih =>
    rw [List.cons_append, putS_cons, if_pos (hX x (by simp)), ih (fun z hz => hX z (by simp [hz]))]
    rfl

/-- The spans of the row behind a Join: those that Gaps makes of them. -/
theorem joinL_sp {L : List Wn} {s : Sp} (h : Rise (L.map Wn.sp)) (hs : s.a < s.b) (m hh : Int) : (joinL L s m hh).map Wn.sp = oneM (fun _ x => over x s) (L.map Wn.sp) s := by
  obtain ⟨tk, e2⟩ := inM_fix (fun x => over x s) (L.map Wn.sp) s
  rw [joinL_eq h hs]
  unfold oneM
  rw [e2, List.map_append, List.map_append, List.map_cons, made_sp]
  have hap := took_apart h hs tk
  have l1 := tk.la
  have l2 := tk.lb
  generalize (inM (fun _ x => over x s) (L.map Wn.sp) s).1 = p at *
  have ef : (L.map Wn.sp).filter (fun x => !over x s) = (L.filter (aheadW s)).map Wn.sp ++ (L.filter (behindW s)).map Wn.sp := by
    conv => lhs; rw [split3 L s h hs]
    simp only [List.map_append, List.filter_append]
    have f1 : ((L.filter (aheadW s)).map Wn.sp).filter (fun x => !over x s) = (L.filter (aheadW s)).map Wn.sp := List.filter_eq_self.2 fun x hx => by
      obtain ⟨y, hy, rfl⟩ := List.mem_map.1 hx
      have := (List.mem_filter.1 hy).2
      unfold aheadW at this
      simp only [Bool.and_eq_true] at this
      exact this.1
    have f2 : ((L.filter (onW s)).map Wn.sp).filter (fun x => !over x s) = [] := List.filter_eq_nil_iff.2 fun x hx => by
      obtain ⟨y, hy, rfl⟩ := List.mem_map.1 hx
      have : over y.sp s = true := (List.mem_filter.1 hy).2
      rw [this]; simp
    have f3 : ((L.filter (behindW s)).map Wn.sp).filter (fun x => !over x s) = (L.filter (behindW s)).map Wn.sp := List.filter_eq_self.2 fun x hx => by
      obtain ⟨y, hy, rfl⟩ := List.mem_map.1 hx
      have := (List.mem_filter.1 hy).2
      unfold behindW at this
      simp only [Bool.and_eq_true] at this
      exact this.1
    rw [f1, f2, f3, List.nil_append]
  rw [ef, putS_mid]
  · rfl
  · intro x hx
    obtain ⟨y, hy, rfl⟩ := List.mem_map.1 hx
    obtain ⟨hy, hf⟩ := List.mem_filter.1 hy
    unfold aheadW at hf
    simp only [Bool.and_eq_true, Bool.not_eq_true', decide_eq_true_eq] at hf
    have hm : y.sp ∈ L.map Wn.sp := List.mem_map.2 ⟨y, hy, rfl⟩
    have hyl := h.2 _ hm
    have := hap _ hm hf.1
    simp only at this hyl ⊢
    omega
  · intro x hx
    obtain ⟨y, hy, rfl⟩ := List.mem_map.1 hx
    obtain ⟨hy, hf⟩ := List.mem_filter.1 hy
    unfold behindW at hf
    simp only [Bool.and_eq_true, Bool.not_eq_true', decide_eq_false_iff_not] at hf
    have hm : y.sp ∈ L.map Wn.sp := List.mem_map.2 ⟨y, hy, rfl⟩
    have hyl := h.2 _ hm
    have := hap _ hm hf.1
    simp only at this hyl ⊢
    omega

end Go.Proofs.YtbhofihikimgeaaRR
