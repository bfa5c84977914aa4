/- Plain mathematics: the frames with which bytes begin. -/
import Derived.Test.YtfeifobljgmkkaaDoorFMath
namespace Go.Proofs.YtfeifobljgmkkaaDoor
open Go.RowKit Crcx

/-- Frames, one behind the other. -/
def rowF (l : List (Int × List Int)) : List Int := l.flatMap fun x => frm x.1 x.2

structure FrOk (x : Int × List Int) : Prop where
  tag : 0 ≤ x.1 ∧ x.1 ≤ 255
  in8 : In8 x.2
  len : x.2.length ≤ 268435456

/-- The frames l with which b begins, up to the place p; what is wrong there. -/
structure Heads (b : List Int) (l : List (Int × List Int)) (p e : Nat) : Prop where
  row : rowF l = b.take p
  ok : ∀ x ∈ l, FrOk x
  le : p ≤ b.length
  stop : (e = 0 ∧ p = b.length) ∨ (e ≠ 0 ∧ e = (readF (b.drop p)).err ∧ p < b.length)

theorem rowF_nil : rowF [] = [] := rfl
theorem rowF_cons (x : Int × List Int) (l : List (Int × List Int)) : rowF (x :: l) = frm x.1 x.2 ++ rowF l := rfl
theorem rowF_append (a b : List (Int × List Int)) : rowF (a ++ b) = rowF a ++ rowF b := by unfold rowF; rw [List.flatMap_append]

theorem frm_pos (tag : Int) (body : List Int) : 6 ≤ (frm tag body).length := by rw [frm_len]; have := fsize_lt body.length; omega

/-- Frames are read in one way only. -/
theorem heads_one : ∀ (l l' : List (Int × List Int)) (b : List Int) (p p' e e' : Nat), Heads b l p e → Heads b l' p' e' → l = l' ∧ p = p' ∧ e = e'
  | [], [], b, p, p', e, e', h, h' => by
    have a : p = 0 := by
      have := congrArg List.length h.row
      rw [rowF_nil, List.length_take] at this
      have := h.le
      simp at *; omega
    have a' : p' = 0 := by
      have := congrArg List.length h'.row
      rw [rowF_nil, List.length_take] at this
      have := h'.le
      simp at *; omega
    subst a a'
    refine ⟨rfl, rfl, ?_⟩
    rcases h.stop with ⟨h1, h2⟩ | ⟨h1, h2, h3⟩ <;> rcases h'.stop with ⟨g1, g2⟩ | ⟨g1, g2, g3⟩
    · omega
    · omega
    · omega
    · rw [h2, g2]
  | [], x :: l', b, p, p', e, e', h, h' => by
    exfalso
    have a : p = 0 := by
      have := congrArg List.length h.row
      rw [rowF_nil, List.length_take] at this
      have := h.le
      simp at *; omega
    subst a
    have hx := h'.ok x (by simp)
    have hb : b = frm x.1 x.2 ++ (rowF l' ++ b.drop p') := by
      have := h'.row
      rw [rowF_cons] at this
      rw [← List.append_assoc, this, List.take_append_drop]
    have hr := readF_frm hx.tag hx.in8 hx.len (rowF l' ++ b.drop p')
    rw [← hb] at hr
    rcases h.stop with ⟨h1, h2⟩ | ⟨h1, h2, h3⟩
    · have := congrArg List.length hb
      have := frm_pos x.1 x.2
      simp at *; omega
    · rw [List.drop_zero, hr] at h2; exact h1 h2
  | x :: l, [], b, p, p', e, e', h, h' => by
    exfalso
    have a : p' = 0 := by
      have := congrArg List.length h'.row
      rw [rowF_nil, List.length_take] at this
      have := h'.le
      simp at *; omega
    subst a
    have hx := h.ok x (by simp)
    have hb : b = frm x.1 x.2 ++ (rowF l ++ b.drop p) := by
      have := h.row
      rw [rowF_cons] at this
      rw [← List.append_assoc, this, List.take_append_drop]
    have hr := readF_frm hx.tag hx.in8 hx.len (rowF l ++ b.drop p)
    rw [← hb] at hr
    rcases h'.stop with ⟨h1, h2⟩ | ⟨h1, h2, h3⟩
    · have := congrArg List.length hb
      have := frm_pos x.1 x.2
      simp at *; omega
    · rw [List.drop_zero, hr] at h2; exact h1 h2
  | x :: l, x' :: l', b, p, p', e, e', h, h' => by
    have hx := h.ok x (by simp)
    have hx' := h'.ok x' (by simp)
    have hb : b = frm x.1 x.2 ++ (rowF l ++ b.drop p) := by
      have := h.row
      rw [rowF_cons] at this
      rw [← List.append_assoc, this, List.take_append_drop]
    have hb' : b = frm x'.1 x'.2 ++ (rowF l' ++ b.drop p') := by
      have := h'.row
      rw [rowF_cons] at this
      rw [← List.append_assoc, this, List.take_append_drop]
    have hr := readF_frm hx.tag hx.in8 hx.len (rowF l ++ b.drop p)
    have hr' := readF_frm hx'.tag hx'.in8 hx'.len (rowF l' ++ b.drop p')
    rw [← hb] at hr
    rw [← hb'] at hr'
    have e1 : x = x' := by
      have := hr.symm.trans hr'
      injection this with _ h1 h2 _
      exact Prod.ext h1 h2
    subst e1
    have cut : ∀ (l : List (Int × List Int)) (p e : Nat), Heads b (x :: l) p e → b = frm x.1 x.2 ++ (rowF l ++ b.drop p) → Heads (b.drop (frm x.1 x.2).length) l (p - (frm x.1 x.2).length) e ∧ (frm x.1 x.2).length ≤ p := by
      intro l p e h hb
      have hlen : (frm x.1 x.2).length + (rowF l).length = p := by
        have := congrArg List.length h.row
        rw [rowF_cons, List.length_append, List.length_take] at this
        have := h.le
        omega
      have hd : b.drop (frm x.1 x.2).length = rowF l ++ b.drop p := by
        conv => lhs; rw [hb]
        rw [List.drop_append_of_le_length (Nat.le_refl _), List.drop_length, List.nil_append]
      refine ⟨⟨?_, fun y hy => h.ok y (by simp [hy]), ?_, ?_⟩, by omega⟩
      · rw [hd]
        have : p - (frm x.1 x.2).length = (rowF l).length := by omega
        rw [this, List.take_append_of_le_length (Nat.le_refl _), List.take_length]
      · rw [List.length_drop]; have := h.le; omega
      · have := h.le
        rcases h.stop with ⟨h1, h2⟩ | ⟨h1, h2, h3⟩
        · exact .inl ⟨h1, by rw [List.length_drop]; omega⟩
        · refine .inr ⟨h1, ?_, by rw [List.length_drop]; omega⟩
          rw [List.drop_drop]
          have : (frm x.1 x.2).length + (p - (frm x.1 x.2).length) = p := by omega
          rw [this]; exact h2
    obtain ⟨c1, c2⟩ := cut l p e h hb
    obtain ⟨c3, c4⟩ := cut l' p' e' h' hb'
    obtain ⟨r1, r2, r3⟩ := heads_one l l' _ _ _ _ _ c1 c3
    exact ⟨by rw [r1], by omega, r3⟩

/-- One frame more. -/
theorem heads_next {b : List Int} {l : List (Int × List Int)} {p : Nat} (h8 : In8 b) (hrow : rowF l = b.take p) (hok : ∀ x ∈ l, FrOk x) (hp : p ≤ b.length) (hg : (readF (b.drop p)).err = 0) :
    rowF (l ++ [((readF (b.drop p)).tag, (readF (b.drop p)).body)]) = b.take (p + (readF (b.drop p)).size) ∧ (∀ x ∈ l ++ [((readF (b.drop p)).tag, (readF (b.drop p)).body)], FrOk x) ∧ p + (readF (b.drop p)).size ≤ b.length ∧ 6 ≤ (readF (b.drop p)).size ∧ (readF (b.drop p)).size ≤ 268435466 := by
  obtain ⟨h1, h2, h3, h4, h5, h6, h7⟩ := readF_ok (fun x hx => h8 x (List.mem_of_mem_drop hx)) hg
  have h6' := fsize_lt (readF (b.drop p)).body.length
  have h7' := fsize_le h4
  rw [List.length_drop] at h3
  refine ⟨?_, fun x hx => ?_, by omega, by omega, by omega⟩
  · rw [rowF_append, hrow, rowF_cons, rowF_nil, List.append_nil, ← h1, List.take_add]
  · rcases List.mem_append.1 hx with hx | hx
    · exact hok x hx
    · obtain rfl := List.mem_singleton.1 hx
      exact ⟨⟨h5, h6⟩, h7, h4⟩

theorem heads_row {l : List (Int × List Int)} (h : ∀ x ∈ l, FrOk x) : Heads (rowF l) l (rowF l).length 0 := ⟨by rw [List.take_length], h, Nat.le_refl _, .inl ⟨rfl, rfl⟩⟩

end Go.Proofs.YtfeifobljgmkkaaDoor
