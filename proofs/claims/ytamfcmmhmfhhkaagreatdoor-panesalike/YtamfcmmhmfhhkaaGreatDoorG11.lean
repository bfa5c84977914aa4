/- The last panes of their windows: the mathematics. Parse: a pane out of a line (the mathematics). Parse: a pane out of a line (the document's; the walk). Read: panes out of lines (the mathematics). -/
import Derived.Test.YtamfcmmhmfhhkaaGreatDoorG10
import Derived.Test.YtamfcmmhmfhhkaaGreatDoorG8
namespace Go.Proofs.YtamfcmmhmfhhkaaGreatDoor
open Go.RowKit

theorem wLt_iff (p q : Pn) : wLt p q = true ↔ kLt p.k q.k = true ∨ (p.k = q.k ∧ (p.a < q.a ∨ (p.a = q.a ∧ p.b < q.b))) := by
  unfold wLt
  rw [decide_eq_true_iff]
  show (if kLt p.k q.k then -1 else if p.k = q.k then cmpL [p.a, p.b, 0, 0, 0, 0, 0, 0] [q.a, q.b, 0, 0, 0, 0, 0, 0] else 1) < (0 : Int) ↔ _
  by_cases h1 : kLt p.k q.k = true
  · rw [if_pos h1]; exact ⟨fun _ => .inl h1, fun _ => by decide⟩
  · rw [if_neg h1]
    by_cases h2 : p.k = q.k
    · rw [if_pos h2]
      have e0 : cmpL [0, 0, 0, 0, 0, 0] [0, 0, 0, 0, 0, 0] = 0 := cmpL_eq _
      rw [cmpL, cmpL, e0]
      constructor
      · intro h
        refine .inr ⟨h2, ?_⟩
        by_cases a1 : p.a < q.a
        · exact .inl a1
        · rw [if_neg a1] at h
          by_cases a2 : q.a < p.a
          · rw [if_pos a2] at h; omega
          · rw [if_neg a2] at h
            by_cases b1 : p.b < q.b
            · exact .inr ⟨by omega, b1⟩
            · rw [if_neg b1] at h
              split at h <;> omega
      · rintro (h | ⟨-, h | ⟨h, h3⟩⟩)
        · exact absurd h h1
        · rw [if_pos h]; decide
        · rw [if_neg (by omega), if_neg (by omega), if_pos h3]; decide
    · rw [if_neg h2]
      constructor
      · intro h; omega
      · rintro (h | ⟨h, -⟩)
        · exact absurd h h1
        · exact absurd h h2
theorem sameW_iff (p q : Pn) : sameW p q = true ↔ p.k = q.k ∧ p.a = q.a ∧ p.b = q.b := by
  unfold sameW
  simp
theorem wLt_irr (p : Pn) : wLt p p = false := by
  rw [Bool.eq_false_iff]
  intro h
  rcases (wLt_iff p p).1 h with h | ⟨-, h⟩
  · rw [kLt_self] at h; cases h
  · omega
theorem wLt_trans (a b c : Pn) (h : wLt a b = true) (h2 : wLt b c = true) : wLt a c = true := by
  rw [wLt_iff] at *
  rcases h with h | ⟨h, h3⟩
  · rcases h2 with h2 | ⟨h2, h4⟩
    · exact .inl (kLt_trans h h2)
    · exact .inl (by rw [← h2]; exact h)
  · rcases h2 with h2 | ⟨h2, h4⟩
    · exact .inl (by rw [h]; exact h2)
    · exact .inr ⟨h.trans h2, by omega⟩
theorem wLt_tri (a b : Pn) : wLt a b = true ∨ sameW a b = true ∨ wLt b a = true := by
  rw [wLt_iff, wLt_iff, sameW_iff]
  rcases kLt_tri a.k b.k with h | h | h
  · exact .inl (.inl h)
  · rcases (by omega : a.a < b.a ∨ b.a < a.a ∨ (a.a = b.a ∧ a.b < b.b) ∨ (a.a = b.a ∧ b.b < a.b) ∨ (a.a = b.a ∧ a.b = b.b)) with h2 | h2 | h2 | h2 | h2
    · exact .inl (.inr ⟨h, .inl h2⟩)
    · exact .inr (.inr (.inr ⟨h.symm, .inl h2⟩))
    · exact .inl (.inr ⟨h, .inr h2⟩)
    · exact .inr (.inr (.inr ⟨h.symm, .inr ⟨h2.1.symm, h2.2⟩⟩))
    · exact .inr (.inl ⟨h, h2.1, h2.2⟩)
  · exact .inr (.inr (.inl h))
/-- Windows rise. -/
abbrev WRise (O : List Pn) : Prop := O.Pairwise (fun a b => wLt a b = true)
theorem insW_tw (O : List Pn) (p : Pn) : insW O p = O.takeWhile (fun a => wLt a p) ++ [p] ++ O.dropWhile (fun a => wLt a p) := by
  obtain ⟨h1, h2⟩ := tw_take (fun a => wLt a p) O
  unfold insW leadW
  rw [h1, h2]
theorem insW_rise {O : List Pn} {p : Pn} (h : WRise O) (hn : ∀ o ∈ O, sameW p o = false) : WRise (insW O p) ∧ ∀ x, x ∈ insW O p ↔ x ∈ O ∨ x = p := by
  rw [insW_tw]
  have hs : O = O.takeWhile (fun a => wLt a p) ++ O.dropWhile (fun a => wLt a p) := List.takeWhile_append_dropWhile.symm
  refine ⟨ins_rise (lt := wLt) wLt_trans h fun b B e => ?_, fun x => ?_⟩
  · have h1 := dw_head _ e
    rcases wLt_tri p b with h2 | h2 | h2
    · exact h2
    · have := hn b (by rw [hs, e]; simp)
      rw [h2] at this; cases this
    · rw [h2] at h1; cases h1
  · conv => rhs; rw [hs]
    simp only [List.mem_append, List.mem_singleton]
    constructor
    · rintro ((h | h) | h)
      · exact .inl (.inl h)
      · exact .inr h
      · exact .inl (.inr h)
    · rintro ((h | h) | h)
      · exact .inl (.inl h)
      · exact .inr h
      · exact .inl (.inr h)
/-- A pane is the last one of its window. -/
def IsL (L : List Pn) (x : Pn) : Prop := ∃ A B, L = A ++ x :: B ∧ laterP B x = false
theorem IsL.cons {p : Pn} {R : List Pn} {x : Pn} : IsL (p :: R) x ↔ (x = p ∧ laterP R p = false) ∨ IsL R x := by
  constructor
  · rintro ⟨A, B, e, h⟩
    cases A with
    | nil =>
      injection e with e1 e2
      subst e1 e2
      exact .inl ⟨rfl, h⟩
    | cons a A =>
      injection e with e1 e2
      exact .inr ⟨A, B, e2, h⟩
  · rintro (⟨rfl, h⟩ | ⟨A, B, e, h⟩)
    · exact ⟨[], R, rfl, h⟩
    · exact ⟨p :: A, B, by rw [e]; rfl, h⟩
theorem IsL.nil (x : Pn) : ¬ IsL [] x := by
  rintro ⟨A, B, e, -⟩
  cases A <;> cases e
theorem laterP_cons (p : Pn) (R : List Pn) (x : Pn) : laterP (p :: R) x = (sameW p x || laterP R x) := rfl
theorem lastF_rise : ∀ (R O : List Pn), WRise O → (∀ o ∈ O, laterP R o = false) → WRise (lastF O R) ∧ ∀ x, x ∈ lastF O R ↔ x ∈ O ∨ IsL R x
  | [], O, h, _ => ⟨h, fun x => ⟨.inl, fun h => h.elim id fun h => absurd h (IsL.nil x)⟩⟩
  | p :: R, O, h, hn => by
    have hn1 : ∀ o ∈ O, sameW p o = false ∧ laterP R o = false := fun o ho => by
      have := hn o ho
      rw [laterP_cons, Bool.or_eq_false_iff] at this
      exact this
    show WRise (lastF (if laterP R p then O else insW O p) R) ∧ ∀ x, x ∈ lastF (if laterP R p then O else insW O p) R ↔ _
    cases hl : laterP R p with
    | true =>
      obtain ⟨h1, h2⟩ := lastF_rise R O h fun o ho => (hn1 o ho).2
      refine ⟨h1, fun x => ?_⟩
      rw [if_pos rfl, h2, IsL.cons, hl]
      simp
    | false =>
      obtain ⟨i1, i2⟩ := insW_rise h fun o ho => (hn1 o ho).1
      obtain ⟨h1, h2⟩ := lastF_rise R (insW O p) i1 fun o ho => by
        rcases (i2 o).1 ho with h3 | rfl
        · exact (hn1 o h3).2
        · exact hl
      rw [if_neg (by simp)]
      refine ⟨h1, fun x => ?_⟩
      rw [h2, i2, IsL.cons, hl]
      constructor
      · rintro ((h | h) | h)
        · exact .inl h
        · exact .inr (.inl ⟨h, rfl⟩)
        · exact .inr (.inr h)
      · rintro (h | ⟨h, -⟩ | h)
        · exact .inl (.inl h)
        · exact .inl (.inr h)
        · exact .inr h
theorem last_rise (L : List Pn) : WRise (lastP L) := (lastF_rise L [] List.Pairwise.nil (fun o ho => by cases ho)).1
theorem last_mem (L : List Pn) (x : Pn) : x ∈ lastP L ↔ IsL L x := by
  have := (lastF_rise L [] List.Pairwise.nil (fun o ho => by cases ho)).2 x
  simpa [lastP] using this
/-- Whoever rises and has these panes is it. -/
theorem last_one {L O : List Pn} (h : WRise O) (hm : ∀ x, x ∈ O ↔ IsL L x) : O = lastP L := rising_ext wLt_irr wLt_trans h (last_rise L) fun x => by rw [hm, last_mem]
theorem later_of {R : List Pn} {x : Pn} : laterP (ofP R x.k) x = laterP R x := by
  unfold laterP ofP
  rw [List.any_filter]
  congr 1
  funext q
  unfold sameW
  by_cases h : q.k = x.k <;> simp [h]
theorem isL_of : ∀ {L : List Pn} {x : Pn}, IsL (ofP L x.k) x ↔ IsL L x
  | [], x => Iff.rfl
  | p :: R, x => by
    have ih := isL_of (L := R) (x := x)
    by_cases h : p.k = x.k
    · have e : ofP (p :: R) x.k = p :: ofP R x.k := by unfold ofP; rw [List.filter_cons, if_pos (decide_eq_true h)]
      rw [e, IsL.cons, IsL.cons, ih]
      have e2 : laterP (ofP R x.k) p = laterP R p := by rw [← h]; exact later_of
      rw [e2]
    · have e : ofP (p :: R) x.k = ofP R x.k := by unfold ofP; rw [List.filter_cons, if_neg (by simp [h])]
      rw [e, ih, IsL.cons]
      constructor
      · exact .inr
      · rintro (⟨rfl, -⟩ | h2)
        · exact absurd rfl h
        · exact h2
theorem last_same {L M : List Pn} (h : ∀ k, ofP L k = ofP M k) : lastP L = lastP M := last_one (last_rise L) fun x => by rw [last_mem, ← isL_of, h, isL_of]
/-- Two of them behind one another. -/
theorem last_two {L : List Pn} {i : Nat} (hi : i + 1 < (lastP L).length) : kLt ((lastP L).getD (i + 1) pn0).k ((lastP L).getD i pn0).k = false ∧ sameW ((lastP L).getD i pn0) ((lastP L).getD (i + 1) pn0) = false := by
  have h := List.pairwise_iff_getElem.1 (last_rise L) i (i + 1) (by omega) hi (by omega)
  rw [List.getD_eq_getElem?_getD, List.getD_eq_getElem?_getD, List.getElem?_eq_getElem hi, List.getElem?_eq_getElem (by omega)]
  show kLt (lastP L)[i + 1].k (lastP L)[i].k = false ∧ sameW (lastP L)[i] (lastP L)[i + 1] = false
  rw [wLt_iff] at h
  constructor
  · rcases h with h | ⟨h, -⟩
    · exact kLt_asymm h
    · rw [h]; exact kLt_self _
  · rw [Bool.eq_false_iff]
    intro h2
    rw [sameW_iff] at h2
    rcases h with h | ⟨-, h⟩
    · rw [h2.1, kLt_self] at h; cases h
    · omega

end Go.Proofs.YtamfcmmhmfhhkaaGreatDoor

namespace Go.Proofs.YtamfcmmhmfhhkaaGreatDoor
open Go.RowKit

/-- Pieces with blanks between them. -/
def jn : List (List UInt8) → List UInt8
  | [] => []
  | [x] => x
  | x :: y :: r => x ++ 32 :: jn (y :: r)
theorem ptL_ne (cur r : List UInt8) : ∃ y t, ptL cur r = y :: t := by
  induction r generalizing cur with
  | nil => exact ⟨cur, [], rfl⟩
  | cons b r ih =>
    rw [ptL_cons]
    split
    · exact ⟨_, _, rfl⟩
    · exact ih _
theorem jn_cons (x : List UInt8) {l : List (List UInt8)} (h : l ≠ []) : jn (x :: l) = x ++ 32 :: jn l := by
  cases l with
  | nil => exact absurd rfl h
  | cons y t => rfl
theorem n32 {b : UInt8} (h : b.toNat = 32) : b = 32 := UInt8.toNat_inj.1 (by rw [h]; rfl)
theorem jn_ptL : ∀ (r cur : List UInt8), jn (ptL cur r) = cur ++ r
  | [], cur => by simp [ptL, jn]
  | b :: r, cur => by
    rw [ptL_cons]
    split
    · rename_i h
      obtain ⟨y, t, e⟩ := ptL_ne [] r
      rw [jn_cons cur (by rw [e]; simp), jn_ptL r [], n32 h]
      rfl
    · rw [jn_ptL r (cur ++ [b])]
      simp
theorem ptL_skip : ∀ (x cur r : List UInt8), (∀ b ∈ x, b ≠ 32) → ptL cur (x ++ r) = ptL (cur ++ x) r
  | [], cur, r, _ => by simp
  | b :: x, cur, r, h => by
    rw [List.cons_append, ptL_cons, if_neg (fun e => h b (by simp) (n32 e)), ptL_skip x _ r (fun c hc => h c (by simp [hc]))]
    simp
theorem ptL_jn : ∀ (L : List (List UInt8)), L ≠ [] → (∀ x ∈ L, ∀ b ∈ x, b ≠ 32) → ptL [] (jn L) = L
  | [], h, _ => absurd rfl h
  | [x], _, h => by
    have := ptL_skip x [] [] (h x (by simp))
    rw [List.append_nil] at this
    show ptL [] x = [x]
    rw [this]
    rfl
  | x :: y :: r, _, h => by
    rw [jn_cons x (by simp), ptL_skip x [] _ (h x (by simp)), List.nil_append, ptL_cons, if_pos (by decide), ptL_jn (y :: r) (by simp) (fun z hz => h z (by simp [hz]))]

/-- What stands behind a line's key. -/
def tlP (p : Pn) : List (List UInt8) := [] :: (nameB p.d).toList :: (numsP p).map fun x => (intB x).toList
theorem blB_list : blB.toList = [32] := by rw [ByteArray.toList_eq]; rfl
theorem line_split (p : Pn) : (lineB p).toList = qk p.k ++ jn (tlP p) := by
  unfold lineB
  simp only [txL, ap_toList, blB_list, qk_list]
  simp [tlP, jn, numsP]
theorem nameB_no (d : Int) : ∀ b ∈ (nameB d).toList, b ≠ 32 := by
  unfold nameB
  split
  · rw [ByteArray.toList_eq]; decide
  · split
    · rw [ByteArray.toList_eq]; decide
    · rw [ByteArray.toList_eq]; decide
theorem intB_no (x : Int) : ∀ b ∈ (intB x).toList, b ≠ 32 := by
  intro b hb h
  subst h
  rw [intB_list] at hb
  rcases List.mem_append.1 hb with hb | hb
  · split at hb
    · simp at hb
    · cases hb
  · exact absurd (dec_byte _ _ hb).1 (by decide)
theorem tlP_no (p : Pn) : ∀ x ∈ tlP p, ∀ b ∈ x, b ≠ 32 := by
  intro x hx
  unfold tlP at hx
  rcases List.mem_cons.1 hx with rfl | hx
  · intro b hb; cases hb
  · rcases List.mem_cons.1 hx with rfl | hx
    · exact nameB_no _
    · obtain ⟨y, -, rfl⟩ := List.mem_map.1 hx
      exact intB_no y
theorem tlP_pt (p : Pn) : ptL [] (jn (tlP p)) = tlP p := ptL_jn _ (by unfold tlP; simp) (tlP_no p)

/-- A reader of a quoted key comes to its end. -/
theorem qk_reach {s k : ByteArray} {r : List UInt8} (h : s.toList = qk k ++ r) : ∀ j, j ≤ k.size → KI s (quoL k j).length ((bsL k).take j)
  | 0, _ => by
    have := KI.start s
    rw [show (quoL k 0).length = 1 by simp [quoL], List.take_zero]
    exact this
  | j + 1, hj => by
    have ih := qk_reach h j (by omega)
    rcases KI.cases h (by omega : j ≤ k.size) rfl with ⟨e, -, -⟩ | ⟨c, hc, -, ht, hq, rest, q⟩
    · omega
    · by_cases hp : 32 ≤ c ∧ c ≤ 126 ∧ c ≠ 34 ∧ c ≠ 92
      · rw [esc_plain hp] at q hq
        obtain ⟨hi, h4, -⟩ := head_at q
        have := tbN_nat (n := (c : Int)) (by omega) (by omega)
        have hb : (s[(quoL k j).length]'hi).toNat = c := by rw [h4]; omega
        rw [ht, hq]
        exact KI.plain ih hi hb hp.2.2.1 hp.2.2.2
      · rw [esc_four hp] at q hq
        obtain ⟨hi, h4, -⟩ := head_at q
        have hb : (s[(quoL k j).length]'hi).toNat = 92 := by rw [h4]; rfl
        rw [hq]
        intro k2 r2 h2
        obtain ⟨l4, -, -, j2, g1, g2, g3⟩ := KI.esc ih hi hb k2 r2 h2
        obtain ⟨l4', -, -, j1, f1, f2, f3⟩ := KI.esc ih hi hb k r h
        refine ⟨j2, g1, g2, ?_⟩
        rw [← g3, ht]
        congr 1
        have e1 : (quoL k j1).length = (quoL k (j + 1)).length := by rw [hq, ← f2]; rfl
        have l1 : ((bsL k).take j1).length = j + 1 := by rw [← f3, List.length_append, List.length_take, bsL_len]; simp; omega
        have l2 : j1 = j + 1 := by rw [List.length_take, bsL_len] at l1; omega
        rw [l2, ht] at f3
        exact (List.append_cancel_left f3).symm
theorem qk_inj {k k' : ByteArray} {r r' : List UInt8} (h : qk k ++ r = qk k' ++ r') : k = k' ∧ r = r' := by
  obtain ⟨s, hs⟩ : ∃ s : ByteArray, s.toList = qk k ++ r := ⟨⟨(qk k ++ r).toArray⟩, by rw [ByteArray.toList_eq]⟩
  have hR := qk_reach hs k.size (Nat.le_refl _)
  rcases KI.cases hs (Nat.le_refl k.size) rfl with ⟨-, q, q2⟩ | ⟨c, -, hlt, -⟩
  · obtain ⟨hi, h4, -⟩ := head_at q
    obtain ⟨e1, e2⟩ := KI.last hR hi (by rw [h4]; rfl) k' r' (hs.trans h)
    rw [List.take_of_length_le (by rw [bsL_len]; omega)] at e1
    have e : k = k' := by rw [← strOf_bs k, e1, strOf_bs]
    subst e
    exact ⟨rfl, List.append_cancel_left h⟩
  · omega

/-- What a line can be read as. -/
def ParR (s : ByteArray) : Option Pn → Prop
  | some p => mayP p = true ∧ NumOk p ∧ lineB p = s
  | none => ∀ p, mayP p = true → NumOk p → lineB p ≠ s
theorem may_kind {p : Pn} (h : mayP p = true) : 1 ≤ p.d ∧ p.d ≤ 3 := by
  unfold mayP at h
  exact (of_decide_eq_true h).2
theorem name_inj {d e : Int} (h1 : 1 ≤ d ∧ d ≤ 3) (h2 : 1 ≤ e ∧ e ≤ 3) (h : (nameB d).toList = (nameB e).toList) : d = e := by
  rw [ByteArray.toList_eq, ByteArray.toList_eq] at h
  rcases (by omega : d = 1 ∨ d = 2 ∨ d = 3) with rfl | rfl | rfl <;> rcases (by omega : e = 1 ∨ e = 2 ∨ e = 3) with rfl | rfl | rfl <;> first | rfl | (exact absurd h (by decide))
theorem int_inj {x y : Int} (h : (intB x).toList = (intB y).toList) : x = y := by
  have := congrArg numV (ba_ext h)
  rwa [numV_int, numV_int] at this
theorem line_inj {p q : Pn} (hp : mayP p = true) (hq : mayP q = true) (h : lineB p = lineB q) : p = q := by
  have h2 : qk p.k ++ jn (tlP p) = qk q.k ++ jn (tlP q) := by rw [← line_split, ← line_split, h]
  obtain ⟨hk, ht⟩ := qk_inj h2
  have h3 : tlP p = tlP q := by rw [← tlP_pt p, ← tlP_pt q, ht]
  obtain ⟨k, a, b, d, n, ⟨c0, c1, c2, c3⟩⟩ := p
  obtain ⟨k', a', b', d', n', ⟨c0', c1', c2', c3'⟩⟩ := q
  unfold tlP at h3
  simp only [numsP, List.map_cons, List.map_nil, List.cons.injEq, and_true, true_and] at h3
  obtain ⟨e0, e1, e2, e3, e4, e5, e6, e7⟩ := h3
  have := name_inj (may_kind hp) (may_kind hq) e0
  have i1 := int_inj e1
  have i2 := int_inj e2
  have i3 := int_inj e3
  have i4 := int_inj e4
  have i5 := int_inj e5
  have i6 := int_inj e6
  have i7 := int_inj e7
  simp only at hk this i1 i2 i3 i4 i5 i6 i7
  subst hk this i1 i2 i3 i4 i5 i6 i7
  rfl
theorem ParR.one {s : ByteArray} {o o' : Option Pn} (h : ParR s o) (h' : ParR s o') : o = o' := by
  cases o with
  | none =>
    cases o' with
    | none => rfl
    | some q => exact absurd h'.2.2 (h q h'.1 h'.2.1)
  | some p =>
    cases o' with
    | none => exact absurd h.2.2 (h' p h.1 h.2.1)
    | some q => rw [line_inj h.1 h'.1 (h.2.2.trans h'.2.2.symm)]

/-- A line and what its parts are. -/
theorem par_iff {s k : ByteArray} {n : Nat} {L : List ByteArray} (hk : KeyR s k n) (hn : n ≠ 0) (hL : L.map (·.toList) = ptB (s.extract n s.size)) (p : Pn) : lineB p = s ↔ k = p.k ∧ L.map (·.toList) = tlP p := by
  obtain ⟨h1, -, h3, h4⟩ := hk
  have hd : (s.extract n s.size).toList = s.toList.drop n := by
    rw [ex_toList, List.take_of_length_le (by rw [List.length_drop, tl_len]; omega)]
  have hs : s.toList = qk k ++ s.toList.drop n := by rw [← h3 hn, List.take_append_drop]
  constructor
  · intro e
    have e2 : s.toList = qk p.k ++ jn (tlP p) := by rw [← e, line_split]
    obtain ⟨q1, q2⟩ := h4 _ _ e2
    refine ⟨q1, ?_⟩
    rw [hL]
    unfold ptB
    rw [hd]
    have e3 : s.toList.drop n = jn (tlP p) := by
      rw [q1, e2] at hs
      exact (List.append_cancel_left (hs.trans (by rw [← e2]))).symm
    rw [e3, tlP_pt]
  · rintro ⟨rfl, e⟩
    apply ba_ext
    rw [line_split, ← e, hL]
    unfold ptB
    rw [jn_ptL, List.nil_append, hd]
    exact hs.symm

/-- The kind of a word: the last of the first m. -/
def kdN (t : ByteArray) : Nat → Int
  | 0 => 0
  | m + 1 => if nameB ((m : Int) + 1) = t then (m : Int) + 1 else kdN t m
theorem kdN_some {t : ByteArray} : ∀ m, kdN t m = 0 ∨ (1 ≤ kdN t m ∧ kdN t m ≤ m ∧ nameB (kdN t m) = t)
  | 0 => .inl rfl
  | m + 1 => by
    rw [kdN]
    split
    · right; refine ⟨by omega, by omega, by assumption⟩
    · rcases kdN_some (t := t) m with h | ⟨h1, h2, h3⟩
      · exact .inl h
      · exact .inr ⟨h1, by omega, h3⟩
theorem kdN_name {d : Int} (h : 1 ≤ d ∧ d ≤ 3) : kdN (nameB d) 3 = d := by
  rcases (by omega : d = 1 ∨ d = 2 ∨ d = 3) with rfl | rfl | rfl <;> decide

end Go.Proofs.YtamfcmmhmfhhkaaGreatDoor

namespace Go.Proofs.YtamfcmmhmfhhkaaGreatDoor
open Go.RowKit

def parV : Option Pn → Value
  | some p => .tuple #[pnv p, .bool true]
  | none => .tuple #[pnv pn0, .bool false]
theorem jn_pos (p : Pn) : 0 < (jn (tlP p)).length := by
  unfold tlP
  rw [jn_cons _ (by simp)]
  simp
theorem par_early {s k : ByteArray} {n : Nat} (hk : KeyR s k n) (h : n = 0 ∨ s.size ≤ n) : ParR s none := fun p _ _ e => by
  have e2 : s.toList = qk p.k ++ jn (tlP p) := by rw [← e, line_split]
  obtain ⟨-, q2⟩ := hk.2.2.2 _ _ e2
  have l1 := congrArg List.length e2
  rw [List.length_append, tl_len, qk_len] at l1
  have := jn_pos p
  have h3 : 0 < (quoA p.k).length := by unfold quoA quoL; simp
  omega
theorem par_short {s k : ByteArray} {n : Nat} {L : List ByteArray} (hk : KeyR s k n) (hn : n ≠ 0) (hL : L.map (·.toList) = ptB (s.extract n s.size)) (h : L.length ≠ 9 ∨ (L.getD 0 ⟨#[]⟩).toList ≠ []) : ParR s none := fun p _ _ e => by
  obtain ⟨-, q⟩ := (par_iff hk hn hL p).1 e
  have l1 := congrArg List.length q
  rw [List.length_map] at l1
  have l2 : (tlP p).length = 9 := rfl
  rcases h with h | h
  · omega
  · cases L with
    | nil => simp at l1; omega
    | cons x L =>
      unfold tlP at q
      rw [List.map_cons] at q
      injection q with q1 q2
      exact h q1
theorem ptL_le : ∀ (r cur : List UInt8), ∀ z ∈ ptL cur r, z.length ≤ cur.length + r.length
  | [], cur, z, h => by simp [ptL] at h; subst h; simp
  | b :: r, cur, z, h => by
    rw [ptL_cons] at h
    split at h
    · rcases List.mem_cons.1 h with rfl | h
      · omega
      · have := ptL_le r [] z h
        simp only [List.length_nil, List.length_cons] at *
        omega
    · have := ptL_le r (cur ++ [b]) z h
      simp only [List.length_append, List.length_cons, List.length_nil] at *
      omega
theorem pc_size {L : List ByteArray} {t : ByteArray} (h : L.map (·.toList) = ptB t) (ht : t.size ≤ 900000) (j : Nat) : (L.getD j ⟨#[]⟩).size ≤ 900000 := by
  rw [List.getD_eq_getElem?_getD]
  by_cases hj : j < L.length
  · rw [List.getElem?_eq_getElem hj]
    have hm : L[j].toList ∈ ptB t := by rw [← h]; exact List.mem_map.2 ⟨L[j], List.getElem_mem hj, rfl⟩
    have := ptL_le _ _ _ hm
    rw [tl_len, tl_len] at this
    simp only [List.length_nil] at this
    show L[j].size ≤ _
    omega
  · rw [List.getElem?_eq_none (by omega)]
    show (0 : Nat) ≤ _
    omega
/-- Seven numbers. -/
abbrev f7c (f : Nat → Int) : Array Value := #[.int .i64 (f 0), .int .i64 (f 1), .int .i64 (f 2), .int .i64 (f 3), .int .i64 (f 4), .int .i64 (f 5), .int .i64 (f 6)]
theorem f7_cells {w : World} {b : Nat} {f : Nat → Int} {ty : TypeId} (h : w.heap[b]? = some (.cells (f7c f) ty (0, 0))) (j : Nat) (hj : j < 7) : w.cell? ⟨b, j, none⟩ = some (.int .i64 (f j)) := by
  rcases (by omega : j = 0 ∨ j = 1 ∨ j = 2 ∨ j = 3 ∨ j = 4 ∨ j = 5 ∨ j = 6) with rfl | rfl | rfl | rfl | rfl | rfl | rfl <;> simp [World.cell?, h]
def upG (f : Nat → Int) (j : Nat) (v : Int) : Nat → Int := fun k => if k = j then v else f k
theorem f7c_up (f : Nat → Int) (j : Nat) (v : Int) (hj : j < 7) : (f7c f).setIfInBounds j (.int .i64 v) = f7c (upG f j v) := by
  rcases (by omega : j = 0 ∨ j = 1 ∨ j = 2 ∨ j = 3 ∨ j = 4 ∨ j = 5 ∨ j = 6) with rfl | rfl | rfl | rfl | rfl | rfl | rfl <;> rfl
def ynF (L : List ByteArray) (j : Nat) : Int := (numP (L.getD (2 + j) ⟨#[]⟩)).getD 0
def yF (L : List ByteArray) (i : Nat) : Nat → Int := fun k => if k < i then ynF L k else 0
theorem yF_next (L : List ByteArray) (i : Nat) : upG (yF L i) i (ynF L i) = yF L (i + 1) := by
  funext k
  unfold upG yF
  by_cases h : k = i
  · rw [if_pos h, h, if_pos (by omega)]
  · rw [if_neg h]
    by_cases h2 : k < i
    · rw [if_pos h2, if_pos (by omega)]
    · rw [if_neg h2, if_neg (by omega)]
theorem yF_zero (L : List ByteArray) : yF L 0 = fun _ => 0 := by
  funext k
  unfold yF
  rw [if_neg (by omega)]
/-- The pane that a line's parts tell. -/
def parQ (k : ByteArray) (L : List ByteArray) : Pn := ⟨k, ynF L 0, ynF L 1, kdN (L.getD 1 ⟨#[]⟩) 3, ynF L 2, ⟨ynF L 3, ynF L 4, ynF L 5, ynF L 6⟩⟩
theorem list9 {L : List ByteArray} (h : L.length = 9) : ∃ a0 a1 a2 a3 a4 a5 a6 a7 a8, L = [a0, a1, a2, a3, a4, a5, a6, a7, a8] := by
  match L, h with
  | [a0, a1, a2, a3, a4, a5, a6, a7, a8], _ => exact ⟨a0, a1, a2, a3, a4, a5, a6, a7, a8, rfl⟩
theorem num_own {x : Int} (h : I64n x) {t : ByteArray} (e : t.toList = (intB x).toList) : numP t = some x := numP_some.2 ⟨h, (ba_ext e).symm⟩
theorem par_parts {s k : ByteArray} {L : List ByteArray} (PI : ∀ p, lineB p = s ↔ k = p.k ∧ L.map (·.toList) = tlP p) (h9 : L.length = 9) (p : Pn) (hp : NumOk p) (e : lineB p = s) : k = p.k ∧ (L.getD 1 ⟨#[]⟩).toList = (nameB p.d).toList ∧ ∀ j, j < 7 → numP (L.getD (2 + j) ⟨#[]⟩) = some ((numsP p).getD j 0) := by
  obtain ⟨h1, h2⟩ := (PI p).1 e
  obtain ⟨a0, a1, a2, a3, a4, a5, a6, a7, a8, rfl⟩ := list9 h9
  refine ⟨h1, ?_⟩
  unfold tlP at h2
  simp only [numsP, List.map_cons, List.map_nil, List.cons.injEq, and_true] at h2
  obtain ⟨-, e1, e2, e3, e4, e5, e6, e7, e8⟩ := h2
  refine ⟨e1, fun j hj => ?_⟩
  have hI : I64n ((numsP p).getD j 0) := hp j hj
  rcases (by omega : j = 0 ∨ j = 1 ∨ j = 2 ∨ j = 3 ∨ j = 4 ∨ j = 5 ∨ j = 6) with rfl | rfl | rfl | rfl | rfl | rfl | rfl
  · exact num_own hI e2
  · exact num_own hI e3
  · exact num_own hI e4
  · exact num_own hI e5
  · exact num_own hI e6
  · exact num_own hI e7
  · exact num_own hI e8
theorem par_num {s k : ByteArray} {L : List ByteArray} (PI : ∀ p, lineB p = s ↔ k = p.k ∧ L.map (·.toList) = tlP p) (h9 : L.length = 9) {j : Nat} (hj : j < 7) (h : numP (L.getD (2 + j) ⟨#[]⟩) = none) : ParR s none := fun p _ hn e => by
  have := (par_parts PI h9 p hn e).2.2 j hj
  rw [h] at this
  cases this
theorem par_no {s k : ByteArray} {L : List ByteArray} (PI : ∀ p, lineB p = s ↔ k = p.k ∧ L.map (·.toList) = tlP p) (h9 : L.length = 9) (hm : mayP (parQ k L) = false) : ParR s none := fun p hp hn e => by
  obtain ⟨h1, h2, h3⟩ := par_parts PI h9 p hn e
  have hd : kdN (L.getD 1 ⟨#[]⟩) 3 = p.d := by rw [ba_ext h2]; exact kdN_name (may_kind hp)
  have hy : ∀ j, j < 7 → ynF L j = (numsP p).getD j 0 := fun j hj => by unfold ynF; rw [h3 j hj]; rfl
  have : parQ k L = p := by
    unfold parQ
    rw [hd, hy 0 (by omega), hy 1 (by omega), hy 2 (by omega), hy 3 (by omega), hy 4 (by omega), hy 5 (by omega), hy 6 (by omega), h1]
    rfl
  rw [this, hp] at hm
  cases hm
theorem par_yes {s k : ByteArray} {L : List ByteArray} (PI : ∀ p, lineB p = s ↔ k = p.k ∧ L.map (·.toList) = tlP p) (h9 : L.length = 9) (h0 : (L.getD 0 ⟨#[]⟩).toList = []) (hs : ∀ j, j < 7 → numP (L.getD (2 + j) ⟨#[]⟩) = some (ynF L j)) (hm : mayP (parQ k L) = true) : ParR s (some (parQ k L)) := by
  have hn : NumOk (parQ k L) := fun j hj => by
    have e : (numsP (parQ k L)).getD j 0 = ynF L j := by
      rcases (by omega : j = 0 ∨ j = 1 ∨ j = 2 ∨ j = 3 ∨ j = 4 ∨ j = 5 ∨ j = 6) with rfl | rfl | rfl | rfl | rfl | rfl | rfl <;> rfl
    rw [e]
    exact (numP_some.1 (hs j hj)).1
  refine ⟨hm, hn, (PI _).2 ⟨rfl, ?_⟩⟩
  have hd : nameB (kdN (L.getD 1 ⟨#[]⟩) 3) = L.getD 1 ⟨#[]⟩ := by
    have h1 := (may_kind hm).1
    rcases kdN_some (t := L.getD 1 ⟨#[]⟩) 3 with h | ⟨-, -, h⟩
    · unfold parQ at h1; rw [h] at h1; simp at h1
    · exact h
  have hi : ∀ j, j < 7 → (intB (ynF L j)).toList = (L.getD (2 + j) ⟨#[]⟩).toList := fun j hj => by rw [(numP_some.1 (hs j hj)).2]
  have i0 := hi 0 (by omega)
  have i1 := hi 1 (by omega)
  have i2 := hi 2 (by omega)
  have i3 := hi 3 (by omega)
  have i4 := hi 4 (by omega)
  have i5 := hi 5 (by omega)
  have i6 := hi 6 (by omega)
  have e1 : tlP (parQ k L) = [[], (L.getD 1 ⟨#[]⟩).toList, (L.getD 2 ⟨#[]⟩).toList, (L.getD 3 ⟨#[]⟩).toList, (L.getD 4 ⟨#[]⟩).toList, (L.getD 5 ⟨#[]⟩).toList, (L.getD 6 ⟨#[]⟩).toList, (L.getD 7 ⟨#[]⟩).toList, (L.getD 8 ⟨#[]⟩).toList] := by
    unfold tlP parQ
    simp only [numsP, List.map_cons, List.map_nil]
    rw [hd, i0, i1, i2, i3, i4, i5, i6]
  rw [e1]
  obtain ⟨a0, a1, a2, a3, a4, a5, a6, a7, a8, rfl⟩ := list9 h9
  simp only [List.map_cons, List.map_nil]
  have h0' : a0.toList = [] := h0
  rw [h0']
  rfl
/-- A result that lies in a block of its own, one that does not. -/
theorem results_cell_one {P : Program} {fn : Func} {p u : Tmp} {ty : TypeId} (h : fn.results = #[.cell p ty, .tmp u]) (tmps : Array Value) (w : World) (g : Nat) (t : TypeId) (cs : Array Value) (fr : Nat × Nat) (d : TypeDesc)
    (hp : tmps.getD p undef = .pointer (some ⟨g, 0, none⟩)) (hg : w.heap[g]? = some (.cells cs t fr)) (hu : P.underlying ty = some d) (hd : (match d with | .struct _ | .array _ _ => true | _ => false) = true) (hi : (P.info? ty).map (·.size) = some cs.size) (v : Value) (hv : tmps.getD u undef = v) :
    (results fn tmps).run P w = .ok (.tuple #[.agg cs, v]) w := by
  have hp' : tmps[p]?.getD undef = .pointer (some ⟨g, 0, none⟩) := by simpa using hp
  have hv' : tmps[u]?.getD undef = v := by simpa using hv
  simp [results, h, hp', hv', asAddr, run_loadVar_row w g t ty cs fr d hg hu hd hi]

end Go.Proofs.YtamfcmmhmfhhkaaGreatDoor

namespace Go.Proofs.YtamfcmmhmfhhkaaGreatDoor
open Go.RowKit

/-- Lines' bytes, each with a byte 10 behind it. -/
def lnB (L : List Pn) : List UInt8 := L.flatMap fun p => (lineB p).toList ++ [10]
theorem lnB_nil : lnB [] = [] := rfl
theorem lnB_cons (p : Pn) (L : List Pn) : lnB (p :: L) = (lineB p).toList ++ 10 :: lnB L := by
  unfold lnB; rw [List.flatMap_cons, List.append_assoc]; rfl
theorem lnB_app (L M : List Pn) : lnB (L ++ M) = lnB L ++ lnB M := by
  unfold lnB; exact List.flatMap_append
theorem esc_no (c : Nat) (hc : c < 256) : ∀ x ∈ escL (c : Int), tbN x ≠ 10 := by
  intro x hx
  by_cases hp : 32 ≤ c ∧ c ≤ 126 ∧ c ≠ 34 ∧ c ≠ 92
  · rw [esc_plain hp] at hx
    simp only [List.mem_singleton] at hx
    subst hx
    intro h
    have := tbN_nat (n := (c : Int)) (by omega) (by omega)
    rw [h] at this
    have e : (10 : UInt8).toNat = 10 := rfl
    omega
  · rw [esc_four hp] at hx
    simp only [List.mem_cons, List.not_mem_nil, or_false] at hx
    have hh : ∀ n : Int, 0 ≤ n → n < 16 → tbN (hexB n) ≠ 10 := fun n h0 h1 h => by
      have := tbN_nat (hexB_in h0 h1).1 (hexB_in h0 h1).2
      rw [h] at this
      have e : (10 : UInt8).toNat = 10 := rfl
      unfold hexB at this
      split at this <;> omega
    rcases hx with rfl | rfl | rfl | rfl
    · decide
    · decide
    · exact hh _ (by omega) (by omega)
    · exact hh _ (by omega) (by omega)
theorem qk_no (k : ByteArray) : ∀ b ∈ qk k, b ≠ 10 := by
  intro b hb
  unfold qk at hb
  obtain ⟨x, hx, rfl⟩ := List.mem_map.1 hb
  unfold quoA quoL at hx
  rcases List.mem_append.1 hx with hx | hx
  · rcases List.mem_cons.1 hx with rfl | hx
    · decide
    · obtain ⟨u, -, hu⟩ := List.mem_flatMap.1 hx
      exact esc_no u.toNat u.toNat_lt x hu
  · simp only [List.mem_singleton] at hx
    subst hx
    decide
theorem name_no10 (d : Int) : ∀ b ∈ (nameB d).toList, b ≠ 10 := by
  unfold nameB
  split
  · rw [ByteArray.toList_eq]; decide
  · split
    · rw [ByteArray.toList_eq]; decide
    · rw [ByteArray.toList_eq]; decide
theorem int_no10 (x : Int) : ∀ b ∈ (intB x).toList, b ≠ 10 := by
  intro b hb h
  subst h
  rw [intB_list] at hb
  rcases List.mem_append.1 hb with hb | hb
  · split at hb
    · simp at hb
    · cases hb
  · exact absurd (dec_byte _ _ hb).1 (by decide)
theorem jn_no {c : UInt8} (hc : (32 : UInt8) ≠ c) : ∀ (L : List (List UInt8)), (∀ x ∈ L, ∀ b ∈ x, b ≠ c) → ∀ b ∈ jn L, b ≠ c
  | [], _, b, hb => by cases hb
  | [x], h, b, hb => h x (by simp) b hb
  | x :: y :: r, h, b, hb => by
    rw [jn_cons x (by simp)] at hb
    rcases List.mem_append.1 hb with hb | hb
    · exact h x (by simp) b hb
    · rcases List.mem_cons.1 hb with rfl | hb
      · exact hc
      · exact jn_no hc (y :: r) (fun z hz => h z (by simp [hz])) b hb
/-- A line has no byte 10. -/
theorem line_no (p : Pn) : ∀ b ∈ (lineB p).toList, b ≠ 10 := by
  rw [line_split]
  intro b hb
  rcases List.mem_append.1 hb with hb | hb
  · exact qk_no _ b hb
  · refine jn_no (by decide) (tlP p) ?_ b hb
    intro x hx
    unfold tlP at hx
    rcases List.mem_cons.1 hx with rfl | hx
    · intro b hb; cases hb
    · rcases List.mem_cons.1 hx with rfl | hx
      · exact name_no10 _
      · obtain ⟨y, -, rfl⟩ := List.mem_map.1 hx
        exact int_no10 y
/-- Cut at the first byte 10. -/
theorem cut10 : ∀ {A B x y : List UInt8}, (∀ b ∈ A, b ≠ 10) → (∀ b ∈ B, b ≠ 10) → A ++ 10 :: x = B ++ 10 :: y → A = B ∧ x = y
  | [], [], x, y, _, _, h => by simpa using h
  | [], b :: B, x, y, _, hB, h => by
    simp only [List.nil_append, List.cons_append, List.cons.injEq] at h
    exact absurd h.1.symm (hB b (by simp))
  | a :: A, [], x, y, hA, _, h => by
    simp only [List.nil_append, List.cons_append, List.cons.injEq] at h
    exact absurd h.1 (hA a (by simp))
  | a :: A, b :: B, x, y, hA, hB, h => by
    simp only [List.cons_append, List.cons.injEq] at h
    obtain ⟨e1, e2⟩ := cut10 (fun c hc => hA c (by simp [hc])) (fun c hc => hB c (by simp [hc])) h.2
    exact ⟨by rw [h.1, e1], e2⟩

/-- No line stands at the front. -/
def Stk (r : List UInt8) : Prop := ∀ p r', mayP p = true → NumOk p → r ≠ (lineB p).toList ++ 10 :: r'
theorem Stk.nil : Stk [] := fun p r' _ _ h => by
  have := congrArg List.length h
  simp at this
theorem Stk.none10 {r : List UInt8} (h : ∀ b ∈ r, b ≠ 10) : Stk r := fun p r' _ _ e => h 10 (by rw [e]; simp) rfl
/-- What a text is read as: its lines' panes, and what is left where no line stands. -/
structure RdR (s : List UInt8) (L : List Pn) (r : List UInt8) : Prop where
  ok : ∀ p ∈ L, mayP p = true ∧ NumOk p
  eq : s = lnB L ++ r
  st : Stk r
theorem ln_two : ∀ {L L' : List Pn} {r r' : List UInt8}, (∀ p ∈ L, mayP p = true ∧ NumOk p) → (∀ p ∈ L', mayP p = true ∧ NumOk p) → Stk r → Stk r' → lnB L ++ r = lnB L' ++ r' → L = L' ∧ r = r'
  | [], [], r, r', _, _, _, _, h => by simpa [lnB_nil] using h
  | [], q :: L', r, r', _, h2, hr, _, h => by
    rw [lnB_nil, lnB_cons, List.nil_append, List.append_assoc] at h
    exact absurd h (hr q (lnB L' ++ r') (h2 q (by simp)).1 (h2 q (by simp)).2)
  | p :: L, [], r, r', h1, _, _, hr', h => by
    rw [lnB_nil, lnB_cons, List.nil_append, List.append_assoc] at h
    exact absurd h.symm (hr' p (lnB L ++ r) (h1 p (by simp)).1 (h1 p (by simp)).2)
  | p :: L, q :: L', r, r', h1, h2, hr, hr', h => by
    rw [lnB_cons, lnB_cons, List.append_assoc, List.append_assoc] at h
    obtain ⟨e1, e2⟩ := cut10 (line_no p) (line_no q) h
    have hpq := line_inj (h1 p (by simp)).1 (h2 q (by simp)).1 (ba_ext e1)
    obtain ⟨e3, e4⟩ := ln_two (fun x hx => h1 x (by simp [hx])) (fun x hx => h2 x (by simp [hx])) hr hr' e2
    exact ⟨by rw [hpq, e3], e4⟩
theorem RdR.one {s : List UInt8} {L L' : List Pn} {r r' : List UInt8} (h : RdR s L r) (h' : RdR s L' r') : L = L' ∧ r = r' := ln_two h.ok h'.ok h.st h'.st (h.eq.symm.trans h'.eq)
/-- Lines are read as their panes. -/
theorem RdR.own {L : List Pn} (h : ∀ p ∈ L, mayP p = true ∧ NumOk p) : RdR (lnB L) L [] := ⟨h, by simp, Stk.nil⟩

/-- A text's next line. -/
theorem nx_yes {s : ByteArray} {f t : Nat} {p : Pn} (hft : f ≤ t) (ht : t < s.size) (h10 : (s[t]'ht).toNat = 10) (hp : ParR (s.extract f t) (some p)) : s.toList.drop f = (lineB p).toList ++ 10 :: s.toList.drop (t + 1) := by
  have e : (lineB p).toList = (s.toList.drop f).take (t - f) := by rw [hp.2.2, ex_toList]
  rw [e]
  have e2 : (10 : UInt8) :: s.toList.drop (t + 1) = s.toList.drop t := by
    rw [tl_at s t ht]
    congr 1
    exact (UInt8.toNat_inj.1 (by rw [h10]; rfl)).symm
  have e3 : s.toList.drop t = (s.toList.drop f).drop (t - f) := by rw [List.drop_drop]; congr 1; omega
  rw [e2, e3, List.take_append_drop]
theorem nx_no {s : ByteArray} {f t : Nat} (hft : f ≤ t) (ht : t < s.size) (h10 : (s[t]'ht).toNat = 10) (hn : ∀ b ∈ (s.extract f t).toList, b ≠ 10) (hp : ParR (s.extract f t) none) : Stk (s.toList.drop f) := fun p r' h1 h2 h => by
  have e2 : s.toList.drop t = (10 : UInt8) :: s.toList.drop (t + 1) := by
    rw [tl_at s t ht]
    congr 1
    exact UInt8.toNat_inj.1 (by rw [h10]; rfl)
  have e3 : s.toList.drop t = (s.toList.drop f).drop (t - f) := by rw [List.drop_drop]; congr 1; omega
  have e4 : s.toList.drop f = (s.extract f t).toList ++ 10 :: s.toList.drop (t + 1) := by
    rw [ex_toList, ← e2, e3, List.take_append_drop]
  rw [e4] at h
  obtain ⟨e5, -⟩ := cut10 hn (line_no p) h
  exact hp p h1 h2 (ba_ext e5.symm)
theorem nx_end {s : ByteArray} {f : Nat} (hn : ∀ b ∈ (s.extract f s.size).toList, b ≠ 10) : Stk (s.toList.drop f) := by
  apply Stk.none10
  rw [ex_toList, List.take_of_length_le (by rw [List.length_drop, tl_len]; omega)] at hn
  exact hn
theorem nx_byte {s : ByteArray} {f t : Nat} (hft : f ≤ t) (ht : t < s.size) (h10 : (s[t]'ht).toNat ≠ 10) (hn : ∀ b ∈ (s.extract f t).toList, b ≠ 10) : ∀ b ∈ (s.extract f (t + 1)).toList, b ≠ 10 := by
  rw [ex_toList, tk_next hft ht, ← ex_toList]
  intro b hb
  rcases List.mem_append.1 hb with hb | hb
  · exact hn b hb
  · simp only [List.mem_singleton] at hb
    subst hb
    intro h
    rw [h] at h10
    exact h10 rfl

end Go.Proofs.YtamfcmmhmfhhkaaGreatDoor
