/- Panes by keys, the last ones: the mathematics. Panes by keys in the store: what is held. The program's panes by keys. The program's side: two lists of panes, cell by cell. -/
import Derived.Test.YtamfcmmhmfhhkaaGreatDoorG4
import Derived.Test.YtamfcmmhmfhhkaaGreatDoorG14
import Derived.Test.YtamfcmmhmfhhkaaGreatDoorG12
import Derived.Test.YtamfcmmhmfhhkaaGreatDoorG7
import Derived.Test.YtamfcmmhmfhhkaaGreatDoorG21
import Derived.Test.YtamfcmmhmfhhkaaGreatDoorG23
import Derived.Deep.CutRange
import Derived.Test.YtamfcmmhmfhhkaaGreatDoorG1
namespace Go.Proofs.YtamfcmmhmfhhkaaGreatDoor
open Go.RowKit

theorem lessN_or (x : List UInt8) : ∀ y : List UInt8, (Op.bytesLess x y || x == y) = !Op.bytesLess y x := by
  induction x with
  | nil => intro y; cases y <;> simp [Op.bytesLess]
  | cons a x ih =>
    intro y
    cases y with
    | nil => simp [Op.bytesLess]
    | cons b y =>
      have h := ih y
      simp only [Op.bytesLess]
      by_cases h1 : a < b
      · have h2 : ¬ b < a := by rw [UInt8.lt_iff_toNat_lt] at *; omega
        have h3 : ¬ b = a := by rintro rfl; rw [UInt8.lt_iff_toNat_lt] at h1; omega
        simp [h1, h2, h3]
      · by_cases h2 : b < a
        · have h3 : ¬ a = b := by rintro rfl; exact h1 h2
          simp [h1, h2, h3]
        · have h3 : a = b := by rw [UInt8.lt_iff_toNat_lt] at *; exact UInt8.toNat_inj.mp (by omega)
          subst h3
          simpa [h1] using h
theorem lessN_trans (x : List UInt8) : ∀ y z : List UInt8, Op.bytesLess x y = true → Op.bytesLess y z = true → Op.bytesLess x z = true := by
  induction x with
  | nil =>
    intro y z h1 h2
    cases z with
    | nil => cases y <;> simp [Op.bytesLess] at h2
    | cons c z => simp [Op.bytesLess]
  | cons a x ih =>
    intro y z h1 h2
    cases y with
    | nil => simp [Op.bytesLess] at h1
    | cons b y =>
      cases z with
      | nil => simp [Op.bytesLess] at h2
      | cons c z =>
        simp only [Op.bytesLess, Bool.or_eq_true, Bool.and_eq_true, decide_eq_true_eq, beq_iff_eq] at h1 h2 ⊢
        rcases h1 with h1 | ⟨rfl, h1⟩
        · rcases h2 with h2 | ⟨rfl, h2⟩
          · left; rw [UInt8.lt_iff_toNat_lt] at *; omega
          · left; exact h1
        · rcases h2 with h2 | ⟨rfl, h2⟩
          · left; exact h2
          · right; exact ⟨rfl, ih y z h1 h2⟩
theorem kLt_trans {a b c : ByteArray} (h : kLt a b = true) (h2 : kLt b c = true) : kLt a c = true := lessN_trans _ _ _ h h2
theorem kLt_tri (a b : ByteArray) : kLt a b = true ∨ a = b ∨ kLt b a = true := by
  have h := lessN_or a.toList b.toList
  unfold kLt
  cases h1 : Op.bytesLess a.toList b.toList with
  | true => exact .inl rfl
  | false =>
    cases h2 : Op.bytesLess b.toList a.toList with
    | true => exact .inr (.inr rfl)
    | false =>
      rw [h1, h2] at h
      refine .inr (.inl (ba_ext ?_))
      simpa using h
theorem kLt_asymm {a b : ByteArray} (h : kLt a b = true) : kLt b a = false := by
  cases h2 : kLt b a with
  | false => rfl
  | true =>
    have := kLt_trans h h2
    rw [kLt_self] at this
    cases this

section
variable {α : Type} {lt : α → α → Bool}
/-- Rising lists of the same members are one. -/
theorem rising_ext (irr : ∀ a, lt a a = false) (tr : ∀ a b c, lt a b = true → lt b c = true → lt a c = true) : ∀ {l m : List α}, l.Pairwise (fun a b => lt a b = true) → m.Pairwise (fun a b => lt a b = true) → (∀ x, x ∈ l ↔ x ∈ m) → l = m
  | [], [], _, _, _ => rfl
  | [], b :: m, _, _, h => by have := (h b).2 (by simp); cases this
  | a :: l, [], _, _, h => by have := (h a).1 (by simp); cases this
  | a :: l, b :: m, hl, hm, h => by
    obtain ⟨l1, l2⟩ := List.pairwise_cons.1 hl
    obtain ⟨m1, m2⟩ := List.pairwise_cons.1 hm
    have e : a = b := by
      rcases List.mem_cons.1 ((h a).1 (by simp)) with e | ha
      · exact e
      · rcases List.mem_cons.1 ((h b).2 (by simp)) with e | hb
        · exact e.symm
        · have := tr _ _ _ (l1 b hb) (m1 a ha)
          rw [irr] at this
          cases this
    subst e
    have ne : ∀ x, x ∈ l → x ≠ a := fun x hx e => by subst e; have := l1 x hx; rw [irr] at this; cases this
    have ne2 : ∀ x, x ∈ m → x ≠ a := fun x hx e => by subst e; have := m1 x hx; rw [irr] at this; cases this
    rw [rising_ext irr tr l2 m2 fun x => ⟨fun hx => by
      rcases List.mem_cons.1 ((h x).1 (by simp [hx])) with e | h2
      · exact absurd e (ne x hx)
      · exact h2, fun hx => by
      rcases List.mem_cons.1 ((h x).2 (by simp [hx])) with e | h2
      · exact absurd e (ne2 x hx)
      · exact h2⟩]
theorem tw_take (p : α → Bool) : ∀ O : List α, O.take (O.takeWhile p).length = O.takeWhile p ∧ O.drop (O.takeWhile p).length = O.dropWhile p
  | [] => ⟨rfl, rfl⟩
  | x :: O => by
    rw [List.takeWhile_cons, List.dropWhile_cons]
    cases h : p x with
    | true =>
      obtain ⟨h1, h2⟩ := tw_take p O
      simp [h1, h2]
    | false => simp
theorem tw_mem (p : α → Bool) : ∀ {O : List α} {a : α}, a ∈ O.takeWhile p → p a = true
  | [], a, h => by cases h
  | x :: O, a, h => by
    rw [List.takeWhile_cons] at h
    cases hx : p x with
    | true =>
      rw [hx] at h
      rcases List.mem_cons.1 h with rfl | h
      · exact hx
      · exact tw_mem p h
    | false => rw [hx] at h; cases h
theorem ins_rise (tr : ∀ a b c, lt a b = true → lt b c = true → lt a c = true) {O : List α} {x : α} (hO : O.Pairwise (fun a b => lt a b = true)) (hx : ∀ b B, O.dropWhile (fun a => lt a x) = b :: B → lt x b = true) :
    (O.takeWhile (fun a => lt a x) ++ [x] ++ O.dropWhile (fun a => lt a x)).Pairwise (fun a b => lt a b = true) := by
  have hs : O = O.takeWhile (fun a => lt a x) ++ O.dropWhile (fun a => lt a x) := List.takeWhile_append_dropWhile.symm
  have hA : ∀ a ∈ O.takeWhile (fun a => lt a x), lt a x = true := fun a ha => tw_mem (fun a => lt a x) ha
  rw [hs] at hO
  generalize O.takeWhile (fun a => lt a x) = A at *
  generalize O.dropWhile (fun a => lt a x) = B at *
  obtain ⟨p1, p2, p3⟩ := List.pairwise_append.1 hO
  have hB : ∀ b ∈ B, lt x b = true := by
    cases B with
    | nil => intro b hb; cases hb
    | cons b0 B =>
      have h0 := hx b0 B rfl
      intro b hb
      rcases List.mem_cons.1 hb with rfl | hb
      · exact h0
      · exact tr _ _ _ h0 ((List.pairwise_cons.1 p2).1 b hb)
  rw [List.append_assoc, List.singleton_append]
  refine List.pairwise_append.2 ⟨p1, List.pairwise_cons.2 ⟨hB, p2⟩, fun a ha b hb => ?_⟩
  rcases List.mem_cons.1 hb with rfl | hb
  · exact hA a ha
  · exact p3 a ha b hb
theorem dw_head (p : α → Bool) : ∀ {O : List α} {b : α} {B : List α}, O.dropWhile p = b :: B → p b = false
  | [], b, B, h => by cases h
  | x :: O, b, B, h => by
    rw [List.dropWhile_cons] at h
    cases hx : p x with
    | true => rw [hx] at h; exact dw_head p h
    | false => rw [hx] at h; injection h with h1 h2; rw [← h1]; exact hx
end

/-- Keys rise. -/
abbrev KRise (O : List ByteArray) : Prop := O.Pairwise (fun a b => kLt a b = true)
theorem putK_tw (O : List ByteArray) (k : ByteArray) : ((∃ B, O.dropWhile (fun a => kLt a k) = k :: B) ∧ putK O k = O) ∨ ((¬ ∃ B, O.dropWhile (fun a => kLt a k) = k :: B) ∧ putK O k = O.takeWhile (fun a => kLt a k) ++ [k] ++ O.dropWhile (fun a => kLt a k)) := by
  obtain ⟨h1, h2⟩ := tw_take (fun a => kLt a k) O
  have hc : (leadK O k < O.length ∧ O.getD (leadK O k) ⟨#[]⟩ = k) ↔ ∃ B, O.dropWhile (fun a => kLt a k) = k :: B := by
    rw [← h2]
    constructor
    · rintro ⟨h3, h4⟩
      refine ⟨O.drop (leadK O k + 1), ?_⟩
      rw [List.getD_eq_getElem?_getD, List.getElem?_eq_getElem h3] at h4
      have h4' : O[leadK O k] = k := h4
      show O.drop (leadK O k) = _
      rw [List.drop_eq_getElem_cons h3, h4']
    · rintro ⟨B, h3⟩
      have h4 : leadK O k < O.length := by
        rcases Nat.lt_or_ge (leadK O k) O.length with h | h
        · exact h
        · have h3' : O.drop (leadK O k) = k :: B := h3
          rw [List.drop_of_length_le h] at h3'
          cases h3'
      refine ⟨h4, ?_⟩
      have h3' : O.drop (leadK O k) = k :: B := h3
      rw [List.drop_eq_getElem_cons h4] at h3'
      injection h3' with h5 _
      rw [List.getD_eq_getElem?_getD, List.getElem?_eq_getElem h4]
      exact h5
  unfold putK
  by_cases h : leadK O k < O.length ∧ O.getD (leadK O k) ⟨#[]⟩ = k
  · rw [if_pos h]
    exact .inl ⟨hc.1 h, rfl⟩
  · rw [if_neg h]
    refine .inr ⟨fun h2 => h (hc.2 h2), ?_⟩
    unfold leadK
    rw [h1, h2]
theorem putK_rise {O : List ByteArray} (h : KRise O) (k : ByteArray) : KRise (putK O k) ∧ ∀ x, x ∈ putK O k ↔ x ∈ O ∨ x = k := by
  rcases putK_tw O k with ⟨⟨B, hB⟩, he⟩ | ⟨hB, he⟩
  · rw [he]
    refine ⟨h, fun x => ⟨.inl, ?_⟩⟩
    rintro (hx | rfl)
    · exact hx
    · rw [← List.takeWhile_append_dropWhile (p := fun a => kLt a x) (l := O), hB]; simp
  · rw [he]
    refine ⟨ins_rise (lt := kLt) (fun a b c => kLt_trans) h fun b B e => ?_, fun x => ?_⟩
    · have h1 := dw_head _ e
      rcases kLt_tri k b with h2 | rfl | h2
      · exact h2
      · exact absurd ⟨B, e⟩ hB
      · rw [h2] at h1; cases h1
    · have hs : O = O.takeWhile (fun a => kLt a k) ++ O.dropWhile (fun a => kLt a k) := List.takeWhile_append_dropWhile.symm
      conv => rhs; rw [hs]
      simp only [List.mem_append, List.mem_singleton]
      constructor
      · rintro ((h | h) | h)
        · exact .inl (.inl h)
        · exact .inr h
        · exact .inl (.inr h)
      · rintro ((h | h) | h)
        · exact .inl (.inl h)
        · exact .inr h
        · exact .inl (.inr h)
theorem keysF : ∀ (L : List Pn) (O : List ByteArray), KRise O → KRise (L.foldl (fun O p => putK O p.k) O) ∧ ∀ x, x ∈ L.foldl (fun O p => putK O p.k) O ↔ x ∈ O ∨ ∃ p ∈ L, p.k = x
  | [], O, h => ⟨h, fun x => by simp⟩
  | p :: L, O, h => by
    obtain ⟨h1, h2⟩ := putK_rise h p.k
    obtain ⟨h3, h4⟩ := keysF L _ h1
    refine ⟨h3, fun x => ?_⟩
    rw [List.foldl_cons, h4, h2]
    constructor
    · rintro ((h | h) | ⟨q, h5, h6⟩)
      · exact .inl h
      · exact .inr ⟨p, by simp, h.symm⟩
      · exact .inr ⟨q, by simp [h5], h6⟩
    · rintro (h | ⟨q, h5, h6⟩)
      · exact .inl (.inl h)
      · rcases List.mem_cons.1 h5 with rfl | h5
        · exact .inl (.inr h6.symm)
        · exact .inr ⟨q, h5, h6⟩
theorem keys_rise (L : List Pn) : KRise (keysP L) := (keysF L [] List.Pairwise.nil).1
theorem keys_mem (L : List Pn) (k : ByteArray) : k ∈ keysP L ↔ ∃ p ∈ L, p.k = k := by
  have := (keysF L [] List.Pairwise.nil).2 k
  simpa [keysP] using this
/-- Whoever rises and has these keys is it. -/
theorem keys_one {L : List Pn} {O : List ByteArray} (h : KRise O) (hm : ∀ k, k ∈ O ↔ ∃ p ∈ L, p.k = k) : O = keysP L := rising_ext kLt_self (fun a b c => kLt_trans) h (keys_rise L) fun x => by rw [hm, keys_mem]
theorem keys_of {L : List Pn} {k : ByteArray} : k ∈ keysP L ↔ ofP L k ≠ [] := by
  rw [keys_mem]
  unfold ofP
  constructor
  · rintro ⟨p, h1, h2⟩ h3
    have : p ∈ L.filter fun p => decide (p.k = k) := List.mem_filter.2 ⟨h1, decide_eq_true h2⟩
    rw [h3] at this
    cases this
  · intro h
    obtain ⟨p, t, e⟩ := List.exists_cons_of_ne_nil h
    have : p ∈ L.filter fun p => decide (p.k = k) := by rw [e]; simp
    obtain ⟨h1, h2⟩ := List.mem_filter.1 this
    exact ⟨p, h1, of_decide_eq_true h2⟩
theorem ofP_app (L M : List Pn) (k : ByteArray) : ofP (L ++ M) k = ofP L k ++ ofP M k := by unfold ofP; exact List.filter_append ..
theorem ofP_of (L : List Pn) (k k' : ByteArray) : ofP (ofP L k') k = if k' = k then ofP L k else [] := by
  unfold ofP
  rw [List.filter_filter]
  split
  · rename_i h
    subst h
    congr 1
    funext p
    simp
  · rename_i h
    rw [List.filter_eq_nil_iff]
    intro p _ h2
    simp only [Bool.and_eq_true, decide_eq_true_eq] at h2
    exact h (h2.2.symm.trans h2.1)
/-- One key's panes behind the other's. -/
def catK (L : List Pn) (K : List ByteArray) : List Pn := K.reverse.flatMap (ofP L)
theorem catK_cons (L : List Pn) (k : ByteArray) (K : List ByteArray) : catK L (k :: K) = catK L K ++ ofP L k := by
  unfold catK
  rw [List.reverse_cons, List.flatMap_append, List.flatMap_cons, List.flatMap_nil, List.append_nil]
theorem ofP_cat (L : List Pn) (k : ByteArray) : ∀ {K : List ByteArray}, KRise K → (k ∈ K → ofP (catK L K) k = ofP L k) ∧ (k ∉ K → ofP (catK L K) k = [])
  | [], _ => ⟨fun h => by (cases h), fun _ => rfl⟩
  | x :: K, h => by
    obtain ⟨h1, h2⟩ := List.pairwise_cons.1 h
    obtain ⟨i1, i2⟩ := ofP_cat L k h2
    rw [catK_cons, ofP_app, ofP_of]
    by_cases hx : x = k
    · subst hx
      rw [if_pos rfl, i2 (fun hm => by have := h1 x hm; rw [kLt_self] at this; cases this), List.nil_append]
      exact ⟨fun _ => rfl, fun h => absurd (by simp) h⟩
    · rw [if_neg hx, List.append_nil]
      refine ⟨fun hk => i1 ?_, fun hk => i2 (fun h3 => hk (by simp [h3]))⟩
      rcases List.mem_cons.1 hk with e | hk
      · exact absurd e.symm hx
      · exact hk
theorem cat_of (L : List Pn) (k : ByteArray) : ofP (catK L (keysP L)) k = ofP L k := by
  obtain ⟨h1, h2⟩ := ofP_cat L k (keys_rise L)
  by_cases h : k ∈ keysP L
  · exact h1 h
  · rw [h2 h]
    rw [keys_of] at h
    exact (Classical.not_not.1 h).symm
theorem same_len {L M : List Pn} (h : ∀ k, ofP L k = ofP M k) : L.length = M.length := by
  apply List.Perm.length_eq
  rw [List.perm_iff_count]
  intro x
  have e : ∀ L : List Pn, L.count x = (ofP L x.k).count x := fun L => by
    unfold ofP
    rw [List.count_filter (by simp)]
  rw [e, e M, h]
theorem begins_yes {A B : List Pn} (h : ∀ k, ∃ t, ofP B k = ofP A k ++ t) : beginsP A B = true := by
  unfold beginsP
  rw [List.all_eq_true]
  intro k _
  obtain ⟨t, e⟩ := h k
  unfold okB
  rw [e]
  simp
theorem begins_no {A B : List Pn} {k : ByteArray} (hk : k ∈ keysP A) (h : (ofP B k).length < (ofP A k).length) : beginsP A B = false := by
  unfold beginsP
  rw [List.all_eq_false]
  refine ⟨k, hk, ?_⟩
  unfold okB
  rw [decide_eq_false (by omega)]
  simp

end Go.Proofs.YtamfcmmhmfhhkaaGreatDoor

namespace Go.Proofs.YtamfcmmhmfhhkaaGreatDoor.LM
open Go.RowKit

abbrev Rw := ByteArray × (Option Addr × Nat × Nat)
abbrev rwv (x : Rw) : Value := .slice x.2.1 x.2.2.1 x.2.2.2

theorem cmpS_key {a b : ByteArray} (h : cmpS a b = 0) : a = b := by
  have := cmpS_eq.1 h
  rw [ByteArray.toList_eq, ByteArray.toList_eq] at this
  exact ByteArray.ext (Array.toList_inj.1 this)
theorem cmpS_me (a : ByteArray) : cmpS a a = 0 := cmpS_eq.2 rfl

theorem lput_mem (k : ByteArray) (v : Option Addr × Nat × Nat) (X : List Rw) {x : Rw} : x ∈ lput (cmpS k) k v X ↔ (x ∈ X ∧ x.1 ≠ k) ∨ x = (k, v) := by
  have ek : ∃ k', lput (cmpS k) k v X = up (cmpS k) X ++ (k', v) :: dn (cmpS k) X ∧ k' = k := by
    unfold lput
    cases hi : it (cmpS k) X with
    | none => exact ⟨k, rfl, rfl⟩
    | some a => exact ⟨a.1, rfl, (cmpS_key (it_some hi).2).symm⟩
  obtain ⟨k', e, rfl⟩ := ek
  rw [e, List.mem_append, List.mem_cons, up_mem, dn_mem]
  constructor
  · rintro (⟨h, h2⟩ | rfl | ⟨h, h2⟩)
    · exact .inl ⟨h, fun e => by rw [e, cmpS_me] at h2; omega⟩
    · exact .inr rfl
    · exact .inl ⟨h, fun e => by rw [e, cmpS_me] at h2; omega⟩
  · rintro (⟨h, h2⟩ | rfl)
    · rcases Int.lt_trichotomy (cmpS k' x.1) 0 with g | g | g
      · exact .inr (.inr ⟨h, g⟩)
      · exact absurd (cmpS_key g).symm h2
      · exact .inl ⟨h, g⟩
    · exact .inr (.inl rfl)

theorem was_in (k : ByteArray) (X : List Rw) : ((∀ x ∈ X, x.1 ≠ k) ∧ was (cmpS k) X = (none, 0, 0)) ∨ ∃ x ∈ X, x.1 = k ∧ was (cmpS k) X = x.2 := by
  unfold was
  cases hi : it (cmpS k) X with
  | none =>
    refine .inl ⟨fun x hx e => ?_, rfl⟩
    unfold it at hi
    rw [List.find?_eq_none] at hi
    exact hi x hx (by rw [e]; simp [cmpS_me])
  | some a => exact .inr ⟨a, (it_some hi).1, (cmpS_key (it_some hi).2).symm, rfl⟩

/-- The panes of a list, by their keys. -/
structure Bk (b0 m : Nat) (L : List Pn) (X : List Rw) (W : World) : Prop where
  mt : Mt W m 56 #[] X
  up : Up cmpS X
  key : ∀ k, (∃ x ∈ X, x.1 = k) ↔ ∃ p ∈ L, p.k = k
  row : ∀ x ∈ X, encP.Own 40 W b0 (rwv x) (ofP L x.1)
  sep : ∀ x ∈ X, ∀ y ∈ X, x.1 ≠ y.1 → ∀ g, (rwv x).ownBlock = some g → (rwv y).ownBlock ≠ some g
  off : ∀ x ∈ X, (rwv x).ownBlock ≠ some m
  num : X.length ≤ L.length

theorem Bk.calm {b0 m : Nat} {L : List Pn} {X : List Rw} {W W' : World} (h : Bk b0 m L X W) (ht : Calm W W') : Bk b0 m L X W' := ⟨h.mt.calm ht, h.up, h.key, fun x hx => Rc.Own.calm (h.row x hx) ht, h.sep, h.off, h.num⟩
theorem Bk.none {b0 m : Nat} {W : World} (h : Mt W m 56 #[] []) : Bk b0 m [] [] W := ⟨h, List.Pairwise.nil, fun k => by simp, fun x hx => by simp at hx, fun x hx => by simp at hx, fun x hx => by simp at hx, Nat.le_refl _⟩

theorem ofP_no {L : List Pn} {k : ByteArray} (h : ∀ p ∈ L, p.k ≠ k) : ofP L k = [] := by
  unfold ofP
  rw [List.filter_eq_nil_iff]
  intro p hp
  simp [h p hp]

/-- What lies under a key. -/
theorem Bk.at {b0 m : Nat} {L : List Pn} {X : List Rw} {W : World} (h : Bk b0 m L X W) (k : ByteArray) : encP.Own 40 W b0 (.slice (was (cmpS k) X).1 (was (cmpS k) X).2.1 (was (cmpS k) X).2.2) (ofP L k) ∧ ∀ g, (Value.slice (was (cmpS k) X).1 (was (cmpS k) X).2.1 (was (cmpS k) X).2.2).ownBlock = some g → g ≠ m ∧ ∀ y ∈ X, y.1 ≠ k → (rwv y).ownBlock ≠ some g := by
  rcases was_in k X with ⟨h1, h2⟩ | ⟨x, hx, rfl, h2⟩
  · rw [h2, ofP_no (fun p hp e => by obtain ⟨x, hx, e2⟩ := (h.key k).2 ⟨p, hp, e⟩; exact h1 x hx e2)]
    exact ⟨Rc.Own.nil _ _ _, fun g hg => by simp [Value.ownBlock] at hg⟩
  · rw [h2]
    exact ⟨h.row x hx, fun g hg => ⟨fun e => h.off x hx (by rw [← e]; exact hg), fun y hy hk => h.sep x hx y hy (fun e => hk e.symm) g hg⟩⟩

theorem Bk.app {b0 m : Nat} {L : List Pn} {X : List Rw} {W W4 : World} (h : Bk b0 m L X W) (p : Pn) (v : Option Addr × Nat × Nat) (hr : encP.Own 40 W4 b0 (.slice v.1 v.2.1 v.2.2) (ofP L p.k ++ [p]))
    (ht : Touch (fun g => (Value.slice (was (cmpS p.k) X).1 (was (cmpS p.k) X).2.1 (was (cmpS p.k) X).2.2).ownBlock = some g) W W4)
    (hx : ∀ g, (Value.slice v.1 v.2.1 v.2.2).ownBlock = some g → (Value.slice (was (cmpS p.k) X).1 (was (cmpS p.k) X).2.1 (was (cmpS p.k) X).2.2).ownBlock = some g ∨ W.heap.size ≤ g) :
    Mt W4 m 56 #[] X ∧ ∀ W5, Mt W5 m 56 #[] (lput (cmpS p.k) p.k v X) → Touch (fun g => g = m) W4 W5 → Bk b0 m (L ++ [p]) (lput (cmpS p.k) p.k v X) W5 := by
  obtain ⟨k1, k2⟩ := h.at p.k
  have hm : m < W.heap.size := by obtain ⟨ro, h1, -⟩ := h.mt; exact lt_of_heap h1
  have hlt : ∀ y ∈ X, ∀ g, (rwv y).ownBlock = some g → g < W.heap.size := fun y hy g hg => by
    obtain ⟨-, cur, e⟩ := Rc.own_block (h.row y hy) hg
    exact lt_of_heap e
  have hv : ∀ g, (Value.slice v.1 v.2.1 v.2.2).ownBlock = some g → g ≠ m ∧ ∀ y ∈ X, y.1 ≠ p.k → (rwv y).ownBlock ≠ some g := fun g hg => by
    rcases hx g hg with hg | hg
    · exact k2 g hg
    · exact ⟨by omega, fun y hy _ e => by have := hlt y hy g e; omega⟩
  refine ⟨h.mt.touch ht (fun hg => (k2 m hg).1 rfl) fun b cs fr hb e => ?_, fun W5 mt tm => ⟨mt, h.up.put cmpS_ord p.k v, fun k => ?_, fun x hxm => ?_, fun x hxm y hym hxy g hg hgy => ?_, fun x hxm => ?_, ?_⟩⟩
  · obtain ⟨-, cur, e2⟩ := Rc.own_block k1 hb
    rw [e2] at e
    injection e with e
    injection e with _ e
    exact absurd e (by decide)
  · constructor
    · rintro ⟨x, hxm, rfl⟩
      rcases (lput_mem _ _ _).1 hxm with ⟨g, -⟩ | rfl
      · obtain ⟨q, hq, e⟩ := (h.key x.1).1 ⟨x, g, rfl⟩
        exact ⟨q, by simp [hq], e⟩
      · exact ⟨p, by simp, rfl⟩
    · rintro ⟨q, hq, rfl⟩
      by_cases e : q.k = p.k
      · exact ⟨(p.k, v), (lput_mem _ _ _).2 (.inr rfl), e.symm⟩
      · rcases List.mem_append.1 hq with hq | hq
        · obtain ⟨x, hx2, e2⟩ := (h.key q.k).2 ⟨q, hq, rfl⟩
          exact ⟨x, (lput_mem _ _ _).2 (.inl ⟨hx2, by rw [e2]; exact e⟩), e2⟩
        · rw [List.mem_singleton] at hq
          exact absurd (by rw [hq]) e
  · rcases (lput_mem _ _ _).1 hxm with ⟨g, hk⟩ | rfl
    · have e : ofP (L ++ [p]) x.1 = ofP L x.1 := by
        rw [ofP_app, ofP_no (L := [p]) (fun q hq e => hk (by rw [List.mem_singleton] at hq; rw [← e, hq])), List.append_nil]
      rw [e]
      exact Rc.Own.touch (Rc.Own.touch (h.row x g) ht fun d hd s => (k2 d s).2 x g hk hd) tm fun d hd s => h.off x g (by rw [← s]; exact hd)
    · have e : ofP (L ++ [p]) p.k = ofP L p.k ++ [p] := by
        rw [ofP_app]
        simp [ofP]
      rw [e]
      exact Rc.Own.touch hr tm fun d hd s => (hv d hd).1 s
  · rcases (lput_mem _ _ _).1 hxm with ⟨g1, hk1⟩ | rfl <;> rcases (lput_mem _ _ _).1 hym with ⟨g2, hk2⟩ | rfl
    · exact h.sep x g1 y g2 hxy g hg hgy
    · exact (hv g hgy).2 x g1 hk1 hg
    · exact (hv g hg).2 y g2 hk2 hgy
    · exact hxy rfl
  · rcases (lput_mem _ _ _).1 hxm with ⟨g1, hk1⟩ | rfl
    · exact h.off x g1
    · exact fun e => (hv m e).1 rfl
  · have := (lput_len (v := v) (k := p.k) (h.up.dec cmpS_ord p.k)).1
    have := h.num
    rw [List.length_append]
    simp only [List.length_cons, List.length_nil]
    omega

end Go.Proofs.YtamfcmmhmfhhkaaGreatDoor.LM

namespace Go.Proofs.YtamfcmmhmfhhkaaGreatDoor
open Go.RowKit LM

theorem exec_appK {ρ : Operand → Value} {o : Oper} {s x : Operand} {t : TypeId} {w w' : World} {v' : Value} (ho : o.op = .call { callee := .builtin .append, args := #[s, x], argTypes := #[t, t] })
    (h : (Builtin.append_ #[t, t] o.type #[ρ s, ρ x]).run Tryz.prog w = .ok v' w') : (execOp ρ o).run Tryz.prog w = .ok (.value v') w' := by
  unfold execOp
  simp only [ho, resolve, invoke, builtin, Sem.run_bind, Sem.run_pure, Result.andThen_ok, List.map_toArray, List.map_cons, List.map_nil, h]

set_option maxRecDepth 100000 in
set_option maxHeartbeats 4000000 in
theorem byKeys_any (L : List Pn) (ao : Option Addr) (ac : Nat) (w : World) (ha : encP.Mem w ao L) (hl : L.length ≤ 100000) : Calls Tryz.prog 22 #[.slice ao L.length ac] w fun e w' => ∃ m X, e = .returned (.pointer (some ⟨m, 0, none⟩)) ∧ Bk w.heap.size m L X w' ∧ w.heap.size ≤ m ∧ Calm w w' := by
  have CO := hide (LM.of_any w)
  obtain ⟨x, hx⟩ : ∃ x : Nat → Pn, ∀ i, x i = L.getD i pn0 := ⟨fun i => L.getD i pn0, fun _ => rfl⟩
  obtain ⟨o, ho⟩ : ∃ o : Nat → List Pn, ∀ i, o i = L.take i := ⟨fun i => L.take i, fun _ => rfl⟩
  have SA : Hid (∀ j, j < L.length → ∃ g off, ao = some ⟨g, off, none⟩ ∧ ∀ W, Calm w W → pcell W g (off + j * 9) (x j)) := hide fun j hj => by
    rw [hx]; exact pn_W ha j hj
  have OS : Hid (∀ i, i < L.length → o (i + 1) = o i ++ [x i]) := hide fun i hi => by
    rw [ho, ho, hx, List.take_add_one, List.getElem?_eq_getElem hi, List.getD_eq_getElem?_getD, List.getElem?_eq_getElem hi]
    rfl
  have OL : Hid (∀ i, i ≤ L.length → (o i).length ≤ i) := hide fun i _ => by rw [ho, List.length_take]; omega
  have O0 : Hid (o 0 = []) := hide (by rw [ho]; rfl)
  have OE : Hid (o L.length = L) := hide (by rw [ho, List.take_length])
  clear ho hx ha
  generalize hn : L.length = n at *
  go_enter Tryz.func22, Tryz.ntmps22
  go_wp2_with fail
  refine CO.out.mono ?_
  rintro e w1 ⟨m, rfl, hM, hm0, T1⟩
  have B0 : Hid (Bk w.heap.size m (o 0) [] w1) := hide (by rw [O0.out]; exact Bk.none hM)
  have HM0 := hide hm0
  have HT1 := hide T1
  clear hM hm0 T1 CO O0
  go_wp2_with fail
  go_loopw [11] (fun s11 wr => ∃ (i : Nat) (X : List Rw), s11 = .int .i64 (i : Int) ∧ i ≤ n ∧ Bk w.heap.size m (o i) X wr ∧ Calm w wr) (fun s11 _ => n - (intOf s11).toNat)
  case atStart => exact ⟨0, [], rfl, by omega, B0.out, HT1.out⟩
  case round =>
    obtain ⟨i, X, rfl, hi, hB, hC⟩ := hrel
    by_cases hlt : i < n
    · have hltz : (i : Int) < (n : Int) := by omega
      obtain ⟨g, off, rfl, ca⟩ := SA.out i hlt
      have crow := ca wr hC
      have hs := hide (OS.out i hlt)
      have hol := hide (OL.out i (by omega))
      have BI := hide hB
      have HC := hide hC
      have hi9 : (Tryz.prog.info? 40).map (·.size) = some 9 := by kernel_rfl
      clear SA OS OL OE ca hB hC B0 HT1
      generalize x i = p at *
      have Z0 := hide (al_new wr (.cells (pnc pn0) 40))
      have Z1 := hide (setRow_heap _ _ _ (pnc p) _ _ Z0.out)
      have Z2 : Hid (Touch (fun _ => False) wr ((wr.alloc (.cells (pnc pn0) 40)).setRow wr.heap.size (pnc p))) := hide (((Touch.refl (fun _ => False) wr).alloc _).trans (S' := fun g => g = wr.heap.size) ⟨rfl, rfl, rfl, by simp, fun j _ hj => setRow_other _ _ j _ hj⟩ (fun g hg e => by omega))
      have hq1 : Hid ((pnc p).all (·.oneCell') = true) := hide (by simp [Value.oneCell'])
      have B2 := hide (BI.out.calm Z2.out)
      have HC2 := hide (HC.out.tr Z2.out)
      have CG := hide (LM.get_any cmpOf m p.k _ X B2.out.mt trivial (B2.out.up.dec cmpS_ord p.k))
      have HDw : Hid (∀ g, (Value.slice (was (cmpS p.k) X).1 (was (cmpS p.k) X).2.1 (was (cmpS p.k) X).2.2).ownBlock = some g → g < wr.heap.size) := hide fun g hg => by
        obtain ⟨-, cur, e⟩ := Rc.own_block (BI.out.at p.k).1 hg
        exact lt_of_heap e
      obtain ⟨⟨c0, c1, c2, c3, c4⟩, c5, c6, c7, c8⟩ := crow
      clear BI HC
      go_upto_region 5 with (refine wpList_store_rowTo rfl 40 (.tmp 5) (.tmp 14) rfl rfl wr.heap.size (pnc p) rfl rfl 40 _ Z0.out hi9 rfl hq1.out ?_)
      clear c0 c1 c2 c3 c4 c5 c6 c7 c8
      generalize (wr.alloc (.cells (pnc pn0) 40)).setRow wr.heap.size (pnc p) = w3 at *
      clear Z0 Z2
      generalize wr.heap.size = D at *
      obtain ⟨⟨c0, c1, c2, c3, c4⟩, c5, c6, c7, c8⟩ := pn_cells Z1.out
      go_upto_region 6 with fail
      refine CG.out.mono ?_
      rintro e w4 ⟨rfl, T4⟩
      go_upto_region 6 with fail
      clear c0 c1 c2 c3 c4 c5 c6 c7 c8
      have B4 := hide (B2.out.calm T4)
      have Z4 := hide (T4.at Z1.out)
      have HC4 := hide (HC2.out.tr T4)
      clear T4 CG B2 Z1 HC2
      refine wp_region_z 7 (fun W => W.heap[D]? = some (.cells (pnc p) 40 (0, 0))) (by kernel_rfl) ?_
      have hT0 : ({ w4 with drawn := w4.drawn + 1 } : World).heap[D]? = some (.cells (pnc p) 40 (0, 0)) := Z4.out
      have hTd : Calm w4 { w4 with drawn := w4.drawn + 1 } := (Touch.refl _ w4).drew
      have B5 := hide (B4.out.calm hTd)
      have HC5 := hide (HC4.out.tr hTd)
      have HDs : Hid (D < ({ w4 with drawn := w4.drawn + 1 } : World).heap.size) := hide (lt_of_heap hT0)
      have HMs : Hid (m < ({ w4 with drawn := w4.drawn + 1 } : World).heap.size) := hide (by obtain ⟨ro, h1, -⟩ := B5.out.mt; exact lt_of_heap h1)
      clear hTd B4 HC4 Z4
      generalize ({ w4 with drawn := w4.drawn + 1 } : World) = wa at *
      have SEE : Hid (∀ W : World, W.heap[D]? = some (.cells (pnc p) 40 (0, 0)) → W.cell? ⟨D, 0, none⟩ = some (.string p.k)) := hide fun W hW => (pn_cells hW).1.1
      refine wpAnyZ_yield 0 22 (.pointer (some ⟨m, 0, none⟩)) [7] rfl rfl (by kernel_rfl) (by kernel_rfl) (by kernel_rfl) (by kernel_rfl) (by kernel_rfl) (fun _ _ _ h => h) (by kernel_rfl) (fun W hW => by kernel_rfl) (by assumption) rfl rfl ?_
      simp only [Act.put, List.setIfInBounds_toArray, List.set_cons_zero, List.set_cons_succ]
      refine wpAnyZ_yield 1 23 (.pointer (some ⟨D, 0, none⟩)) [2, 7] rfl rfl (by kernel_rfl) (by kernel_rfl) (by kernel_rfl) (by kernel_rfl) (by kernel_rfl) (fun _ _ _ h => h) (by kernel_rfl) (fun W hW => by go_simp) (by assumption) rfl rfl ?_
      simp only [Act.put, List.setIfInBounds_toArray, List.set_cons_zero, List.set_cons_succ]
      refine wpAnyZ_yield 2 24 (.string p.k) [7] rfl rfl (by kernel_rfl) (by kernel_rfl) (by kernel_rfl) (by kernel_rfl) (by kernel_rfl) (fun _ _ _ h => h) (by kernel_rfl) (fun W hW => by have c0 := SEE.out W hW; go_simp) (by assumption) rfl rfl ?_
      simp only [Act.put, List.setIfInBounds_toArray, List.set_cons_zero, List.set_cons_succ]
      refine wpAnyZ_yield 3 25 (.slice (was (cmpS p.k) X).1 (was (cmpS p.k) X).2.1 (was (cmpS p.k) X).2.2) [6, 7] rfl rfl (by kernel_rfl) (by kernel_rfl) (by kernel_rfl) (by kernel_rfl) (by kernel_rfl) (fun _ _ _ h => h) (by kernel_rfl) (fun W hW => by kernel_rfl) (by assumption) rfl rfl ?_
      simp only [Act.put, List.setIfInBounds_toArray, List.set_cons_zero, List.set_cons_succ]
      refine wpAnyZ_yield 4 26 (pnv p) [5, 6, 7] rfl rfl (by kernel_rfl) (by kernel_rfl) (by kernel_rfl) (by kernel_rfl) (by kernel_rfl) (fun _ _ _ h => h) (by kernel_rfl) (fun W hW => by obtain ⟨⟨c0, c1, c2, c3, c4⟩, c5, c6, c7, c8⟩ := pn_cells hW; go_simp) (by assumption) rfl rfl ?_
      simp only [Act.put, List.setIfInBounds_toArray, List.set_cons_zero, List.set_cons_succ]
      have PN := Rc.Mem.new (E := encP) wa [p] 40
      have al : Calm wa (wa.alloc (.cells (pnc p) 40)) := (Touch.refl _ _).alloc _
      have als : (wa.alloc (.cells (pnc p) 40)).heap.size = wa.heap.size + 1 := al_size _ _
      refine wpAnyZ_value 5 27 (.slice (some ⟨wa.heap.size, 0, none⟩) 1 1) (w' := wa.alloc (.cells (pnc p) 40)) rfl rfl (by decide) (by kernel_rfl) (by kernel_rfl) (by go_simp) (al.at hT0) ?_
      simp only [Act.put, List.setIfInBounds_toArray, List.set_cons_zero, List.set_cons_succ]
      obtain ⟨ow, sep⟩ := B5.out.at p.k
      have hle := ofP_le (o i) p.k
      have hol2 := hol.out
      have hcs := HC5.out.size
      obtain ⟨i0, hi0, hz, hsz, hby⟩ := Rc.info_parts infoPane
      obtain ⟨a2, p2, w6, hr, ow6, t6, hx6⟩ := Rc.Own.appw (E := encP) (ty := 22) Tryz.underlying22 hi0 hz hsz hby rfl (Rc.Own.calm ow al) (some ⟨wa.heap.size, 0, none⟩) 1 [p] PN (fun h => (nomatch h)) (by unfold maxLen; simp only [List.length_cons, List.length_nil]; omega) (by simp only [List.length_cons, List.length_nil]; omega) (by omega) (by omega)
      have t7 := Touch.trans (S := fun g => (Value.slice (was (cmpS p.k) X).1 (was (cmpS p.k) X).2.1 (was (cmpS p.k) X).2.2).ownBlock = some g) (al.mono fun _ _ h => h.elim) t6 fun _ _ h => h
      obtain ⟨mt6, fin⟩ := B5.out.app p (a2, (ofP (o i) p.k ++ [p]).length, p2) ow6 t7 fun g hg => (hx6 g hg).imp id fun h => by omega
      have hD6 : w6.heap[D]? = some (.cells (pnc p) 40 (0, 0)) := t7.heap hT0 fun hg => Nat.lt_irrefl _ (HDw.out D hg)
      refine wpAnyZ_value 6 28 (.slice a2 (ofP (o i) p.k ++ [p]).length p2) (w' := w6) rfl rfl (by decide) (by kernel_rfl) (by kernel_rfl) (exec_appK rfl hr) hD6 ?_
      simp only [Act.put, List.setIfInBounds_toArray, List.set_cons_zero, List.set_cons_succ]
      have hC6 : Calm w w6 := HC5.out.trans t7 fun g hg hs => by have := (Rc.own_block ow hs).1; omega
      have hnum := B5.out.num
      have CPt := hide (LM.put_any cmpOf m p.k (a2, (ofP (o i) p.k ++ [p]).length, p2) w6 X mt6 trivial (B5.out.up.dec cmpS_ord p.k) ⟨by omega⟩)
      have FIN : Hid (∀ W5, Mt W5 m 56 #[] (lput (cmpS p.k) p.k (a2, (ofP (o i) p.k ++ [p]).length, p2) X) → Touch (fun g => g = m) w6 W5 → Bk w.heap.size m (o (i + 1)) (lput (cmpS p.k) p.k (a2, (ofP (o i) p.k ++ [p]).length, p2) X) W5 ∧ Calm w W5) := hide fun W5 h1 h2 => ⟨by rw [hs.out]; exact fin W5 h1 h2, hC6.trans h2 fun g hg e => by have := HM0.out; omega⟩
      clear fin hC6 mt6 hD6 t7 t6 hx6 ow6 hr PN al als sep ow B5 hT0 HC5 SEE
      generalize (ofP (o i) p.k ++ [p]).length = ln at *
      refine wpAnyZ_last 29 36 #[.pointer (some ⟨m, 0, none⟩), .string p.k, .slice a2 ln p2] rfl rfl (by kernel_rfl) (by kernel_rfl) (by kernel_rfl) (by first | kernel_rfl | go_simp) (CPt.out.mono ?_)
      rintro e w7 ⟨rfl, m7, t7⟩
      obtain ⟨b7, c7⟩ := FIN.out w7 m7 t7
      have HB7 := hide b7
      have HC7 := hide c7
      refine ⟨_, rfl, ?_⟩
      clear FIN CPt m7 t7 b7 c7
      go_wp2_with fail
      go_roundw
      case rel => exact ⟨i + 1, _, by go_num, by omega, HB7.out, HC7.out⟩
      case measure => simp [intOf]; omega
    · have hltz : ¬ (i : Int) < (n : Int) := by omega
      obtain rfl : i = n := by omega
      rw [OE.out] at hB
      have HB := hide hB
      have HC := hide hC
      clear SA OS OL OE hB hC B0 HT1
      go_wp2_with fail
      go_ret
      exact ⟨m, rfl, ⟨X, HB.out⟩, HM0.out, HC.out⟩

end Go.Proofs.YtamfcmmhmfhhkaaGreatDoor

namespace Go.Proofs.YtamfcmmhmfhhkaaGreatDoor
open Go.RowKit

set_option maxRecDepth 100000 in
set_option maxHeartbeats 2000000 in
/-- The same lists. -/
theorem equalP_any (A B : List Pn) (ao bo : Option Addr) (ac bc : Nat) (w : World) (ha : encP.Mem w ao A) (hb : encP.Mem w bo B) (hl : A.length ≤ 140737488355328) (hm : B.length ≤ 140737488355328) : Calls Tryz.prog 31 #[.slice ao A.length ac, .slice bo B.length bc] w fun e w' => e = .returned (.bool (decide (A = B))) ∧ Calm w w' := by
  obtain ⟨x, hx⟩ : ∃ x : Nat → Pn, ∀ i, x i = A.getD i pn0 := ⟨fun i => A.getD i pn0, fun _ => rfl⟩
  obtain ⟨y, hy⟩ : ∃ y : Nat → Pn, ∀ i, y i = B.getD i pn0 := ⟨fun i => B.getD i pn0, fun _ => rfl⟩
  have SA : Hid (∀ j, j < A.length → ∃ g off, ao = some ⟨g, off, none⟩ ∧ ∀ W, Calm w W → pcell W g (off + j * 9) (x j)) := hide fun j hj => by
    rw [hx]; exact pn_W ha j hj
  have SB : Hid (∀ j, j < B.length → ∃ g off, bo = some ⟨g, off, none⟩ ∧ ∀ W, Calm w W → pcell W g (off + j * 9) (y j)) := hide fun j hj => by
    rw [hy]; exact pn_W hb j hj
  have HN : Hid (A.length ≠ B.length → decide (A = B) = false) := hide fun h => decide_eq_false fun e => h (by rw [e])
  have HE : Hid (A.length = B.length → (∀ j, j < A.length → x j = y j) → decide (A = B) = true) := hide fun h k => decide_eq_true (List.ext_getElem h fun j h1 h2 => by
    have := k j h1
    rw [hx, hy, List.getD_eq_getElem?_getD, List.getD_eq_getElem?_getD, List.getElem?_eq_getElem h1, List.getElem?_eq_getElem h2] at this
    exact this)
  have HF : Hid (∀ j, j < A.length → x j ≠ y j → decide (A = B) = false) := hide fun j hj k => decide_eq_false fun e => k (by rw [hx, hy, e])
  clear ha hb hx hy
  generalize decide (A = B) = z at *
  generalize hn : A.length = n at *
  generalize hm' : B.length = m at *
  go_enter Tryz.func31, Tryz.ntmps31
  by_cases hnm : n = m
  case neg =>
    have hz : ¬ (n : Int) = (m : Int) := by omega
    have hz0 := HN.out hnm
    subst hz0
    clear HN HE HF SA SB
    go_wp2_with fail
    go_ret
    exact ⟨rfl, Touch.refl _ _⟩
  subst hnm
  clear HN
  go_wp2_with fail
  go_loopw [13] (fun s13 wr => ∃ i : Nat, s13 = .int .i64 (i : Int) ∧ i ≤ n ∧ (∀ j, j < i → x j = y j) ∧ Calm w wr) (fun s13 _ => n - (intOf s13).toNat)
  case atStart => exact ⟨0, rfl, by omega, fun j hj => by omega, Touch.refl _ _⟩
  case round =>
    obtain ⟨i, rfl, hi, hS, hC⟩ := hrel
    by_cases hlt : i < n
    · have hltz : (i : Int) < (n : Int) := by omega
      obtain ⟨ga, oa, rfl, ca⟩ := SA.out i hlt
      obtain ⟨gb, ob, rfl, cb⟩ := SB.out i hlt
      have KA := hide ca
      have KB := hide cb
      have HC := hide hC
      have HS := hide hS
      have HQ := hide (fun h : x i ≠ y i => HF.out i hlt h)
      have HR := hide (fun h : x i = y i => (fun j (hj : j < i + 1) => if e : j = i then by subst e; exact h else hS j (by omega) : ∀ j, j < i + 1 → x j = y j))
      clear SA SB ca cb hC hS HF HE
      generalize x i = p at *
      generalize y i = q at *
      go_wp2_with fail
      refine wp_region_held (S := Calm w) (by kernel_rfl) ?_
      have hT0 : Calm w { wr with drawn := wr.drawn + 1 } := HC.out.drew
      refine wpAnyH_yield 0 16 (.slice (some ⟨ga, oa, none⟩) n ac) rfl rfl (by kernel_rfl) (by kernel_rfl) (by kernel_rfl) (fun _ _ _ h => h) (by kernel_rfl) (fun W hW => by kernel_rfl) (by assumption) rfl rfl ?_
      simp only [Act.put, List.setIfInBounds_toArray, List.set_cons_zero, List.set_cons_succ]
      refine wpAnyH_yield 1 17 (.int .i64 (i : Int)) rfl rfl (by kernel_rfl) (by kernel_rfl) (by kernel_rfl) (fun _ _ _ h => h) (by kernel_rfl) (fun W hW => by kernel_rfl) (by assumption) rfl rfl ?_
      simp only [Act.put, List.setIfInBounds_toArray, List.set_cons_zero, List.set_cons_succ]
      refine wpAnyH_yield 2 18 (.pointer (some ⟨ga, oa + i * 9, none⟩)) rfl rfl (by kernel_rfl) (by kernel_rfl) (by kernel_rfl) (fun _ _ _ h => h) (by kernel_rfl) (fun W hW => by go_simp) (by assumption) rfl rfl ?_
      simp only [Act.put, List.setIfInBounds_toArray, List.set_cons_zero, List.set_cons_succ]
      refine wpAnyH_yield 3 19 (pnv p) rfl rfl (by kernel_rfl) (by kernel_rfl) (by kernel_rfl) (fun _ _ _ h => h) (by kernel_rfl) (fun W hW => by obtain ⟨⟨c0, c1, c2, c3, c4⟩, c5, c6, c7, c8⟩ := KA.out W hW; go_simp) (by assumption) rfl rfl ?_
      simp only [Act.put, List.setIfInBounds_toArray, List.set_cons_zero, List.set_cons_succ]
      refine wpAnyH_yield 4 20 (.slice (some ⟨gb, ob, none⟩) n bc) rfl rfl (by kernel_rfl) (by kernel_rfl) (by kernel_rfl) (fun _ _ _ h => h) (by kernel_rfl) (fun W hW => by kernel_rfl) (by assumption) rfl rfl ?_
      simp only [Act.put, List.setIfInBounds_toArray, List.set_cons_zero, List.set_cons_succ]
      refine wpAnyH_yield 5 21 (.int .i64 (i : Int)) rfl rfl (by kernel_rfl) (by kernel_rfl) (by kernel_rfl) (fun _ _ _ h => h) (by kernel_rfl) (fun W hW => by kernel_rfl) (by assumption) rfl rfl ?_
      simp only [Act.put, List.setIfInBounds_toArray, List.set_cons_zero, List.set_cons_succ]
      refine wpAnyH_yield 6 22 (.pointer (some ⟨gb, ob + i * 9, none⟩)) rfl rfl (by kernel_rfl) (by kernel_rfl) (by kernel_rfl) (fun _ _ _ h => h) (by kernel_rfl) (fun W hW => by go_simp) (by assumption) rfl rfl ?_
      simp only [Act.put, List.setIfInBounds_toArray, List.set_cons_zero, List.set_cons_succ]
      refine wpAnyH_yield 7 23 (pnv q) rfl rfl (by kernel_rfl) (by kernel_rfl) (by kernel_rfl) (fun _ _ _ h => h) (by kernel_rfl) (fun W hW => by obtain ⟨⟨c0, c1, c2, c3, c4⟩, c5, c6, c7, c8⟩ := KB.out W hW; go_simp) (by assumption) rfl rfl ?_
      simp only [Act.put, List.setIfInBounds_toArray, List.set_cons_zero, List.set_cons_succ]
      refine wpAnyH_yield 8 24 (.bool (!decide (p = q))) rfl rfl (by kernel_rfl) (by kernel_rfl) (by kernel_rfl) (fun _ _ _ h => h) (by kernel_rfl) (fun W hW => by go_simp; exact pn_ifs p q (fun b => Result.ok (Next.value (.bool b)) W)) (by assumption) rfl rfl ?_
      simp only [Act.put, List.setIfInBounds_toArray, List.set_cons_zero, List.set_cons_succ]
      refine wpAnyH_done (by kernel_rfl) ?_ _
      have H1 := hide hT0
      clear hT0 HC
      by_cases hpq : p = q
      · have hd : (!decide (p = q)) = false := by rw [decide_eq_true hpq]; rfl
        have HX := hide (HR.out hpq)
        rw [hd]
        clear HR HQ hd
        go_wp2_with fail
        go_roundw
        case rel => exact ⟨i + 1, by go_num, by omega, HX.out, H1.out⟩
        case measure => simp [intOf]; omega
      · have hd : (!decide (p = q)) = true := by rw [decide_eq_false hpq]; rfl
        have hz := HQ.out hpq
        subst hz
        rw [hd]
        clear HR HQ hd
        go_wp2_with fail
        go_ret
        exact ⟨rfl, H1.out⟩
    · have hltz : ¬ (i : Int) < (n : Int) := by omega
      obtain rfl : i = n := by omega
      have HC := hide hC
      have hz := HE.out (by first | rfl | trivial) hS
      subst hz
      clear SA SB hC HE HF
      go_wp2_with fail
      go_ret
      exact ⟨rfl, HC.out⟩

end Go.Proofs.YtamfcmmhmfhhkaaGreatDoor
