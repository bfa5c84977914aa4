/- Orders: lists that rise by one, with a key put or taken. No memory. cmp.Compare of texts. Panes by keys in the store: what is held. The program's panes by keys. -/
import Derived.Test.YtamfcmmhmfhhkaaGreatDoorG20
import Derived.Test.YtamfcmmhmfhhkaaGreatDoorG23
import Derived.Test.YtamfcmmhmfhhkaaGreatDoorG21
import Derived.Test.YtamfcmmhmfhhkaaGreatDoorG10
import Derived.Deep.CutRange
namespace Go.Proofs.YtamfcmmhmfhhkaaGreatDoor

/-- An order. -/
structure Ordr {K : Type} (c : K → K → Int) : Prop where
  anti : ∀ a b, c b a = - c a b
  trans : ∀ a b d, c a b ≤ 0 → c b d ≤ 0 → c a d ≤ 0

section
variable {K V : Type} {c : K → K → Int}

theorem Ordr.lt_le (h : Ordr c) {a b d : K} (h1 : c a b < 0) (h2 : c b d ≤ 0) : c a d < 0 := by
  rcases (show c a d < 0 ∨ 0 ≤ c a d by omega) with h3 | h3
  · exact h3
  · have h4 := h.trans b d a h2 (by rw [h.anti a d]; omega)
    rw [h.anti a b] at h4
    omega

theorem Ordr.le_lt (h : Ordr c) {a b d : K} (h1 : c a b ≤ 0) (h2 : c b d < 0) : c a d < 0 := by
  rcases (show c a d < 0 ∨ 0 ≤ c a d by omega) with h3 | h3
  · exact h3
  · have h4 := h.trans d a b (by rw [h.anti a d]; omega) h1
    rw [h.anti b d] at h4
    omega

theorem Ordr.self (h : Ordr c) (a : K) : c a a = 0 := by have := h.anti a a; omega

/-- What rises. -/
def Up (c : K → K → Int) (X : List (K × V)) : Prop := X.Pairwise fun a b => c a.1 b.1 < 0

theorem Up.dec (h : Ordr c) {X : List (K × V)} (hX : Up c X) (key : K) : Dec (c key) X := by
  unfold Up at hX
  exact hX.imp fun {a b} hab ha => h.le_lt ha hab

theorem up_mem {f : K → Int} {X : List (K × V)} {a : K × V} : a ∈ up f X ↔ a ∈ X ∧ 0 < f a.1 := by unfold up; simp
theorem dn_mem {f : K → Int} {X : List (K × V)} {a : K × V} : a ∈ dn f X ↔ a ∈ X ∧ f a.1 < 0 := by unfold dn; simp
theorem it_some {f : K → Int} {X : List (K × V)} {a : K × V} (h : it f X = some a) : a ∈ X ∧ f a.1 = 0 := by
  unfold it at h
  exact ⟨List.mem_of_find?_eq_some h, by simpa using List.find?_some h⟩

theorem Up.put (h : Ordr c) {X : List (K × V)} (hX : Up c X) (key : K) (v : V) : Up c (lput (c key) key v X) := by
  unfold Up at hX ⊢
  have hk : ∃ k', Go.Proofs.YtamfcmmhmfhhkaaGreatDoor.lput (c key) key v X = up (c key) X ++ (k', v) :: dn (c key) X ∧ c key k' = 0 := by
    unfold Go.Proofs.YtamfcmmhmfhhkaaGreatDoor.lput
    cases hi : it (c key) X with
    | none => exact ⟨key, rfl, h.self key⟩
    | some a => exact ⟨a.1, rfl, (it_some hi).2⟩
  obtain ⟨k', e, hk'⟩ := hk
  rw [e, List.pairwise_append, List.pairwise_cons]
  have hxk : ∀ a ∈ up (c key) X, c a.1 k' < 0 := fun a ha => by
    have := (up_mem.1 ha).2
    exact h.lt_le (b := key) (by rw [h.anti key a.1]; omega) (by omega)
  have hky : ∀ b ∈ dn (c key) X, c k' b.1 < 0 := fun b hb => by
    have := (dn_mem.1 hb).2
    exact h.le_lt (b := key) (by rw [h.anti key k']; omega) this
  refine ⟨hX.sublist List.filter_sublist, ⟨hky, hX.sublist List.filter_sublist⟩, fun a ha b hb => ?_⟩
  rcases List.mem_cons.1 hb with rfl | hb
  · exact hxk a ha
  · exact h.lt_le (hxk a ha) (Int.le_of_lt (hky b hb))

theorem Up.drop (h : Ordr c) {X : List (K × V)} (hX : Up c X) (key : K) : Up c (ldrop (c key) X) := by
  unfold Up at hX ⊢
  unfold Go.Proofs.YtamfcmmhmfhhkaaGreatDoor.ldrop
  rw [List.pairwise_append]
  refine ⟨hX.sublist List.filter_sublist, hX.sublist List.filter_sublist, fun a ha b hb => ?_⟩
  have h1 := (up_mem.1 ha).2
  have h2 := (dn_mem.1 hb).2
  exact h.lt_le (b := key) (by rw [h.anti key a.1]; omega) (Int.le_of_lt h2)

/-- The place of a key that is there. -/
theorem Up.place (h : Ordr c) {X : List (K × V)} (hX : Up c X) {n : Nat} (hn : n < X.length) : (up (c X[n].1) X).length = n ∧ it (c X[n].1) X = some X[n] := by
  have e : X = X.take n ++ X[n] :: X.drop (n + 1) := by
    rw [← List.drop_eq_getElem_cons hn, List.take_append_drop]
  have hd := hX.dec h X[n].1
  generalize hx : X[n] = x at *
  rw [e] at hd ⊢
  obtain ⟨a, b, d⟩ := at_way hd (h.self x.1)
  rw [a, d]
  exact ⟨by rw [List.length_take]; omega, rfl⟩

theorem mem_lput {f : K → Int} {k : K} {v : V} {X : List (K × V)} {a : K × V} (ha : a ∈ lput f k v X) : (a ∈ X) ∨ (a.2 = v ∧ (a.1 = k ∨ ∃ b ∈ X, f b.1 = 0 ∧ a.1 = b.1)) := by
  unfold lput at ha
  rcases List.mem_append.1 ha with ha | ha
  · exact .inl (up_mem.1 ha).1
  · rcases List.mem_cons.1 ha with rfl | ha
    · refine .inr ⟨rfl, ?_⟩
      cases hi : it f X with
      | none => exact .inl rfl
      | some b => exact .inr ⟨b, (it_some hi).1, (it_some hi).2, rfl⟩
    · exact .inl (dn_mem.1 ha).1

theorem mem_ldrop {f : K → Int} {X : List (K × V)} {a : K × V} (ha : a ∈ ldrop f X) : a ∈ X := by
  unfold ldrop at ha
  rcases List.mem_append.1 ha with ha | ha
  · exact (up_mem.1 ha).1
  · exact (dn_mem.1 ha).1
end

end Go.Proofs.YtamfcmmhmfhhkaaGreatDoor

namespace Go.Proofs.YtamfcmmhmfhhkaaGreatDoor.LM
open Go.RowKit

/-- The model's '<' on texts is the lexical order of their bytes. -/
theorem less_eq : ∀ (x y : List UInt8), Op.bytesLess x y = decide (x < y)
  | [], [] => by simp [Op.bytesLess]
  | _ :: _, [] => by simp [Op.bytesLess]
  | [], _ :: _ => by simp [Op.bytesLess]
  | a :: x, b :: y => by
    rw [Op.bytesLess, less_eq x y]
    simp only [List.cons_lt_cons_iff]
    by_cases h1 : a < b <;> by_cases h2 : a = b <;> by_cases h3 : x < y <;> simp [h1, h2, h3]

/-- How two texts compare. -/
def cmpS (a b : ByteArray) : Int := if Op.bytesLess a.toList b.toList = true then -1 else if (a.toList == b.toList) = true then 0 else 1

theorem cmpS_lt {a b : ByteArray} : cmpS a b < 0 ↔ a.toList < b.toList := by
  unfold cmpS
  rw [less_eq]
  by_cases h : a.toList < b.toList
  · simp [h]
  · simp only [h, decide_false, Bool.false_eq_true, if_false]
    split <;> simp

theorem cmpS_eq {a b : ByteArray} : cmpS a b = 0 ↔ a.toList = b.toList := by
  unfold cmpS
  rw [less_eq]
  by_cases h : a.toList < b.toList
  · simp only [h, decide_true, if_true]
    refine ⟨fun h => by omega, fun e => ?_⟩
    rw [e] at h
    exact absurd h (List.lt_irrefl _)
  · simp only [h, decide_false, Bool.false_eq_true, if_false]
    by_cases e : a.toList = b.toList <;> simp [e]

theorem cmpS_gt {a b : ByteArray} : 0 < cmpS a b ↔ b.toList < a.toList := by
  constructor
  · intro h
    refine Classical.byContradiction fun hn => ?_
    have h1 : ¬ a.toList < b.toList := fun h1 => by have := cmpS_lt.2 h1; omega
    have := cmpS_eq.2 (List.le_antisymm (List.not_lt.1 hn) (List.not_lt.1 h1))
    omega
  · intro h
    rcases (show cmpS a b < 0 ∨ cmpS a b = 0 ∨ 0 < cmpS a b by omega) with h1 | h1 | h1
    · exact absurd (List.lt_trans h (cmpS_lt.1 h1)) (List.lt_irrefl _)
    · rw [cmpS_eq.1 h1] at h; exact absurd h (List.lt_irrefl _)
    · exact h1

theorem cmpS_val (a b : ByteArray) : cmpS a b = -1 ∨ cmpS a b = 0 ∨ cmpS a b = 1 := by
  unfold cmpS
  split
  · simp
  · split <;> simp

theorem cmpS_ord : Ordr cmpS where
  anti := fun a b => by
    rcases cmpS_val a b with h | h | h
    · have h1 := cmpS_gt.2 (cmpS_lt.1 (show cmpS a b < 0 by omega))
      have := cmpS_val b a; omega
    · have h1 := cmpS_eq.2 (cmpS_eq.1 h).symm
      omega
    · have h1 := cmpS_lt.2 (cmpS_gt.1 (show 0 < cmpS a b by omega))
      have := cmpS_val b a; omega
  trans := fun a b d h1 h2 => by
    rcases (show cmpS a b < 0 ∨ cmpS a b = 0 by omega) with g1 | g1
    · rcases (show cmpS b d < 0 ∨ cmpS b d = 0 by omega) with g2 | g2
      · exact Int.le_of_lt (cmpS_lt.2 (List.lt_trans (cmpS_lt.1 g1) (cmpS_lt.1 g2)))
      · refine Int.le_of_lt (cmpS_lt.2 ?_); rw [← cmpS_eq.1 g2]; exact cmpS_lt.1 g1
    · rcases (show cmpS b d < 0 ∨ cmpS b d = 0 by omega) with g2 | g2
      · refine Int.le_of_lt (cmpS_lt.2 ?_); rw [cmpS_eq.1 g1]; exact cmpS_lt.1 g2
      · exact Int.le_of_eq (cmpS_eq.2 ((cmpS_eq.1 g1).trans (cmpS_eq.1 g2)))

set_option maxRecDepth 100000 in
theorem isNaNS_any (a : ByteArray) (w : World) : Calls Tryz.prog 72 #[.string a] w fun e w' => e = .returned (.bool false) ∧ w' = w := by
  go_enter Tryz.func72, Tryz.ntmps72
  go_wp2_with fail
  go_ret
  exact ⟨by simp, rfl⟩

set_option maxRecDepth 100000 in
theorem cmpS_any (a b : ByteArray) (w : World) : Calls Tryz.prog 56 #[.string a, .string b] w fun e w' => e = .returned (.int .i64 (cmpS a b)) ∧ w' = w := by
  have NA := hide (isNaNS_any a w)
  have NB := hide (isNaNS_any b w)
  unfold cmpS
  go_enter Tryz.func56, Tryz.ntmps56
  go_wp2_with fail
  refine NA.out.mono ?_
  rintro e w' ⟨rfl, hq⟩
  obtain rfl := hq.symm
  clear hq
  go_wp2_with fail
  refine NB.out.mono ?_
  rintro e w' ⟨rfl, hq⟩
  obtain rfl := hq.symm
  clear hq
  cases h1 : Op.bytesLess a.toList b.toList <;> cases h2 : (a.toList == b.toList)
  all_goals
    go_wp2_with fail
    all_goals
      go_ret
      exact ⟨by simp, rfl⟩

/-- cmp.Compare of texts as an order. -/
theorem cmpOf : Cmp 56 #[] cmpS (fun _ => True) where
  enter := fun args w => by kernel_rfl
  calls := fun a b w _ => cmpS_any a b w
  calm := fun _ _ _ _ => trivial

end Go.Proofs.YtamfcmmhmfhhkaaGreatDoor.LM

namespace Go.Proofs.YtamfcmmhmfhhkaaGreatDoor.LM
open Go.RowKit

abbrev Rw := ByteArray × (Option Addr × Nat × Nat)
abbrev rwv (x : Rw) : Value := .slice x.2.1 x.2.2.1 x.2.2.2

theorem cmpS_key {a b : ByteArray} (h : cmpS a b = 0) : a = b := by
  have := cmpS_eq.1 h
  rw [ByteArray.toList_eq, ByteArray.toList_eq] at this
  exact ByteArray.ext (Array.toList_inj.1 this)
theorem cmpS_me (a : ByteArray) : cmpS a a = 0 := cmpS_eq.2 rfl

theorem lput_mem (k : ByteArray) (v : Option Addr × Nat × Nat) (X : List Rw) {x : Rw} : x ∈ lput (cmpS k) k v X ↔ (x ∈ X ∧ x.1 ≠ k) ∨ x = (k, v) := by
  have ek : ∃ k', lput (cmpS k) k v X = up (cmpS k) X ++ (k', v) :: dn (cmpS k) X ∧ k' = k := by
    unfold lput
    cases hi : it (cmpS k) X with
    | none => exact ⟨k, rfl, rfl⟩
    | some a => exact ⟨a.1, rfl, (cmpS_key (it_some hi).2).symm⟩
  obtain ⟨k', e, rfl⟩ := ek
  rw [e, List.mem_append, List.mem_cons, up_mem, dn_mem]
  constructor
  · rintro (⟨h, h2⟩ | rfl | ⟨h, h2⟩)
    · exact .inl ⟨h, fun e => by rw [e, cmpS_me] at h2; omega⟩
    · exact .inr rfl
    · exact .inl ⟨h, fun e => by rw [e, cmpS_me] at h2; omega⟩
  · rintro (⟨h, h2⟩ | rfl)
    · rcases Int.lt_trichotomy (cmpS k' x.1) 0 with g | g | g
      · exact .inr (.inr ⟨h, g⟩)
      · exact absurd (cmpS_key g).symm h2
      · exact .inl ⟨h, g⟩
    · exact .inr (.inl rfl)

theorem was_in (k : ByteArray) (X : List Rw) : ((∀ x ∈ X, x.1 ≠ k) ∧ was (cmpS k) X = (none, 0, 0)) ∨ ∃ x ∈ X, x.1 = k ∧ was (cmpS k) X = x.2 := by
  unfold was
  cases hi : it (cmpS k) X with
  | none =>
    refine .inl ⟨fun x hx e => ?_, rfl⟩
    unfold it at hi
    rw [List.find?_eq_none] at hi
    exact hi x hx (by rw [e]; simp [cmpS_me])
  | some a => exact .inr ⟨a, (it_some hi).1, (cmpS_key (it_some hi).2).symm, rfl⟩

/-- The panes of a list, by their keys. -/
structure Bk (b0 m : Nat) (L : List Pn) (X : List Rw) (W : World) : Prop where
  mt : Mt W m 56 #[] X
  up : Up cmpS X
  key : ∀ k, (∃ x ∈ X, x.1 = k) ↔ ∃ p ∈ L, p.k = k
  row : ∀ x ∈ X, encP.Own 40 W b0 (rwv x) (ofP L x.1)
  sep : ∀ x ∈ X, ∀ y ∈ X, x.1 ≠ y.1 → ∀ g, (rwv x).ownBlock = some g → (rwv y).ownBlock ≠ some g
  off : ∀ x ∈ X, (rwv x).ownBlock ≠ some m
  num : X.length ≤ L.length

theorem Bk.calm {b0 m : Nat} {L : List Pn} {X : List Rw} {W W' : World} (h : Bk b0 m L X W) (ht : Calm W W') : Bk b0 m L X W' := ⟨h.mt.calm ht, h.up, h.key, fun x hx => Rc.Own.calm (h.row x hx) ht, h.sep, h.off, h.num⟩
theorem Bk.none {b0 m : Nat} {W : World} (h : Mt W m 56 #[] []) : Bk b0 m [] [] W := ⟨h, List.Pairwise.nil, fun k => by simp, fun x hx => by simp at hx, fun x hx => by simp at hx, fun x hx => by simp at hx, Nat.le_refl _⟩

theorem ofP_no {L : List Pn} {k : ByteArray} (h : ∀ p ∈ L, p.k ≠ k) : ofP L k = [] := by
  unfold ofP
  rw [List.filter_eq_nil_iff]
  intro p hp
  simp [h p hp]

/-- What lies under a key. -/
theorem Bk.at {b0 m : Nat} {L : List Pn} {X : List Rw} {W : World} (h : Bk b0 m L X W) (k : ByteArray) : encP.Own 40 W b0 (.slice (was (cmpS k) X).1 (was (cmpS k) X).2.1 (was (cmpS k) X).2.2) (ofP L k) ∧ ∀ g, (Value.slice (was (cmpS k) X).1 (was (cmpS k) X).2.1 (was (cmpS k) X).2.2).ownBlock = some g → g ≠ m ∧ ∀ y ∈ X, y.1 ≠ k → (rwv y).ownBlock ≠ some g := by
  rcases was_in k X with ⟨h1, h2⟩ | ⟨x, hx, rfl, h2⟩
  · rw [h2, ofP_no (fun p hp e => by obtain ⟨x, hx, e2⟩ := (h.key k).2 ⟨p, hp, e⟩; exact h1 x hx e2)]
    exact ⟨Rc.Own.nil _ _ _, fun g hg => by simp [Value.ownBlock] at hg⟩
  · rw [h2]
    exact ⟨h.row x hx, fun g hg => ⟨fun e => h.off x hx (by rw [← e]; exact hg), fun y hy hk => h.sep x hx y hy (fun e => hk e.symm) g hg⟩⟩

theorem Bk.app {b0 m : Nat} {L : List Pn} {X : List Rw} {W W4 : World} (h : Bk b0 m L X W) (p : Pn) (v : Option Addr × Nat × Nat) (hr : encP.Own 40 W4 b0 (.slice v.1 v.2.1 v.2.2) (ofP L p.k ++ [p]))
    (ht : Touch (fun g => (Value.slice (was (cmpS p.k) X).1 (was (cmpS p.k) X).2.1 (was (cmpS p.k) X).2.2).ownBlock = some g) W W4)
    (hx : ∀ g, (Value.slice v.1 v.2.1 v.2.2).ownBlock = some g → (Value.slice (was (cmpS p.k) X).1 (was (cmpS p.k) X).2.1 (was (cmpS p.k) X).2.2).ownBlock = some g ∨ W.heap.size ≤ g) :
    Mt W4 m 56 #[] X ∧ ∀ W5, Mt W5 m 56 #[] (lput (cmpS p.k) p.k v X) → Touch (fun g => g = m) W4 W5 → Bk b0 m (L ++ [p]) (lput (cmpS p.k) p.k v X) W5 := by
  obtain ⟨k1, k2⟩ := h.at p.k
  have hm : m < W.heap.size := by obtain ⟨ro, h1, -⟩ := h.mt; exact lt_of_heap h1
  have hlt : ∀ y ∈ X, ∀ g, (rwv y).ownBlock = some g → g < W.heap.size := fun y hy g hg => by
    obtain ⟨-, cur, e⟩ := Rc.own_block (h.row y hy) hg
    exact lt_of_heap e
  have hv : ∀ g, (Value.slice v.1 v.2.1 v.2.2).ownBlock = some g → g ≠ m ∧ ∀ y ∈ X, y.1 ≠ p.k → (rwv y).ownBlock ≠ some g := fun g hg => by
    rcases hx g hg with hg | hg
    · exact k2 g hg
    · exact ⟨by omega, fun y hy _ e => by have := hlt y hy g e; omega⟩
  refine ⟨h.mt.touch ht (fun hg => (k2 m hg).1 rfl) fun b cs fr hb e => ?_, fun W5 mt tm => ⟨mt, h.up.put cmpS_ord p.k v, fun k => ?_, fun x hxm => ?_, fun x hxm y hym hxy g hg hgy => ?_, fun x hxm => ?_, ?_⟩⟩
  · obtain ⟨-, cur, e2⟩ := Rc.own_block k1 hb
    rw [e2] at e
    injection e with e
    injection e with _ e
    exact absurd e (by decide)
  · constructor
    · rintro ⟨x, hxm, rfl⟩
      rcases (lput_mem _ _ _).1 hxm with ⟨g, -⟩ | rfl
      · obtain ⟨q, hq, e⟩ := (h.key x.1).1 ⟨x, g, rfl⟩
        exact ⟨q, by simp [hq], e⟩
      · exact ⟨p, by simp, rfl⟩
    · rintro ⟨q, hq, rfl⟩
      by_cases e : q.k = p.k
      · exact ⟨(p.k, v), (lput_mem _ _ _).2 (.inr rfl), e.symm⟩
      · rcases List.mem_append.1 hq with hq | hq
        · obtain ⟨x, hx2, e2⟩ := (h.key q.k).2 ⟨q, hq, rfl⟩
          exact ⟨x, (lput_mem _ _ _).2 (.inl ⟨hx2, by rw [e2]; exact e⟩), e2⟩
        · rw [List.mem_singleton] at hq
          exact absurd (by rw [hq]) e
  · rcases (lput_mem _ _ _).1 hxm with ⟨g, hk⟩ | rfl
    · have e : ofP (L ++ [p]) x.1 = ofP L x.1 := by
        rw [ofP_app, ofP_no (L := [p]) (fun q hq e => hk (by rw [List.mem_singleton] at hq; rw [← e, hq])), List.append_nil]
      rw [e]
      exact Rc.Own.touch (Rc.Own.touch (h.row x g) ht fun d hd s => (k2 d s).2 x g hk hd) tm fun d hd s => h.off x g (by rw [← s]; exact hd)
    · have e : ofP (L ++ [p]) p.k = ofP L p.k ++ [p] := by
        rw [ofP_app]
        simp [ofP]
      rw [e]
      exact Rc.Own.touch hr tm fun d hd s => (hv d hd).1 s
  · rcases (lput_mem _ _ _).1 hxm with ⟨g1, hk1⟩ | rfl <;> rcases (lput_mem _ _ _).1 hym with ⟨g2, hk2⟩ | rfl
    · exact h.sep x g1 y g2 hxy g hg hgy
    · exact (hv g hgy).2 x g1 hk1 hg
    · exact (hv g hg).2 y g2 hk2 hgy
    · exact hxy rfl
  · rcases (lput_mem _ _ _).1 hxm with ⟨g1, hk1⟩ | rfl
    · exact h.off x g1
    · exact fun e => (hv m e).1 rfl
  · have := (lput_len (v := v) (k := p.k) (h.up.dec cmpS_ord p.k)).1
    have := h.num
    rw [List.length_append]
    simp only [List.length_cons, List.length_nil]
    omega

end Go.Proofs.YtamfcmmhmfhhkaaGreatDoor.LM

namespace Go.Proofs.YtamfcmmhmfhhkaaGreatDoor
open Go.RowKit LM

theorem exec_appK {ρ : Operand → Value} {o : Oper} {s x : Operand} {t : TypeId} {w w' : World} {v' : Value} (ho : o.op = .call { callee := .builtin .append, args := #[s, x], argTypes := #[t, t] })
    (h : (Builtin.append_ #[t, t] o.type #[ρ s, ρ x]).run Tryz.prog w = .ok v' w') : (execOp ρ o).run Tryz.prog w = .ok (.value v') w' := by
  unfold execOp
  simp only [ho, resolve, invoke, builtin, Sem.run_bind, Sem.run_pure, Result.andThen_ok, List.map_toArray, List.map_cons, List.map_nil, h]

set_option maxRecDepth 100000 in
set_option maxHeartbeats 4000000 in
theorem byKeys_any (L : List Pn) (ao : Option Addr) (ac : Nat) (w : World) (ha : encP.Mem w ao L) (hl : L.length ≤ 100000) : Calls Tryz.prog 22 #[.slice ao L.length ac] w fun e w' => ∃ m X, e = .returned (.pointer (some ⟨m, 0, none⟩)) ∧ Bk w.heap.size m L X w' ∧ w.heap.size ≤ m ∧ Calm w w' := by
  have CO := hide (LM.of_any w)
  obtain ⟨x, hx⟩ : ∃ x : Nat → Pn, ∀ i, x i = L.getD i pn0 := ⟨fun i => L.getD i pn0, fun _ => rfl⟩
  obtain ⟨o, ho⟩ : ∃ o : Nat → List Pn, ∀ i, o i = L.take i := ⟨fun i => L.take i, fun _ => rfl⟩
  have SA : Hid (∀ j, j < L.length → ∃ g off, ao = some ⟨g, off, none⟩ ∧ ∀ W, Calm w W → pcell W g (off + j * 9) (x j)) := hide fun j hj => by
    rw [hx]; exact pn_W ha j hj
  have OS : Hid (∀ i, i < L.length → o (i + 1) = o i ++ [x i]) := hide fun i hi => by
    rw [ho, ho, hx, List.take_add_one, List.getElem?_eq_getElem hi, List.getD_eq_getElem?_getD, List.getElem?_eq_getElem hi]
    rfl
  have OL : Hid (∀ i, i ≤ L.length → (o i).length ≤ i) := hide fun i _ => by rw [ho, List.length_take]; omega
  have O0 : Hid (o 0 = []) := hide (by rw [ho]; rfl)
  have OE : Hid (o L.length = L) := hide (by rw [ho, List.take_length])
  clear ho hx ha
  generalize hn : L.length = n at *
  go_enter Tryz.func22, Tryz.ntmps22
  go_wp2_with fail
  refine CO.out.mono ?_
  rintro e w1 ⟨m, rfl, hM, hm0, T1⟩
  have B0 : Hid (Bk w.heap.size m (o 0) [] w1) := hide (by rw [O0.out]; exact Bk.none hM)
  have HM0 := hide hm0
  have HT1 := hide T1
  clear hM hm0 T1 CO O0
  go_wp2_with fail
  go_loopw [11] (fun s11 wr => ∃ (i : Nat) (X : List Rw), s11 = .int .i64 (i : Int) ∧ i ≤ n ∧ Bk w.heap.size m (o i) X wr ∧ Calm w wr) (fun s11 _ => n - (intOf s11).toNat)
  case atStart => exact ⟨0, [], rfl, by omega, B0.out, HT1.out⟩
  case round =>
    obtain ⟨i, X, rfl, hi, hB, hC⟩ := hrel
    by_cases hlt : i < n
    · have hltz : (i : Int) < (n : Int) := by omega
      obtain ⟨g, off, rfl, ca⟩ := SA.out i hlt
      have crow := ca wr hC
      have hs := hide (OS.out i hlt)
      have hol := hide (OL.out i (by omega))
      have BI := hide hB
      have HC := hide hC
      have hi9 : (Tryz.prog.info? 40).map (·.size) = some 9 := by kernel_rfl
      clear SA OS OL OE ca hB hC B0 HT1
      generalize x i = p at *
      have Z0 := hide (al_new wr (.cells (pnc pn0) 40))
      have Z1 := hide (setRow_heap _ _ _ (pnc p) _ _ Z0.out)
      have Z2 : Hid (Touch (fun _ => False) wr ((wr.alloc (.cells (pnc pn0) 40)).setRow wr.heap.size (pnc p))) := hide (((Touch.refl (fun _ => False) wr).alloc _).trans (S' := fun g => g = wr.heap.size) ⟨rfl, rfl, rfl, by simp, fun j _ hj => setRow_other _ _ j _ hj⟩ (fun g hg e => by omega))
      have hq1 : Hid ((pnc p).all (·.oneCell') = true) := hide (by simp [Value.oneCell'])
      have B2 := hide (BI.out.calm Z2.out)
      have HC2 := hide (HC.out.tr Z2.out)
      have CG := hide (LM.get_any cmpOf m p.k _ X B2.out.mt trivial (B2.out.up.dec cmpS_ord p.k))
      have HDw : Hid (∀ g, (Value.slice (was (cmpS p.k) X).1 (was (cmpS p.k) X).2.1 (was (cmpS p.k) X).2.2).ownBlock = some g → g < wr.heap.size) := hide fun g hg => by
        obtain ⟨-, cur, e⟩ := Rc.own_block (BI.out.at p.k).1 hg
        exact lt_of_heap e
      obtain ⟨⟨c0, c1, c2, c3, c4⟩, c5, c6, c7, c8⟩ := crow
      clear BI HC
      go_upto_region 5 with (refine wpList_store_rowTo rfl 40 (.tmp 5) (.tmp 14) rfl rfl wr.heap.size (pnc p) rfl rfl 40 _ Z0.out hi9 rfl hq1.out ?_)
      clear c0 c1 c2 c3 c4 c5 c6 c7 c8
      generalize (wr.alloc (.cells (pnc pn0) 40)).setRow wr.heap.size (pnc p) = w3 at *
      clear Z0 Z2
      generalize wr.heap.size = D at *
      obtain ⟨⟨c0, c1, c2, c3, c4⟩, c5, c6, c7, c8⟩ := pn_cells Z1.out
      go_upto_region 6 with fail
      refine CG.out.mono ?_
      rintro e w4 ⟨rfl, T4⟩
      go_upto_region 6 with fail
      clear c0 c1 c2 c3 c4 c5 c6 c7 c8
      have B4 := hide (B2.out.calm T4)
      have Z4 := hide (T4.at Z1.out)
      have HC4 := hide (HC2.out.tr T4)
      clear T4 CG B2 Z1 HC2
      refine wp_region_z 7 (fun W => W.heap[D]? = some (.cells (pnc p) 40 (0, 0))) (by kernel_rfl) ?_
      have hT0 : ({ w4 with drawn := w4.drawn + 1 } : World).heap[D]? = some (.cells (pnc p) 40 (0, 0)) := Z4.out
      have hTd : Calm w4 { w4 with drawn := w4.drawn + 1 } := (Touch.refl _ w4).drew
      have B5 := hide (B4.out.calm hTd)
      have HC5 := hide (HC4.out.tr hTd)
      have HDs : Hid (D < ({ w4 with drawn := w4.drawn + 1 } : World).heap.size) := hide (lt_of_heap hT0)
      have HMs : Hid (m < ({ w4 with drawn := w4.drawn + 1 } : World).heap.size) := hide (by obtain ⟨ro, h1, -⟩ := B5.out.mt; exact lt_of_heap h1)
      clear hTd B4 HC4 Z4
      generalize ({ w4 with drawn := w4.drawn + 1 } : World) = wa at *
      have SEE : Hid (∀ W : World, W.heap[D]? = some (.cells (pnc p) 40 (0, 0)) → W.cell? ⟨D, 0, none⟩ = some (.string p.k)) := hide fun W hW => (pn_cells hW).1.1
      refine wpAnyZ_yield 0 22 (.pointer (some ⟨m, 0, none⟩)) [7] rfl rfl (by kernel_rfl) (by kernel_rfl) (by kernel_rfl) (by kernel_rfl) (by kernel_rfl) (fun _ _ _ h => h) (by kernel_rfl) (fun W hW => by kernel_rfl) (by assumption) rfl rfl ?_
      simp only [Act.put, List.setIfInBounds_toArray, List.set_cons_zero, List.set_cons_succ]
      refine wpAnyZ_yield 1 23 (.pointer (some ⟨D, 0, none⟩)) [2, 7] rfl rfl (by kernel_rfl) (by kernel_rfl) (by kernel_rfl) (by kernel_rfl) (by kernel_rfl) (fun _ _ _ h => h) (by kernel_rfl) (fun W hW => by go_simp) (by assumption) rfl rfl ?_
      simp only [Act.put, List.setIfInBounds_toArray, List.set_cons_zero, List.set_cons_succ]
      refine wpAnyZ_yield 2 24 (.string p.k) [7] rfl rfl (by kernel_rfl) (by kernel_rfl) (by kernel_rfl) (by kernel_rfl) (by kernel_rfl) (fun _ _ _ h => h) (by kernel_rfl) (fun W hW => by have c0 := SEE.out W hW; go_simp) (by assumption) rfl rfl ?_
      simp only [Act.put, List.setIfInBounds_toArray, List.set_cons_zero, List.set_cons_succ]
      refine wpAnyZ_yield 3 25 (.slice (was (cmpS p.k) X).1 (was (cmpS p.k) X).2.1 (was (cmpS p.k) X).2.2) [6, 7] rfl rfl (by kernel_rfl) (by kernel_rfl) (by kernel_rfl) (by kernel_rfl) (by kernel_rfl) (fun _ _ _ h => h) (by kernel_rfl) (fun W hW => by kernel_rfl) (by assumption) rfl rfl ?_
      simp only [Act.put, List.setIfInBounds_toArray, List.set_cons_zero, List.set_cons_succ]
      refine wpAnyZ_yield 4 26 (pnv p) [5, 6, 7] rfl rfl (by kernel_rfl) (by kernel_rfl) (by kernel_rfl) (by kernel_rfl) (by kernel_rfl) (fun _ _ _ h => h) (by kernel_rfl) (fun W hW => by obtain ⟨⟨c0, c1, c2, c3, c4⟩, c5, c6, c7, c8⟩ := pn_cells hW; go_simp) (by assumption) rfl rfl ?_
      simp only [Act.put, List.setIfInBounds_toArray, List.set_cons_zero, List.set_cons_succ]
      have PN := Rc.Mem.new (E := encP) wa [p] 40
      have al : Calm wa (wa.alloc (.cells (pnc p) 40)) := (Touch.refl _ _).alloc _
      have als : (wa.alloc (.cells (pnc p) 40)).heap.size = wa.heap.size + 1 := al_size _ _
      refine wpAnyZ_value 5 27 (.slice (some ⟨wa.heap.size, 0, none⟩) 1 1) (w' := wa.alloc (.cells (pnc p) 40)) rfl rfl (by decide) (by kernel_rfl) (by kernel_rfl) (by go_simp) (al.at hT0) ?_
      simp only [Act.put, List.setIfInBounds_toArray, List.set_cons_zero, List.set_cons_succ]
      obtain ⟨ow, sep⟩ := B5.out.at p.k
      have hle := ofP_le (o i) p.k
      have hol2 := hol.out
      have hcs := HC5.out.size
      obtain ⟨i0, hi0, hz, hsz, hby⟩ := Rc.info_parts infoPane
      obtain ⟨a2, p2, w6, hr, ow6, t6, hx6⟩ := Rc.Own.appw (E := encP) (ty := 22) Tryz.underlying22 hi0 hz hsz hby rfl (Rc.Own.calm ow al) (some ⟨wa.heap.size, 0, none⟩) 1 [p] PN (fun h => (nomatch h)) (by unfold maxLen; simp only [List.length_cons, List.length_nil]; omega) (by simp only [List.length_cons, List.length_nil]; omega) (by omega) (by omega)
      have t7 := Touch.trans (S := fun g => (Value.slice (was (cmpS p.k) X).1 (was (cmpS p.k) X).2.1 (was (cmpS p.k) X).2.2).ownBlock = some g) (al.mono fun _ _ h => h.elim) t6 fun _ _ h => h
      obtain ⟨mt6, fin⟩ := B5.out.app p (a2, (ofP (o i) p.k ++ [p]).length, p2) ow6 t7 fun g hg => (hx6 g hg).imp id fun h => by omega
      have hD6 : w6.heap[D]? = some (.cells (pnc p) 40 (0, 0)) := t7.heap hT0 fun hg => Nat.lt_irrefl _ (HDw.out D hg)
      refine wpAnyZ_value 6 28 (.slice a2 (ofP (o i) p.k ++ [p]).length p2) (w' := w6) rfl rfl (by decide) (by kernel_rfl) (by kernel_rfl) (exec_appK rfl hr) hD6 ?_
      simp only [Act.put, List.setIfInBounds_toArray, List.set_cons_zero, List.set_cons_succ]
      have hC6 : Calm w w6 := HC5.out.trans t7 fun g hg hs => by have := (Rc.own_block ow hs).1; omega
      have hnum := B5.out.num
      have CPt := hide (LM.put_any cmpOf m p.k (a2, (ofP (o i) p.k ++ [p]).length, p2) w6 X mt6 trivial (B5.out.up.dec cmpS_ord p.k) ⟨by omega⟩)
      have FIN : Hid (∀ W5, Mt W5 m 56 #[] (lput (cmpS p.k) p.k (a2, (ofP (o i) p.k ++ [p]).length, p2) X) → Touch (fun g => g = m) w6 W5 → Bk w.heap.size m (o (i + 1)) (lput (cmpS p.k) p.k (a2, (ofP (o i) p.k ++ [p]).length, p2) X) W5 ∧ Calm w W5) := hide fun W5 h1 h2 => ⟨by rw [hs.out]; exact fin W5 h1 h2, hC6.trans h2 fun g hg e => by have := HM0.out; omega⟩
      clear fin hC6 mt6 hD6 t7 t6 hx6 ow6 hr PN al als sep ow B5 hT0 HC5 SEE
      generalize (ofP (o i) p.k ++ [p]).length = ln at *
      refine wpAnyZ_last 29 36 #[.pointer (some ⟨m, 0, none⟩), .string p.k, .slice a2 ln p2] rfl rfl (by kernel_rfl) (by kernel_rfl) (by kernel_rfl) (by first | kernel_rfl | go_simp) (CPt.out.mono ?_)
      rintro e w7 ⟨rfl, m7, t7⟩
      obtain ⟨b7, c7⟩ := FIN.out w7 m7 t7
      have HB7 := hide b7
      have HC7 := hide c7
      refine ⟨_, rfl, ?_⟩
      clear FIN CPt m7 t7 b7 c7
      go_wp2_with fail
      go_roundw
      case rel => exact ⟨i + 1, _, by go_num, by omega, HB7.out, HC7.out⟩
      case measure => simp [intOf]; omega
    · have hltz : ¬ (i : Int) < (n : Int) := by omega
      obtain rfl : i = n := by omega
      rw [OE.out] at hB
      have HB := hide hB
      have HC := hide hC
      clear SA OS OL OE hB hC B0 HT1
      go_wp2_with fail
      go_ret
      exact ⟨m, rfl, ⟨X, HB.out⟩, HM0.out, HC.out⟩

end Go.Proofs.YtamfcmmhmfhhkaaGreatDoor
