/- The program's All, From, Back, Copy, New, Of: the calls. Orders: lists that rise by one, with a key put or taken. No memory. cmp.Compare of texts. -/
import Derived.Test.YtamfcmmhmfhhkaaDoorG24
import Derived.Test.YtamfcmmhmfhhkaaDoorG22
import Derived.Test.YtamfcmmhmfhhkaaDoorG21
namespace Go.Proofs.YtamfcmmhmfhhkaaDoor.LM
open Go.RowKit

set_option maxRecDepth 100000 in
theorem all_any (mp : Option Addr) (w : World) : Calls Tryd.prog 57 #[.pointer mp] w fun e w' => ∃ fv, e = .returned fv ∧ Wl w' fv mp .all ∧ Calm w w' := by
  have WA := hide (walk_any mp .all #[] w rfl)
  go_enter Tryd.func57, Tryd.ntmps57
  go_wp2_with fail
  refine WA.out.mono ?_
  rintro e w2 ⟨fv, rfl, h2, t2⟩
  have H2 := hide h2
  have T2 := hide t2
  clear h2 t2
  go_wp2_with fail
  go_ret
  exact ⟨fv, rfl, H2.out, T2.out⟩


set_option maxRecDepth 100000 in
theorem of_any (w : World) : Calls Tryd.prog 66 #[] w fun e w' => ∃ m', e = .returned (.pointer (some ⟨m', 0, none⟩)) ∧ Mt w' m' 44 #[] [] ∧ w.heap.size ≤ m' ∧ Calm w w' := by
  have T := hide ((Touch.refl (fun _ => False) w).alloc (.cells #[.func (.func 44) #[] #[], .pointer none] 114))
  go_enter Tryd.func66, Tryd.ntmps66
  go_wp2_with fail
  go_ret
  exact ⟨_, rfl, ⟨none, heap_alloc_last w _, .nil⟩, Nat.le_refl _, T.out⟩

end Go.Proofs.YtamfcmmhmfhhkaaDoor.LM

namespace Go.Proofs.YtamfcmmhmfhhkaaDoor

/-- An order. -/
structure Ordr {K : Type} (c : K → K → Int) : Prop where
  anti : ∀ a b, c b a = - c a b
  trans : ∀ a b d, c a b ≤ 0 → c b d ≤ 0 → c a d ≤ 0

section
variable {K V : Type} {c : K → K → Int}

theorem Ordr.lt_le (h : Ordr c) {a b d : K} (h1 : c a b < 0) (h2 : c b d ≤ 0) : c a d < 0 := by
  rcases (show c a d < 0 ∨ 0 ≤ c a d by omega) with h3 | h3
  · exact h3
  · have h4 := h.trans b d a h2 (by rw [h.anti a d]; omega)
    rw [h.anti a b] at h4
    omega

theorem Ordr.le_lt (h : Ordr c) {a b d : K} (h1 : c a b ≤ 0) (h2 : c b d < 0) : c a d < 0 := by
  rcases (show c a d < 0 ∨ 0 ≤ c a d by omega) with h3 | h3
  · exact h3
  · have h4 := h.trans d a b (by rw [h.anti a d]; omega) h1
    rw [h.anti b d] at h4
    omega

theorem Ordr.self (h : Ordr c) (a : K) : c a a = 0 := by have := h.anti a a; omega

/-- What rises. -/
def Up (c : K → K → Int) (X : List (K × V)) : Prop := X.Pairwise fun a b => c a.1 b.1 < 0

theorem Up.dec (h : Ordr c) {X : List (K × V)} (hX : Up c X) (key : K) : Dec (c key) X := by
  unfold Up at hX
  exact hX.imp fun {a b} hab ha => h.le_lt ha hab

theorem up_mem {f : K → Int} {X : List (K × V)} {a : K × V} : a ∈ up f X ↔ a ∈ X ∧ 0 < f a.1 := by unfold up; simp
theorem dn_mem {f : K → Int} {X : List (K × V)} {a : K × V} : a ∈ dn f X ↔ a ∈ X ∧ f a.1 < 0 := by unfold dn; simp
theorem it_some {f : K → Int} {X : List (K × V)} {a : K × V} (h : it f X = some a) : a ∈ X ∧ f a.1 = 0 := by
  unfold it at h
  exact ⟨List.mem_of_find?_eq_some h, by simpa using List.find?_some h⟩

theorem Up.put (h : Ordr c) {X : List (K × V)} (hX : Up c X) (key : K) (v : V) : Up c (lput (c key) key v X) := by
  unfold Up at hX ⊢
  have hk : ∃ k', Go.Proofs.YtamfcmmhmfhhkaaDoor.lput (c key) key v X = up (c key) X ++ (k', v) :: dn (c key) X ∧ c key k' = 0 := by
    unfold Go.Proofs.YtamfcmmhmfhhkaaDoor.lput
    cases hi : it (c key) X with
    | none => exact ⟨key, rfl, h.self key⟩
    | some a => exact ⟨a.1, rfl, (it_some hi).2⟩
  obtain ⟨k', e, hk'⟩ := hk
  rw [e, List.pairwise_append, List.pairwise_cons]
  have hxk : ∀ a ∈ up (c key) X, c a.1 k' < 0 := fun a ha => by
    have := (up_mem.1 ha).2
    exact h.lt_le (b := key) (by rw [h.anti key a.1]; omega) (by omega)
  have hky : ∀ b ∈ dn (c key) X, c k' b.1 < 0 := fun b hb => by
    have := (dn_mem.1 hb).2
    exact h.le_lt (b := key) (by rw [h.anti key k']; omega) this
  refine ⟨hX.sublist List.filter_sublist, ⟨hky, hX.sublist List.filter_sublist⟩, fun a ha b hb => ?_⟩
  rcases List.mem_cons.1 hb with rfl | hb
  · exact hxk a ha
  · exact h.lt_le (hxk a ha) (Int.le_of_lt (hky b hb))

theorem Up.drop (h : Ordr c) {X : List (K × V)} (hX : Up c X) (key : K) : Up c (ldrop (c key) X) := by
  unfold Up at hX ⊢
  unfold Go.Proofs.YtamfcmmhmfhhkaaDoor.ldrop
  rw [List.pairwise_append]
  refine ⟨hX.sublist List.filter_sublist, hX.sublist List.filter_sublist, fun a ha b hb => ?_⟩
  have h1 := (up_mem.1 ha).2
  have h2 := (dn_mem.1 hb).2
  exact h.lt_le (b := key) (by rw [h.anti key a.1]; omega) (Int.le_of_lt h2)

/-- The place of a key that is there. -/
theorem Up.place (h : Ordr c) {X : List (K × V)} (hX : Up c X) {n : Nat} (hn : n < X.length) : (up (c X[n].1) X).length = n ∧ it (c X[n].1) X = some X[n] := by
  have e : X = X.take n ++ X[n] :: X.drop (n + 1) := by
    rw [← List.drop_eq_getElem_cons hn, List.take_append_drop]
  have hd := hX.dec h X[n].1
  generalize hx : X[n] = x at *
  rw [e] at hd ⊢
  obtain ⟨a, b, d⟩ := at_way hd (h.self x.1)
  rw [a, d]
  exact ⟨by rw [List.length_take]; omega, rfl⟩

theorem mem_lput {f : K → Int} {k : K} {v : V} {X : List (K × V)} {a : K × V} (ha : a ∈ lput f k v X) : (a ∈ X) ∨ (a.2 = v ∧ (a.1 = k ∨ ∃ b ∈ X, f b.1 = 0 ∧ a.1 = b.1)) := by
  unfold lput at ha
  rcases List.mem_append.1 ha with ha | ha
  · exact .inl (up_mem.1 ha).1
  · rcases List.mem_cons.1 ha with rfl | ha
    · refine .inr ⟨rfl, ?_⟩
      cases hi : it f X with
      | none => exact .inl rfl
      | some b => exact .inr ⟨b, (it_some hi).1, (it_some hi).2, rfl⟩
    · exact .inl (dn_mem.1 ha).1

theorem mem_ldrop {f : K → Int} {X : List (K × V)} {a : K × V} (ha : a ∈ ldrop f X) : a ∈ X := by
  unfold ldrop at ha
  rcases List.mem_append.1 ha with ha | ha
  · exact (up_mem.1 ha).1
  · exact (dn_mem.1 ha).1
end

end Go.Proofs.YtamfcmmhmfhhkaaDoor

namespace Go.Proofs.YtamfcmmhmfhhkaaDoor.LM
open Go.RowKit

/-- The model's '<' on texts is the lexical order of their bytes. -/
theorem less_eq : ∀ (x y : List UInt8), Op.bytesLess x y = decide (x < y)
  | [], [] => by simp [Op.bytesLess]
  | _ :: _, [] => by simp [Op.bytesLess]
  | [], _ :: _ => by simp [Op.bytesLess]
  | a :: x, b :: y => by
    rw [Op.bytesLess, less_eq x y]
    simp only [List.cons_lt_cons_iff]
    by_cases h1 : a < b <;> by_cases h2 : a = b <;> by_cases h3 : x < y <;> simp [h1, h2, h3]

/-- How two texts compare. -/
def cmpS (a b : ByteArray) : Int := if Op.bytesLess a.toList b.toList = true then -1 else if (a.toList == b.toList) = true then 0 else 1

theorem cmpS_lt {a b : ByteArray} : cmpS a b < 0 ↔ a.toList < b.toList := by
  unfold cmpS
  rw [less_eq]
  by_cases h : a.toList < b.toList
  · simp [h]
  · simp only [h, decide_false, Bool.false_eq_true, if_false]
    split <;> simp

theorem cmpS_eq {a b : ByteArray} : cmpS a b = 0 ↔ a.toList = b.toList := by
  unfold cmpS
  rw [less_eq]
  by_cases h : a.toList < b.toList
  · simp only [h, decide_true, if_true]
    refine ⟨fun h => by omega, fun e => ?_⟩
    rw [e] at h
    exact absurd h (List.lt_irrefl _)
  · simp only [h, decide_false, Bool.false_eq_true, if_false]
    by_cases e : a.toList = b.toList <;> simp [e]

theorem cmpS_gt {a b : ByteArray} : 0 < cmpS a b ↔ b.toList < a.toList := by
  constructor
  · intro h
    refine Classical.byContradiction fun hn => ?_
    have h1 : ¬ a.toList < b.toList := fun h1 => by have := cmpS_lt.2 h1; omega
    have := cmpS_eq.2 (List.le_antisymm (List.not_lt.1 hn) (List.not_lt.1 h1))
    omega
  · intro h
    rcases (show cmpS a b < 0 ∨ cmpS a b = 0 ∨ 0 < cmpS a b by omega) with h1 | h1 | h1
    · exact absurd (List.lt_trans h (cmpS_lt.1 h1)) (List.lt_irrefl _)
    · rw [cmpS_eq.1 h1] at h; exact absurd h (List.lt_irrefl _)
    · exact h1

theorem cmpS_val (a b : ByteArray) : cmpS a b = -1 ∨ cmpS a b = 0 ∨ cmpS a b = 1 := by
  unfold cmpS
  split
  · simp
  · split <;> simp

theorem cmpS_ord : Ordr cmpS where
  anti := fun a b => by
    rcases cmpS_val a b with h | h | h
    · have h1 := cmpS_gt.2 (cmpS_lt.1 (show cmpS a b < 0 by omega))
      have := cmpS_val b a; omega
    · have h1 := cmpS_eq.2 (cmpS_eq.1 h).symm
      omega
    · have h1 := cmpS_lt.2 (cmpS_gt.1 (show 0 < cmpS a b by omega))
      have := cmpS_val b a; omega
  trans := fun a b d h1 h2 => by
    rcases (show cmpS a b < 0 ∨ cmpS a b = 0 by omega) with g1 | g1
    · rcases (show cmpS b d < 0 ∨ cmpS b d = 0 by omega) with g2 | g2
      · exact Int.le_of_lt (cmpS_lt.2 (List.lt_trans (cmpS_lt.1 g1) (cmpS_lt.1 g2)))
      · refine Int.le_of_lt (cmpS_lt.2 ?_); rw [← cmpS_eq.1 g2]; exact cmpS_lt.1 g1
    · rcases (show cmpS b d < 0 ∨ cmpS b d = 0 by omega) with g2 | g2
      · refine Int.le_of_lt (cmpS_lt.2 ?_); rw [cmpS_eq.1 g1]; exact cmpS_lt.1 g2
      · exact Int.le_of_eq (cmpS_eq.2 ((cmpS_eq.1 g1).trans (cmpS_eq.1 g2)))

set_option maxRecDepth 100000 in
theorem isNaNS_any (a : ByteArray) (w : World) : Calls Tryd.prog 61 #[.string a] w fun e w' => e = .returned (.bool false) ∧ w' = w := by
  go_enter Tryd.func61, Tryd.ntmps61
  go_wp2_with fail
  go_ret
  exact ⟨by simp, rfl⟩

set_option maxRecDepth 100000 in
theorem cmpS_any (a b : ByteArray) (w : World) : Calls Tryd.prog 44 #[.string a, .string b] w fun e w' => e = .returned (.int .i64 (cmpS a b)) ∧ w' = w := by
  have NA := hide (isNaNS_any a w)
  have NB := hide (isNaNS_any b w)
  unfold cmpS
  go_enter Tryd.func44, Tryd.ntmps44
  go_wp2_with fail
  refine NA.out.mono ?_
  rintro e w' ⟨rfl, hq⟩
  obtain rfl := hq.symm
  clear hq
  go_wp2_with fail
  refine NB.out.mono ?_
  rintro e w' ⟨rfl, hq⟩
  obtain rfl := hq.symm
  clear hq
  cases h1 : Op.bytesLess a.toList b.toList <;> cases h2 : (a.toList == b.toList)
  all_goals
    go_wp2_with fail
    all_goals
      go_ret
      exact ⟨by simp, rfl⟩

/-- cmp.Compare of texts as an order. -/
theorem cmpOf : Cmp 44 #[] cmpS (fun _ => True) where
  enter := fun args w => by kernel_rfl
  calls := fun a b w _ => cmpS_any a b w
  calm := fun _ _ _ _ => trivial

end Go.Proofs.YtamfcmmhmfhhkaaDoor.LM
