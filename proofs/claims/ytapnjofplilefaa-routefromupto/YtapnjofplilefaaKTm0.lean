/- ClockTells: the mathematics of P13.6. -/
import Derived.Test.YtapnjofplilefaaKB0
namespace Go.Proofs.Ytapnjofplilefaa
open Go.RowKit

theorem lessK_or (x : List UInt8) : ∀ y : List UInt8, (Op.bytesLess x y || x == y) = !Op.bytesLess y x := by
  induction x with
  | nil => intro y; cases y <;> simp [Op.bytesLess]
  | cons a x ih =>
    intro y
    cases y with
    | nil => simp [Op.bytesLess]
    | cons b y =>
      have h := ih y
      simp only [Op.bytesLess]
      by_cases h1 : a < b
      · have h2 : ¬ b < a := by rw [UInt8.lt_iff_toNat_lt] at *; omega
        have h3 : ¬ b = a := by rintro rfl; rw [UInt8.lt_iff_toNat_lt] at h1; omega
        simp [h1, h2, h3]
      · by_cases h2 : b < a
        · have h3 : ¬ a = b := by rintro rfl; exact h1 h2
          simp [h1, h2, h3]
        · have h3 : a = b := by rw [UInt8.lt_iff_toNat_lt] at *; exact UInt8.toNat_inj.mp (by omega)
          subst h3
          simpa [h1] using h

theorem lessK_trans (x : List UInt8) : ∀ y z : List UInt8, Op.bytesLess x y = true → Op.bytesLess y z = true → Op.bytesLess x z = true := by
  induction x with
  | nil =>
    intro y z h1 h2
    cases z with
    | nil => cases y <;> simp [Op.bytesLess] at h2
    | cons c z => simp [Op.bytesLess]
  | cons a x ih =>
    intro y z h1 h2
    cases y with
    | nil => simp [Op.bytesLess] at h1
    | cons b y =>
      cases z with
      | nil => simp [Op.bytesLess] at h2
      | cons c z =>
        simp only [Op.bytesLess, Bool.or_eq_true, Bool.and_eq_true, decide_eq_true_eq, beq_iff_eq] at h1 h2 ⊢
        rcases h1 with h1 | ⟨rfl, h1⟩
        · rcases h2 with h2 | ⟨rfl, h2⟩
          · left; rw [UInt8.lt_iff_toNat_lt] at *; omega
          · exact .inl h1
        · rcases h2 with h2 | ⟨rfl, h2⟩
          · exact .inl h2
          · exact .inr ⟨rfl, ih y z h1 h2⟩

theorem ltN_trans {a b c : ByteArray} (h1 : ltN a b = true) (h2 : ltN b c = true) : ltN a c = true := lessK_trans _ _ _ h1 h2
theorem ltN_irr (a : ByteArray) : ltN a a = false := by
  have := lessK_or a.toList a.toList
  unfold ltN
  simp at this
  exact this
theorem ltN_tot {a b : ByteArray} (h1 : ltN a b = false) (h2 : eqN a b = false) : ltN b a = true := by
  have := lessK_or a.toList b.toList
  unfold ltN eqN at *
  rw [h1, h2] at this
  simpa using this.symm

/-- In the order of the names. -/
def Srt (H : List Hd) : Prop := H.Pairwise fun a b => ltN a.n b.n = true

theorem pl_cons (h : Hd) (H : List Hd) (x : ByteArray) : plN (h :: H) x = if ltN h.n x = true then plN H x + 1 else 0 := by
  unfold plN
  rw [List.takeWhile_cons]
  split <;> simp
theorem has_cons_lt {h : Hd} {H : List Hd} {x : ByteArray} (hl : ltN h.n x = true) : hasH (h :: H) x = hasH H x := by
  unfold hasH
  rw [pl_cons, if_pos hl]
  simp
theorem has_of_mem {x : ByteArray} : ∀ {H : List Hd}, Srt H → (∃ h ∈ H, h.n = x) → hasH H x = true
  | [], _, ⟨_, hm, _⟩ => (nomatch hm)
  | h :: H, hs, ⟨y, hm, e⟩ => by
    obtain ⟨h1, h2⟩ := List.pairwise_cons.1 hs
    rcases List.mem_cons.1 hm with rfl | hm
    · unfold hasH
      rw [pl_cons, e, ltN_irr]
      simp [e, eqN_iff]
    · rw [has_cons_lt (by rw [← e]; exact h1 y hm)]
      exact has_of_mem h2 ⟨y, hm, e⟩
theorem free_sub (H : List Hd) (x : ByteArray) : (freeH H x).Sublist H := by
  unfold freeH
  split
  · have h1 : (H.take (plN H x) ++ H.drop (plN H x + 1)).Sublist (H.take (plN H x) ++ H.drop (plN H x)) := (List.Sublist.refl _).append (List.drop_sublist_drop_left H (Nat.le_succ _))
    rwa [List.take_append_drop] at h1
  · exact List.Sublist.refl _
theorem srt_free {H : List Hd} (h : Srt H) (x : ByteArray) : Srt (freeH H x) := List.Pairwise.sublist (free_sub H x) h
theorem has_free {x : ByteArray} : ∀ {H : List Hd}, Srt H → hasH (freeH H x) x = false
  | [], _ => by simp [freeH, hasH, plN]
  | h :: H, hs => by
    obtain ⟨h1, h2⟩ := List.pairwise_cons.1 hs
    by_cases hl : ltN h.n x = true
    · have ih := has_free (x := x) h2
      have e : freeH (h :: H) x = h :: freeH H x := by
        unfold freeH
        rw [has_cons_lt hl, pl_cons, if_pos hl]
        split <;> simp
      rw [e, has_cons_lt hl]
      exact ih
    · by_cases hq : eqN h.n x = true
      · have e : freeH (h :: H) x = H := by
          unfold freeH hasH
          rw [pl_cons, if_neg hl]
          simp [hq]
        rw [e]
        cases hh : hasH H x with
        | false => rfl
        | true =>
          exfalso
          unfold hasH at hh
          simp only [Bool.and_eq_true, decide_eq_true_eq] at hh
          obtain ⟨g1, g2⟩ := hh
          have hm : H.getD (plN H x) hd0 ∈ H := by
            rw [List.getD_eq_getElem?_getD, List.getElem?_eq_getElem g1]
            exact List.getElem_mem g1
          have := h1 _ hm
          rw [eqN_iff.1 g2, eqN_iff.1 hq, ltN_irr] at this
          cases this
      · have e : hasH (h :: H) x = false := by
          unfold hasH
          rw [pl_cons, if_neg hl]
          simp [hq]
        have e2 : freeH (h :: H) x = h :: H := by unfold freeH; rw [e]; rfl
        rw [e2, e]
theorem free_none {H : List Hd} {x : ByteArray} (h : hasH H x = false) : freeH H x = H := by unfold freeH; rw [h]; rfl
theorem srt_put {x : ByteArray} {t : Int} : ∀ {H : List Hd}, Srt H → hasH H x = false → Srt (H.take (plN H x) ++ [⟨x, t⟩] ++ H.drop (plN H x))
  | [], _, _ => by simp [plN, Srt]
  | h :: H, hs, hx => by
    obtain ⟨h1, h2⟩ := List.pairwise_cons.1 hs
    by_cases hl : ltN h.n x = true
    · rw [has_cons_lt hl] at hx
      have ih := srt_put (t := t) h2 hx
      rw [pl_cons, if_pos hl]
      simp only [List.take_succ_cons, List.drop_succ_cons, List.cons_append]
      refine List.pairwise_cons.2 ⟨fun y hy => ?_, ih⟩
      simp only [List.append_assoc, List.mem_append, List.mem_singleton] at hy
      rcases hy with hy | rfl | hy
      · exact h1 y (List.mem_of_mem_take hy)
      · exact hl
      · exact h1 y (List.mem_of_mem_drop hy)
    · have hq : eqN h.n x = false := by
        unfold hasH at hx
        rw [pl_cons, if_neg hl] at hx
        simpa using hx
      have hlt := ltN_tot (by simpa using hl) hq
      rw [pl_cons, if_neg hl]
      simp only [List.take_zero, List.nil_append, List.drop_zero, List.singleton_append]
      refine List.pairwise_cons.2 ⟨fun y hy => ?_, hs⟩
      rcases List.mem_cons.1 hy with rfl | hy
      · exact hlt
      · exact ltN_trans hlt (h1 y hy)
theorem srt_hold {H : List Hd} (h : Srt H) (x : ByteArray) (t : Int) : Srt (holdH H x t) := srt_put (srt_free h x) (has_free h)
theorem mem_hold {H : List Hd} {x : ByteArray} {t : Int} {y : Hd} : y ∈ holdH H x t ↔ y = ⟨x, t⟩ ∨ y ∈ freeH H x := by
  unfold holdH
  have e : ∀ n, y ∈ (freeH H x) ↔ y ∈ (freeH H x).take n ∨ y ∈ (freeH H x).drop n := fun n => by
    rw [← List.mem_append, List.take_append_drop]
  rw [e (plN (freeH H x) x)]
  simp only [List.append_assoc, List.mem_append, List.mem_singleton]
  constructor
  · rintro (h | h | h)
    · exact .inr (.inl h)
    · exact .inl h
    · exact .inr (.inr h)
  · rintro (h | h | h)
    · exact .inr (.inl h)
    · exact .inl h
    · exact .inr (.inr h)

/-- The least of them. -/
theorem le_foldl (x : Int) : ∀ (L : List Int) (b : Int), x ≤ L.foldl min b ↔ x ≤ b ∧ ∀ a ∈ L, x ≤ a
  | [], b => by simp
  | a :: L, b => by
    rw [List.foldl_cons, le_foldl x L]
    simp only [List.mem_cons, forall_eq_or_imp]
    constructor
    · rintro ⟨h1, h2⟩; exact ⟨by omega, by omega, h2⟩
    · rintro ⟨h1, h2, h3⟩; exact ⟨by omega, h3⟩
theorem le_mk {L : List Int} (h : L ≠ []) (x : Int) : x ≤ mkN L ↔ ∀ a ∈ L, x ≤ a := by
  unfold mkN
  rw [le_foldl]
  cases L with
  | nil => exact absurd rfl h
  | cons a L =>
    constructor
    · exact fun h => h.2
    · exact fun h => ⟨h a (by simp), h⟩
theorem le_best (x : Int) : ∀ (H : List Hd) (b : Hd), x ≤ (H.foldl (fun b h => if h.t < b.t then h else b) b).t ↔ x ≤ b.t ∧ ∀ h ∈ H, x ≤ h.t
  | [], b => by simp
  | h :: H, b => by
    rw [List.foldl_cons, le_best x H]
    simp only [List.mem_cons, forall_eq_or_imp]
    split
    · constructor
      · rintro ⟨h1, h2⟩; exact ⟨by omega, by omega, h2⟩
      · rintro ⟨h1, h2, h3⟩; exact ⟨by omega, h3⟩
    · constructor
      · rintro ⟨h1, h2⟩; exact ⟨by omega, by omega, h2⟩
      · rintro ⟨h1, h2, h3⟩; exact ⟨by omega, h3⟩
theorem le_out (x : Int) (L : List Int) (H : List Hd) : x ≤ outN L H ↔ x ≤ mkN L ∧ ∀ h ∈ H, x ≤ h.t := by
  unfold outN
  cases H with
  | nil => simp
  | cons h H =>
    rw [if_neg (by simp)]
    unfold bestH
    have := le_best x (h :: H) h
    rw [show (h :: H).getD 0 hd0 = h from rfl]
    constructor
    · intro h1
      have h2 := this.1 (by omega)
      exact ⟨by omega, h2.2⟩
    · rintro ⟨h1, h2⟩
      have h3 := this.2 ⟨h2 h (by simp), h2⟩
      omega
theorem out_mk (L : List Int) (H : List Hd) : outN L H ≤ mkN L := ((le_out _ L H).1 (Int.le_refl _)).1
theorem out_free (L : List Int) (H : List Hd) (x : ByteArray) : outN L H ≤ outN L (freeH H x) := by
  have h := (le_out _ L H).1 (Int.le_refl _)
  exact (le_out _ L _).2 ⟨h.1, fun y hy => h.2 y ((free_sub H x).subset hy)⟩
theorem out_marks {L L' : List Int} (h : mkN L ≤ mkN L') (H : List Hd) : outN L H ≤ outN L' H := by
  have h1 := (le_out _ L H).1 (Int.le_refl _)
  exact (le_out _ L' H).2 ⟨by omega, h1.2⟩
theorem out_hold {H : List Hd} {x : ByteArray} (h : hasH H x = false) (L : List Int) (t : Int) : outN L (holdH H x t) ≤ outN L H := by
  have h1 := (le_out _ L (holdH H x t)).1 (Int.le_refl _)
  refine (le_out _ L H).2 ⟨h1.1, fun y hy => h1.2 y (mem_hold.2 (.inr ?_))⟩
  rw [free_none h]
  exact hy
theorem out_high (L : List Int) (H : List Hd) (x : ByteArray) {t : Int} (h : mkN L ≤ t) : outN L H ≤ outN L (holdH H x t) := by
  have h1 := (le_out _ L H).1 (Int.le_refl _)
  refine (le_out _ L _).2 ⟨h1.1, fun y hy => ?_⟩
  rcases mem_hold.1 hy with rfl | hy
  · show outN L H ≤ t
    have := out_mk L H
    omega
  · exact h1.2 y ((free_sub H x).subset hy)

/-- A Set, and a Hold. -/
def setL (L : List Int) (s t : Int) : List Int := if setB L s t = true then L.set s.toNat (max (L.getD s.toNat 0) t) else L
def holdL (H : List Hd) (x : ByteArray) (t : Int) : List Hd := if timC t = true then holdH H x t else H
theorem set_len (L : List Int) (s t : Int) : (setL L s t).length = L.length := by
  unfold setL
  split <;> simp
theorem set_ge (L : List Int) (s t : Int) (k : Nat) : L.getD k 0 ≤ (setL L s t).getD k 0 := by
  unfold setL
  split
  · simp only [List.getD_eq_getElem?_getD, List.getElem?_set]
    split
    · next e =>
      subst e
      split
      · next h => simp [List.getElem?_eq_getElem h]; omega
      · next h => simp [List.getElem?_eq_none (Nat.le_of_not_lt h)]
    · exact Int.le_refl _
  · exact Int.le_refl _
theorem mk_mono {L L' : List Int} (hn : L ≠ []) (he : L'.length = L.length) (h : ∀ k, L.getD k 0 ≤ L'.getD k 0) : mkN L ≤ mkN L' := by
  have hn' : L' ≠ [] := fun e => hn (by rw [e] at he; exact List.length_eq_zero_iff.1 he.symm)
  refine (le_mk hn' _).2 fun a ha => ?_
  obtain ⟨k, hk, rfl⟩ := List.getElem_of_mem ha
  have h1 := (le_mk hn (mkN L)).1 (Int.le_refl _) (L[k]'(by omega)) (List.getElem_mem _)
  have h2 := h k
  simp only [List.getD_eq_getElem?_getD, List.getElem?_eq_getElem hk, List.getElem?_eq_getElem (show k < L.length by omega), Option.getD_some] at h2
  omega
theorem mk_set {L : List Int} (hn : L ≠ []) (s t : Int) : mkN L ≤ mkN (setL L s t) := mk_mono hn (set_len L s t) (set_ge L s t)
theorem hold_len' (H : List Hd) (x : ByteArray) (t : Int) : (holdL H x t).length ≤ H.length + 1 := by
  unfold holdL
  split
  · exact hold_len H x t
  · omega
theorem srt_holdL {H : List Hd} (h : Srt H) (x : ByteArray) (t : Int) : Srt (holdL H x t) := by
  unfold holdL
  split
  · exact srt_hold h x t
  · exact h
theorem out_holdL {H : List Hd} {x : ByteArray} (h : hasH H x = false) (L : List Int) (t : Int) : outN L (holdL H x t) ≤ outN L H := by
  unfold holdL
  split
  · exact out_hold h L t
  · exact Int.le_refl _
theorem out_highL (L : List Int) (H : List Hd) (x : ByteArray) {t : Int} (h : mkN L ≤ t) : outN L H ≤ outN L (holdL H x t) := by
  unfold holdL
  split
  · exact out_high L H x h
  · exact Int.le_refl _

end Go.Proofs.Ytapnjofplilefaa
