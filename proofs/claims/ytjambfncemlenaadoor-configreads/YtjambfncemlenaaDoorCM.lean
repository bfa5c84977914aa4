/- A job out of its own text: what Parse answers (mathematics alone). -/
import Derived.Test.YtjambfncemlenaaDoorCR
namespace Go.Proofs.YtjambfncemlenaaDoor
open Go.RowKit

/-- A digit. -/
def Dig (b : UInt8) : Prop := 48 ≤ b.toNat ∧ b.toNat ≤ 57
theorem digL_snoc : ∀ (l : List UInt8) (i x : Nat) (b : UInt8), (∀ c ∈ l, Dig c) → Dig b → i + l.length ≤ 17 → digL (l ++ [b]) i x = 10 * digL l i x + (b.toNat - 48)
  | [], i, x, b, _, hb, hi => by
    have hb1 := hb.1
    have hb2 := hb.2
    simp only [List.length_nil] at hi
    show digL [b] i x = _
    rw [digL_cons, if_neg (by omega)]
    rfl
  | c :: l, i, x, b, hl, hb, hi => by
    have hc := hl c (by simp)
    have hc1 := hc.1
    have hc2 := hc.2
    simp only [List.length_cons] at hi
    rw [List.cons_append, digL_cons, digL_cons, if_neg (by omega), if_neg (by omega)]
    exact digL_snoc l (i + 1) _ b (fun d hd => hl d (by simp [hd])) hb (by omega)
theorem dig_ofNat {d : Nat} (h : d < 10) : Dig (UInt8.ofNat (48 + d)) ∧ (UInt8.ofNat (48 + d)).toNat = 48 + d := by
  have e : (UInt8.ofNat (48 + d)).toNat = 48 + d := by rw [UInt8.toNat_ofNat']; omega
  exact ⟨⟨by omega, by omega⟩, e⟩
theorem dec_dig (u : Nat) : ∀ c ∈ Lib.decDigits u, Dig c := by
  induction u using Nat.strongRecOn with
  | ind u ih =>
    rw [Lib.decDigits]
    split
    · intro c hc
      rw [List.mem_singleton] at hc
      rw [hc]
      exact (dig_ofNat (by omega)).1
    · intro c hc
      rcases List.mem_append.1 hc with h | h
      · exact ih (u / 10) (by omega) c h
      · rw [List.mem_singleton] at h
        rw [h]
        exact (dig_ofNat (by omega)).1
theorem nDigits_le : ∀ (k u : Nat), u < 10 ^ (k + 1) → Lib.nDigits u ≤ k + 1
  | 0, u, h => by rw [Lib.nDigits_small (by omega)]; omega
  | k + 1, u, h => by
    by_cases h1 : u < 10
    · rw [Lib.nDigits_small h1]; omega
    · rw [Lib.nDigits_big h1]
      have := nDigits_le k (u / 10) (by rw [Nat.pow_succ] at h; omega)
      omega
/-- The digits of a number tell it. -/
theorem digL_dec (u : Nat) (h : u < 1000000000000000000) : digL (Lib.decDigits u) 0 0 = u := by
  induction u using Nat.strongRecOn with
  | ind u ih =>
    rw [Lib.decDigits]
    split
    · rename_i h1
      have e := (dig_ofNat h1)
      have e1 := e.1.1
      have e2 := e.1.2
      rw [digL_cons, if_neg (by omega), e.2]
      show 10 * 0 + (48 + u - 48) = u
      omega
    · rename_i h1
      have e := dig_ofNat (show u % 10 < 10 by omega)
      have hl : (Lib.decDigits (u / 10)).length ≤ 17 := by
        rw [Lib.decDigits_length]
        exact nDigits_le 16 (u / 10) (by have : (10 : Nat) ^ (16 + 1) = 100000000000000000 := by decide
                                         omega)
      rw [digL_snoc _ 0 0 _ (dec_dig _) e.1 (by omega), ih (u / 10) (by omega) (by omega), e.2]
      omega

/-- No blank. -/
def NoSp (l : List UInt8) : Prop := ∀ b ∈ l, b.toNat ≠ 32
theorem cut_last : ∀ (cur p : List UInt8), NoSp p → cutL cur p = [cur ++ p]
  | cur, [], _ => by simp [cutL]
  | cur, b :: p, h => by
    rw [cutL_cons, if_neg (h b (by simp)), cut_last (cur ++ [b]) p (fun c hc => h c (by simp [hc]))]
    simp
theorem cut_sp : ∀ (cur p r : List UInt8), NoSp p → cutL cur (p ++ 32 :: r) = (cur ++ p) :: cutL [] r
  | cur, [], r, _ => by
    rw [List.nil_append, cutL_cons, if_pos (by decide), List.append_nil]
  | cur, b :: p, r, h => by
    rw [List.cons_append, cutL_cons, if_neg (h b (by simp)), cut_sp (cur ++ [b]) p r (fun c hc => h c (by simp [hc]))]
    simp
theorem app_toList (a b : ByteArray) : (a ++ b).toList = a.toList ++ b.toList := by
  rw [ByteArray.toList_eq, ByteArray.toList_eq, ByteArray.toList_eq, ByteArray.data_append, Array.toList_append]
theorem nm_nosp (i : Nat) : NoSp (nm i).toList := by
  rw [ByteArray.toList_eq]
  unfold nm NoSp
  split <;> decide
theorem val_nosp {i : Nat} {x : Int} (h : 0 ≤ x) : NoSp (valB i x).toList := by
  rw [ByteArray.toList_eq]
  unfold valB
  split
  · split
    · unfold NoSp; decide
    · split <;> (unfold NoSp; decide)
  · split
    · split <;> (unfold NoSp; decide)
    · intro b hb
      have e : Lib.itoa x = Lib.decDigits x.toNat := by unfold Lib.itoa; rw [if_neg (by omega)]
      have hb' : b ∈ Lib.decDigits x.toNat := by rw [← e]; simpa using hb
      have := dec_dig _ b hb'
      have h1 := this.1
      omega

/-- The pieces of the text of the first i fields. -/
def pcs (c : Cf) (i : Nat) : List (List UInt8) := (List.range i).flatMap fun j => [(nm j).toList, (valB j (fldF c j)).toList]
theorem pcs_next (c : Cf) (i : Nat) : pcs c (i + 1) = pcs c i ++ [(nm i).toList, (valB i (fldF c i)).toList] := by
  unfold pcs
  rw [List.range_succ, List.flatMap_append]
  simp
theorem sp_toList : spB.toList = [32] := by rw [ByteArray.toList_eq]; rfl
theorem txt_one (c : Cf) : (txtS c 1).toList = (nm 0).toList ++ 32 :: (valB 0 (fldF c 0)).toList := by
  have : txtS c 1 = (((txtS c 0) ++ nm 0) ++ spB) ++ valB 0 (fldF c 0) := rfl
  rw [this, app_toList, app_toList, app_toList, sp_toList]
  have e : (txtS c 0).toList = [] := by rw [ByteArray.toList_eq]; rfl
  rw [e]
  simp
theorem txt_next (c : Cf) {i : Nat} (hi : 1 ≤ i) : (txtS c (i + 1)).toList = (txtS c i).toList ++ 32 :: ((nm i).toList ++ 32 :: (valB i (fldF c i)).toList) := by
  have : txtS c (i + 1) = (((if i = 0 then txtS c i else txtS c i ++ spB) ++ nm i) ++ spB) ++ valB i (fldF c i) := rfl
  rw [this, if_neg (by omega), app_toList, app_toList, app_toList, app_toList, sp_toList]
  simp
theorem cut_txt (c : Cf) (h : ∀ j, j < 10 → 0 ≤ fldF c j) : ∀ i, i < 10 → (∀ r, cutL [] ((txtS c (i + 1)).toList ++ 32 :: r) = pcs c (i + 1) ++ cutL [] r) ∧ cutB (txtS c (i + 1)) = pcs c (i + 1)
  | 0, _ => by
    have v := val_nosp (i := 0) (h 0 (by omega))
    have p1 : pcs c 1 = [(nm 0).toList, (valB 0 (fldF c 0)).toList] := rfl
    refine ⟨fun r => ?_, ?_⟩
    · rw [txt_one, List.append_assoc, List.cons_append, cut_sp [] _ _ (nm_nosp 0), cut_sp [] _ _ v, p1]
      simp
    · unfold cutB
      rw [txt_one, cut_sp [] _ _ (nm_nosp 0), cut_last [] _ v, p1]
      simp
  | i + 1, hi => by
    have ih := (cut_txt c h i (by omega)).1
    have v := val_nosp (i := i + 1) (h (i + 1) hi)
    refine ⟨fun r => ?_, ?_⟩
    · rw [txt_next c (by omega), List.append_assoc, List.cons_append, List.append_assoc, List.cons_append, ih, cut_sp [] _ _ (nm_nosp _), cut_sp [] _ _ v, pcs_next c (i + 1)]
      simp
    · unfold cutB
      rw [txt_next c (by omega), ih, cut_sp [] _ _ (nm_nosp _), cut_last [] _ v, pcs_next c (i + 1)]
      simp

end Go.Proofs.YtjambfncemlenaaDoor
