/- What Parse answers: the job whose text it is, or none (mathematics alone). -/
import Derived.Test.YtjambfncemlenaaDoorCM
namespace Go.Proofs.YtjambfncemlenaaDoor
open Go.RowKit

theorem getD_map {L : List ByteArray} {C : List (List UInt8)} (h : L.map (·.toList) = C) (j : Nat) (hj : j < C.length) : (L.getD j z0).toList = C.getD j [] := by
  subst h
  rw [List.length_map] at hj
  rw [List.getD_eq_getElem?_getD, List.getD_eq_getElem?_getD, List.getElem?_map, List.getElem?_eq_getElem hj]
  rfl
theorem pcs_ten (c : Cf) : pcs c 10 = [(nm 0).toList, (valB 0 (fldF c 0)).toList, (nm 1).toList, (valB 1 (fldF c 1)).toList, (nm 2).toList, (valB 2 (fldF c 2)).toList, (nm 3).toList, (valB 3 (fldF c 3)).toList, (nm 4).toList, (valB 4 (fldF c 4)).toList, (nm 5).toList, (valB 5 (fldF c 5)).toList, (nm 6).toList, (valB 6 (fldF c 6)).toList, (nm 7).toList, (valB 7 (fldF c 7)).toList, (nm 8).toList, (valB 8 (fldF c 8)).toList, (nm 9).toList, (valB 9 (fldF c 9)).toList] := rfl
theorem pcs_at (c : Cf) (i : Nat) (hi : i < 10) : (pcs c 10).getD (2 * i + 1) [] = (valB i (fldF c i)).toList := by
  rw [pcs_ten]
  rcases (by omega : i = 0 ∨ i = 1 ∨ i = 2 ∨ i = 3 ∨ i = 4 ∨ i = 5 ∨ i = 6 ∨ i = 7 ∨ i = 8 ∨ i = 9) with rfl | rfl | rfl | rfl | rfl | rfl | rfl | rfl | rfl | rfl <;> rfl

/-- A plain field's digits tell it. -/
theorem dig_val {i : Nat} {x : Int} (h2 : i ≠ 2) (h9 : i ≠ 9) (h0 : 0 ≤ x) (h1 : x < 1000000000000000000) : ((digL (valB i x).toList 0 0 : Nat) : Int) = x := by
  have e : (valB i x).toList = Lib.decDigits x.toNat := by
    unfold valB
    rw [if_neg h2, if_neg h9, ByteArray.toList_eq]
    show (Lib.itoa x).toArray.toList = _
    unfold Lib.itoa
    rw [if_neg (by omega), List.toList_toArray]
  rw [e, digL_dec _ (by omega)]
  omega
theorem kin_val {k : Int} (h1 : 1 ≤ k) (h3 : k ≤ 3) (x : Int) : kinS (valB 2 k).toList x 3 = k := by
  have a1 : (valB 2 1).toList = [116, 117, 109, 98, 108, 105, 110, 103] := by rw [ByteArray.toList_eq]; rfl
  have a2 : (valB 2 2).toList = [115, 108, 105, 100, 105, 110, 103] := by rw [ByteArray.toList_eq]; rfl
  have a3 : (valB 2 3).toList = [115, 101, 115, 115, 105, 111, 110] := by rw [ByteArray.toList_eq]; rfl
  have st : ∀ z, kinS z x 3 = if ((valB 2 3).toList == z) then 3 else if ((valB 2 2).toList == z) then 2 else if ((valB 2 1).toList == z) then 1 else x := fun z => rfl
  rw [st, a1, a2, a3]
  rcases (by omega : k = 1 ∨ k = 2 ∨ k = 3) with rfl | rfl | rfl
  · rw [a1]; rfl
  · rw [a2]; rfl
  · rw [a3]; rfl

/-- The numbers of a job's own text are the job's. -/
theorem pfX_text {c : Cf} {L : List ByteArray} (hw : wrongN c = 0) (hin : ∀ j, j < 9 → 0 ≤ fldF c j ∧ fldF c j < 1000000000000000000) (hL : L.map (·.toList) = pcs c 10) (i : Nat) (hi : i < 10) : pfX L i = fldF c i := by
  have hg : ∀ j, j < 10 → (L.getD (2 * j + 1) z0).toList = (valB j (fldF c j)).toList := fun j hj => by
    rw [getD_map hL _ (by rw [pcs_ten]; simp; omega), pcs_at c j hj]
  have hd : ∀ j, j < 10 → digB (L.getD (2 * j + 1) z0) = digL (valB j (fldF c j)).toList 0 0 := fun j hj => by unfold digB; rw [hg j hj]
  unfold pfX
  by_cases h2 : i = 2
  · subst h2
    rw [if_pos rfl]
    have e5 := hg 2 (by omega)
    rw [e5]
    have hk := wrong_kind hw
    exact kin_val hk.1 hk.2 _
  · rw [if_neg h2]
    by_cases h9 : i = 9
    · subst h9
      have e19 := hg 9 (by omega)
      rw [hd 9 (by omega)]
      have e19' : (L.getD 19 z0).toList = (valB 9 (fldF c 9)).toList := e19
      rw [e19']
      have ef : fldF c 9 = if c.di then 1 else 0 := rfl
      have y1 : (valB 9 1).toList = [121, 101, 115] := by rw [ByteArray.toList_eq]; rfl
      have y0 : (valB 9 0).toList = [110, 111] := by rw [ByteArray.toList_eq]; rfl
      rw [ef]
      cases c.di with
      | true =>
        have e : (if (true : Bool) = true then (1 : Int) else 0) = 1 := rfl
        rw [e, y1]; rfl
      | false =>
        have e : (if (false : Bool) = true then (1 : Int) else 0) = 0 := rfl
        rw [e, y0]; rfl
    · rw [if_neg (fun h => h9 h.1), hd i hi]
      exact dig_val h2 h9 (hin i (by omega)).1 (hin i (by omega)).2

theorem fld_pos {c : Cf} (hin : ∀ j, j < 9 → 0 ≤ fldF c j ∧ fldF c j < 1000000000000000000) (j : Nat) (hj : j < 10) : 0 ≤ fldF c j := by
  by_cases h9 : j = 9
  · subst h9
    have ef : fldF c 9 = if c.di then 1 else 0 := rfl
    rw [ef]
    split <;> omega
  · exact (hin j (by omega)).1

/-- The fields of a job that may be. -/
theorem wrong_fields {c : Cf} (h : wrongN c = 0) : ∀ n, 1 ≤ n → n ≤ 9 → fieldB c n = true := by
  have st : ∀ n k, wrongF c n (k + 1) = if fieldB c n then wrongF c (n + 1) k else n := fun _ _ => rfl
  have key : ∀ k n, 1 ≤ n → wrongF c n k = 0 → ∀ m, n ≤ m → m < n + k → fieldB c m = true := by
    intro k
    induction k with
    | zero => intro n _ _ m h1 h2; omega
    | succ k ih =>
      intro n hn h m h1 h2
      rw [st] at h
      split at h
      · rename_i hf
        by_cases e : m = n
        · rw [e]; exact hf
        · exact ih (n + 1) (by omega) h m (by omega) (by omega)
      · omega
  intro n h1 h9
  exact key 9 1 (by omega) h n h1 (by omega)
theorem wrong_in {c : Cf} (h : wrongN c = 0) : ∀ j, j < 9 → 0 ≤ fldF c j ∧ fldF c j < 1000000000000000000 := by
  have hk := wrong_kind h
  have f1 := wrong_fields h 1 (by omega) (by omega)
  have f2 := wrong_fields h 2 (by omega) (by omega)
  have f4 := wrong_fields h 4 (by omega) (by omega)
  have f5 := wrong_fields h 5 (by omega) (by omega)
  have f6 := wrong_fields h 6 (by omega) (by omega)
  have f7 := wrong_fields h 7 (by omega) (by omega)
  have f8 := wrong_fields h 8 (by omega) (by omega)
  have f9 := wrong_fields h 9 (by omega) (by omega)
  unfold fieldB inB at f1 f2 f4 f5 f6 f7 f8 f9
  simp only [Bool.and_eq_true, decide_eq_true_eq] at f1 f2 f8 f9
  have e4 : 0 ≤ c.sz ∧ c.sz ≤ 1099511627776 := by
    simp only at f4
    split at f4
    · have := beq_iff_eq.1 f4; omega
    · simp only [Bool.and_eq_true, decide_eq_true_eq] at f4; omega
  have e5 : 0 ≤ c.sl ∧ c.sl ≤ 1099511627776 := by
    simp only at f5
    split at f5
    · have := beq_iff_eq.1 f5; omega
    · simp only [Bool.and_eq_true, decide_eq_true_eq] at f5; omega
  have e6 : 0 ≤ c.of ∧ c.of ≤ 1099511627776 := by
    simp only at f6
    split at f6
    · simp only [Bool.and_eq_true, decide_eq_true_eq, wrap64] at f6; omega
    · split at f6
      · simp only [Bool.and_eq_true, decide_eq_true_eq, wrap64] at f6; omega
      · have := beq_iff_eq.1 f6; omega
  have e7 : 0 ≤ c.gp ∧ c.gp ≤ 1099511627776 := by
    simp only at f7
    split at f7
    · have := beq_iff_eq.1 f7; omega
    · simp only [Bool.and_eq_true, decide_eq_true_eq] at f7; omega
  intro j hj
  rcases (by omega : j = 0 ∨ j = 1 ∨ j = 2 ∨ j = 3 ∨ j = 4 ∨ j = 5 ∨ j = 6 ∨ j = 7 ∨ j = 8) with rfl | rfl | rfl | rfl | rfl | rfl | rfl | rfl | rfl
  · show 0 ≤ c.gr ∧ c.gr < _; omega
  · show 0 ≤ c.so ∧ c.so < _; omega
  · show 0 ≤ c.ki ∧ c.ki < _; omega
  · show 0 ≤ c.sz ∧ c.sz < _; omega
  · show 0 ≤ c.sl ∧ c.sl < _; omega
  · show 0 ≤ c.of ∧ c.of < _; omega
  · show 0 ≤ c.gp ∧ c.gp < _; omega
  · show 0 ≤ c.lt ∧ c.lt < _; omega
  · show 0 ≤ c.ea ∧ c.ea < _; omega

/-- Parse gives a job's own text back. -/
theorem prs_text {c : Cf} {L : List ByteArray} (hw : wrongN c = 0) (hin : ∀ j, j < 9 → 0 ≤ fldF c j ∧ fldF c j < 1000000000000000000) (hL : L.map (·.toList) = cutB (txtS c 10)) : prsJ L (txtS c 10) = (c, true) := by
  rw [(cut_txt c (fld_pos hin) 9 (by omega)).2] at hL
  have hlen : L.length = 20 := by
    have := congrArg List.length hL
    rw [List.length_map, pcs_ten] at this
    exact this
  have hf : ∀ i, i < 10 → pfF L 10 i = fldF c i := fun i hi => by
    unfold pfF
    rw [if_pos hi]
    exact pfX_text hw hin hL i hi
  have hc : ofF (pfF L 10) = c := by
    unfold ofF
    rw [hf 0 (by omega), hf 1 (by omega), hf 2 (by omega), hf 3 (by omega), hf 4 (by omega), hf 5 (by omega), hf 6 (by omega), hf 7 (by omega), hf 8 (by omega), hf 9 (by omega)]
    have ef : fldF c 9 = if c.di then 1 else 0 := rfl
    have e9 : (fldF c 9 == 1) = c.di := by
      rw [ef]
      cases c.di <;> rfl
    rw [e9]
    rfl
  unfold prsJ
  rw [if_pos hlen, hc, if_pos ⟨hw, by simp⟩]
/-- What Parse gives is the job whose text it is. -/
theorem prs_is {L : List ByteArray} {s : ByteArray} (h : (prsJ L s).2 = true) : wrongN (prsJ L s).1 = 0 ∧ (txtS (prsJ L s).1 10).toList = s.toList := by
  unfold prsJ at *
  split at h
  · split at h
    · rename_i h1 h2
      rw [if_pos h1, if_pos h2]
      exact ⟨h2.1, by simpa using h2.2⟩
    · cases h
  · cases h
theorem prs_none {L : List ByteArray} {s : ByteArray} (h : (prsJ L s).2 = false) : (prsJ L s).1 = cf0 := by
  unfold prsJ at *
  split at h
  · split at h
    · cases h
    · rename_i h1 h2
      rw [if_pos h1, if_neg h2]
  · rename_i h1
    rw [if_neg h1]

end Go.Proofs.YtjambfncemlenaaDoor
