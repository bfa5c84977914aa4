/- A job out of a text: cutting and joining, digits and numbers (plain mathematics). -/
import Derived.Test.YtjambfncemlenaaDoorEZ
import Derived.Test.YtjambfncemlenaaDoorES
import Derived.Test.YtjambfncemlenaaDoorEL
import Derived.Lib.ParseIntBCases
import Derived.Lib.IndexLaws
namespace Go.Proofs.YtjambfncemlenaaDoor
open Go.RowKit

theorem join_cons2 (x : List UInt8) (s : List UInt8) {r : List (List UInt8)} (h : r ≠ []) : Lib.join (x :: r) s = x ++ (s ++ Lib.join r s) := by
  cases r with
  | nil => exact absurd rfl h
  | cons y r' =>
    rw [Lib.join_cons, Lib.join_cons]
    simp [Lib.joinTail]
theorem splitK_ne (k : Nat) (l : List UInt8) : Lib.splitK [32] 0 k l ≠ [] := by
  cases k with
  | zero => simp [Lib.splitK]
  | succ k =>
    unfold Lib.splitK
    split <;> simp
theorem idx_cases (l : List UInt8) : Lib.index l [32] = -1 ∨ ∃ i : Nat, Lib.index l [32] = i ∧ l.drop i = 32 :: l.drop (i + 1) := by
  rw [Lib.index_one]
  by_cases h : Lib.indexByte l 32 = -1
  · exact .inl h
  · have hg := Lib.indexByte_ge l 32
    obtain ⟨i, hi⟩ : ∃ i : Nat, Lib.indexByte l 32 = i := ⟨(Lib.indexByte l 32).toNat, by omega⟩
    refine .inr ⟨i, hi, ?_⟩
    obtain ⟨h1, -⟩ := Lib.indexByte_some hi
    obtain ⟨hl, he⟩ := List.getElem?_eq_some_iff.1 h1
    rw [List.drop_eq_getElem_cons hl, he]
/-- What was cut, joined, is the text. -/
theorem join_split : ∀ (k : Nat) (l : List UInt8), Lib.join (Lib.splitK [32] 0 k l) [32] = l
  | 0, l => Lib.join_one l [32]
  | k + 1, l => by
    unfold Lib.splitK
    rcases idx_cases l with h | ⟨i, h, hd⟩
    · rw [if_pos (by rw [h]; rfl)]
      exact Lib.join_one l [32]
    · rw [if_neg (by rw [h]; intro e; have := beq_iff_eq.1 e; omega), h]
      show Lib.join (l.take i :: Lib.splitK [32] 0 k (l.drop (i + 1))) [32] = l
      rw [join_cons2 _ _ (splitK_ne _ _), join_split k, List.singleton_append, ← hd, List.take_append_drop]

/-- No blank in it. -/
def NoBl (p : List UInt8) : Prop := ∀ b ∈ p, b ≠ 32
theorem idx_at {x r : List UInt8} (h : NoBl x) : Lib.index (x ++ 32 :: r) [32] = (x.length : Nat) := by
  rw [Lib.index_one]
  induction x with
  | nil => rfl
  | cons b x ih =>
    have hb : b ≠ 32 := h b (by simp)
    have e := ih (fun c hc => h c (by simp [hc]))
    show (if b == 32 then (0 : Int) else if Lib.indexByte (x ++ 32 :: r) 32 == -1 then -1 else Lib.indexByte (x ++ 32 :: r) 32 + 1) = _
    rw [if_neg (by simpa using hb), e, if_neg (by intro q; have := beq_iff_eq.1 q; omega)]
    simp
/-- What was joined, cut, is the pieces. -/
theorem split_join : ∀ (Q : List (List UInt8)) (k : Nat), Q.length = k + 1 → (∀ q ∈ Q, NoBl q) → Lib.splitK [32] 0 k (Lib.join Q [32]) = Q
  | [], k, h, _ => by simp at h
  | [x], k, h, _ => by
    obtain rfl : k = 0 := by simpa using h.symm
    rw [Lib.join_one]; rfl
  | x :: y :: r, k, h, hq => by
    obtain ⟨k', rfl⟩ : ∃ k', k = k' + 1 := ⟨k - 1, by simp at h; omega⟩
    rw [join_cons2 _ _ (by simp), List.singleton_append]
    have hi := idx_at (r := Lib.join (y :: r) [32]) (hq x (by simp))
    unfold Lib.splitK
    rw [if_neg (by rw [hi]; intro e; have := beq_iff_eq.1 e; omega), hi]
    have e1 : (x ++ 32 :: Lib.join (y :: r) [32]).take x.length = x := by simp
    have e2 : (x ++ 32 :: Lib.join (y :: r) [32]).drop (x.length + 1) = Lib.join (y :: r) [32] := by
      rw [← List.drop_drop]; simp
    show (x ++ 32 :: Lib.join (y :: r) [32]).take (x.length + 0) :: Lib.splitK [32] 0 k' ((x ++ 32 :: Lib.join (y :: r) [32]).drop (x.length + 1)) = _
    rw [Nat.add_zero, e1, e2, split_join (y :: r) k' (by simp at h ⊢; omega) (fun q hq' => hq q (by simp [hq']))]

theorem dec_in (u : Nat) : ∀ b ∈ Lib.decDigits u, 48 ≤ b.toNat ∧ b.toNat ≤ 57 := by
  induction u using Nat.strongRecOn with
  | ind u ih =>
    intro b hb
    rw [Lib.decDigits] at hb
    split at hb
    · rename_i h
      rw [List.mem_singleton.1 hb]
      have : (UInt8.ofNat (48 + u)).toNat = 48 + u := by simp [UInt8.toNat_ofNat']; omega
      omega
    · rcases List.mem_append.1 hb with h1 | h1
      · exact ih (u / 10) (by omega) b h1
      · rw [List.mem_singleton.1 h1]
        have : (UInt8.ofNat (48 + u % 10)).toNat = 48 + u % 10 := by simp [UInt8.toNat_ofNat']; omega
        omega
theorem dec_ne (u : Nat) : Lib.decDigits u ≠ [] := by
  rw [Lib.decDigits]
  split <;> simp
theorem parse_snoc (M : Nat) (d : UInt8) (hd : 48 ≤ d.toNat ∧ d.toNat ≤ 57) : ∀ (l : List UInt8) (acc a : Nat), Lib.parseUintM M acc l = .ok a → a < 1844674407370955162 → a * 10 + (d.toNat - 48) ≤ M → Lib.parseUintM M acc (l ++ [d]) = .ok (a * 10 + (d.toNat - 48))
  | [], acc, a, h, h1, h2 => by
    have e : acc = a := by injection h
    subst e
    show Lib.parseUintM M acc [d] = _
    unfold Lib.parseUintM
    rw [if_pos hd, if_neg (by omega), if_neg (by omega)]
    rfl
  | c :: r, acc, a, h, h1, h2 => by
    rw [List.cons_append]
    unfold Lib.parseUintM at h ⊢
    split at h
    · rename_i hc
      rw [if_pos hc]
      split at h
      · cases h
      · rename_i h3
        rw [if_neg h3]
        split at h
        · cases h
        · rename_i h4
          rw [if_neg h4]
          exact parse_snoc M d hd r _ a h h1 h2
    · cases h
theorem parse_dec (u : Nat) (hu : u < 1000000000000000000) : Lib.parseUintM 18446744073709551615 0 (Lib.decDigits u) = .ok u := by
  induction u using Nat.strongRecOn with
  | ind u ih =>
    rw [Lib.decDigits]
    split
    · rename_i h
      have e : (UInt8.ofNat (48 + u)).toNat = 48 + u := by simp [UInt8.toNat_ofNat']; omega
      unfold Lib.parseUintM
      rw [if_pos (by omega), if_neg (by omega), if_neg (by omega), e]
      unfold Lib.parseUintM
      congr 1; omega
    · rename_i h
      have e : (UInt8.ofNat (48 + u % 10)).toNat = 48 + u % 10 := by simp [UInt8.toNat_ofNat']; omega
      rw [parse_snoc _ _ (by omega) _ _ (u / 10) (ih (u / 10) (by omega) (by omega)) (by omega) (by omega), e]
      congr 1; omega
theorem pN_itoa {x : Int} (h0 : 0 ≤ x) (h1 : x < 1000000000000000000) : pN ⟨(Lib.itoa x).toArray⟩ = some x := by
  have e : Lib.itoa x = Lib.decDigits x.toNat := by unfold Lib.itoa; rw [if_neg (by omega)]
  have hp := parse_dec x.toNat (by omega)
  have hi := dec_in x.toNat
  have hne := dec_ne x.toNat
  have hr : Lib.parseIntB 64 (Lib.decDigits x.toNat) = .ok x := by
    cases hd : Lib.decDigits x.toNat with
    | nil => exact absurd hd hne
    | cons c r =>
      rw [hd] at hp hi
      have hc := hi c (by simp)
      rw [Lib.parseIntB_plain 64 c r (by omega) (by omega)]
      unfold Lib.parseUintB
      rw [if_neg (by simp)]
      show Lib.signlessC (2 ^ 63) (Lib.parseUintM 18446744073709551615 0 (c :: r)) = _
      rw [hp]
      show (if 9223372036854775808 ≤ x.toNat then Lib.NumEnd.range else Lib.NumEnd.ok ((x.toNat : Nat) : Int)) = _
      rw [if_neg (by omega), show ((x.toNat : Nat) : Int) = x by omega]
  unfold pN
  show (match Lib.parseIntB 64 (Lib.itoa x) with
    | .ok v => if Lib.itoa v = Lib.itoa x then some v else none
    | _ => none) = some x
  rw [e, hr]
  show (if Lib.itoa x = Lib.decDigits x.toNat then some x else none) = some x
  rw [if_pos e]

theorem nm_bl (i : Nat) : NoBl (nm i).data.toList := by
  unfold nm
  split <;> (unfold NoBl; decide)
theorem val_bl {i : Nat} {x : Int} (h : 0 ≤ x) : NoBl (valB i x).data.toList := by
  unfold valB
  split
  · split
    · unfold NoBl; decide
    · split <;> (unfold NoBl; decide)
  · split
    · split <;> (unfold NoBl; decide)
    · show NoBl (Lib.itoa x)
      have e : Lib.itoa x = Lib.decDigits x.toNat := by unfold Lib.itoa; rw [if_neg (by omega)]
      rw [e]
      intro b hb e2
      have := dec_in x.toNat b hb
      rw [e2] at this
      exact absurd this (by decide)
theorem row_bl {c : Cf} (h : ∀ j, j < 10 → 0 ≤ fldF c j) : ∀ i, i ≤ 10 → ∀ q ∈ (rowT c i).map (·.data.toList), NoBl q
  | 0, _, q, hq => by simp [rowT] at hq
  | i + 1, hi, q, hq => by
    rw [rowT, List.map_append] at hq
    rcases List.mem_append.1 hq with h1 | h1
    · exact row_bl h i (by omega) q h1
    · simp at h1
      rcases h1 with rfl | rfl
      · exact nm_bl i
      · exact val_bl (h i (by omega))
theorem row_at (c : Cf) : ∀ n, n ≤ 10 → ∀ i, i < n → (rowT c n).getD (2 * i) zS = nm i ∧ (rowT c n).getD (2 * i + 1) zS = valB i (fldF c i)
  | 0, _, i, h => absurd h (by omega)
  | n + 1, hn, i, h => by
    rw [rowT]
    have hl := rowT_len c n
    by_cases hi : i = n
    · subst hi
      constructor
      · rw [List.getD_eq_getElem?_getD, List.getElem?_append_right (by omega), hl]
        simp
      · rw [List.getD_eq_getElem?_getD, List.getElem?_append_right (by omega), hl, show 2 * i + 1 - 2 * i = 1 by omega]
        simp
    · obtain ⟨h1, h2⟩ := row_at c n (by omega) i (by omega)
      rw [List.getD_eq_getElem?_getD, List.getD_eq_getElem?_getD, List.getElem?_append_left (by omega), List.getElem?_append_left (by omega), ← List.getD_eq_getElem?_getD, ← List.getD_eq_getElem?_getD]
      exact ⟨h1, h2⟩
theorem pieces_data (s : ByteArray) : (pieces s).map (·.data.toList) = Lib.splitK [32] 0 (min 20 (s.size + 1) - 1) s.data.toList := Lib.splitB_data _ _ _ _
theorem toList_data (s : ByteArray) : s.toList = s.data.toList := ByteArray.toList_eq s
theorem ba_ext {a b : ByteArray} (h : a.data.toList = b.data.toList) : a = b := ByteArray.ext (Array.toList_inj.1 h)
theorem map_inj {A B : List ByteArray} (h : A.map (·.data.toList) = B.map (·.data.toList)) : A = B := by
  induction A generalizing B with
  | nil => cases B with
    | nil => rfl
    | cons b B => cases h
  | cons a A ih => cases B with
    | nil => cases h
    | cons b B =>
      simp only [List.map_cons, List.cons.injEq] at h
      rw [ba_ext h.1, ih h.2]
/-- The pieces of a job's text. -/
theorem pieces_txt {c : Cf} (h : ∀ j, j < 10 → 0 ≤ fldF c j) : pieces (txtS c 10) = rowT c 10 := by
  have hj := join_row c 10 (by omega)
  have hs : 20 ≤ (txtS c 10).size + 1 := by
    have e : (txtS c 10).size = (Lib.join ((rowT c 10).map (·.data.toList)) [32]).length := by rw [hj]; rfl
    have hl := rowT_len c 10
    cases hr : (rowT c 10).map (·.data.toList) with
    | nil =>
      have := congrArg List.length hr
      rw [List.length_map, hl] at this
      simp at this
    | cons x r =>
      rw [e, hr, Lib.join_length]
      have := congrArg List.length hr
      rw [List.length_map, hl] at this
      simp at this ⊢
      omega
  refine map_inj ?_
  rw [pieces_data, ← hj, show min 20 ((txtS c 10).size + 1) - 1 = 19 by omega]
  exact split_join _ 19 (by rw [List.length_map, rowT_len]) (row_bl h 10 (by omega))

theorem nFo_val {i : Nat} {x : Int} (hi : i < 10) (hv : ValOk i x) (h0 : 0 ≤ x) (h1 : x < 1000000000000000000) : nFo i (valB i x) = some x := by
  obtain ⟨v1, v2, -, -⟩ := hv
  unfold nFo
  by_cases h2 : i = 2
  · subst h2
    rw [if_pos rfl]
    obtain ⟨a, b⟩ := v1 rfl
    rcases (by omega : x = 1 ∨ x = 2 ∨ x = 3) with rfl | rfl | rfl <;> kernel_rfl
  · rw [if_neg h2]
    by_cases h9 : i = 9
    · subst h9
      rw [if_pos rfl]
      obtain ⟨a, b⟩ := v2 rfl
      rcases (by omega : x = 0 ∨ x = 1) with rfl | rfl <;> kernel_rfl
    · rw [if_neg h9]
      have e : valB i x = ⟨(Lib.itoa x).toArray⟩ := by unfold valB; rw [if_neg h2, if_neg h9]
      rw [e]
      exact pN_itoa h0 h1
theorem nFo_is {i : Nat} {t : ByteArray} {x : Int} (h : nFo i t = some x) : t.data.toList = (valB i x).data.toList := by
  unfold nFo at h
  by_cases h2 : i = 2
  · subst h2
    rw [if_pos rfl] at h
    unfold kindO at h
    split at h
    · rename_i q; injection h with h; subst h; have := beq_iff_eq.1 q; rw [toList_data, toList_data] at this; exact this.symm
    · split at h
      · rename_i q; injection h with h; subst h; have := beq_iff_eq.1 q; rw [toList_data, toList_data] at this; exact this.symm
      · split at h
        · rename_i q; injection h with h; subst h; have := beq_iff_eq.1 q; rw [toList_data, toList_data] at this; exact this.symm
        · cases h
  · rw [if_neg h2] at h
    by_cases h9 : i = 9
    · subst h9
      rw [if_pos rfl] at h
      unfold discO at h
      split at h
      · rename_i q; injection h with h; subst h; have := beq_iff_eq.1 q; rw [toList_data, toList_data] at this; exact this.symm
      · split at h
        · rename_i q; injection h with h; subst h; have := beq_iff_eq.1 q; rw [toList_data, toList_data] at this; exact this.symm
        · cases h
    · rw [if_neg h9] at h
      have e : valB i x = ⟨(Lib.itoa x).toArray⟩ := by unfold valB; rw [if_neg h2, if_neg h9]
      rw [e]
      unfold pN at h
      split at h
      · split at h
        · rename_i q; injection h with h; subst h; exact q.symm
        · cases h
      · cases h

theorem ppS_of {P : List ByteArray} {c : Cf} (hv : TxtOk c) (hin : ∀ j, j < 10 → 0 ≤ fldF c j ∧ fldF c j ≤ 1099511627776) (hP : ∀ i, i < 10 → P.getD (2 * i) zS = nm i ∧ P.getD (2 * i + 1) zS = valB i (fldF c i)) : ∀ i, i ≤ 10 → ∃ f, ppS P i = some f ∧ ∀ j, j < i → f j = fldF c j
  | 0, _ => ⟨f0, rfl, fun j hj => absurd hj (by omega)⟩
  | i + 1, hi => by
    obtain ⟨f, ih, hf⟩ := ppS_of hv hin hP i (by omega)
    obtain ⟨h1, h2⟩ := hP i (by omega)
    have h3 := hin i (by omega)
    refine ⟨stF f i (fldF c i), ?_, fun j hj => ?_⟩
    · rw [ppS, ih]
      simp only
      rw [h1, h2, if_pos (by simp), nFo_val (by omega) (hv i (by omega)) h3.1 (by omega)]
    · unfold stF
      by_cases hji : j = i
      · rw [if_pos hji, hji]
      · rw [if_neg hji]; exact hf j (by omega)
theorem ppS_is {P : List ByteArray} : ∀ i f, i ≤ 10 → ppS P i = some f → ∀ j, j < i → (P.getD (2 * j) zS).toList = (nm j).toList ∧ nFo j (P.getD (2 * j + 1) zS) = some (f j)
  | 0, _, _, _, j, hj => absurd hj (by omega)
  | i + 1, f, hi, h, j, hj => by
    rw [ppS] at h
    cases hS : ppS P i with
    | none => rw [hS] at h; cases h
    | some f' =>
      rw [hS] at h
      simp only at h
      split at h
      · rename_i hq
        cases hn : nFo i (P.getD (2 * i + 1) zS) with
        | none => rw [hn] at h; cases h
        | some x =>
          rw [hn] at h
          have e := Option.some.inj h
          by_cases hji : j = i
          · subst hji
            refine ⟨beq_iff_eq.1 hq, ?_⟩
            rw [hn, ← e]; unfold stF; rw [if_pos rfl]
          · obtain ⟨a, b⟩ := ppS_is i f' (by omega) hS j (by omega)
            refine ⟨a, ?_⟩
            rw [b, ← e]; unfold stF; rw [if_neg hji]
      · cases h
theorem txt_ok {c : Cf} (h : wrongN c = 0) : TxtOk c := fun i hi => by
  have h1 := wrong_pos h i hi
  refine ⟨fun h2 => ?_, fun h9 => ?_, by omega, by omega⟩
  · subst h2
    have ok := fwF_none 10 0 (fw_none h) 2 (by omega) (by omega)
    unfold okAt inB at ok
    simp [loB, hiB] at ok
    exact ok
  · subst h9
    have := disc_in c
    unfold inB at this
    simpa using this
/-- Parse of a job's text is the job. -/
theorem pp_text {c : Cf} (h : wrongN c = 0) : ppJ (txtS c 10) = (c, true) := by
  have hin := wrong_pos h
  have hp := pieces_txt (c := c) (fun j hj => (hin j hj).1)
  obtain ⟨f, hS, hf⟩ := ppS_of (P := rowT c 10) (txt_ok h) hin (row_at c 10 (by omega)) 10 (by omega)
  have e : ppF (txtS c 10) = f := by
    unfold ppF ppN
    rw [hp, if_pos (by rw [rowT_len]), hS]
    rfl
  have ef := ext10 hf
  unfold ppJ
  rw [e, ef, if_pos ⟨h, by rw [hf 9 (by omega)]; exact disc_in c⟩]
/-- What Parse says is the text's job. -/
theorem pp_is {s : ByteArray} (h : (ppJ s).2 = true) : wrongN (ppJ s).1 = 0 ∧ txtS (ppJ s).1 10 = s := by
  unfold ppJ at h ⊢
  by_cases hc : wrongN (ofF (ppF s)) = 0 ∧ inB (ppF s 9) 0 1 = true
  · rw [if_pos hc]
    refine ⟨hc.1, ?_⟩
    show txtS (ofF (ppF s)) 10 = s
    cases hN : ppN s with
    | none =>
      rw [ppF_none hN] at hc
      exact absurd hc.1 (by decide)
    | some f =>
      rw [ppF_some hN] at hc ⊢
      unfold ppN at hN
      split at hN
      · rename_i hl
        have hq := ppS_is 10 f (by omega) hN
        have hP : pieces s = rowT (ofF f) 10 := by
          apply List.ext_getElem?
          intro k
          by_cases hk : k < 20
          · have hr := row_at (ofF f) 10 (by omega) (k / 2) (by omega)
            obtain ⟨a, b⟩ := hq (k / 2) (by omega)
            have ea : (pieces s).getD (2 * (k / 2)) zS = nm (k / 2) := ba_ext (by rw [← toList_data, a, toList_data])
            have eb : (pieces s).getD (2 * (k / 2) + 1) zS = valB (k / 2) (f (k / 2)) := ba_ext (nFo_is b)
            have ek : (pieces s).getD k zS = (rowT (ofF f) 10).getD k zS := by
              rcases Nat.mod_two_eq_zero_or_one k with hm | hm
              · rw [show k = 2 * (k / 2) by omega, ea, hr.1]
              · rw [show k = 2 * (k / 2) + 1 by omega, eb, hr.2, fld_of hc.2 _ (by omega)]
            have l1 : k < (pieces s).length := by omega
            have l2 : k < (rowT (ofF f) 10).length := by rw [rowT_len]; omega
            rw [List.getD_eq_getElem?_getD, List.getD_eq_getElem?_getD, List.getElem?_eq_getElem l1, List.getElem?_eq_getElem l2] at ek
            rw [List.getElem?_eq_getElem l1, List.getElem?_eq_getElem l2]
            exact congrArg some ek
          · rw [List.getElem?_eq_none (by omega), List.getElem?_eq_none (by rw [rowT_len]; omega)]
        have hd := pieces_data s
        have hj := join_row (ofF f) 10 (by omega)
        rw [hP] at hd
        rw [hd, join_split] at hj
        exact (ba_ext hj).symm
      · cases hN
  · rw [if_neg hc] at h; cases h
theorem pp_none {s : ByteArray} (h : (ppJ s).2 = false) : ppJ s = (cfz, false) := by
  unfold ppJ at h ⊢
  by_cases hc : wrongN (ofF (ppF s)) = 0 ∧ inB (ppF s 9) 0 1 = true
  · rw [if_pos hc] at h; cases h
  · rw [if_neg hc]

end Go.Proofs.YtjambfncemlenaaDoor
