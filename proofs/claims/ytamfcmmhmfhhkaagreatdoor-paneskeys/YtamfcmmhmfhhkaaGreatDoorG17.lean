/- A line read from left to right (the mathematics of the program's read). A line's words, read from left to right (the mathematics of the program's read). A pane put together (the program's paneOf); what a reader keeps in memory. A law for a scope in which the run jumps to any of its labels, forward or back. -/
import Derived.Test.YtamfcmmhmfhhkaaGreatDoorG15
import Derived.Test.YtamfcmmhmfhhkaaGreatDoorG16
import Derived.Test.YtamfcmmhmfhhkaaGreatDoorG13
import Derived.Scope
import Derived.ScopeJumps
import Derived.Below
namespace Go.Proofs.YtamfcmmhmfhhkaaGreatDoor
open Go.RowKit

/-- Where the reader of a key stands: KI, and what was read is what the key so far is written as. -/
structure Ks (s : ByteArray) (i : Nat) (A : List Int) (R : List UInt8) : Prop where
  ki : KI s i A
  pre : s.toList.take i = (34 :: A.flatMap escL).map tbN
  byte : ∀ x ∈ A, 0 ≤ x ∧ x < 256
  rest : s.toList.drop i = R
/-- No pane has this line. -/
def NoP (s : ByteArray) : Prop := ∀ p, mayP p = true → NumOk p → lineB p ≠ s

theorem tbN_u8 (b : UInt8) : tbN (b.toNat : Int) = b := by
  unfold tbN
  rw [Int.toNat_natCast, UInt8.ofNat_toNat]
theorem line_key {s : ByteArray} {p : Pn} (h : lineB p = s) : s.toList = qk p.k ++ jn (tlP p) := by rw [← h, line_split]
theorem NoP.of {s : ByteArray} (h : ∀ k r, s.toList ≠ qk k ++ r) : NoP s := fun _ _ _ e => h _ _ (line_key e)

theorem Ks.start {s : ByteArray} {R : List UInt8} (h : s.toList = 34 :: R) : Ks s 1 [] R := ⟨KI.start s, by rw [h]; rfl, fun x hx => (nomatch hx), by rw [h]; rfl⟩
theorem NoP.first {s : ByteArray} (h : ∀ b R, s.toList = b :: R → b.toNat ≠ 34) : NoP s := NoP.of fun k r e => by
  have : s.toList = 34 :: (((quoL k k.size).tail ++ [34]).map tbN ++ r) := by rw [e]; rfl
  exact h _ _ this rfl
theorem Ks.past {s : ByteArray} {i : Nat} {A : List Int} (h : Ks s i A []) : NoP s := NoP.of (KI.past h.ki (by
  have := congrArg List.length h.rest
  rw [List.length_drop, tl_len] at this
  simp at this
  omega))
theorem Ks.long {s : ByteArray} {i : Nat} {A : List Int} {R : List UInt8} (h : Ks s i A R) (hl : 256 < A.length) : NoP s := fun p hm _ e => by
  obtain ⟨j, hj, -, h2⟩ := h.ki _ _ (line_key e)
  have hk : p.k.size ≤ 256 := by unfold mayP at hm; exact (of_decide_eq_true hm).1
  rw [h2, List.length_take, bsL_len] at hl
  omega
theorem Ks.head {s : ByteArray} {i : Nat} {A : List Int} {b : UInt8} {R : List UInt8} (h : Ks s i A (b :: R)) : ∃ hi : i < s.size, s[i]'hi = b ∧ s.toList.drop (i + 1) = R ∧ s.toList.take (i + 1) = s.toList.take i ++ [b] := by
  obtain ⟨hi, h1, h2⟩ := head_at h.rest
  refine ⟨hi, h1, h2, ?_⟩
  have e : s.toList = s.toList.take i ++ (b :: R) := by rw [← h.rest, List.take_append_drop]
  have hl : (s.toList.take i).length = i := by rw [List.length_take, tl_len]; omega
  conv => lhs; rw [e, List.take_append, hl]
  rw [List.take_of_length_le (by omega), show i + 1 - i = 1 by omega]
  rfl
theorem it_ne {b : Nat} (h : itB (b : Int) = true) : 32 ≤ b ∧ b ≤ 126 ∧ b ≠ 34 ∧ b ≠ 92 := by
  have := of_decide_eq_true h
  omega
theorem Ks.plain {s : ByteArray} {i : Nat} {A : List Int} {b : UInt8} {R : List UInt8} (h : Ks s i A (b :: R)) (hb : itB (b.toNat : Int) = true) : Ks s (i + 1) (A ++ [(b.toNat : Int)]) R := by
  obtain ⟨hi, h1, h2, h3⟩ := h.head
  obtain ⟨g1, g2, g3, g4⟩ := it_ne hb
  refine ⟨KI.plain h.ki hi (by rw [h1]) g3 g4, ?_, fun x hx => ?_, h2⟩
  · rw [h3, h.pre, List.flatMap_append, ← List.cons_append, List.map_append]
    congr 1
    show [b] = ((escL (b.toNat : Int)) ++ []).map tbN
    rw [esc_plain ⟨g1, g2, g3, g4⟩, List.append_nil, List.map_cons, tbN_u8]
    rfl
  · rcases List.mem_append.1 hx with hx | hx
    · exact h.byte x hx
    · rw [List.mem_singleton] at hx; subst hx; have := b.toNat_lt; omega
theorem Ks.odd {s : ByteArray} {i : Nat} {A : List Int} {b : UInt8} {R : List UInt8} (h : Ks s i A (b :: R)) (h34 : b.toNat ≠ 34) (h92 : b.toNat ≠ 92) (hb : itB (b.toNat : Int) = false) : NoP s := NoP.of fun k r he => by
  obtain ⟨hi, h1, -, -⟩ := h.head
  obtain ⟨j, hj, e1, e2⟩ := h.ki k r he
  rcases KI.cases he hj e1 with ⟨-, q, -⟩ | ⟨c, hc, -, -, -, rest, q⟩
  · obtain ⟨_, h4, -⟩ := head_at q
    rw [h1] at h4
    subst h4
    exact h34 rfl
  · by_cases hp : 32 ≤ c ∧ c ≤ 126 ∧ c ≠ 34 ∧ c ≠ 92
    · rw [esc_plain hp] at q
      obtain ⟨_, h4, -⟩ := head_at q
      rw [h1] at h4
      have := tbN_nat (n := (c : Int)) (by omega) (by omega)
      rw [← h4] at this
      rw [this] at hb
      exact absurd (of_decide_eq_false hb) (fun h => h ⟨by omega, by omega, by omega, by omega⟩)
    · rw [esc_four hp] at q
      obtain ⟨_, h4, -⟩ := head_at q
      rw [h1] at h4
      subst h4
      exact h92 rfl
theorem dig_hex {c : Int} (h : 0 ≤ digX c) : hexB (digX c) = c := by
  unfold digX at h ⊢
  by_cases h1 : 48 ≤ c ∧ c ≤ 57
  · rw [if_pos h1]
    unfold hexB
    rw [if_pos (by omega)]
    omega
  · rw [if_neg h1] at h ⊢
    by_cases h2 : 97 ≤ c ∧ c ≤ 102
    · rw [if_pos h2]
      unfold hexB
      rw [if_neg (by omega)]
      omega
    · rw [if_neg h2] at h; omega
theorem Ks.code {s : ByteArray} {i : Nat} {A : List Int} {h l : UInt8} {R : List UInt8} (k : Ks s i A (92 :: 120 :: h :: l :: R)) (h1 : 0 ≤ digX (h.toNat : Int)) (h2 : 0 ≤ digX (l.toNat : Int)) (hb : itB (16 * digX (h.toNat : Int) + digX (l.toNat : Int)) = false) : Ks s (i + 4) (A ++ [16 * digX (h.toNat : Int) + digX (l.toNat : Int)]) R := by
  have d1 := digX_lo (h.toNat : Int)
  have d2 := digX_lo (l.toNat : Int)
  obtain ⟨g0, e0, q1⟩ := head_at k.rest
  obtain ⟨g1, e1, q2⟩ := head_at q1
  obtain ⟨g2, e2, q3⟩ := head_at q2
  obtain ⟨g3, e3, q4⟩ := head_at q3
  have e2' : s[i + 2]'(by omega) = h := e2
  have e3' : s[i + 3]'(by omega) = l := e3
  have q4' : s.toList.drop (i + 4) = R := q4
  refine ⟨fun k2 r2 he => ?_, ?_, fun x hx => ?_, q4'⟩
  · obtain ⟨_, -, -, j, j1, j2, j3⟩ := KI.esc k.ki g0 (by rw [e0]; rfl) k2 r2 he
    refine ⟨j, j1, j2, ?_⟩
    rw [← j3, e2', e3']
  · have e : s.toList = s.toList.take i ++ (92 :: 120 :: h :: l :: R) := by rw [← k.rest, List.take_append_drop]
    have hl : (s.toList.take i).length = i := by rw [List.length_take, tl_len]; omega
    conv => lhs; rw [e, List.take_append, hl]
    rw [List.take_of_length_le (by omega), show i + 4 - i = 4 by omega, k.pre, List.flatMap_append, ← List.cons_append, List.map_append]
    congr 1
    obtain ⟨v, hv⟩ : ∃ v : Nat, 16 * digX (h.toNat : Int) + digX (l.toNat : Int) = (v : Int) := ⟨(16 * digX (h.toNat : Int) + digX (l.toNat : Int)).toNat, by omega⟩
    have hx : (v : Int) / 16 = digX (h.toNat : Int) := by omega
    have hy : (v : Int) % 16 = digX (l.toNat : Int) := by omega
    rw [hv] at hb ⊢
    show [92, 120, h, l] = ((escL (v : Int)) ++ []).map tbN
    rw [List.append_nil, esc_four (fun h => by have := of_decide_eq_false hb; exact this ⟨by omega, by omega, by omega, by omega⟩), hx, hy, dig_hex h1, dig_hex h2]
    simp only [List.map_cons, List.map_nil, tbN_u8]
    rfl
  · rcases List.mem_append.1 hx with hx | hx
    · exact k.byte x hx
    · rw [List.mem_singleton] at hx; subst hx; omega
theorem Ks.bad {s : ByteArray} {i : Nat} {A : List Int} {R : List UInt8} (k : Ks s i A (92 :: R)) (hR : ∀ h l R', R = 120 :: h :: l :: R' → 0 ≤ digX (h.toNat : Int) → 0 ≤ digX (l.toNat : Int) → itB (16 * digX (h.toNat : Int) + digX (l.toNat : Int)) = true) : NoP s := NoP.of fun k2 r he => by
  obtain ⟨j, hj, e1, e2⟩ := k.ki k2 r he
  rcases KI.cases he hj e1 with ⟨-, q, -⟩ | ⟨c, hc, -, -, -, rest, q⟩
  · rw [k.rest] at q
    injection q with q
    exact absurd q (by decide)
  · rw [k.rest] at q
    by_cases hp : 32 ≤ c ∧ c ≤ 126 ∧ c ≠ 34 ∧ c ≠ 92
    · rw [esc_plain hp] at q
      injection q with q
      have := tbN_nat (n := (c : Int)) (by omega) (by omega)
      rw [← q] at this
      have e92 : ((92 : UInt8).toNat : Int) = 92 := rfl
      omega
    · rw [esc_four hp] at q
      injection q with _ q
      have x1 := hexB_in (n := (c : Int) / 16) (by omega) (by omega)
      have x2 := hexB_in (n := (c : Int) % 16) (by omega) (by omega)
      have y1 := tbN_nat x1.1 x1.2
      have y2 := tbN_nat x2.1 x2.2
      have w1 := digX_hex (n := (c : Int) / 16) (by omega) (by omega)
      have w2 := digX_hex (n := (c : Int) % 16) (by omega) (by omega)
      have hh := hR _ _ _ q (by rw [y1, w1]; omega) (by rw [y2, w2]; omega)
      rw [y1, y2, w1, w2, show 16 * ((c : Int) / 16) + (c : Int) % 16 = (c : Int) by omega] at hh
      exact hp (it_ne hh)

/-- Behind the key. -/
structure Kb (s k : ByteArray) (R : List UInt8) : Prop where
  pre : s.toList = qk k ++ R
  all : ∀ p, lineB p = s → p.k = k ∧ R = jn (tlP p)
theorem Ks.last {s : ByteArray} {i : Nat} {A : List Int} {R : List UInt8} (h : Ks s i A (34 :: R)) : Kb s (strOfNums A) R := by
  obtain ⟨hi, h1, h2, h3⟩ := h.head
  have hA : bsL (strOfNums A) = A := bs_of h.byte
  have hq : quoA (strOfNums A) = (34 :: A.flatMap escL) ++ [34] := by
    have e : (strOfNums A).toList.map (fun u => (u.toNat : Int)) = A := by
      rw [ByteArray.toList_eq]
      exact hA
    unfold quoA quoL
    rw [List.take_of_length_le (by rw [tl_len]; exact Nat.le_refl _)]
    conv => rhs; rw [← e, List.flatMap_map]
  have hp : s.toList = qk (strOfNums A) ++ R := by
    have e : s.toList = s.toList.take i ++ (34 :: R) := by rw [← h.rest, List.take_append_drop]
    rw [e, h.pre]
    unfold qk
    rw [hq, List.map_append, List.append_assoc]
    rfl
  refine ⟨hp, fun p e => ?_⟩
  have e2 := line_key e
  obtain ⟨q1, q2⟩ := qk_inj (hp.symm.trans e2)
  exact ⟨q1.symm, q2⟩

end Go.Proofs.YtamfcmmhmfhhkaaGreatDoor

namespace Go.Proofs.YtamfcmmhmfhhkaaGreatDoor
open Go.RowKit

theorem wd_split : ∀ (W T : List UInt8), (∀ b ∈ W, b ≠ 32) → (T = [] ∨ ∃ T', T = 32 :: T') → wdL (W ++ T) = W ∧ wdR (W ++ T) = T
  | [], T, _, h => by
    rcases h with rfl | ⟨T', rfl⟩
    · exact ⟨rfl, rfl⟩
    · exact ⟨rfl, rfl⟩
  | b :: W, T, hW, h => by
    have hb : b ≠ 32 := hW b (by simp)
    obtain ⟨h1, h2⟩ := wd_split W T (fun c hc => hW c (by simp [hc])) h
    refine ⟨?_, ?_⟩
    · show wdL (b :: (W ++ T)) = b :: W
      have e : wdL (b :: (W ++ T)) = b :: wdL (W ++ T) := List.takeWhile_cons_of_pos (by simpa using hb)
      rw [e, h1]
    · show wdR (b :: (W ++ T)) = T
      have e : wdR (b :: (W ++ T)) = wdR (W ++ T) := List.dropWhile_cons_of_pos (by simpa using hb)
      rw [e, h2]

/-- A line's numbers from number j on. -/
def tlL (p : Pn) (j : Nat) : List UInt8 := ((numsP p).drop j).flatMap fun x => 32 :: (intB x).toList
theorem tlL_next (p : Pn) (j : Nat) (h : j < 7) : tlL p j = 32 :: ((intB ((numsP p).getD j 0)).toList ++ tlL p (j + 1)) := by
  have hl : (numsP p).length = 7 := rfl
  unfold tlL
  rw [List.drop_eq_getElem_cons (by omega), List.flatMap_cons, List.getD_eq_getElem?_getD, List.getElem?_eq_getElem (by omega)]
  rfl
theorem tlL_end (p : Pn) : tlL p 7 = [] := rfl
theorem tlL_or (p : Pn) (j : Nat) : tlL p j = [] ∨ ∃ T, tlL p j = 32 :: T := by
  by_cases h : j < 7
  · exact .inr ⟨_, tlL_next p j h⟩
  · left
    unfold tlL
    rw [List.drop_of_length_le (by show 7 ≤ j; omega)]
    rfl
theorem jn_flat : ∀ (x : List UInt8) (l : List (List UInt8)), jn (x :: l) = x ++ l.flatMap fun y => 32 :: y
  | x, [] => by simp [jn]
  | x, y :: l => by
    rw [jn_cons x (by simp), jn_flat y l, List.flatMap_cons, List.cons_append]
theorem jn_tl (p : Pn) : jn (tlP p) = 32 :: ((nameB p.d).toList ++ tlL p 0) := by
  unfold tlP tlL
  rw [jn_flat, List.nil_append, List.flatMap_cons, List.drop_zero, List.flatMap_map, List.cons_append]

/-- The first j numbers, as they are written. -/
def nsL (f : Nat → Int) (j : Nat) : List UInt8 := (List.range j).flatMap fun i => 32 :: (intB (f i)).toList
theorem nsL_up (f : Nat → Int) (j : Nat) (x : Int) : nsL (upG f j x) (j + 1) = nsL f j ++ 32 :: (intB x).toList := by
  unfold nsL
  rw [List.range_succ, List.flatMap_append, List.flatMap_cons, List.flatMap_nil, List.append_nil]
  have e1 : upG f j x j = x := by unfold upG; rw [if_pos rfl]
  rw [e1]
  congr 1
  have : ∀ (l : List Nat), (∀ i ∈ l, i < j) → (l.flatMap fun i => 32 :: (intB (upG f j x i)).toList) = l.flatMap fun i => 32 :: (intB (f i)).toList := by
    intro l
    induction l with
    | nil => intro _; rfl
    | cons a l ih =>
      intro h
      have ha := h a (by simp)
      have e : upG f j x a = f a := by unfold upG; rw [if_neg (by omega)]
      rw [List.flatMap_cons, List.flatMap_cons, e, ih (fun i hi => h i (by simp [hi]))]
  exact this _ (fun i hi => List.mem_range.1 hi)

/-- Among the numbers. -/
structure Nb (s k : ByteArray) (d : Int) (f : Nat → Int) (j : Nat) (R : List UInt8) : Prop where
  pre : s.toList = (qk k ++ 32 :: (nameB d).toList) ++ (nsL f j ++ R)
  all : ∀ p, mayP p = true → lineB p = s → p.k = k ∧ p.d = d ∧ (∀ i, i < j → (numsP p).getD i 0 = f i) ∧ R = tlL p j
  int : ∀ i, i < j → I64n (f i)

theorem tk_cons {R : List UInt8} (h : tkB R 32 = true) : R = 32 :: R.tail := by
  obtain ⟨b, R', rfl, hb⟩ := tkB_yes h
  rw [n32 hb]
  rfl
theorem Kb.none {s k : ByteArray} {R : List UInt8} (h : Kb s k R) (ht : tkB R 32 = false) : NoP s := fun p _ _ e => by
  have hR := (h.all p e).2
  rw [jn_tl] at hR
  exact tkB_no ht _ _ hR rfl
theorem Kb.word {s k : ByteArray} {R : List UInt8} (h : Kb s k R) (_ht : tkB R 32 = true) (p : Pn) (e : lineB p = s) : wdL R.tail = (nameB p.d).toList ∧ wdR R.tail = tlL p 0 := by
  have hR := (h.all p e).2
  rw [jn_tl] at hR
  rw [hR]
  exact wd_split _ _ (nameB_no _) (tlL_or p 0)
theorem Kb.kind {s k : ByteArray} {R : List UInt8} (h : Kb s k R) (ht : tkB R 32 = true) {d : Int} (h1 : 1 ≤ d) (h2 : d ≤ 3) (hd : nameB d = bl (wdL R.tail)) (f : Nat → Int) : Nb s k d f 0 (wdR R.tail) := by
  have hw : (nameB d).toList = wdL R.tail := by rw [hd, bl_list]
  refine ⟨?_, fun p hm e => ?_, fun i hi => by omega⟩
  · have e := h.pre
    rw [tk_cons ht, ← wd_app R.tail] at e
    rw [e, hw]
    simp [nsL]
  · obtain ⟨e1, e2⟩ := h.word ht p e
    exact ⟨(h.all p e).1, name_inj (may_kind hm) ⟨h1, h2⟩ (by rw [hw, e1]), fun i hi => by omega, e2⟩
theorem Kb.nokind {s k : ByteArray} {R : List UInt8} (h : Kb s k R) (ht : tkB R 32 = true) (hd : ∀ d : Int, 1 ≤ d → d ≤ 3 → nameB d ≠ bl (wdL R.tail)) : NoP s := fun p hm _ e => by
  obtain ⟨h1, h2⟩ := may_kind hm
  exact hd p.d h1 h2 (ba_ext (by rw [bl_list, (h.word ht p e).1]))
theorem Nb.none {s k : ByteArray} {d : Int} {f : Nat → Int} {j : Nat} {R : List UInt8} (h : Nb s k d f j R) (hj : j < 7) (ht : tkB R 32 = false) : NoP s := fun p hm _ e => by
  have hR := (h.all p hm e).2.2.2
  rw [tlL_next p j hj] at hR
  exact tkB_no ht _ _ hR rfl
theorem Nb.word {s k : ByteArray} {d : Int} {f : Nat → Int} {j : Nat} {R : List UInt8} (h : Nb s k d f j R) (hj : j < 7) (p : Pn) (hm : mayP p = true) (e : lineB p = s) : wdL R.tail = (intB ((numsP p).getD j 0)).toList ∧ wdR R.tail = tlL p (j + 1) := by
  have hR := (h.all p hm e).2.2.2
  rw [tlL_next p j hj] at hR
  rw [hR]
  exact wd_split _ _ (intB_no _) (tlL_or p (j + 1))
theorem Nb.num {s k : ByteArray} {d : Int} {f : Nat → Int} {j : Nat} {R : List UInt8} (h : Nb s k d f j R) (hj : j < 7) (ht : tkB R 32 = true) {x : Int} (hx : numP (bl (wdL R.tail)) = some x) : Nb s k d (upG f j x) (j + 1) (wdR R.tail) := by
  obtain ⟨hi, hb⟩ := numP_some.1 hx
  have hw : (intB x).toList = wdL R.tail := by rw [hb, bl_list]
  refine ⟨?_, fun p hm e => ?_, fun i hi2 => ?_⟩
  · have e := h.pre
    rw [tk_cons ht, ← wd_app R.tail] at e
    rw [e, nsL_up, hw]
    simp
  · obtain ⟨e1, e2⟩ := h.word hj p hm e
    obtain ⟨a1, a2, a3, -⟩ := h.all p hm e
    refine ⟨a1, a2, fun i hi2 => ?_, e2⟩
    unfold upG
    by_cases hij : i = j
    · subst hij
      rw [if_pos rfl]
      exact int_inj (by rw [hw, e1])
    · rw [if_neg hij]
      exact a3 i (by omega)
  · unfold upG
    by_cases hij : i = j
    · rw [if_pos hij]; exact hi
    · rw [if_neg hij]; exact h.int i (by omega)
theorem Nb.nonum {s k : ByteArray} {d : Int} {f : Nat → Int} {j : Nat} {R : List UInt8} (h : Nb s k d f j R) (hj : j < 7) (hx : numP (bl (wdL R.tail)) = Option.none) : NoP s := fun p hm hp e => by
  have hb := (h.word hj p hm e).1
  have h2 : numP (bl (wdL R.tail)) = some ((numsP p).getD j 0) := numP_some.2 ⟨hp j hj, ba_ext (by rw [bl_list, hb])⟩
  rw [hx] at h2
  cases h2
/-- The pane that was read. -/
abbrev pnF (k : ByteArray) (d : Int) (f : Nat → Int) : Pn := ⟨k, f 0, f 1, d, f 2, ⟨f 3, f 4, f 5, f 6⟩⟩
theorem Nb.last {s k : ByteArray} {d : Int} {f : Nat → Int} (h : Nb s k d f 7 []) (hk : k.size ≤ 256) (h1 : 1 ≤ d) (h2 : d ≤ 3) : ParR s (some (pnF k d f)) := by
  refine ⟨decide_eq_true ⟨hk, h1, h2⟩, fun i hi => ?_, ?_⟩
  · have e : (numsP (pnF k d f)).getD i 0 = f i := by
      rcases (by omega : i = 0 ∨ i = 1 ∨ i = 2 ∨ i = 3 ∨ i = 4 ∨ i = 5 ∨ i = 6) with rfl | rfl | rfl | rfl | rfl | rfl | rfl <;> rfl
    rw [e]
    exact h.int i hi
  · apply ba_ext
    rw [line_split, jn_tl, h.pre]
    have e : tlL (pnF k d f) 0 = nsL f 7 := rfl
    rw [e]
    simp
theorem Nb.more {s k : ByteArray} {d : Int} {f : Nat → Int} {b : UInt8} {R : List UInt8} (h : Nb s k d f 7 (b :: R)) : NoP s := fun p hm _ e => by
  have hR := (h.all p hm e).2.2.2
  rw [tlL_end] at hR
  cases hR

end Go.Proofs.YtamfcmmhmfhhkaaGreatDoor

namespace Go.Proofs.YtamfcmmhmfhhkaaGreatDoor
open Go.RowKit

set_option maxRecDepth 100000 in
set_option maxHeartbeats 4000000 in
theorem paneOf_any (k : ByteArray) (d : Int) (f : Nat → Int) (w : World) : Calls Tryz.prog 55 #[.string k, .int .i64 d, .agg (f7c f)] w fun e w' => e = .returned (pnv (pnF k d f)) ∧ Calm w w' := by
  have N0 := hide (al_new w (.cells (f7c f) 91))
  have S0 := al_size w (.cells (f7c f) 91)
  have N1 := hide (al_old N0.out (.cells (pnc pn0) 40))
  have P1 := al_new (w.alloc (.cells (f7c f) 91)) (.cells (pnc pn0) 40)
  rw [S0] at P1
  have P2 := hide P1
  have T1 := hide (((Touch.refl (fun _ => False) w).alloc (.cells (f7c f) 91)).alloc (.cells (pnc pn0) 40))
  clear P1 N0
  obtain ⟨c0, c1, c2, c3, c4, c5, c6⟩ := (⟨f7_cells N1.out 0 (by omega), f7_cells N1.out 1 (by omega), f7_cells N1.out 2 (by omega), f7_cells N1.out 3 (by omega), f7_cells N1.out 4 (by omega), f7_cells N1.out 5 (by omega), f7_cells N1.out 6 (by omega)⟩ : _ ∧ _ ∧ _ ∧ _ ∧ _ ∧ _ ∧ _)
  have hi9 : (Tryz.prog.info? 40).map (·.size) = some 9 := by kernel_rfl
  show Calls Tryz.prog 55 #[.string k, .int .i64 d, .agg (f7c f)] w fun e w' => e = .returned (pnv ⟨k, f 0, f 1, d, f 2, ⟨f 3, f 4, f 5, f 6⟩⟩) ∧ Calm w w'
  generalize f 0 = x0 at *
  generalize f 1 = x1 at *
  generalize f 2 = x2 at *
  generalize f 3 = x3 at *
  generalize f 4 = x4 at *
  generalize f 5 = x5 at *
  generalize f 6 = x6 at *
  have hq1 : Hid ((pnc (⟨k, x0, x1, d, x2, ⟨x3, x4, x5, x6⟩⟩ : Pn)).all (·.oneCell') = true) := hide (by simp [Value.oneCell'])
  have Q1 := hide (setRow_heap _ _ _ (pnc (⟨k, x0, x1, d, x2, ⟨x3, x4, x5, x6⟩⟩ : Pn)) _ _ P2.out)
  have Q2 := hide (T1.out.trans (S' := fun g => g = w.heap.size + 1) (c := (((w.alloc (.cells (f7c f) 91)).alloc (.cells (pnc pn0) 40)).setRow (w.heap.size + 1) (pnc (⟨k, x0, x1, d, x2, ⟨x3, x4, x5, x6⟩⟩ : Pn)))) ⟨rfl, rfl, rfl, by simp, fun j _ hj => setRow_other _ _ j _ hj⟩ (fun g hg e => by omega))
  go_enter Tryz.func55, Tryz.ntmps55
  go_wp2_with (refine wpList_store_rowTo rfl 40 (.tmp 6) (.tmp 25) rfl rfl (w.heap.size + 1) (pnc (⟨k, x0, x1, d, x2, ⟨x3, x4, x5, x6⟩⟩ : Pn)) rfl rfl 40 _ P2.out hi9 rfl hq1.out ?_)
  refine bodyPost_ret (results_cell_row rfl _ _ _ _ _ _ _ rfl Q1.out Tryz.underlying40 rfl (by kernel_rfl)) rfl ?_
  exact ⟨rfl, Q2.out⟩

end Go.Proofs.YtamfcmmhmfhhkaaGreatDoor

namespace Go.Proofs.YtamfcmmhmfhhkaaGreatDoor
open Go.RowKit

/-- By a goto to label l: J l; else as Q. -/
def jumps (J : Nat → Act → World → Prop) (Q : Exit → Act → World → Prop) : Exit → Act → World → Prop
  | .goto l, a, w => J l a w
  | e, a, w => Q e a w

theorem wp_scope_many {P : Program} {a : Act} {w : World} {Q : Exit → Act → World → Prop} {c : Code} (J : Nat → Act → World → Prop) (m : Nat → Act → World → Nat)
    (first : Hid (∀ l a w X, J l a w → findLabel c l = some (Code.skip.seq X) → X.wp P (jumps J Q) a w) → c.wp P (jumps J Q) a w)
    (pass0 : ∀ l a w, J l a w → ∃ X, findLabel c l = some (Code.skip.seq X) ∧ X.wp P (jumps (fun l' a' w' => J l' a' w' ∧ m l' a' w' < m l a w) Q) a w) : (Code.scope c).wp P Q a w := by
  have pass : ∀ l a w, J l a w → ∃ rest, findLabel c l = some rest ∧ rest.wp P (jumps (fun l' a' w' => J l' a' w' ∧ m l' a' w' < m l a w) Q) a w := by
    intro l a w hJ
    obtain ⟨X, hX, hp⟩ := pass0 l a w hJ
    exact ⟨_, hX, wp_seq (wp_skip hp)⟩
  have weak : ∀ l a w X, J l a w → findLabel c l = some (Code.skip.seq X) → X.wp P (jumps J Q) a w := by
    intro l a w X hJ hr b k cs
    obtain ⟨X', hr', hp⟩ := pass0 l a w hJ
    obtain rfl : X' = X := by rw [hr] at hr'; injection hr' with h; injection h with _ h; exact h.symm
    obtain ⟨e, a1, w1, hq, harr⟩ := hp b k cs
    refine ⟨e, a1, w1, ?_, harr⟩
    cases e with
    | goto l' => exact hq.1
    | normal => exact hq
    | exit id => exact hq
    | ret => exact hq
    | panic ch => exact hq
    | outgrown => exact hq
  intro b k cs
  have key : ∀ n l a w, m l a w = n → J l a w → ∀ rest, findLabel c l = some rest → ∃ e a' w', Q e a' w' ∧ Arrives P (lone (b.at a (.code rest :: .inScope c :: k)) cs w) b k cs e a' w' := by
    intro n
    induction n using Nat.strongRecOn with
    | _ n ih =>
      intro l a w hn hJ rest hr
      obtain ⟨rest', hr', hp⟩ := pass l a w hJ
      obtain rfl : rest' = rest := by rw [hr] at hr'; injection hr' with h; exact h.symm
      obtain ⟨e, a1, w1, hq, harr⟩ := hp b (.inScope c :: k) cs
      cases e with
      | normal => exact ⟨.normal, a1, w1, hq, Steps.trans harr (.one step_inScope)⟩
      | exit id => exact ⟨.exit id, a1, w1, hq, fun k' hk => harr k' (by simp [exitTo, hk])⟩
      | goto l' =>
        obtain ⟨hJ', hlt⟩ := hq
        obtain ⟨rest2, hf2, _⟩ := pass l' a1 w1 hJ'
        obtain ⟨e2, a2, w2, hq2, harr2⟩ := ih _ (by omega) l' a1 w1 rfl hJ' rest2 hf2
        exact ⟨e2, a2, w2, hq2, .of_steps (harr _ (by simp [gotoIn, hf2])) harr2⟩
      | ret => exact ⟨_, a1, w1, hq, harr⟩
      | panic ch => exact ⟨_, a1, w1, hq, harr⟩
      | outgrown => exact ⟨_, a1, w1, hq, harr⟩
  obtain ⟨e, a1, w1, hq, harr⟩ := first weak b (.inScope c :: k) cs
  cases e with
  | normal => exact ⟨.normal, a1, w1, hq, .head step_scope (Steps.trans harr (.one step_inScope))⟩
  | exit id => exact ⟨.exit id, a1, w1, hq, fun k' hk => .head step_scope (harr k' (by simp [exitTo, hk]))⟩
  | goto l' =>
    obtain ⟨rest2, hf2, _⟩ := pass l' a1 w1 hq
    obtain ⟨e2, a2, w2, hq2, harr2⟩ := key _ l' a1 w1 rfl hq rest2 hf2
    exact ⟨e2, a2, w2, hq2, .of_steps (.head step_scope (harr _ (by simp [gotoIn, hf2]))) harr2⟩
  | ret => exact ⟨_, a1, w1, hq, .of_steps (.one step_scope) harr⟩
  | panic ch => exact ⟨_, a1, w1, hq, .of_steps (.one step_scope) harr⟩
  | outgrown => exact ⟨_, a1, w1, hq, .of_steps (.one step_scope) harr⟩

end Go.Proofs.YtamfcmmhmfhhkaaGreatDoor
