/- digit: what a byte says to the base 16 (the document's). parts: what stands between blanks (the document's). Number: a number of decimal digits (the mathematics). Key: a quoted key read (the mathematics). -/
import Derived.Test.YtamfcmmhmfhhkaaGreatDoorG7
import Derived.Test.YtamfcmmhmfhhkaaGreatDoorG3
import Derived.Test.YtamfcmmhmfhhkaaGreatDoorG8
namespace Go.Proofs.YtamfcmmhmfhhkaaGreatDoor
open Go.RowKit

/-- What a byte says to the base 16; -1: nothing. -/
def digX (c : Int) : Int := if 48 ≤ c ∧ c ≤ 57 then c - 48 else if 97 ≤ c ∧ c ≤ 102 then c - 87 else -1
theorem digX_hex {n : Int} (h0 : 0 ≤ n) (h1 : n < 16) : digX (hexB n) = n := by
  unfold digX hexB
  split <;> (repeat' split) <;> omega
theorem digX_no {c : Int} (h : ∀ n, 0 ≤ n → n < 16 → hexB n ≠ c) : digX c = -1 := by
  unfold digX
  by_cases h1 : 48 ≤ c ∧ c ≤ 57
  · exact absurd (by unfold hexB; rw [if_pos (by omega)]; omega) (h (c - 48) (by omega) (by omega))
  · rw [if_neg h1]
    by_cases h2 : 97 ≤ c ∧ c ≤ 102
    · exact absurd (by unfold hexB; rw [if_neg (by omega)]; omega) (h (c - 87) (by omega) (by omega))
    · rw [if_neg h2]
theorem digX_lo (c : Int) : -1 ≤ digX c ∧ digX c ≤ 15 := by
  unfold digX
  split
  · omega
  · split <;> omega

end Go.Proofs.YtamfcmmhmfhhkaaGreatDoor

namespace Go.Proofs.YtamfcmmhmfhhkaaGreatDoor
open Go.RowKit

theorem encZ_flat (L : List ByteArray) : encZ.flat L = L.map Value.string := by
  induction L with
  | nil => rfl
  | cons x L ih => show [Value.string x] ++ encZ.flat L = _; rw [ih]; rfl

/-- The last text of a row of one's own turned. -/
theorem st_last {w : World} {base n : Nat} {ao : Option Addr} {cap : Nat} {A : List ByteArray} {c : ByteArray} (h : encZ.Own 9 w base (.slice ao n cap) (A ++ [c])) :
    ∃ g, ao = some ⟨g, 0, none⟩ ∧ base ≤ g ∧ w.cell? ⟨g, A.length, none⟩ = some (.string c) ∧ w.frozen? ⟨g, A.length, none⟩ = false ∧ ∀ b, encZ.Own 9 (w.setCell ⟨g, A.length, none⟩ (.string b)) base (.slice (some ⟨g, 0, none⟩) n cap) (A ++ [b]) := by
  have hn := (Rc.Own.mem h).1
  have hone : encZ.n = 1 := rfl
  obtain ⟨h1, ⟨hv, h2⟩ | ⟨g, cap', cur, hv, h3, h4, h5, h6, h7, h8⟩⟩ := h
  · simp at h2
  · injection hv with e1 e2 e3
    subst e1 e3
    rw [hone, Nat.mul_one] at h7 h8
    have ht : cur.toList.take (A ++ [c]).length = (A ++ [c]).map Value.string := by rw [← encZ_flat]; exact h8
    have hl : A.length < cur.size := by
      rw [List.length_append] at h5
      simp only [List.length_cons, List.length_nil] at h5
      omega
    have hget : cur[A.length]? = some (.string c) := by
      have := congrArg (fun l => l[A.length]?) ht
      simp only [List.map_append, List.map_cons, List.map_nil] at this
      rw [List.getElem?_take_of_lt (by simp), List.getElem?_append_right (by simp)] at this
      simpa using this
    refine ⟨g, rfl, h3, ?_, by simp [World.frozen?, h4], fun b => ?_⟩
    · simp only [World.cell?, h4]
      simpa using hget
    · have k0 := heap_setCell_row (i := A.length) h4 (.string b)
      have el : (A ++ [b]).length = (A ++ [c]).length := by simp
      refine ⟨by rw [encZ.flat_len], .inr ⟨g, cap, _, by rw [el, ← hn], h3, k0, by rw [el]; exact h5, h6, by rw [hone, Nat.mul_one]; simpa using h7, ?_⟩⟩
      rw [el, hone, Nat.mul_one, encZ_flat, Array.toList_setIfInBounds, List.take_set, ht, List.map_append, List.map_append]
      show (List.map Value.string A ++ [Value.string c]).set A.length (.string b) = _
      rw [List.set_append_right _ _ (by simp)]
      simp

/-- What stands between blanks, behind the bytes of the piece under way. -/
def ptL : List UInt8 → List UInt8 → List (List UInt8)
  | cur, [] => [cur]
  | cur, b :: r => if b.toNat = 32 then cur :: ptL [] r else ptL (cur ++ [b]) r
theorem ptL_cons (cur : List UInt8) (b : UInt8) (r : List UInt8) : ptL cur (b :: r) = if b.toNat = 32 then cur :: ptL [] r else ptL (cur ++ [b]) r := rfl
/-- What stands between a text's blanks. -/
def ptB (s : ByteArray) : List (List UInt8) := ptL [] s.toList
theorem nilB : (⟨#[]⟩ : ByteArray).toList = [] := by rw [ByteArray.toList_eq]
theorem tl_at (s : ByteArray) (i : Nat) (h : i < s.size) : s.toList.drop i = s[i] :: s.toList.drop (i + 1) := by
  rw [ByteArray.toList_eq]
  have h' : i < s.data.toList.length := by rw [Array.length_toList]; exact h
  rw [List.drop_eq_getElem_cons h']
  rfl
theorem ex_toList (s : ByteArray) (a b : Nat) : (s.extract a b).toList = (s.toList.drop a).take (b - a) := by
  rw [ByteArray.toList_eq, ByteArray.toList_eq, ByteArray.data_extract, Array.toList_extract]
theorem ap_toList (a b : ByteArray) : (a ++ b).toList = a.toList ++ b.toList := by
  rw [ByteArray.toList_eq, ByteArray.toList_eq, ByteArray.toList_eq, ByteArray.data_append, Array.toList_append]
/-- A piece, one byte more. -/
theorem pc_next {s : ByteArray} {i : Nat} (h : i < s.size) (c : ByteArray) : (c ++ s.extract i (i + 1)).toList = c.toList ++ [s[i]'h] := by
  rw [ap_toList, ex_toList, tl_at s i h]
  simp

/-- What a function answers that makes texts. -/
def RetZ (w : World) (e : Ending) (w' : World) (C : List (List UInt8)) : Prop := ∃ ao cap L, e = .returned (.slice ao L.length cap) ∧ encZ.Own 9 w' w.heap.size (.slice ao L.length cap) L ∧ L.map (·.toList) = C ∧ Calm w w'

end Go.Proofs.YtamfcmmhmfhhkaaGreatDoor

namespace Go.Proofs.YtamfcmmhmfhhkaaGreatDoor
open Go.RowKit

/-- The number that digits tell. -/
def valD (l : List UInt8) : Nat := l.foldl (fun n b => n * 10 + (b.toNat - 48)) 0
theorem valD_snoc (l : List UInt8) (b : UInt8) : valD (l ++ [b]) = valD l * 10 + (b.toNat - 48) := by simp [valD]
theorem fold_ge : ∀ (B : List UInt8) (n : Nat), n * 10 ^ B.length ≤ B.foldl (fun n b => n * 10 + (b.toNat - 48)) n
  | [], n => by simp
  | b :: B, n => by
    have h := fold_ge B (n * 10 + (b.toNat - 48))
    have h2 : n * 10 * 10 ^ B.length ≤ (n * 10 + (b.toNat - 48)) * 10 ^ B.length := Nat.mul_le_mul_right _ (by omega)
    rw [List.length_cons, List.foldl_cons, Nat.pow_succ, Nat.mul_comm (10 ^ B.length) 10, ← Nat.mul_assoc]
    omega
theorem valD_pre (A B : List UInt8) (hB : B ≠ []) : valD A * 10 ≤ valD (A ++ B) := by
  have h := fold_ge B (valD A)
  have e : valD (A ++ B) = B.foldl (fun n b => n * 10 + (b.toNat - 48)) (valD A) := by unfold valD; rw [List.foldl_append]
  rw [e]
  have hl := List.length_pos_iff.2 hB
  have h1 : 10 ^ 1 ≤ 10 ^ B.length := Nat.pow_le_pow_right (by omega) hl
  have h2 := Nat.mul_le_mul_left (valD A) h1
  omega
theorem ofNat_dig {u : Nat} (h : u < 10) : (UInt8.ofNat (48 + u)).toNat = 48 + u := by
  rw [UInt8.toNat_ofNat']
  omega
theorem valD_dec (u : Nat) : valD (Lib.decDigits u) = u := by
  induction u using Nat.strongRecOn with
  | _ u ih =>
    by_cases h : u < 10
    · rw [Lib.decDigits, dif_pos h]
      show 0 * 10 + ((UInt8.ofNat (48 + u)).toNat - 48) = u
      rw [ofNat_dig h]
      omega
    · rw [Lib.decDigits, dif_neg h, valD_snoc, ih (u / 10) (by omega), ofNat_dig (by omega)]
      omega
theorem dec_byte (u : Nat) : ∀ b ∈ Lib.decDigits u, 48 ≤ b.toNat ∧ b.toNat ≤ 57 := by
  induction u using Nat.strongRecOn with
  | _ u ih =>
    intro b hb
    by_cases h : u < 10
    · rw [Lib.decDigits, dif_pos h] at hb
      rw [List.mem_singleton] at hb
      subst hb
      rw [ofNat_dig h]
      omega
    · rw [Lib.decDigits, dif_neg h] at hb
      rcases List.mem_append.1 hb with hb | hb
      · exact ih (u / 10) (by omega) b hb
      · rw [List.mem_singleton] at hb
        subst hb
        rw [ofNat_dig (by omega)]
        omega
theorem dec_ne (u : Nat) : Lib.decDigits u ≠ [] := by
  rw [Lib.decDigits]
  split
  · simp
  · simp

/-- Does a text begin with a '-'? -/
def negS (s : ByteArray) : Prop := s.toList.head? = some 45
instance (s : ByteArray) : Decidable (negS s) := by unfold negS; exact inferInstance
/-- Where its digits begin. -/
def numF (s : ByteArray) : Nat := if negS s then 1 else 0
/-- The number that a text tells, if it tells one. -/
def numV (s : ByteArray) : Int := if negS s then -(valD (s.toList.drop 1) : Int) else (valD s.toList : Int)
def I64n (x : Int) : Prop := -9223372036854775808 ≤ x ∧ x ≤ 9223372036854775807
instance (x : Int) : Decidable (I64n x) := by unfold I64n; exact inferInstance
def numP (s : ByteArray) : Option Int := if I64n (numV s) ∧ intB (numV s) = s then some (numV s) else none
theorem intB_list (x : Int) : (intB x).toList = (if x < 0 then [45] else []) ++ Lib.decDigits x.natAbs := by
  unfold intB
  rw [ByteArray.toList_eq, Lib.itoa]
  split
  · rfl
  · rw [List.nil_append]
    have e : x.toNat = x.natAbs := by omega
    rw [e]
theorem intB_neg' (x : Int) : negS (intB x) ↔ x < 0 := by
  unfold negS
  rw [intB_list]
  by_cases h : x < 0
  · rw [if_pos h]; simp [h]
  · rw [if_neg h, List.nil_append]
    constructor
    · intro h2
      obtain ⟨b, B, e⟩ := List.exists_cons_of_ne_nil (dec_ne x.natAbs)
      rw [e] at h2
      have := dec_byte x.natAbs b (by rw [e]; simp)
      simp at h2
      subst h2
      exact absurd this.1 (by decide)
    · intro h2; exact absurd h2 h
theorem numV_int (x : Int) : numV (intB x) = x := by
  unfold numV
  by_cases h : x < 0
  · rw [if_pos ((intB_neg' x).2 h), intB_list, if_pos h]
    show -((valD (Lib.decDigits x.natAbs) : Nat) : Int) = x
    rw [valD_dec]
    omega
  · rw [if_neg (fun h2 => h ((intB_neg' x).1 h2)), intB_list, if_neg h, List.nil_append, valD_dec]
    omega
theorem numP_some {s : ByteArray} {x : Int} : numP s = some x ↔ I64n x ∧ intB x = s := by
  unfold numP
  constructor
  · intro h
    split at h
    · injection h with h; subst h; assumption
    · cases h
  · rintro ⟨h1, rfl⟩
    rw [numV_int, if_pos ⟨h1, rfl⟩]
theorem numP_none {s : ByteArray} (h : ∀ x, I64n x → intB x ≠ s) : numP s = none := by
  cases e : numP s with
  | none => rfl
  | some x => exact absurd (numP_some.1 e).2 (h x (numP_some.1 e).1)

/-- The digits from f on, up to i. -/
def dgV (s : ByteArray) (f i : Nat) : Nat := valD ((s.toList.drop f).take (i - f))
theorem dgV_zero (s : ByteArray) (f : Nat) : dgV s f f = 0 := by unfold dgV; rw [Nat.sub_self]; rfl
theorem tk_next {s : ByteArray} {a i : Nat} (ha : a ≤ i) (h : i < s.size) : (s.toList.drop a).take (i + 1 - a) = (s.toList.drop a).take (i - a) ++ [s[i]] := by
  have e : (s.toList.drop a).drop (i - a) = s[i] :: s.toList.drop (i + 1) := by
    rw [List.drop_drop, show a + (i - a) = i by omega, tl_at s i h]
  have e2 : (s.toList.drop a)[i - a]? = some s[i] := by
    have := congrArg List.head? e
    rw [List.head?_drop] at this
    rw [this]; rfl
  rw [show i + 1 - a = (i - a) + 1 by omega, List.take_add_one, e2]
  rfl
theorem dgV_next {s : ByteArray} {f i : Nat} (hf : f ≤ i) (h : i < s.size) : dgV s f (i + 1) = dgV s f i * 10 + ((s[i]'h).toNat - 48) := by
  unfold dgV
  rw [tk_next hf h, valD_snoc]
theorem tl_len (s : ByteArray) : s.toList.length = s.size := by rw [ByteArray.toList_eq]; exact Array.length_toList

/-- What holds of a number's own text. -/
theorem num_facts {s : ByteArray} {x : Int} (hx : I64n x) (h : intB x = s) : numF s < s.size ∧ s.size ≤ 20 ∧ (∀ k, numF s ≤ k → ∀ hk : k < s.size, 48 ≤ (s[k]'hk).toNat ∧ (s[k]'hk).toNat ≤ 57 ∧ dgV s (numF s) k ≤ 922337203685477580) ∧ dgV s (numF s) s.size = x.natAbs ∧ (numF s = 1 ↔ x < 0) := by
  have hu : x.natAbs ≤ 9223372036854775808 := by unfold I64n at hx; omega
  obtain ⟨u, e⟩ : ∃ u, u = x.natAbs := ⟨_, rfl⟩
  have hl := tl_len s
  have hL : s.toList = (if x < 0 then [45] else []) ++ Lib.decDigits u := by rw [← h, intB_list, e]
  have hF : numF s = (if x < 0 then 1 else 0) := by
    unfold numF
    rw [← h]
    by_cases hn : x < 0
    · rw [if_pos hn, if_pos ((intB_neg' x).2 hn)]
    · rw [if_neg hn, if_neg (fun h2 => hn ((intB_neg' x).1 h2))]
  have hD : s.toList.drop (numF s) = Lib.decDigits u := by
    rw [hF, hL]
    by_cases hn : x < 0
    · rw [if_pos hn, if_pos hn]; rfl
    · rw [if_neg hn, if_neg hn]; rfl
  have hdl := dec_len 18 u (by omega)
  have hd0 := List.length_pos_iff.2 (dec_ne u)
  have hsz : s.size = numF s + (Lib.decDigits u).length := by
    rw [← hl, hF, hL, List.length_append]
    by_cases hn : x < 0
    · rw [if_pos hn, if_pos hn]; rfl
    · rw [if_neg hn, if_neg hn]; rfl
  have hF1 : numF s ≤ 1 := by rw [hF]; split <;> omega
  refine ⟨by omega, by omega, fun k hk hk2 => ?_, ?_, ?_⟩
  · have hm : s[k]'hk2 ∈ Lib.decDigits u := by
      rw [← hD]
      have e1 := tl_at s k hk2
      have e2 : s.toList.drop k = (s.toList.drop (numF s)).drop (k - numF s) := by rw [List.drop_drop, show numF s + (k - numF s) = k by omega]
      exact List.mem_of_mem_drop (i := k - numF s) (by rw [← e2, e1]; simp)
    obtain ⟨b1, b2⟩ := dec_byte u _ hm
    refine ⟨b1, b2, ?_⟩
    unfold dgV
    rw [hD]
    have hp := valD_pre ((Lib.decDigits u).take (k - numF s)) ((Lib.decDigits u).drop (k - numF s)) (by
      intro h2
      have := congrArg List.length h2
      rw [List.length_drop] at this
      simp at this
      omega)
    rw [List.take_append_drop, valD_dec] at hp
    omega
  · unfold dgV
    rw [hD, List.take_of_length_le (by omega), valD_dec, e]
  · rw [hF]
    by_cases hn : x < 0
    · simp [hn]
    · simp [hn]

end Go.Proofs.YtamfcmmhmfhhkaaGreatDoor

namespace Go.Proofs.YtamfcmmhmfhhkaaGreatDoor
open Go.RowKit

def tbN (n : Int) : UInt8 := UInt8.ofNat n.toNat
theorem tbN_nat {n : Int} (h0 : 0 ≤ n) (h1 : n < 256) : ((tbN n).toNat : Int) = n := by
  unfold tbN
  rw [UInt8.toNat_ofNat']
  omega
/-- A key quoted, as bytes. -/
def qk (k : ByteArray) : List UInt8 := (quoA k).map tbN
theorem qk_list (k : ByteArray) : (strOfNums (quoA k)).toList = qk k := by rw [ByteArray.toList_eq]; rfl
theorem qk_len (k : ByteArray) : (qk k).length = (quoA k).length := by unfold qk; rw [List.length_map]
theorem hexB_in {n : Int} (h0 : 0 ≤ n) (h1 : n < 16) : 0 ≤ hexB n ∧ hexB n < 256 := by
  unfold hexB
  split <;> omega

/-- Where a reader stands in a text that begins with a quoted key. -/
def KI (s : ByteArray) (i : Nat) (A : List Int) : Prop := ∀ k r, s.toList = qk k ++ r → ∃ j, j ≤ k.size ∧ i = (quoL k j).length ∧ A = (bsL k).take j
theorem bsL_next {k : ByteArray} {j : Nat} (h : j < k.size) : (bsL k).take (j + 1) = (bsL k).take j ++ [((k[j]'h).toNat : Int)] := by
  have h' : j < k.data.toList.length := by rw [Array.length_toList]; exact h
  unfold bsL
  rw [List.take_add_one, List.getElem?_map, List.getElem?_eq_getElem h']
  rfl
theorem quo_drop {s k : ByteArray} {r : List UInt8} {j : Nat} (h : s.toList = qk k ++ r) : s.toList.drop (quoL k j).length = (((k.toList.drop j).flatMap fun u => escL (u.toNat : Int)).map tbN) ++ 34 :: r := by
  have e : quoA k = quoL k j ++ (((k.toList.drop j).flatMap fun u => escL (u.toNat : Int)) ++ [34]) := by
    have hl := tl_len k
    unfold quoA quoL
    rw [List.take_of_length_le (by omega), ← List.append_assoc, List.cons_append, List.cons_append, ← List.flatMap_append, List.take_append_drop]
    rfl
  have e2 : s.toList = (quoL k j).map tbN ++ (((((k.toList.drop j).flatMap fun u => escL (u.toNat : Int)).map tbN) ++ [34]) ++ r) := by
    rw [h]
    unfold qk
    rw [e, List.map_append, List.map_append, List.append_assoc]
    rfl
  have e3 : (quoL k j).length = ((quoL k j).map tbN).length := by rw [List.length_map]
  rw [e2, e3, List.drop_left, List.append_assoc]
  rfl
/-- What stands there: the last quotation mark, or a byte's form. -/
theorem KI.cases {s k : ByteArray} {r : List UInt8} {i j : Nat} (h : s.toList = qk k ++ r) (hj : j ≤ k.size) (hi : i = (quoL k j).length) :
    (j = k.size ∧ s.toList.drop i = 34 :: r ∧ i + 1 = (quoA k).length) ∨
    (∃ c : Nat, c < 256 ∧ j < k.size ∧ (bsL k).take (j + 1) = (bsL k).take j ++ [(c : Int)] ∧ (quoL k (j + 1)).length = i + (escL (c : Int)).length ∧ ∃ rest, s.toList.drop i = (escL (c : Int)).map tbN ++ rest) := by
  have hd := quo_drop (j := j) h
  rw [← hi] at hd
  by_cases e : j = k.size
  · left
    subst e
    have hl := tl_len k
    have e0 : k.toList.drop k.size = [] := List.drop_of_length_le (Nat.le_of_eq hl)
    rw [e0] at hd
    refine ⟨rfl, hd, ?_⟩
    unfold quoA
    rw [List.length_append, ← hi]
    rfl
  · right
    have hlt : j < k.size := by omega
    rw [tl_at k j hlt, List.flatMap_cons, List.map_append, List.append_assoc] at hd
    refine ⟨(k[j]'hlt).toNat, (k[j]'hlt).toNat_lt, hlt, bsL_next hlt, ?_, _, hd⟩
    rw [quoL_succ hlt, List.length_append, hi]
theorem head_at {s : ByteArray} {i : Nat} {x : UInt8} {l : List UInt8} (h : s.toList.drop i = x :: l) : ∃ hi : i < s.size, s[i]'hi = x ∧ s.toList.drop (i + 1) = l := by
  have hl := tl_len s
  have hi : i < s.size := by
    have := congrArg List.length h
    rw [List.length_drop, List.length_cons] at this
    omega
  refine ⟨hi, ?_, ?_⟩
  · rw [tl_at s i hi] at h
    injection h
  · rw [tl_at s i hi] at h
    injection h
theorem esc_plain {c : Nat} (h : 32 ≤ c ∧ c ≤ 126 ∧ c ≠ 34 ∧ c ≠ 92) : escL (c : Int) = [(c : Int)] := by unfold escL; rw [if_pos ⟨by omega, by omega, by omega, by omega⟩]
theorem esc_four {c : Nat} (h : ¬ (32 ≤ c ∧ c ≤ 126 ∧ c ≠ 34 ∧ c ≠ 92)) : escL (c : Int) = [92, 120, hexB ((c : Int) / 16), hexB ((c : Int) % 16)] := by unfold escL; rw [if_neg (fun h2 => h ⟨by omega, by omega, by omega, by omega⟩)]

theorem KI.start (s : ByteArray) : KI s 1 [] := fun k r _ => ⟨0, by omega, by simp [quoL], by simp⟩
theorem KI.first {s : ByteArray} {k : ByteArray} {r : List UInt8} (h : s.toList = qk k ++ r) : ∃ hi : 0 < s.size, (s[0]'hi).toNat = 34 := by
  have e : s.toList.drop 0 = 34 :: (((quoL k k.size).tail ++ [34]).map tbN ++ r) := by
    rw [List.drop_zero, h]
    rfl
  obtain ⟨hi, h2, -⟩ := head_at e
  exact ⟨hi, by rw [h2]; rfl⟩
/-- At the text's end there is no such key. -/
theorem KI.past {s : ByteArray} {i : Nat} {A : List Int} (h : KI s i A) (hi : s.size ≤ i) : ∀ k r, s.toList ≠ qk k ++ r := fun k r he => by
  obtain ⟨j, hj, h1, h2⟩ := h k r he
  rcases KI.cases he hj h1 with ⟨-, q, -⟩ | ⟨c, -, -, -, -, rest, q⟩
  · obtain ⟨h3, -⟩ := head_at q
    omega
  · by_cases hp : 32 ≤ c ∧ c ≤ 126 ∧ c ≠ 34 ∧ c ≠ 92
    · rw [esc_plain hp] at q
      obtain ⟨h3, -⟩ := head_at q
      omega
    · rw [esc_four hp] at q
      obtain ⟨h3, -⟩ := head_at q
      omega
theorem KI.last {s : ByteArray} {i : Nat} {A : List Int} (h : KI s i A) (hi : i < s.size) (hb : (s[i]'hi).toNat = 34) : ∀ k r, s.toList = qk k ++ r → A = bsL k ∧ i + 1 = (quoA k).length := fun k r he => by
  obtain ⟨j, hj, h1, h2⟩ := h k r he
  rcases KI.cases he hj h1 with ⟨e, q, q2⟩ | ⟨c, hc, -, -, -, rest, q⟩
  · refine ⟨?_, q2⟩
    rw [h2, e, List.take_of_length_le (by rw [bsL_len]; omega)]
  · exfalso
    by_cases hp : 32 ≤ c ∧ c ≤ 126 ∧ c ≠ 34 ∧ c ≠ 92
    · rw [esc_plain hp] at q
      obtain ⟨h3, h4, -⟩ := head_at q
      rw [h4] at hb
      have := tbN_nat (n := (c : Int)) (by omega) (by omega)
      omega
    · rw [esc_four hp] at q
      obtain ⟨h3, h4, -⟩ := head_at q
      rw [h4] at hb
      exact absurd hb (by decide)
theorem KI.plain {s : ByteArray} {i : Nat} {A : List Int} (h : KI s i A) (hi : i < s.size) {b : Nat} (hb : (s[i]'hi).toNat = b) (h34 : b ≠ 34) (h92 : b ≠ 92) : KI s (i + 1) (A ++ [(b : Int)]) := fun k r he => by
  obtain ⟨j, hj, h1, h2⟩ := h k r he
  rcases KI.cases he hj h1 with ⟨e, q, q2⟩ | ⟨c, hc, hlt, ht, hq, rest, q⟩
  · exfalso
    obtain ⟨h3, h4, -⟩ := head_at q
    rw [h4] at hb
    exact h34 hb.symm
  · by_cases hp : 32 ≤ c ∧ c ≤ 126 ∧ c ≠ 34 ∧ c ≠ 92
    · rw [esc_plain hp] at q hq
      obtain ⟨h3, h4, -⟩ := head_at q
      rw [h4] at hb
      have := tbN_nat (n := (c : Int)) (by omega) (by omega)
      have e : b = c := by omega
      exact ⟨j + 1, hlt, hq.symm, by rw [ht, h2, e]⟩
    · exfalso
      rw [esc_four hp] at q
      obtain ⟨h3, h4, -⟩ := head_at q
      rw [h4] at hb
      exact h92 hb.symm
theorem KI.esc {s : ByteArray} {i : Nat} {A : List Int} (h : KI s i A) (hi : i < s.size) (hb : (s[i]'hi).toNat = 92) (k : ByteArray) (r : List UInt8) (he : s.toList = qk k ++ r) :
    ∃ h4 : i + 4 ≤ s.size, 0 ≤ digX (((s[i + 2]'(by omega)).toNat : Nat) : Int) ∧ 0 ≤ digX (((s[i + 3]'(by omega)).toNat : Nat) : Int) ∧ ∃ j, j ≤ k.size ∧ i + 4 = (quoL k j).length ∧ A ++ [16 * digX (((s[i + 2]'(by omega)).toNat : Nat) : Int) + digX (((s[i + 3]'(by omega)).toNat : Nat) : Int)] = (bsL k).take j := by
  obtain ⟨j, hj, h1, h2⟩ := h k r he
  rcases KI.cases he hj h1 with ⟨e, q, q2⟩ | ⟨c, hc, hlt, ht, hq, rest, q⟩
  · exfalso
    obtain ⟨h3, h4, -⟩ := head_at q
    rw [h4] at hb
    exact absurd hb (by decide)
  · by_cases hp : 32 ≤ c ∧ c ≤ 126 ∧ c ≠ 34 ∧ c ≠ 92
    · exfalso
      rw [esc_plain hp] at q
      obtain ⟨h3, h4, -⟩ := head_at q
      rw [h4] at hb
      have := tbN_nat (n := (c : Int)) (by omega) (by omega)
      omega
    · rw [esc_four hp] at q hq
      obtain ⟨-, -, q1⟩ := head_at q
      obtain ⟨-, -, q2⟩ := head_at q1
      obtain ⟨g2, e2, q3⟩ := head_at q2
      obtain ⟨g3, e3, -⟩ := head_at q3
      have x1 := hexB_in (n := (c : Int) / 16) (by omega) (by omega)
      have x2 := hexB_in (n := (c : Int) % 16) (by omega) (by omega)
      have y1 := tbN_nat x1.1 x1.2
      have y2 := tbN_nat x2.1 x2.2
      have d1 : digX (((s[i + 2]'g2).toNat : Nat) : Int) = (c : Int) / 16 := by rw [e2, y1]; exact digX_hex (by omega) (by omega)
      have d2 : digX (((s[i + 3]'g3).toNat : Nat) : Int) = (c : Int) % 16 := by rw [e3, y2]; exact digX_hex (by omega) (by omega)
      refine ⟨by omega, by rw [d1]; omega, by rw [d2]; omega, j + 1, hlt, hq.symm, ?_⟩
      rw [d1, d2, ht, h2]
      congr 2
      omega

theorem strOf_bs (k : ByteArray) : strOfNums (bsL k) = k := by
  apply ByteArray.ext
  apply Array.toList_inj.1
  rw [strOfNums_data]
  unfold bsL
  rw [List.map_map]
  have : ((fun n : Int => UInt8.ofNat n.toNat) ∘ fun u : UInt8 => (u.toNat : Int)) = id := by
    funext u
    show UInt8.ofNat ((u.toNat : Int)).toNat = u
    rw [Int.toNat_natCast, UInt8.ofNat_toNat]
  rw [this, List.map_id]

end Go.Proofs.YtamfcmmhmfhhkaaGreatDoor
