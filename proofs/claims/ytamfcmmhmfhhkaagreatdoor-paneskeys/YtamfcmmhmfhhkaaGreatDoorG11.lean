/- Text: panes' lines (the document's). digit: what a byte says to the base 16 (the document's). parts: what stands between blanks (the document's). Number: a number of decimal digits (the mathematics). -/
import Derived.Test.YtamfcmmhmfhhkaaGreatDoorG10
import Derived.Lib.AppendStr
import Derived.Test.YtamfcmmhmfhhkaaGreatDoorG9
import Derived.Test.YtamfcmmhmfhhkaaGreatDoorG3
namespace Go.Proofs.YtamfcmmhmfhhkaaGreatDoor
open Go.RowKit

/-- A text's bytes as numbers. -/
def bsL (s : ByteArray) : List Int := s.data.toList.map fun u => (u.toNat : Int)
theorem bsL_len (s : ByteArray) : (bsL s).length = s.size := by unfold bsL; rw [List.length_map, Array.length_toList]; rfl
theorem bsL_flat (s : ByteArray) : encB.flat (bsL s) = Go.Lib.strCells s := by
  rw [encB_flat]
  unfold bsL Go.Lib.strCells
  rw [List.map_map]
  rfl

/-- A text's bytes more. -/
theorem by_appS {w : World} {base : Nat} {ao : Option Addr} {cap : Nat} {A : List Int} (s : ByteArray) (h : encB.Own 5 w base (.slice ao A.length cap) A) (hs : base ≤ w.heap.size) (hn : A.length + s.size ≤ 100000000000000) :
    ∃ a2 p2 w4, (Builtin.append_ #[64, 9] 64 #[.slice ao A.length cap, .string s]).run Tryz.prog w = .ok (.slice a2 (A ++ bsL s).length p2) w4 ∧
      encB.Own 5 w4 base (.slice a2 (A ++ bsL s).length p2) (A ++ bsL s) ∧ Touch (fun d => (Value.slice ao A.length cap).ownBlock = some d) w w4 := by
  obtain ⟨i0, hi, hz, hsz, hby⟩ := Rc.info_parts infoByte
  obtain ⟨v', w', hr, ow, gr, -⟩ := Go.Lib.run_append_own_string (P := Tryz.prog) w base 64 9 64 5 i0 Tryz.underlying64 Tryz.underlying9 hi hz hsz hby _ A.length (encB.flat A) h s (by unfold maxLen; omega) (by omega) hs
  have h2 : encB.Own 5 w' base v' (A ++ bsL s) := by
    unfold Rc.Enc.Own
    rw [encB.flat_append, List.length_append, bsL_len, bsL_flat]
    exact ow
  obtain ⟨a2, p2, hv⟩ := Rc.own_shape h2
  subst hv
  refine ⟨a2, p2, w', ?_, h2, Touch.of_grownBy gr⟩
  rw [hr]

/-- The lines of the first i panes. -/
def txT (L : List Pn) : Nat → List Int
  | 0 => []
  | i + 1 => (txT L i ++ bsL (lineB (L.getD i pn0))) ++ [10]
theorem txT_len {L : List Pn} (hp : ∀ j, j < L.length → NumOk (L.getD j pn0)) : ∀ i, i ≤ L.length → (∀ j, j < i → mayP (L.getD j pn0) = true) → (txT L i).length ≤ 1200 * i
  | 0, _, _ => by simp [txT]
  | i + 1, h, hk => by
    rw [txT, List.length_append, List.length_append, bsL_len]
    have h1 := txT_len hp i (by omega) fun j hj => hk j (by omega)
    have hm := hk i (by omega)
    unfold mayP at hm
    have h2 : (lineB (L.getD i pn0)).size ≤ 1040 + 22 * 7 := txL_size (of_decide_eq_true hm).1 (hp i (by omega)) 7 (by omega)
    simp only [List.length_cons, List.length_nil]
    omega
/-- May all of them be? -/
def mayT (L : List Pn) : Bool := L.all mayP
theorem mayT_no {L : List Pn} {j : Nat} (hj : j < L.length) (h : mayP (L.getD j pn0) = false) : mayT L = false := by
  unfold mayT
  rw [Bool.eq_false_iff]
  intro h2
  rw [List.all_eq_true] at h2
  have := h2 _ (List.getElem_mem hj)
  rw [List.getD_eq_getElem?_getD, List.getElem?_eq_getElem hj] at h
  rw [Option.getD_some] at h
  rw [h] at this
  cases this
theorem mayT_yes {L : List Pn} (h : ∀ j, j < L.length → mayP (L.getD j pn0) = true) : mayT L = true := by
  unfold mayT
  rw [List.all_eq_true]
  intro x hx
  obtain ⟨j, hj, rfl⟩ := List.getElem_of_mem hx
  have := h j hj
  rw [List.getD_eq_getElem?_getD, List.getElem?_eq_getElem hj] at this
  exact this
theorem len_snoc (A : List Int) (x : Int) : (A ++ [x]).length = A.length + 1 := by rw [List.length_append]; rfl
theorem conv_none {W : World} {base : Nat} {a : Option Addr} {c : Nat} (h : encB.Own 5 W base (.slice a ([] : List Int).length c) []) : (convert 64 9 (.slice a ([] : List Int).length c)).run Tryz.prog W = .ok (.string (strOfNums [])) W := by
  obtain ⟨-, hM, -, -, hc, hA⟩ := Rc.Own.mem h
  cases a with
  | none =>
    obtain rfl := hc rfl
    kernel_rfl
  | some a =>
    obtain ⟨b, off, sp⟩ := a
    obtain ⟨h1, -, -, -⟩ := hA _ rfl
    subst h1
    exact run_convert_bytes_arg W _ _ Tryz.underlying64 Tryz.underlying5 b off _ c [] rfl (fun i hi => absurd hi (Nat.not_lt_zero _)) _ Tryz.underlying9

end Go.Proofs.YtamfcmmhmfhhkaaGreatDoor

namespace Go.Proofs.YtamfcmmhmfhhkaaGreatDoor
open Go.RowKit

/-- What a byte says to the base 16; -1: nothing. -/
def digX (c : Int) : Int := if 48 ≤ c ∧ c ≤ 57 then c - 48 else if 97 ≤ c ∧ c ≤ 102 then c - 87 else -1
theorem digX_hex {n : Int} (h0 : 0 ≤ n) (h1 : n < 16) : digX (hexB n) = n := by
  unfold digX hexB
  split <;> (repeat' split) <;> omega
theorem digX_no {c : Int} (h : ∀ n, 0 ≤ n → n < 16 → hexB n ≠ c) : digX c = -1 := by
  unfold digX
  by_cases h1 : 48 ≤ c ∧ c ≤ 57
  · exact absurd (by unfold hexB; rw [if_pos (by omega)]; omega) (h (c - 48) (by omega) (by omega))
  · rw [if_neg h1]
    by_cases h2 : 97 ≤ c ∧ c ≤ 102
    · exact absurd (by unfold hexB; rw [if_neg (by omega)]; omega) (h (c - 87) (by omega) (by omega))
    · rw [if_neg h2]
theorem digX_lo (c : Int) : -1 ≤ digX c ∧ digX c ≤ 15 := by
  unfold digX
  split
  · omega
  · split <;> omega

end Go.Proofs.YtamfcmmhmfhhkaaGreatDoor

namespace Go.Proofs.YtamfcmmhmfhhkaaGreatDoor
open Go.RowKit

theorem encZ_flat (L : List ByteArray) : encZ.flat L = L.map Value.string := by
  induction L with
  | nil => rfl
  | cons x L ih => show [Value.string x] ++ encZ.flat L = _; rw [ih]; rfl

/-- The last text of a row of one's own turned. -/
theorem st_last {w : World} {base n : Nat} {ao : Option Addr} {cap : Nat} {A : List ByteArray} {c : ByteArray} (h : encZ.Own 9 w base (.slice ao n cap) (A ++ [c])) :
    ∃ g, ao = some ⟨g, 0, none⟩ ∧ base ≤ g ∧ w.cell? ⟨g, A.length, none⟩ = some (.string c) ∧ w.frozen? ⟨g, A.length, none⟩ = false ∧ ∀ b, encZ.Own 9 (w.setCell ⟨g, A.length, none⟩ (.string b)) base (.slice (some ⟨g, 0, none⟩) n cap) (A ++ [b]) := by
  have hn := (Rc.Own.mem h).1
  have hone : encZ.n = 1 := rfl
  obtain ⟨h1, ⟨hv, h2⟩ | ⟨g, cap', cur, hv, h3, h4, h5, h6, h7, h8⟩⟩ := h
  · simp at h2
  · injection hv with e1 e2 e3
    subst e1 e3
    rw [hone, Nat.mul_one] at h7 h8
    have ht : cur.toList.take (A ++ [c]).length = (A ++ [c]).map Value.string := by rw [← encZ_flat]; exact h8
    have hl : A.length < cur.size := by
      rw [List.length_append] at h5
      simp only [List.length_cons, List.length_nil] at h5
      omega
    have hget : cur[A.length]? = some (.string c) := by
      have := congrArg (fun l => l[A.length]?) ht
      simp only [List.map_append, List.map_cons, List.map_nil] at this
      rw [List.getElem?_take_of_lt (by simp), List.getElem?_append_right (by simp)] at this
      simpa using this
    refine ⟨g, rfl, h3, ?_, by simp [World.frozen?, h4], fun b => ?_⟩
    · simp only [World.cell?, h4]
      simpa using hget
    · have k0 := heap_setCell_row (i := A.length) h4 (.string b)
      have el : (A ++ [b]).length = (A ++ [c]).length := by simp
      refine ⟨by rw [encZ.flat_len], .inr ⟨g, cap, _, by rw [el, ← hn], h3, k0, by rw [el]; exact h5, h6, by rw [hone, Nat.mul_one]; simpa using h7, ?_⟩⟩
      rw [el, hone, Nat.mul_one, encZ_flat, Array.toList_setIfInBounds, List.take_set, ht, List.map_append, List.map_append]
      show (List.map Value.string A ++ [Value.string c]).set A.length (.string b) = _
      rw [List.set_append_right _ _ (by simp)]
      simp

/-- What stands between blanks, behind the bytes of the piece under way. -/
def ptL : List UInt8 → List UInt8 → List (List UInt8)
  | cur, [] => [cur]
  | cur, b :: r => if b.toNat = 32 then cur :: ptL [] r else ptL (cur ++ [b]) r
theorem ptL_cons (cur : List UInt8) (b : UInt8) (r : List UInt8) : ptL cur (b :: r) = if b.toNat = 32 then cur :: ptL [] r else ptL (cur ++ [b]) r := rfl
/-- What stands between a text's blanks. -/
def ptB (s : ByteArray) : List (List UInt8) := ptL [] s.toList
theorem nilB : (⟨#[]⟩ : ByteArray).toList = [] := by rw [ByteArray.toList_eq]
theorem tl_at (s : ByteArray) (i : Nat) (h : i < s.size) : s.toList.drop i = s[i] :: s.toList.drop (i + 1) := by
  rw [ByteArray.toList_eq]
  have h' : i < s.data.toList.length := by rw [Array.length_toList]; exact h
  rw [List.drop_eq_getElem_cons h']
  rfl
theorem ex_toList (s : ByteArray) (a b : Nat) : (s.extract a b).toList = (s.toList.drop a).take (b - a) := by
  rw [ByteArray.toList_eq, ByteArray.toList_eq, ByteArray.data_extract, Array.toList_extract]
theorem ap_toList (a b : ByteArray) : (a ++ b).toList = a.toList ++ b.toList := by
  rw [ByteArray.toList_eq, ByteArray.toList_eq, ByteArray.toList_eq, ByteArray.data_append, Array.toList_append]
/-- A piece, one byte more. -/
theorem pc_next {s : ByteArray} {i : Nat} (h : i < s.size) (c : ByteArray) : (c ++ s.extract i (i + 1)).toList = c.toList ++ [s[i]'h] := by
  rw [ap_toList, ex_toList, tl_at s i h]
  simp

/-- What a function answers that makes texts. -/
def RetZ (w : World) (e : Ending) (w' : World) (C : List (List UInt8)) : Prop := ∃ ao cap L, e = .returned (.slice ao L.length cap) ∧ encZ.Own 9 w' w.heap.size (.slice ao L.length cap) L ∧ L.map (·.toList) = C ∧ Calm w w'

end Go.Proofs.YtamfcmmhmfhhkaaGreatDoor

namespace Go.Proofs.YtamfcmmhmfhhkaaGreatDoor
open Go.RowKit

/-- The number that digits tell. -/
def valD (l : List UInt8) : Nat := l.foldl (fun n b => n * 10 + (b.toNat - 48)) 0
theorem valD_snoc (l : List UInt8) (b : UInt8) : valD (l ++ [b]) = valD l * 10 + (b.toNat - 48) := by simp [valD]
theorem fold_ge : ∀ (B : List UInt8) (n : Nat), n * 10 ^ B.length ≤ B.foldl (fun n b => n * 10 + (b.toNat - 48)) n
  | [], n => by simp
  | b :: B, n => by
    have h := fold_ge B (n * 10 + (b.toNat - 48))
    have h2 : n * 10 * 10 ^ B.length ≤ (n * 10 + (b.toNat - 48)) * 10 ^ B.length := Nat.mul_le_mul_right _ (by omega)
    rw [List.length_cons, List.foldl_cons, Nat.pow_succ, Nat.mul_comm (10 ^ B.length) 10, ← Nat.mul_assoc]
    omega
theorem valD_pre (A B : List UInt8) (hB : B ≠ []) : valD A * 10 ≤ valD (A ++ B) := by
  have h := fold_ge B (valD A)
  have e : valD (A ++ B) = B.foldl (fun n b => n * 10 + (b.toNat - 48)) (valD A) := by unfold valD; rw [List.foldl_append]
  rw [e]
  have hl := List.length_pos_iff.2 hB
  have h1 : 10 ^ 1 ≤ 10 ^ B.length := Nat.pow_le_pow_right (by omega) hl
  have h2 := Nat.mul_le_mul_left (valD A) h1
  omega
theorem ofNat_dig {u : Nat} (h : u < 10) : (UInt8.ofNat (48 + u)).toNat = 48 + u := by
  rw [UInt8.toNat_ofNat']
  omega
theorem valD_dec (u : Nat) : valD (Lib.decDigits u) = u := by
  induction u using Nat.strongRecOn with
  | _ u ih =>
    by_cases h : u < 10
    · rw [Lib.decDigits, dif_pos h]
      show 0 * 10 + ((UInt8.ofNat (48 + u)).toNat - 48) = u
      rw [ofNat_dig h]
      omega
    · rw [Lib.decDigits, dif_neg h, valD_snoc, ih (u / 10) (by omega), ofNat_dig (by omega)]
      omega
theorem dec_byte (u : Nat) : ∀ b ∈ Lib.decDigits u, 48 ≤ b.toNat ∧ b.toNat ≤ 57 := by
  induction u using Nat.strongRecOn with
  | _ u ih =>
    intro b hb
    by_cases h : u < 10
    · rw [Lib.decDigits, dif_pos h] at hb
      rw [List.mem_singleton] at hb
      subst hb
      rw [ofNat_dig h]
      omega
    · rw [Lib.decDigits, dif_neg h] at hb
      rcases List.mem_append.1 hb with hb | hb
      · exact ih (u / 10) (by omega) b hb
      · rw [List.mem_singleton] at hb
        subst hb
        rw [ofNat_dig (by omega)]
        omega
theorem dec_ne (u : Nat) : Lib.decDigits u ≠ [] := by
  rw [Lib.decDigits]
  split
  · simp
  · simp

/-- Does a text begin with a '-'? -/
def negS (s : ByteArray) : Prop := s.toList.head? = some 45
instance (s : ByteArray) : Decidable (negS s) := by unfold negS; exact inferInstance
/-- Where its digits begin. -/
def numF (s : ByteArray) : Nat := if negS s then 1 else 0
/-- The number that a text tells, if it tells one. -/
def numV (s : ByteArray) : Int := if negS s then -(valD (s.toList.drop 1) : Int) else (valD s.toList : Int)
def I64n (x : Int) : Prop := -9223372036854775808 ≤ x ∧ x ≤ 9223372036854775807
instance (x : Int) : Decidable (I64n x) := by unfold I64n; exact inferInstance
def numP (s : ByteArray) : Option Int := if I64n (numV s) ∧ intB (numV s) = s then some (numV s) else none
theorem intB_list (x : Int) : (intB x).toList = (if x < 0 then [45] else []) ++ Lib.decDigits x.natAbs := by
  unfold intB
  rw [ByteArray.toList_eq, Lib.itoa]
  split
  · rfl
  · rw [List.nil_append]
    have e : x.toNat = x.natAbs := by omega
    rw [e]
theorem intB_neg' (x : Int) : negS (intB x) ↔ x < 0 := by
  unfold negS
  rw [intB_list]
  by_cases h : x < 0
  · rw [if_pos h]; simp [h]
  · rw [if_neg h, List.nil_append]
    constructor
    · intro h2
      obtain ⟨b, B, e⟩ := List.exists_cons_of_ne_nil (dec_ne x.natAbs)
      rw [e] at h2
      have := dec_byte x.natAbs b (by rw [e]; simp)
      simp at h2
      subst h2
      exact absurd this.1 (by decide)
    · intro h2; exact absurd h2 h
theorem numV_int (x : Int) : numV (intB x) = x := by
  unfold numV
  by_cases h : x < 0
  · rw [if_pos ((intB_neg' x).2 h), intB_list, if_pos h]
    show -((valD (Lib.decDigits x.natAbs) : Nat) : Int) = x
    rw [valD_dec]
    omega
  · rw [if_neg (fun h2 => h ((intB_neg' x).1 h2)), intB_list, if_neg h, List.nil_append, valD_dec]
    omega
theorem numP_some {s : ByteArray} {x : Int} : numP s = some x ↔ I64n x ∧ intB x = s := by
  unfold numP
  constructor
  · intro h
    split at h
    · injection h with h; subst h; assumption
    · cases h
  · rintro ⟨h1, rfl⟩
    rw [numV_int, if_pos ⟨h1, rfl⟩]
theorem numP_none {s : ByteArray} (h : ∀ x, I64n x → intB x ≠ s) : numP s = none := by
  cases e : numP s with
  | none => rfl
  | some x => exact absurd (numP_some.1 e).2 (h x (numP_some.1 e).1)

/-- The digits from f on, up to i. -/
def dgV (s : ByteArray) (f i : Nat) : Nat := valD ((s.toList.drop f).take (i - f))
theorem dgV_zero (s : ByteArray) (f : Nat) : dgV s f f = 0 := by unfold dgV; rw [Nat.sub_self]; rfl
theorem tk_next {s : ByteArray} {a i : Nat} (ha : a ≤ i) (h : i < s.size) : (s.toList.drop a).take (i + 1 - a) = (s.toList.drop a).take (i - a) ++ [s[i]] := by
  have e : (s.toList.drop a).drop (i - a) = s[i] :: s.toList.drop (i + 1) := by
    rw [List.drop_drop, show a + (i - a) = i by omega, tl_at s i h]
  have e2 : (s.toList.drop a)[i - a]? = some s[i] := by
    have := congrArg List.head? e
    rw [List.head?_drop] at this
    rw [this]; rfl
  rw [show i + 1 - a = (i - a) + 1 by omega, List.take_add_one, e2]
  rfl
theorem dgV_next {s : ByteArray} {f i : Nat} (hf : f ≤ i) (h : i < s.size) : dgV s f (i + 1) = dgV s f i * 10 + ((s[i]'h).toNat - 48) := by
  unfold dgV
  rw [tk_next hf h, valD_snoc]
theorem tl_len (s : ByteArray) : s.toList.length = s.size := by rw [ByteArray.toList_eq]; exact Array.length_toList

/-- What holds of a number's own text. -/
theorem num_facts {s : ByteArray} {x : Int} (hx : I64n x) (h : intB x = s) : numF s < s.size ∧ s.size ≤ 20 ∧ (∀ k, numF s ≤ k → ∀ hk : k < s.size, 48 ≤ (s[k]'hk).toNat ∧ (s[k]'hk).toNat ≤ 57 ∧ dgV s (numF s) k ≤ 922337203685477580) ∧ dgV s (numF s) s.size = x.natAbs ∧ (numF s = 1 ↔ x < 0) := by
  have hu : x.natAbs ≤ 9223372036854775808 := by unfold I64n at hx; omega
  obtain ⟨u, e⟩ : ∃ u, u = x.natAbs := ⟨_, rfl⟩
  have hl := tl_len s
  have hL : s.toList = (if x < 0 then [45] else []) ++ Lib.decDigits u := by rw [← h, intB_list, e]
  have hF : numF s = (if x < 0 then 1 else 0) := by
    unfold numF
    rw [← h]
    by_cases hn : x < 0
    · rw [if_pos hn, if_pos ((intB_neg' x).2 hn)]
    · rw [if_neg hn, if_neg (fun h2 => hn ((intB_neg' x).1 h2))]
  have hD : s.toList.drop (numF s) = Lib.decDigits u := by
    rw [hF, hL]
    by_cases hn : x < 0
    · rw [if_pos hn, if_pos hn]; rfl
    · rw [if_neg hn, if_neg hn]; rfl
  have hdl := dec_len 18 u (by omega)
  have hd0 := List.length_pos_iff.2 (dec_ne u)
  have hsz : s.size = numF s + (Lib.decDigits u).length := by
    rw [← hl, hF, hL, List.length_append]
    by_cases hn : x < 0
    · rw [if_pos hn, if_pos hn]; rfl
    · rw [if_neg hn, if_neg hn]; rfl
  have hF1 : numF s ≤ 1 := by rw [hF]; split <;> omega
  refine ⟨by omega, by omega, fun k hk hk2 => ?_, ?_, ?_⟩
  · have hm : s[k]'hk2 ∈ Lib.decDigits u := by
      rw [← hD]
      have e1 := tl_at s k hk2
      have e2 : s.toList.drop k = (s.toList.drop (numF s)).drop (k - numF s) := by rw [List.drop_drop, show numF s + (k - numF s) = k by omega]
      exact List.mem_of_mem_drop (i := k - numF s) (by rw [← e2, e1]; simp)
    obtain ⟨b1, b2⟩ := dec_byte u _ hm
    refine ⟨b1, b2, ?_⟩
    unfold dgV
    rw [hD]
    have hp := valD_pre ((Lib.decDigits u).take (k - numF s)) ((Lib.decDigits u).drop (k - numF s)) (by
      intro h2
      have := congrArg List.length h2
      rw [List.length_drop] at this
      simp at this
      omega)
    rw [List.take_append_drop, valD_dec] at hp
    omega
  · unfold dgV
    rw [hD, List.take_of_length_le (by omega), valD_dec, e]
  · rw [hF]
    by_cases hn : x < 0
    · simp [hn]
    · simp [hn]

end Go.Proofs.YtamfcmmhmfhhkaaGreatDoor
