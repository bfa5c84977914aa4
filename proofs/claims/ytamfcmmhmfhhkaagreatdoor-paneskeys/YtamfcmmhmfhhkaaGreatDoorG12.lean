/- Key: a quoted key read (the mathematics). Number: a number of decimal digits (the document's; the walk). Key: a quoted key read (the document's; the walk). Parse: a pane out of a line (the mathematics). -/
import Derived.Test.YtamfcmmhmfhhkaaGreatDoorG10
import Derived.Test.YtamfcmmhmfhhkaaGreatDoorG11
namespace Go.Proofs.YtamfcmmhmfhhkaaGreatDoor
open Go.RowKit

def tbN (n : Int) : UInt8 := UInt8.ofNat n.toNat
theorem tbN_nat {n : Int} (h0 : 0 ≤ n) (h1 : n < 256) : ((tbN n).toNat : Int) = n := by
  unfold tbN
  rw [UInt8.toNat_ofNat']
  omega
/-- A key quoted, as bytes. -/
def qk (k : ByteArray) : List UInt8 := (quoA k).map tbN
theorem qk_list (k : ByteArray) : (strOfNums (quoA k)).toList = qk k := by rw [ByteArray.toList_eq]; rfl
theorem qk_len (k : ByteArray) : (qk k).length = (quoA k).length := by unfold qk; rw [List.length_map]
theorem hexB_in {n : Int} (h0 : 0 ≤ n) (h1 : n < 16) : 0 ≤ hexB n ∧ hexB n < 256 := by
  unfold hexB
  split <;> omega

/-- Where a reader stands in a text that begins with a quoted key. -/
def KI (s : ByteArray) (i : Nat) (A : List Int) : Prop := ∀ k r, s.toList = qk k ++ r → ∃ j, j ≤ k.size ∧ i = (quoL k j).length ∧ A = (bsL k).take j
theorem bsL_next {k : ByteArray} {j : Nat} (h : j < k.size) : (bsL k).take (j + 1) = (bsL k).take j ++ [((k[j]'h).toNat : Int)] := by
  have h' : j < k.data.toList.length := by rw [Array.length_toList]; exact h
  unfold bsL
  rw [List.take_add_one, List.getElem?_map, List.getElem?_eq_getElem h']
  rfl
theorem quo_drop {s k : ByteArray} {r : List UInt8} {j : Nat} (h : s.toList = qk k ++ r) : s.toList.drop (quoL k j).length = (((k.toList.drop j).flatMap fun u => escL (u.toNat : Int)).map tbN) ++ 34 :: r := by
  have e : quoA k = quoL k j ++ (((k.toList.drop j).flatMap fun u => escL (u.toNat : Int)) ++ [34]) := by
    have hl := tl_len k
    unfold quoA quoL
    rw [List.take_of_length_le (by omega), ← List.append_assoc, List.cons_append, List.cons_append, ← List.flatMap_append, List.take_append_drop]
    rfl
  have e2 : s.toList = (quoL k j).map tbN ++ (((((k.toList.drop j).flatMap fun u => escL (u.toNat : Int)).map tbN) ++ [34]) ++ r) := by
    rw [h]
    unfold qk
    rw [e, List.map_append, List.map_append, List.append_assoc]
    rfl
  have e3 : (quoL k j).length = ((quoL k j).map tbN).length := by rw [List.length_map]
  rw [e2, e3, List.drop_left, List.append_assoc]
  rfl
/-- What stands there: the last quotation mark, or a byte's form. -/
theorem KI.cases {s k : ByteArray} {r : List UInt8} {i j : Nat} (h : s.toList = qk k ++ r) (hj : j ≤ k.size) (hi : i = (quoL k j).length) :
    (j = k.size ∧ s.toList.drop i = 34 :: r ∧ i + 1 = (quoA k).length) ∨
    (∃ c : Nat, c < 256 ∧ j < k.size ∧ (bsL k).take (j + 1) = (bsL k).take j ++ [(c : Int)] ∧ (quoL k (j + 1)).length = i + (escL (c : Int)).length ∧ ∃ rest, s.toList.drop i = (escL (c : Int)).map tbN ++ rest) := by
  have hd := quo_drop (j := j) h
  rw [← hi] at hd
  by_cases e : j = k.size
  · left
    subst e
    have hl := tl_len k
    have e0 : k.toList.drop k.size = [] := List.drop_of_length_le (Nat.le_of_eq hl)
    rw [e0] at hd
    refine ⟨rfl, hd, ?_⟩
    unfold quoA
    rw [List.length_append, ← hi]
    rfl
  · right
    have hlt : j < k.size := by omega
    rw [tl_at k j hlt, List.flatMap_cons, List.map_append, List.append_assoc] at hd
    refine ⟨(k[j]'hlt).toNat, (k[j]'hlt).toNat_lt, hlt, bsL_next hlt, ?_, _, hd⟩
    rw [quoL_succ hlt, List.length_append, hi]
theorem head_at {s : ByteArray} {i : Nat} {x : UInt8} {l : List UInt8} (h : s.toList.drop i = x :: l) : ∃ hi : i < s.size, s[i]'hi = x ∧ s.toList.drop (i + 1) = l := by
  have hl := tl_len s
  have hi : i < s.size := by
    have := congrArg List.length h
    rw [List.length_drop, List.length_cons] at this
    omega
  refine ⟨hi, ?_, ?_⟩
  · rw [tl_at s i hi] at h
    injection h
  · rw [tl_at s i hi] at h
    injection h
theorem esc_plain {c : Nat} (h : 32 ≤ c ∧ c ≤ 126 ∧ c ≠ 34 ∧ c ≠ 92) : escL (c : Int) = [(c : Int)] := by unfold escL; rw [if_pos ⟨by omega, by omega, by omega, by omega⟩]
theorem esc_four {c : Nat} (h : ¬ (32 ≤ c ∧ c ≤ 126 ∧ c ≠ 34 ∧ c ≠ 92)) : escL (c : Int) = [92, 120, hexB ((c : Int) / 16), hexB ((c : Int) % 16)] := by unfold escL; rw [if_neg (fun h2 => h ⟨by omega, by omega, by omega, by omega⟩)]

theorem KI.start (s : ByteArray) : KI s 1 [] := fun k r _ => ⟨0, by omega, by simp [quoL], by simp⟩
theorem KI.first {s : ByteArray} {k : ByteArray} {r : List UInt8} (h : s.toList = qk k ++ r) : ∃ hi : 0 < s.size, (s[0]'hi).toNat = 34 := by
  have e : s.toList.drop 0 = 34 :: (((quoL k k.size).tail ++ [34]).map tbN ++ r) := by
    rw [List.drop_zero, h]
    rfl
  obtain ⟨hi, h2, -⟩ := head_at e
  exact ⟨hi, by rw [h2]; rfl⟩
/-- At the text's end there is no such key. -/
theorem KI.past {s : ByteArray} {i : Nat} {A : List Int} (h : KI s i A) (hi : s.size ≤ i) : ∀ k r, s.toList ≠ qk k ++ r := fun k r he => by
  obtain ⟨j, hj, h1, h2⟩ := h k r he
  rcases KI.cases he hj h1 with ⟨-, q, -⟩ | ⟨c, -, -, -, -, rest, q⟩
  · obtain ⟨h3, -⟩ := head_at q
    omega
  · by_cases hp : 32 ≤ c ∧ c ≤ 126 ∧ c ≠ 34 ∧ c ≠ 92
    · rw [esc_plain hp] at q
      obtain ⟨h3, -⟩ := head_at q
      omega
    · rw [esc_four hp] at q
      obtain ⟨h3, -⟩ := head_at q
      omega
theorem KI.last {s : ByteArray} {i : Nat} {A : List Int} (h : KI s i A) (hi : i < s.size) (hb : (s[i]'hi).toNat = 34) : ∀ k r, s.toList = qk k ++ r → A = bsL k ∧ i + 1 = (quoA k).length := fun k r he => by
  obtain ⟨j, hj, h1, h2⟩ := h k r he
  rcases KI.cases he hj h1 with ⟨e, q, q2⟩ | ⟨c, hc, -, -, -, rest, q⟩
  · refine ⟨?_, q2⟩
    rw [h2, e, List.take_of_length_le (by rw [bsL_len]; omega)]
  · exfalso
    by_cases hp : 32 ≤ c ∧ c ≤ 126 ∧ c ≠ 34 ∧ c ≠ 92
    · rw [esc_plain hp] at q
      obtain ⟨h3, h4, -⟩ := head_at q
      rw [h4] at hb
      have := tbN_nat (n := (c : Int)) (by omega) (by omega)
      omega
    · rw [esc_four hp] at q
      obtain ⟨h3, h4, -⟩ := head_at q
      rw [h4] at hb
      exact absurd hb (by decide)
theorem KI.plain {s : ByteArray} {i : Nat} {A : List Int} (h : KI s i A) (hi : i < s.size) {b : Nat} (hb : (s[i]'hi).toNat = b) (h34 : b ≠ 34) (h92 : b ≠ 92) : KI s (i + 1) (A ++ [(b : Int)]) := fun k r he => by
  obtain ⟨j, hj, h1, h2⟩ := h k r he
  rcases KI.cases he hj h1 with ⟨e, q, q2⟩ | ⟨c, hc, hlt, ht, hq, rest, q⟩
  · exfalso
    obtain ⟨h3, h4, -⟩ := head_at q
    rw [h4] at hb
    exact h34 hb.symm
  · by_cases hp : 32 ≤ c ∧ c ≤ 126 ∧ c ≠ 34 ∧ c ≠ 92
    · rw [esc_plain hp] at q hq
      obtain ⟨h3, h4, -⟩ := head_at q
      rw [h4] at hb
      have := tbN_nat (n := (c : Int)) (by omega) (by omega)
      have e : b = c := by omega
      exact ⟨j + 1, hlt, hq.symm, by rw [ht, h2, e]⟩
    · exfalso
      rw [esc_four hp] at q
      obtain ⟨h3, h4, -⟩ := head_at q
      rw [h4] at hb
      exact h92 hb.symm
theorem KI.esc {s : ByteArray} {i : Nat} {A : List Int} (h : KI s i A) (hi : i < s.size) (hb : (s[i]'hi).toNat = 92) (k : ByteArray) (r : List UInt8) (he : s.toList = qk k ++ r) :
    ∃ h4 : i + 4 ≤ s.size, 0 ≤ digX (((s[i + 2]'(by omega)).toNat : Nat) : Int) ∧ 0 ≤ digX (((s[i + 3]'(by omega)).toNat : Nat) : Int) ∧ ∃ j, j ≤ k.size ∧ i + 4 = (quoL k j).length ∧ A ++ [16 * digX (((s[i + 2]'(by omega)).toNat : Nat) : Int) + digX (((s[i + 3]'(by omega)).toNat : Nat) : Int)] = (bsL k).take j := by
  obtain ⟨j, hj, h1, h2⟩ := h k r he
  rcases KI.cases he hj h1 with ⟨e, q, q2⟩ | ⟨c, hc, hlt, ht, hq, rest, q⟩
  · exfalso
    obtain ⟨h3, h4, -⟩ := head_at q
    rw [h4] at hb
    exact absurd hb (by decide)
  · by_cases hp : 32 ≤ c ∧ c ≤ 126 ∧ c ≠ 34 ∧ c ≠ 92
    · exfalso
      rw [esc_plain hp] at q
      obtain ⟨h3, h4, -⟩ := head_at q
      rw [h4] at hb
      have := tbN_nat (n := (c : Int)) (by omega) (by omega)
      omega
    · rw [esc_four hp] at q hq
      obtain ⟨-, -, q1⟩ := head_at q
      obtain ⟨-, -, q2⟩ := head_at q1
      obtain ⟨g2, e2, q3⟩ := head_at q2
      obtain ⟨g3, e3, -⟩ := head_at q3
      have x1 := hexB_in (n := (c : Int) / 16) (by omega) (by omega)
      have x2 := hexB_in (n := (c : Int) % 16) (by omega) (by omega)
      have y1 := tbN_nat x1.1 x1.2
      have y2 := tbN_nat x2.1 x2.2
      have d1 : digX (((s[i + 2]'g2).toNat : Nat) : Int) = (c : Int) / 16 := by rw [e2, y1]; exact digX_hex (by omega) (by omega)
      have d2 : digX (((s[i + 3]'g3).toNat : Nat) : Int) = (c : Int) % 16 := by rw [e3, y2]; exact digX_hex (by omega) (by omega)
      refine ⟨by omega, by rw [d1]; omega, by rw [d2]; omega, j + 1, hlt, hq.symm, ?_⟩
      rw [d1, d2, ht, h2]
      congr 2
      omega

theorem strOf_bs (k : ByteArray) : strOfNums (bsL k) = k := by
  apply ByteArray.ext
  apply Array.toList_inj.1
  rw [strOfNums_data]
  unfold bsL
  rw [List.map_map]
  have : ((fun n : Int => UInt8.ofNat n.toNat) ∘ fun u : UInt8 => (u.toNat : Int)) = id := by
    funext u
    show UInt8.ofNat ((u.toNat : Int)).toNat = u
    rw [Int.toNat_natCast, UInt8.ofNat_toNat]
  rw [this, List.map_id]

end Go.Proofs.YtamfcmmhmfhhkaaGreatDoor

namespace Go.Proofs.YtamfcmmhmfhhkaaGreatDoor
open Go.RowKit

/-- What Number answers. -/
def numR (s : ByteArray) : Value := match numP s with | some x => .tuple #[.int .i64 x, .bool true] | none => .tuple #[.int .i64 0, .bool false]
theorem numR_no {s : ByteArray} (h : ∀ x, I64n x → intB x ≠ s) : numR s = .tuple #[.int .i64 0, .bool false] := by unfold numR; rw [numP_none h]
theorem numR_yes {s : ByteArray} {x : Int} (h : I64n x) (h2 : intB x = s) : numR s = .tuple #[.int .i64 x, .bool true] := by unfold numR; rw [numP_some.2 ⟨h, h2⟩]
theorem first_at {s : ByteArray} (h : 0 < s.size) : negS s ↔ ((s[0]'h).toNat : Int) = 45 := by
  unfold negS
  have e := tl_at s 0 h
  rw [List.drop_zero] at e
  rw [e]
  simp only [List.head?_cons, Option.some.injEq]
  constructor
  · intro h; rw [h]; rfl
  · intro h
    have h2 : (s[0]'(by assumption)).toNat = 45 := by omega
    exact UInt8.toNat_inj.1 (by rw [h2]; rfl)
theorem size_zero {s : ByteArray} (h : s.size = 0) : s = ⟨#[]⟩ := by
  apply ByteArray.ext
  exact Array.eq_empty_of_size_eq_zero h
theorem wrap_back0 {n : Nat} {y : Int} (h : I64n y) (h1 : n = y.natAbs) (h2 : ¬ y < 0) : IntKind.i64.wrap (n : Int) = y := by
  unfold I64n at h
  rw [IntKind.wrap_i64]
  omega
theorem wrap_back1 {n : Nat} {y : Int} (h : I64n y) (h1 : n = y.natAbs) (h2 : y < 0) : IntKind.i64.wrap (-(IntKind.i64.wrap (n : Int))) = y := by
  unfold I64n at h
  rw [IntKind.wrap_i64, IntKind.wrap_i64]
  omega
theorem i64n_in (n : Int) : I64n (IntKind.i64.wrap n) ∧ I64n (IntKind.i64.wrap (-(IntKind.i64.wrap n))) := by
  unfold I64n
  rw [IntKind.wrap_i64, IntKind.wrap_i64]
  omega

end Go.Proofs.YtamfcmmhmfhhkaaGreatDoor

namespace Go.Proofs.YtamfcmmhmfhhkaaGreatDoor
open Go.RowKit

/-- What Key answers of a text. -/
def KeyR (s k : ByteArray) (n : Nat) : Prop := n ≤ s.size ∧ k.size ≤ s.size ∧ (n ≠ 0 → s.toList.take n = qk k) ∧ ∀ k' r, s.toList = qk k' ++ r → k = k' ∧ n = (quoA k').length
theorem KeyR.none {s : ByteArray} (h : ∀ k r, s.toList ≠ qk k ++ r) : KeyR s ⟨#[]⟩ 0 := ⟨Nat.zero_le _, Nat.zero_le _, fun h => absurd rfl h, fun k r e => absurd e (h k r)⟩
theorem ba_ext {a b : ByteArray} (h : a.toList = b.toList) : a = b := by
  rw [ByteArray.toList_eq, ByteArray.toList_eq] at h
  exact ByteArray.ext (Array.toList_inj.1 h)
theorem KeyR.some {s : ByteArray} {i : Nat} {A : List Int} (h : KI s i A) (hi : i < s.size) (hb : (s[i]'hi).toNat = 34) (hA : A.length ≤ i) (he : strOfNums (quoA (strOfNums A)) = s.extract 0 (i + 1)) : KeyR s (strOfNums A) (i + 1) := by
  refine ⟨hi, by rw [strOfNums_size]; omega, fun _ => ?_, fun k' r e => ?_⟩
  · rw [← qk_list, he, ex_toList]
    rfl
  · obtain ⟨h1, h2⟩ := KI.last h hi hb k' r e
    exact ⟨by rw [h1, strOf_bs], h2⟩
theorem KeyR.other {s : ByteArray} {i : Nat} {A : List Int} (h : KI s i A) (hi : i < s.size) (hb : (s[i]'hi).toNat = 34) (he : strOfNums (quoA (strOfNums A)) ≠ s.extract 0 (i + 1)) : KeyR s ⟨#[]⟩ 0 := KeyR.none fun k' r e => by
  obtain ⟨h1, h2⟩ := KI.last h hi hb k' r e
  apply he
  rw [h1, strOf_bs]
  apply ba_ext
  rw [qk_list, ex_toList, h2, e]
  have e3 : (quoA k').length - 0 = (qk k').length := by rw [qk_len]; omega
  rw [e3, List.drop_zero, List.take_left]

end Go.Proofs.YtamfcmmhmfhhkaaGreatDoor

namespace Go.Proofs.YtamfcmmhmfhhkaaGreatDoor
open Go.RowKit

/-- Pieces with blanks between them. -/
def jn : List (List UInt8) → List UInt8
  | [] => []
  | [x] => x
  | x :: y :: r => x ++ 32 :: jn (y :: r)
theorem ptL_ne (cur r : List UInt8) : ∃ y t, ptL cur r = y :: t := by
  induction r generalizing cur with
  | nil => exact ⟨cur, [], rfl⟩
  | cons b r ih =>
    rw [ptL_cons]
    split
    · exact ⟨_, _, rfl⟩
    · exact ih _
theorem jn_cons (x : List UInt8) {l : List (List UInt8)} (h : l ≠ []) : jn (x :: l) = x ++ 32 :: jn l := by
  cases l with
  | nil => exact absurd rfl h
  | cons y t => rfl
theorem n32 {b : UInt8} (h : b.toNat = 32) : b = 32 := UInt8.toNat_inj.1 (by rw [h]; rfl)
theorem jn_ptL : ∀ (r cur : List UInt8), jn (ptL cur r) = cur ++ r
  | [], cur => by simp [ptL, jn]
  | b :: r, cur => by
    rw [ptL_cons]
    split
    · rename_i h
      obtain ⟨y, t, e⟩ := ptL_ne [] r
      rw [jn_cons cur (by rw [e]; simp), jn_ptL r [], n32 h]
      rfl
    · rw [jn_ptL r (cur ++ [b])]
      simp
theorem ptL_skip : ∀ (x cur r : List UInt8), (∀ b ∈ x, b ≠ 32) → ptL cur (x ++ r) = ptL (cur ++ x) r
  | [], cur, r, _ => by simp
  | b :: x, cur, r, h => by
    rw [List.cons_append, ptL_cons, if_neg (fun e => h b (by simp) (n32 e)), ptL_skip x _ r (fun c hc => h c (by simp [hc]))]
    simp
theorem ptL_jn : ∀ (L : List (List UInt8)), L ≠ [] → (∀ x ∈ L, ∀ b ∈ x, b ≠ 32) → ptL [] (jn L) = L
  | [], h, _ => absurd rfl h
  | [x], _, h => by
    have := ptL_skip x [] [] (h x (by simp))
    rw [List.append_nil] at this
    show ptL [] x = [x]
    rw [this]
    rfl
  | x :: y :: r, _, h => by
    rw [jn_cons x (by simp), ptL_skip x [] _ (h x (by simp)), List.nil_append, ptL_cons, if_pos (by decide), ptL_jn (y :: r) (by simp) (fun z hz => h z (by simp [hz]))]

/-- What stands behind a line's key. -/
def tlP (p : Pn) : List (List UInt8) := [] :: (nameB p.d).toList :: (numsP p).map fun x => (intB x).toList
theorem blB_list : blB.toList = [32] := by rw [ByteArray.toList_eq]; rfl
theorem line_split (p : Pn) : (lineB p).toList = qk p.k ++ jn (tlP p) := by
  unfold lineB
  simp only [txL, ap_toList, blB_list, qk_list]
  simp [tlP, jn, numsP]
theorem nameB_no (d : Int) : ∀ b ∈ (nameB d).toList, b ≠ 32 := by
  unfold nameB
  split
  · rw [ByteArray.toList_eq]; decide
  · split
    · rw [ByteArray.toList_eq]; decide
    · rw [ByteArray.toList_eq]; decide
theorem intB_no (x : Int) : ∀ b ∈ (intB x).toList, b ≠ 32 := by
  intro b hb h
  subst h
  rw [intB_list] at hb
  rcases List.mem_append.1 hb with hb | hb
  · split at hb
    · simp at hb
    · cases hb
  · exact absurd (dec_byte _ _ hb).1 (by decide)
theorem tlP_no (p : Pn) : ∀ x ∈ tlP p, ∀ b ∈ x, b ≠ 32 := by
  intro x hx
  unfold tlP at hx
  rcases List.mem_cons.1 hx with rfl | hx
  · intro b hb; cases hb
  · rcases List.mem_cons.1 hx with rfl | hx
    · exact nameB_no _
    · obtain ⟨y, -, rfl⟩ := List.mem_map.1 hx
      exact intB_no y
theorem tlP_pt (p : Pn) : ptL [] (jn (tlP p)) = tlP p := ptL_jn _ (by unfold tlP; simp) (tlP_no p)

/-- A reader of a quoted key comes to its end. -/
theorem qk_reach {s k : ByteArray} {r : List UInt8} (h : s.toList = qk k ++ r) : ∀ j, j ≤ k.size → KI s (quoL k j).length ((bsL k).take j)
  | 0, _ => by
    have := KI.start s
    rw [show (quoL k 0).length = 1 by simp [quoL], List.take_zero]
    exact this
  | j + 1, hj => by
    have ih := qk_reach h j (by omega)
    rcases KI.cases h (by omega : j ≤ k.size) rfl with ⟨e, -, -⟩ | ⟨c, hc, -, ht, hq, rest, q⟩
    · omega
    · by_cases hp : 32 ≤ c ∧ c ≤ 126 ∧ c ≠ 34 ∧ c ≠ 92
      · rw [esc_plain hp] at q hq
        obtain ⟨hi, h4, -⟩ := head_at q
        have := tbN_nat (n := (c : Int)) (by omega) (by omega)
        have hb : (s[(quoL k j).length]'hi).toNat = c := by rw [h4]; omega
        rw [ht, hq]
        exact KI.plain ih hi hb hp.2.2.1 hp.2.2.2
      · rw [esc_four hp] at q hq
        obtain ⟨hi, h4, -⟩ := head_at q
        have hb : (s[(quoL k j).length]'hi).toNat = 92 := by rw [h4]; rfl
        rw [hq]
        intro k2 r2 h2
        obtain ⟨l4, -, -, j2, g1, g2, g3⟩ := KI.esc ih hi hb k2 r2 h2
        obtain ⟨l4', -, -, j1, f1, f2, f3⟩ := KI.esc ih hi hb k r h
        refine ⟨j2, g1, g2, ?_⟩
        rw [← g3, ht]
        congr 1
        have e1 : (quoL k j1).length = (quoL k (j + 1)).length := by rw [hq, ← f2]; rfl
        have l1 : ((bsL k).take j1).length = j + 1 := by rw [← f3, List.length_append, List.length_take, bsL_len]; simp; omega
        have l2 : j1 = j + 1 := by rw [List.length_take, bsL_len] at l1; omega
        rw [l2, ht] at f3
        exact (List.append_cancel_left f3).symm
theorem qk_inj {k k' : ByteArray} {r r' : List UInt8} (h : qk k ++ r = qk k' ++ r') : k = k' ∧ r = r' := by
  obtain ⟨s, hs⟩ : ∃ s : ByteArray, s.toList = qk k ++ r := ⟨⟨(qk k ++ r).toArray⟩, by rw [ByteArray.toList_eq]⟩
  have hR := qk_reach hs k.size (Nat.le_refl _)
  rcases KI.cases hs (Nat.le_refl k.size) rfl with ⟨-, q, q2⟩ | ⟨c, -, hlt, -⟩
  · obtain ⟨hi, h4, -⟩ := head_at q
    obtain ⟨e1, e2⟩ := KI.last hR hi (by rw [h4]; rfl) k' r' (hs.trans h)
    rw [List.take_of_length_le (by rw [bsL_len]; omega)] at e1
    have e : k = k' := by rw [← strOf_bs k, e1, strOf_bs]
    subst e
    exact ⟨rfl, List.append_cancel_left h⟩
  · omega

/-- What a line can be read as. -/
def ParR (s : ByteArray) : Option Pn → Prop
  | some p => mayP p = true ∧ NumOk p ∧ lineB p = s
  | none => ∀ p, mayP p = true → NumOk p → lineB p ≠ s
theorem may_kind {p : Pn} (h : mayP p = true) : 1 ≤ p.d ∧ p.d ≤ 3 := by
  unfold mayP at h
  exact (of_decide_eq_true h).2
theorem name_inj {d e : Int} (h1 : 1 ≤ d ∧ d ≤ 3) (h2 : 1 ≤ e ∧ e ≤ 3) (h : (nameB d).toList = (nameB e).toList) : d = e := by
  rw [ByteArray.toList_eq, ByteArray.toList_eq] at h
  rcases (by omega : d = 1 ∨ d = 2 ∨ d = 3) with rfl | rfl | rfl <;> rcases (by omega : e = 1 ∨ e = 2 ∨ e = 3) with rfl | rfl | rfl <;> first | rfl | (exact absurd h (by decide))
theorem int_inj {x y : Int} (h : (intB x).toList = (intB y).toList) : x = y := by
  have := congrArg numV (ba_ext h)
  rwa [numV_int, numV_int] at this
theorem line_inj {p q : Pn} (hp : mayP p = true) (hq : mayP q = true) (h : lineB p = lineB q) : p = q := by
  have h2 : qk p.k ++ jn (tlP p) = qk q.k ++ jn (tlP q) := by rw [← line_split, ← line_split, h]
  obtain ⟨hk, ht⟩ := qk_inj h2
  have h3 : tlP p = tlP q := by rw [← tlP_pt p, ← tlP_pt q, ht]
  obtain ⟨k, a, b, d, n, ⟨c0, c1, c2, c3⟩⟩ := p
  obtain ⟨k', a', b', d', n', ⟨c0', c1', c2', c3'⟩⟩ := q
  unfold tlP at h3
  simp only [numsP, List.map_cons, List.map_nil, List.cons.injEq, and_true, true_and] at h3
  obtain ⟨e0, e1, e2, e3, e4, e5, e6, e7⟩ := h3
  have := name_inj (may_kind hp) (may_kind hq) e0
  have i1 := int_inj e1
  have i2 := int_inj e2
  have i3 := int_inj e3
  have i4 := int_inj e4
  have i5 := int_inj e5
  have i6 := int_inj e6
  have i7 := int_inj e7
  simp only at hk this i1 i2 i3 i4 i5 i6 i7
  subst hk this i1 i2 i3 i4 i5 i6 i7
  rfl
theorem ParR.one {s : ByteArray} {o o' : Option Pn} (h : ParR s o) (h' : ParR s o') : o = o' := by
  cases o with
  | none =>
    cases o' with
    | none => rfl
    | some q => exact absurd h'.2.2 (h q h'.1 h'.2.1)
  | some p =>
    cases o' with
    | none => exact absurd h.2.2 (h' p h.1 h.2.1)
    | some q => rw [line_inj h.1 h'.1 (h.2.2.trans h'.2.2.symm)]

/-- A line and what its parts are. -/
theorem par_iff {s k : ByteArray} {n : Nat} {L : List ByteArray} (hk : KeyR s k n) (hn : n ≠ 0) (hL : L.map (·.toList) = ptB (s.extract n s.size)) (p : Pn) : lineB p = s ↔ k = p.k ∧ L.map (·.toList) = tlP p := by
  obtain ⟨h1, -, h3, h4⟩ := hk
  have hd : (s.extract n s.size).toList = s.toList.drop n := by
    rw [ex_toList, List.take_of_length_le (by rw [List.length_drop, tl_len]; omega)]
  have hs : s.toList = qk k ++ s.toList.drop n := by rw [← h3 hn, List.take_append_drop]
  constructor
  · intro e
    have e2 : s.toList = qk p.k ++ jn (tlP p) := by rw [← e, line_split]
    obtain ⟨q1, q2⟩ := h4 _ _ e2
    refine ⟨q1, ?_⟩
    rw [hL]
    unfold ptB
    rw [hd]
    have e3 : s.toList.drop n = jn (tlP p) := by
      rw [q1, e2] at hs
      exact (List.append_cancel_left (hs.trans (by rw [← e2]))).symm
    rw [e3, tlP_pt]
  · rintro ⟨rfl, e⟩
    apply ba_ext
    rw [line_split, ← e, hL]
    unfold ptB
    rw [jn_ptL, List.nil_append, hd]
    exact hs.symm

/-- The kind of a word: the last of the first m. -/
def kdN (t : ByteArray) : Nat → Int
  | 0 => 0
  | m + 1 => if nameB ((m : Int) + 1) = t then (m : Int) + 1 else kdN t m
theorem kdN_some {t : ByteArray} : ∀ m, kdN t m = 0 ∨ (1 ≤ kdN t m ∧ kdN t m ≤ m ∧ nameB (kdN t m) = t)
  | 0 => .inl rfl
  | m + 1 => by
    rw [kdN]
    split
    · right; refine ⟨by omega, by omega, by assumption⟩
    · rcases kdN_some (t := t) m with h | ⟨h1, h2, h3⟩
      · exact .inl h
      · exact .inr ⟨h1, by omega, h3⟩
theorem kdN_name {d : Int} (h : 1 ≤ d ∧ d ≤ 3) : kdN (nameB d) 3 = d := by
  rcases (by omega : d = 1 ∨ d = 2 ∨ d = 3) with rfl | rfl | rfl <;> decide

end Go.Proofs.YtamfcmmhmfhhkaaGreatDoor
