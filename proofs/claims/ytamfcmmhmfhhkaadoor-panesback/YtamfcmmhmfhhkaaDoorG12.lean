/- Key: a quoted key read (the document's; the walk). Parse: a pane out of a line (the mathematics). Parse: a pane out of a line (the document's; the walk). -/
import Derived.Test.YtamfcmmhmfhhkaaDoorG11
import Derived.Test.YtamfcmmhmfhhkaaDoorG9
namespace Go.Proofs.YtamfcmmhmfhhkaaDoor
open Go.RowKit

/-- What Key answers of a text. -/
def KeyR (s k : ByteArray) (n : Nat) : Prop := n ≤ s.size ∧ k.size ≤ s.size ∧ (n ≠ 0 → s.toList.take n = qk k) ∧ ∀ k' r, s.toList = qk k' ++ r → k = k' ∧ n = (quoA k').length
theorem KeyR.none {s : ByteArray} (h : ∀ k r, s.toList ≠ qk k ++ r) : KeyR s ⟨#[]⟩ 0 := ⟨Nat.zero_le _, Nat.zero_le _, fun h => absurd rfl h, fun k r e => absurd e (h k r)⟩
theorem ba_ext {a b : ByteArray} (h : a.toList = b.toList) : a = b := by
  rw [ByteArray.toList_eq, ByteArray.toList_eq] at h
  exact ByteArray.ext (Array.toList_inj.1 h)
theorem KeyR.some {s : ByteArray} {i : Nat} {A : List Int} (h : KI s i A) (hi : i < s.size) (hb : (s[i]'hi).toNat = 34) (hA : A.length ≤ i) (he : strOfNums (quoA (strOfNums A)) = s.extract 0 (i + 1)) : KeyR s (strOfNums A) (i + 1) := by
  refine ⟨hi, by rw [strOfNums_size]; omega, fun _ => ?_, fun k' r e => ?_⟩
  · rw [← qk_list, he, ex_toList]
    rfl
  · obtain ⟨h1, h2⟩ := KI.last h hi hb k' r e
    exact ⟨by rw [h1, strOf_bs], h2⟩
theorem KeyR.other {s : ByteArray} {i : Nat} {A : List Int} (h : KI s i A) (hi : i < s.size) (hb : (s[i]'hi).toNat = 34) (he : strOfNums (quoA (strOfNums A)) ≠ s.extract 0 (i + 1)) : KeyR s ⟨#[]⟩ 0 := KeyR.none fun k' r e => by
  obtain ⟨h1, h2⟩ := KI.last h hi hb k' r e
  apply he
  rw [h1, strOf_bs]
  apply ba_ext
  rw [qk_list, ex_toList, h2, e]
  have e3 : (quoA k').length - 0 = (qk k').length := by rw [qk_len]; omega
  rw [e3, List.drop_zero, List.take_left]

end Go.Proofs.YtamfcmmhmfhhkaaDoor

namespace Go.Proofs.YtamfcmmhmfhhkaaDoor
open Go.RowKit

/-- Pieces with blanks between them. -/
def jn : List (List UInt8) → List UInt8
  | [] => []
  | [x] => x
  | x :: y :: r => x ++ 32 :: jn (y :: r)
theorem ptL_ne (cur r : List UInt8) : ∃ y t, ptL cur r = y :: t := by
  induction r generalizing cur with
  | nil => exact ⟨cur, [], rfl⟩
  | cons b r ih =>
    rw [ptL_cons]
    split
    · exact ⟨_, _, rfl⟩
    · exact ih _
theorem jn_cons (x : List UInt8) {l : List (List UInt8)} (h : l ≠ []) : jn (x :: l) = x ++ 32 :: jn l := by
  cases l with
  | nil => exact absurd rfl h
  | cons y t => rfl
theorem n32 {b : UInt8} (h : b.toNat = 32) : b = 32 := UInt8.toNat_inj.1 (by rw [h]; rfl)
theorem jn_ptL : ∀ (r cur : List UInt8), jn (ptL cur r) = cur ++ r
  | [], cur => by simp [ptL, jn]
  | b :: r, cur => by
    rw [ptL_cons]
    split
    · rename_i h
      obtain ⟨y, t, e⟩ := ptL_ne [] r
      rw [jn_cons cur (by rw [e]; simp), jn_ptL r [], n32 h]
      rfl
    · rw [jn_ptL r (cur ++ [b])]
      simp
theorem ptL_skip : ∀ (x cur r : List UInt8), (∀ b ∈ x, b ≠ 32) → ptL cur (x ++ r) = ptL (cur ++ x) r
  | [], cur, r, _ => by simp
  | b :: x, cur, r, h => by
    rw [List.cons_append, ptL_cons, if_neg (fun e => h b (by simp) (n32 e)), ptL_skip x _ r (fun c hc => h c (by simp [hc]))]
    simp
theorem ptL_jn : ∀ (L : List (List UInt8)), L ≠ [] → (∀ x ∈ L, ∀ b ∈ x, b ≠ 32) → ptL [] (jn L) = L
  | [], h, _ => absurd rfl h
  | [x], _, h => by
    have := ptL_skip x [] [] (h x (by simp))
    rw [List.append_nil] at this
    show ptL [] x = [x]
    rw [this]
    rfl
  | x :: y :: r, _, h => by
    rw [jn_cons x (by simp), ptL_skip x [] _ (h x (by simp)), List.nil_append, ptL_cons, if_pos (by decide), ptL_jn (y :: r) (by simp) (fun z hz => h z (by simp [hz]))]

/-- What stands behind a line's key. -/
def tlP (p : Pn) : List (List UInt8) := [] :: (nameB p.d).toList :: (numsP p).map fun x => (intB x).toList
theorem blB_list : blB.toList = [32] := by rw [ByteArray.toList_eq]; rfl
theorem line_split (p : Pn) : (lineB p).toList = qk p.k ++ jn (tlP p) := by
  unfold lineB
  simp only [txL, ap_toList, blB_list, qk_list]
  simp [tlP, jn, numsP]
theorem nameB_no (d : Int) : ∀ b ∈ (nameB d).toList, b ≠ 32 := by
  unfold nameB
  split
  · rw [ByteArray.toList_eq]; decide
  · split
    · rw [ByteArray.toList_eq]; decide
    · rw [ByteArray.toList_eq]; decide
theorem intB_no (x : Int) : ∀ b ∈ (intB x).toList, b ≠ 32 := by
  intro b hb h
  subst h
  rw [intB_list] at hb
  rcases List.mem_append.1 hb with hb | hb
  · split at hb
    · simp at hb
    · cases hb
  · exact absurd (dec_byte _ _ hb).1 (by decide)
theorem tlP_no (p : Pn) : ∀ x ∈ tlP p, ∀ b ∈ x, b ≠ 32 := by
  intro x hx
  unfold tlP at hx
  rcases List.mem_cons.1 hx with rfl | hx
  · intro b hb; cases hb
  · rcases List.mem_cons.1 hx with rfl | hx
    · exact nameB_no _
    · obtain ⟨y, -, rfl⟩ := List.mem_map.1 hx
      exact intB_no y
theorem tlP_pt (p : Pn) : ptL [] (jn (tlP p)) = tlP p := ptL_jn _ (by unfold tlP; simp) (tlP_no p)

/-- A reader of a quoted key comes to its end. -/
theorem qk_reach {s k : ByteArray} {r : List UInt8} (h : s.toList = qk k ++ r) : ∀ j, j ≤ k.size → KI s (quoL k j).length ((bsL k).take j)
  | 0, _ => by
    have := KI.start s
    rw [show (quoL k 0).length = 1 by simp [quoL], List.take_zero]
    exact this
  | j + 1, hj => by
    have ih := qk_reach h j (by omega)
    rcases KI.cases h (by omega : j ≤ k.size) rfl with ⟨e, -, -⟩ | ⟨c, hc, -, ht, hq, rest, q⟩
    · omega
    · by_cases hp : 32 ≤ c ∧ c ≤ 126 ∧ c ≠ 34 ∧ c ≠ 92
      · rw [esc_plain hp] at q hq
        obtain ⟨hi, h4, -⟩ := head_at q
        have := tbN_nat (n := (c : Int)) (by omega) (by omega)
        have hb : (s[(quoL k j).length]'hi).toNat = c := by rw [h4]; omega
        rw [ht, hq]
        exact KI.plain ih hi hb hp.2.2.1 hp.2.2.2
      · rw [esc_four hp] at q hq
        obtain ⟨hi, h4, -⟩ := head_at q
        have hb : (s[(quoL k j).length]'hi).toNat = 92 := by rw [h4]; rfl
        rw [hq]
        intro k2 r2 h2
        obtain ⟨l4, -, -, j2, g1, g2, g3⟩ := KI.esc ih hi hb k2 r2 h2
        obtain ⟨l4', -, -, j1, f1, f2, f3⟩ := KI.esc ih hi hb k r h
        refine ⟨j2, g1, g2, ?_⟩
        rw [← g3, ht]
        congr 1
        have e1 : (quoL k j1).length = (quoL k (j + 1)).length := by rw [hq, ← f2]; rfl
        have l1 : ((bsL k).take j1).length = j + 1 := by rw [← f3, List.length_append, List.length_take, bsL_len]; simp; omega
        have l2 : j1 = j + 1 := by rw [List.length_take, bsL_len] at l1; omega
        rw [l2, ht] at f3
        exact (List.append_cancel_left f3).symm
theorem qk_inj {k k' : ByteArray} {r r' : List UInt8} (h : qk k ++ r = qk k' ++ r') : k = k' ∧ r = r' := by
  obtain ⟨s, hs⟩ : ∃ s : ByteArray, s.toList = qk k ++ r := ⟨⟨(qk k ++ r).toArray⟩, by rw [ByteArray.toList_eq]⟩
  have hR := qk_reach hs k.size (Nat.le_refl _)
  rcases KI.cases hs (Nat.le_refl k.size) rfl with ⟨-, q, q2⟩ | ⟨c, -, hlt, -⟩
  · obtain ⟨hi, h4, -⟩ := head_at q
    obtain ⟨e1, e2⟩ := KI.last hR hi (by rw [h4]; rfl) k' r' (hs.trans h)
    rw [List.take_of_length_le (by rw [bsL_len]; omega)] at e1
    have e : k = k' := by rw [← strOf_bs k, e1, strOf_bs]
    subst e
    exact ⟨rfl, List.append_cancel_left h⟩
  · omega

/-- What a line can be read as. -/
def ParR (s : ByteArray) : Option Pn → Prop
  | some p => mayP p = true ∧ NumOk p ∧ lineB p = s
  | none => ∀ p, mayP p = true → NumOk p → lineB p ≠ s
theorem may_kind {p : Pn} (h : mayP p = true) : 1 ≤ p.d ∧ p.d ≤ 3 := by
  unfold mayP at h
  exact (of_decide_eq_true h).2
theorem name_inj {d e : Int} (h1 : 1 ≤ d ∧ d ≤ 3) (h2 : 1 ≤ e ∧ e ≤ 3) (h : (nameB d).toList = (nameB e).toList) : d = e := by
  rw [ByteArray.toList_eq, ByteArray.toList_eq] at h
  rcases (by omega : d = 1 ∨ d = 2 ∨ d = 3) with rfl | rfl | rfl <;> rcases (by omega : e = 1 ∨ e = 2 ∨ e = 3) with rfl | rfl | rfl <;> first | rfl | (exact absurd h (by decide))
theorem int_inj {x y : Int} (h : (intB x).toList = (intB y).toList) : x = y := by
  have := congrArg numV (ba_ext h)
  rwa [numV_int, numV_int] at this
theorem line_inj {p q : Pn} (hp : mayP p = true) (hq : mayP q = true) (h : lineB p = lineB q) : p = q := by
  have h2 : qk p.k ++ jn (tlP p) = qk q.k ++ jn (tlP q) := by rw [← line_split, ← line_split, h]
  obtain ⟨hk, ht⟩ := qk_inj h2
  have h3 : tlP p = tlP q := by rw [← tlP_pt p, ← tlP_pt q, ht]
  obtain ⟨k, a, b, d, n, ⟨c0, c1, c2, c3⟩⟩ := p
  obtain ⟨k', a', b', d', n', ⟨c0', c1', c2', c3'⟩⟩ := q
  unfold tlP at h3
  simp only [numsP, List.map_cons, List.map_nil, List.cons.injEq, and_true, true_and] at h3
  obtain ⟨e0, e1, e2, e3, e4, e5, e6, e7⟩ := h3
  have := name_inj (may_kind hp) (may_kind hq) e0
  have i1 := int_inj e1
  have i2 := int_inj e2
  have i3 := int_inj e3
  have i4 := int_inj e4
  have i5 := int_inj e5
  have i6 := int_inj e6
  have i7 := int_inj e7
  simp only at hk this i1 i2 i3 i4 i5 i6 i7
  subst hk this i1 i2 i3 i4 i5 i6 i7
  rfl
theorem ParR.one {s : ByteArray} {o o' : Option Pn} (h : ParR s o) (h' : ParR s o') : o = o' := by
  cases o with
  | none =>
    cases o' with
    | none => rfl
    | some q => exact absurd h'.2.2 (h q h'.1 h'.2.1)
  | some p =>
    cases o' with
    | none => exact absurd h.2.2 (h' p h.1 h.2.1)
    | some q => rw [line_inj h.1 h'.1 (h.2.2.trans h'.2.2.symm)]

/-- A line and what its parts are. -/
theorem par_iff {s k : ByteArray} {n : Nat} {L : List ByteArray} (hk : KeyR s k n) (hn : n ≠ 0) (hL : L.map (·.toList) = ptB (s.extract n s.size)) (p : Pn) : lineB p = s ↔ k = p.k ∧ L.map (·.toList) = tlP p := by
  obtain ⟨h1, -, h3, h4⟩ := hk
  have hd : (s.extract n s.size).toList = s.toList.drop n := by
    rw [ex_toList, List.take_of_length_le (by rw [List.length_drop, tl_len]; omega)]
  have hs : s.toList = qk k ++ s.toList.drop n := by rw [← h3 hn, List.take_append_drop]
  constructor
  · intro e
    have e2 : s.toList = qk p.k ++ jn (tlP p) := by rw [← e, line_split]
    obtain ⟨q1, q2⟩ := h4 _ _ e2
    refine ⟨q1, ?_⟩
    rw [hL]
    unfold ptB
    rw [hd]
    have e3 : s.toList.drop n = jn (tlP p) := by
      rw [q1, e2] at hs
      exact (List.append_cancel_left (hs.trans (by rw [← e2]))).symm
    rw [e3, tlP_pt]
  · rintro ⟨rfl, e⟩
    apply ba_ext
    rw [line_split, ← e, hL]
    unfold ptB
    rw [jn_ptL, List.nil_append, hd]
    exact hs.symm

/-- The kind of a word: the last of the first m. -/
def kdN (t : ByteArray) : Nat → Int
  | 0 => 0
  | m + 1 => if nameB ((m : Int) + 1) = t then (m : Int) + 1 else kdN t m
theorem kdN_some {t : ByteArray} : ∀ m, kdN t m = 0 ∨ (1 ≤ kdN t m ∧ kdN t m ≤ m ∧ nameB (kdN t m) = t)
  | 0 => .inl rfl
  | m + 1 => by
    rw [kdN]
    split
    · right; refine ⟨by omega, by omega, by assumption⟩
    · rcases kdN_some (t := t) m with h | ⟨h1, h2, h3⟩
      · exact .inl h
      · exact .inr ⟨h1, by omega, h3⟩
theorem kdN_name {d : Int} (h : 1 ≤ d ∧ d ≤ 3) : kdN (nameB d) 3 = d := by
  rcases (by omega : d = 1 ∨ d = 2 ∨ d = 3) with rfl | rfl | rfl <;> decide

end Go.Proofs.YtamfcmmhmfhhkaaDoor

namespace Go.Proofs.YtamfcmmhmfhhkaaDoor
open Go.RowKit

def parV : Option Pn → Value
  | some p => .tuple #[pnv p, .bool true]
  | none => .tuple #[pnv pn0, .bool false]
theorem jn_pos (p : Pn) : 0 < (jn (tlP p)).length := by
  unfold tlP
  rw [jn_cons _ (by simp)]
  simp
theorem par_early {s k : ByteArray} {n : Nat} (hk : KeyR s k n) (h : n = 0 ∨ s.size ≤ n) : ParR s none := fun p _ _ e => by
  have e2 : s.toList = qk p.k ++ jn (tlP p) := by rw [← e, line_split]
  obtain ⟨-, q2⟩ := hk.2.2.2 _ _ e2
  have l1 := congrArg List.length e2
  rw [List.length_append, tl_len, qk_len] at l1
  have := jn_pos p
  have h3 : 0 < (quoA p.k).length := by unfold quoA quoL; simp
  omega
theorem par_short {s k : ByteArray} {n : Nat} {L : List ByteArray} (hk : KeyR s k n) (hn : n ≠ 0) (hL : L.map (·.toList) = ptB (s.extract n s.size)) (h : L.length ≠ 9 ∨ (L.getD 0 ⟨#[]⟩).toList ≠ []) : ParR s none := fun p _ _ e => by
  obtain ⟨-, q⟩ := (par_iff hk hn hL p).1 e
  have l1 := congrArg List.length q
  rw [List.length_map] at l1
  have l2 : (tlP p).length = 9 := rfl
  rcases h with h | h
  · omega
  · cases L with
    | nil => simp at l1; omega
    | cons x L =>
      unfold tlP at q
      rw [List.map_cons] at q
      injection q with q1 q2
      exact h q1
theorem ptL_le : ∀ (r cur : List UInt8), ∀ z ∈ ptL cur r, z.length ≤ cur.length + r.length
  | [], cur, z, h => by simp [ptL] at h; subst h; simp
  | b :: r, cur, z, h => by
    rw [ptL_cons] at h
    split at h
    · rcases List.mem_cons.1 h with rfl | h
      · omega
      · have := ptL_le r [] z h
        simp only [List.length_nil, List.length_cons] at *
        omega
    · have := ptL_le r (cur ++ [b]) z h
      simp only [List.length_append, List.length_cons, List.length_nil] at *
      omega
theorem pc_size {L : List ByteArray} {t : ByteArray} (h : L.map (·.toList) = ptB t) (ht : t.size ≤ 900000) (j : Nat) : (L.getD j ⟨#[]⟩).size ≤ 900000 := by
  rw [List.getD_eq_getElem?_getD]
  by_cases hj : j < L.length
  · rw [List.getElem?_eq_getElem hj]
    have hm : L[j].toList ∈ ptB t := by rw [← h]; exact List.mem_map.2 ⟨L[j], List.getElem_mem hj, rfl⟩
    have := ptL_le _ _ _ hm
    rw [tl_len, tl_len] at this
    simp only [List.length_nil] at this
    show L[j].size ≤ _
    omega
  · rw [List.getElem?_eq_none (by omega)]
    show (0 : Nat) ≤ _
    omega
/-- Seven numbers. -/
abbrev f7c (f : Nat → Int) : Array Value := #[.int .i64 (f 0), .int .i64 (f 1), .int .i64 (f 2), .int .i64 (f 3), .int .i64 (f 4), .int .i64 (f 5), .int .i64 (f 6)]
theorem f7_cells {w : World} {b : Nat} {f : Nat → Int} {ty : TypeId} (h : w.heap[b]? = some (.cells (f7c f) ty (0, 0))) (j : Nat) (hj : j < 7) : w.cell? ⟨b, j, none⟩ = some (.int .i64 (f j)) := by
  rcases (by omega : j = 0 ∨ j = 1 ∨ j = 2 ∨ j = 3 ∨ j = 4 ∨ j = 5 ∨ j = 6) with rfl | rfl | rfl | rfl | rfl | rfl | rfl <;> simp [World.cell?, h]
def upG (f : Nat → Int) (j : Nat) (v : Int) : Nat → Int := fun k => if k = j then v else f k
theorem f7c_up (f : Nat → Int) (j : Nat) (v : Int) (hj : j < 7) : (f7c f).setIfInBounds j (.int .i64 v) = f7c (upG f j v) := by
  rcases (by omega : j = 0 ∨ j = 1 ∨ j = 2 ∨ j = 3 ∨ j = 4 ∨ j = 5 ∨ j = 6) with rfl | rfl | rfl | rfl | rfl | rfl | rfl <;> rfl
def ynF (L : List ByteArray) (j : Nat) : Int := (numP (L.getD (2 + j) ⟨#[]⟩)).getD 0
def yF (L : List ByteArray) (i : Nat) : Nat → Int := fun k => if k < i then ynF L k else 0
theorem yF_next (L : List ByteArray) (i : Nat) : upG (yF L i) i (ynF L i) = yF L (i + 1) := by
  funext k
  unfold upG yF
  by_cases h : k = i
  · rw [if_pos h, h, if_pos (by omega)]
  · rw [if_neg h]
    by_cases h2 : k < i
    · rw [if_pos h2, if_pos (by omega)]
    · rw [if_neg h2, if_neg (by omega)]
theorem yF_zero (L : List ByteArray) : yF L 0 = fun _ => 0 := by
  funext k
  unfold yF
  rw [if_neg (by omega)]
/-- The pane that a line's parts tell. -/
def parQ (k : ByteArray) (L : List ByteArray) : Pn := ⟨k, ynF L 0, ynF L 1, kdN (L.getD 1 ⟨#[]⟩) 3, ynF L 2, ⟨ynF L 3, ynF L 4, ynF L 5, ynF L 6⟩⟩
theorem list9 {L : List ByteArray} (h : L.length = 9) : ∃ a0 a1 a2 a3 a4 a5 a6 a7 a8, L = [a0, a1, a2, a3, a4, a5, a6, a7, a8] := by
  match L, h with
  | [a0, a1, a2, a3, a4, a5, a6, a7, a8], _ => exact ⟨a0, a1, a2, a3, a4, a5, a6, a7, a8, rfl⟩
theorem num_own {x : Int} (h : I64n x) {t : ByteArray} (e : t.toList = (intB x).toList) : numP t = some x := numP_some.2 ⟨h, (ba_ext e).symm⟩
theorem par_parts {s k : ByteArray} {L : List ByteArray} (PI : ∀ p, lineB p = s ↔ k = p.k ∧ L.map (·.toList) = tlP p) (h9 : L.length = 9) (p : Pn) (hp : NumOk p) (e : lineB p = s) : k = p.k ∧ (L.getD 1 ⟨#[]⟩).toList = (nameB p.d).toList ∧ ∀ j, j < 7 → numP (L.getD (2 + j) ⟨#[]⟩) = some ((numsP p).getD j 0) := by
  obtain ⟨h1, h2⟩ := (PI p).1 e
  obtain ⟨a0, a1, a2, a3, a4, a5, a6, a7, a8, rfl⟩ := list9 h9
  refine ⟨h1, ?_⟩
  unfold tlP at h2
  simp only [numsP, List.map_cons, List.map_nil, List.cons.injEq, and_true] at h2
  obtain ⟨-, e1, e2, e3, e4, e5, e6, e7, e8⟩ := h2
  refine ⟨e1, fun j hj => ?_⟩
  have hI : I64n ((numsP p).getD j 0) := hp j hj
  rcases (by omega : j = 0 ∨ j = 1 ∨ j = 2 ∨ j = 3 ∨ j = 4 ∨ j = 5 ∨ j = 6) with rfl | rfl | rfl | rfl | rfl | rfl | rfl
  · exact num_own hI e2
  · exact num_own hI e3
  · exact num_own hI e4
  · exact num_own hI e5
  · exact num_own hI e6
  · exact num_own hI e7
  · exact num_own hI e8
theorem par_num {s k : ByteArray} {L : List ByteArray} (PI : ∀ p, lineB p = s ↔ k = p.k ∧ L.map (·.toList) = tlP p) (h9 : L.length = 9) {j : Nat} (hj : j < 7) (h : numP (L.getD (2 + j) ⟨#[]⟩) = none) : ParR s none := fun p _ hn e => by
  have := (par_parts PI h9 p hn e).2.2 j hj
  rw [h] at this
  cases this
theorem par_no {s k : ByteArray} {L : List ByteArray} (PI : ∀ p, lineB p = s ↔ k = p.k ∧ L.map (·.toList) = tlP p) (h9 : L.length = 9) (hm : mayP (parQ k L) = false) : ParR s none := fun p hp hn e => by
  obtain ⟨h1, h2, h3⟩ := par_parts PI h9 p hn e
  have hd : kdN (L.getD 1 ⟨#[]⟩) 3 = p.d := by rw [ba_ext h2]; exact kdN_name (may_kind hp)
  have hy : ∀ j, j < 7 → ynF L j = (numsP p).getD j 0 := fun j hj => by unfold ynF; rw [h3 j hj]; rfl
  have : parQ k L = p := by
    unfold parQ
    rw [hd, hy 0 (by omega), hy 1 (by omega), hy 2 (by omega), hy 3 (by omega), hy 4 (by omega), hy 5 (by omega), hy 6 (by omega), h1]
    rfl
  rw [this, hp] at hm
  cases hm
theorem par_yes {s k : ByteArray} {L : List ByteArray} (PI : ∀ p, lineB p = s ↔ k = p.k ∧ L.map (·.toList) = tlP p) (h9 : L.length = 9) (h0 : (L.getD 0 ⟨#[]⟩).toList = []) (hs : ∀ j, j < 7 → numP (L.getD (2 + j) ⟨#[]⟩) = some (ynF L j)) (hm : mayP (parQ k L) = true) : ParR s (some (parQ k L)) := by
  have hn : NumOk (parQ k L) := fun j hj => by
    have e : (numsP (parQ k L)).getD j 0 = ynF L j := by
      rcases (by omega : j = 0 ∨ j = 1 ∨ j = 2 ∨ j = 3 ∨ j = 4 ∨ j = 5 ∨ j = 6) with rfl | rfl | rfl | rfl | rfl | rfl | rfl <;> rfl
    rw [e]
    exact (numP_some.1 (hs j hj)).1
  refine ⟨hm, hn, (PI _).2 ⟨rfl, ?_⟩⟩
  have hd : nameB (kdN (L.getD 1 ⟨#[]⟩) 3) = L.getD 1 ⟨#[]⟩ := by
    have h1 := (may_kind hm).1
    rcases kdN_some (t := L.getD 1 ⟨#[]⟩) 3 with h | ⟨-, -, h⟩
    · unfold parQ at h1; rw [h] at h1; simp at h1
    · exact h
  have hi : ∀ j, j < 7 → (intB (ynF L j)).toList = (L.getD (2 + j) ⟨#[]⟩).toList := fun j hj => by rw [(numP_some.1 (hs j hj)).2]
  have i0 := hi 0 (by omega)
  have i1 := hi 1 (by omega)
  have i2 := hi 2 (by omega)
  have i3 := hi 3 (by omega)
  have i4 := hi 4 (by omega)
  have i5 := hi 5 (by omega)
  have i6 := hi 6 (by omega)
  have e1 : tlP (parQ k L) = [[], (L.getD 1 ⟨#[]⟩).toList, (L.getD 2 ⟨#[]⟩).toList, (L.getD 3 ⟨#[]⟩).toList, (L.getD 4 ⟨#[]⟩).toList, (L.getD 5 ⟨#[]⟩).toList, (L.getD 6 ⟨#[]⟩).toList, (L.getD 7 ⟨#[]⟩).toList, (L.getD 8 ⟨#[]⟩).toList] := by
    unfold tlP parQ
    simp only [numsP, List.map_cons, List.map_nil]
    rw [hd, i0, i1, i2, i3, i4, i5, i6]
  rw [e1]
  obtain ⟨a0, a1, a2, a3, a4, a5, a6, a7, a8, rfl⟩ := list9 h9
  simp only [List.map_cons, List.map_nil]
  have h0' : a0.toList = [] := h0
  rw [h0']
  rfl
/-- A result that lies in a block of its own, one that does not. -/
theorem results_cell_one {P : Program} {fn : Func} {p u : Tmp} {ty : TypeId} (h : fn.results = #[.cell p ty, .tmp u]) (tmps : Array Value) (w : World) (g : Nat) (t : TypeId) (cs : Array Value) (fr : Nat × Nat) (d : TypeDesc)
    (hp : tmps.getD p undef = .pointer (some ⟨g, 0, none⟩)) (hg : w.heap[g]? = some (.cells cs t fr)) (hu : P.underlying ty = some d) (hd : (match d with | .struct _ | .array _ _ => true | _ => false) = true) (hi : (P.info? ty).map (·.size) = some cs.size) (v : Value) (hv : tmps.getD u undef = v) :
    (results fn tmps).run P w = .ok (.tuple #[.agg cs, v]) w := by
  have hp' : tmps[p]?.getD undef = .pointer (some ⟨g, 0, none⟩) := by simpa using hp
  have hv' : tmps[u]?.getD undef = v := by simpa using hv
  simp [results, h, hp', hv', asAddr, run_loadVar_row w g t ty cs fr d hg hu hd hi]

end Go.Proofs.YtamfcmmhmfhhkaaDoor
