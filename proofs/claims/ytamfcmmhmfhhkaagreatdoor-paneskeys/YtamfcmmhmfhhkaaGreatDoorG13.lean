/- Parse: a pane out of a line (the document's; the walk). Read: panes out of lines (the mathematics). The program's small answers: does a byte stand for itself, may a pane be; comparisons. Where the library's functions lie in the program. -/
import Derived.Test.YtamfcmmhmfhhkaaGreatDoorG12
import Derived.Test.YtamfcmmhmfhhkaaGreatDoorG9
import Derived.Test.YtamfcmmhmfhhkaaGreatDoorG3
import Derived.Shelf.LaysM
import Derived.Shelf.LaysC
import Derived.Shelf.Small.Strs
import Derived.Shelf.Strconv.AppendIntPublic10
import Derived.Shelf.Strconv.ParseIntPublic10
import Derived.Shelf.Strconv.Itoa3
import Derived.Shelf.Strconv.Clone
import Derived.Test.YtamfcmmhmfhhkaaGreatDoorProg
namespace Go.Proofs.YtamfcmmhmfhhkaaGreatDoor
open Go.RowKit

def parV : Option Pn → Value
  | some p => .tuple #[pnv p, .bool true]
  | none => .tuple #[pnv pn0, .bool false]
theorem jn_pos (p : Pn) : 0 < (jn (tlP p)).length := by
  unfold tlP
  rw [jn_cons _ (by simp)]
  simp
theorem par_early {s k : ByteArray} {n : Nat} (hk : KeyR s k n) (h : n = 0 ∨ s.size ≤ n) : ParR s none := fun p _ _ e => by
  have e2 : s.toList = qk p.k ++ jn (tlP p) := by rw [← e, line_split]
  obtain ⟨-, q2⟩ := hk.2.2.2 _ _ e2
  have l1 := congrArg List.length e2
  rw [List.length_append, tl_len, qk_len] at l1
  have := jn_pos p
  have h3 : 0 < (quoA p.k).length := by unfold quoA quoL; simp
  omega
theorem par_short {s k : ByteArray} {n : Nat} {L : List ByteArray} (hk : KeyR s k n) (hn : n ≠ 0) (hL : L.map (·.toList) = ptB (s.extract n s.size)) (h : L.length ≠ 9 ∨ (L.getD 0 ⟨#[]⟩).toList ≠ []) : ParR s none := fun p _ _ e => by
  obtain ⟨-, q⟩ := (par_iff hk hn hL p).1 e
  have l1 := congrArg List.length q
  rw [List.length_map] at l1
  have l2 : (tlP p).length = 9 := rfl
  rcases h with h | h
  · omega
  · cases L with
    | nil => simp at l1; omega
    | cons x L =>
      unfold tlP at q
      rw [List.map_cons] at q
      injection q with q1 q2
      exact h q1
theorem ptL_le : ∀ (r cur : List UInt8), ∀ z ∈ ptL cur r, z.length ≤ cur.length + r.length
  | [], cur, z, h => by simp [ptL] at h; subst h; simp
  | b :: r, cur, z, h => by
    rw [ptL_cons] at h
    split at h
    · rcases List.mem_cons.1 h with rfl | h
      · omega
      · have := ptL_le r [] z h
        simp only [List.length_nil, List.length_cons] at *
        omega
    · have := ptL_le r (cur ++ [b]) z h
      simp only [List.length_append, List.length_cons, List.length_nil] at *
      omega
theorem pc_size {L : List ByteArray} {t : ByteArray} (h : L.map (·.toList) = ptB t) (ht : t.size ≤ 900000) (j : Nat) : (L.getD j ⟨#[]⟩).size ≤ 900000 := by
  rw [List.getD_eq_getElem?_getD]
  by_cases hj : j < L.length
  · rw [List.getElem?_eq_getElem hj]
    have hm : L[j].toList ∈ ptB t := by rw [← h]; exact List.mem_map.2 ⟨L[j], List.getElem_mem hj, rfl⟩
    have := ptL_le _ _ _ hm
    rw [tl_len, tl_len] at this
    simp only [List.length_nil] at this
    show L[j].size ≤ _
    omega
  · rw [List.getElem?_eq_none (by omega)]
    show (0 : Nat) ≤ _
    omega
/-- Seven numbers. -/
abbrev f7c (f : Nat → Int) : Array Value := #[.int .i64 (f 0), .int .i64 (f 1), .int .i64 (f 2), .int .i64 (f 3), .int .i64 (f 4), .int .i64 (f 5), .int .i64 (f 6)]
theorem f7_cells {w : World} {b : Nat} {f : Nat → Int} {ty : TypeId} (h : w.heap[b]? = some (.cells (f7c f) ty (0, 0))) (j : Nat) (hj : j < 7) : w.cell? ⟨b, j, none⟩ = some (.int .i64 (f j)) := by
  rcases (by omega : j = 0 ∨ j = 1 ∨ j = 2 ∨ j = 3 ∨ j = 4 ∨ j = 5 ∨ j = 6) with rfl | rfl | rfl | rfl | rfl | rfl | rfl <;> simp [World.cell?, h]
def upG (f : Nat → Int) (j : Nat) (v : Int) : Nat → Int := fun k => if k = j then v else f k
theorem f7c_up (f : Nat → Int) (j : Nat) (v : Int) (hj : j < 7) : (f7c f).setIfInBounds j (.int .i64 v) = f7c (upG f j v) := by
  rcases (by omega : j = 0 ∨ j = 1 ∨ j = 2 ∨ j = 3 ∨ j = 4 ∨ j = 5 ∨ j = 6) with rfl | rfl | rfl | rfl | rfl | rfl | rfl <;> rfl
def ynF (L : List ByteArray) (j : Nat) : Int := (numP (L.getD (2 + j) ⟨#[]⟩)).getD 0
def yF (L : List ByteArray) (i : Nat) : Nat → Int := fun k => if k < i then ynF L k else 0
theorem yF_next (L : List ByteArray) (i : Nat) : upG (yF L i) i (ynF L i) = yF L (i + 1) := by
  funext k
  unfold upG yF
  by_cases h : k = i
  · rw [if_pos h, h, if_pos (by omega)]
  · rw [if_neg h]
    by_cases h2 : k < i
    · rw [if_pos h2, if_pos (by omega)]
    · rw [if_neg h2, if_neg (by omega)]
theorem yF_zero (L : List ByteArray) : yF L 0 = fun _ => 0 := by
  funext k
  unfold yF
  rw [if_neg (by omega)]
/-- The pane that a line's parts tell. -/
def parQ (k : ByteArray) (L : List ByteArray) : Pn := ⟨k, ynF L 0, ynF L 1, kdN (L.getD 1 ⟨#[]⟩) 3, ynF L 2, ⟨ynF L 3, ynF L 4, ynF L 5, ynF L 6⟩⟩
theorem list9 {L : List ByteArray} (h : L.length = 9) : ∃ a0 a1 a2 a3 a4 a5 a6 a7 a8, L = [a0, a1, a2, a3, a4, a5, a6, a7, a8] := by
  match L, h with
  | [a0, a1, a2, a3, a4, a5, a6, a7, a8], _ => exact ⟨a0, a1, a2, a3, a4, a5, a6, a7, a8, rfl⟩
theorem num_own {x : Int} (h : I64n x) {t : ByteArray} (e : t.toList = (intB x).toList) : numP t = some x := numP_some.2 ⟨h, (ba_ext e).symm⟩
theorem par_parts {s k : ByteArray} {L : List ByteArray} (PI : ∀ p, lineB p = s ↔ k = p.k ∧ L.map (·.toList) = tlP p) (h9 : L.length = 9) (p : Pn) (hp : NumOk p) (e : lineB p = s) : k = p.k ∧ (L.getD 1 ⟨#[]⟩).toList = (nameB p.d).toList ∧ ∀ j, j < 7 → numP (L.getD (2 + j) ⟨#[]⟩) = some ((numsP p).getD j 0) := by
  obtain ⟨h1, h2⟩ := (PI p).1 e
  obtain ⟨a0, a1, a2, a3, a4, a5, a6, a7, a8, rfl⟩ := list9 h9
  refine ⟨h1, ?_⟩
  unfold tlP at h2
  simp only [numsP, List.map_cons, List.map_nil, List.cons.injEq, and_true] at h2
  obtain ⟨-, e1, e2, e3, e4, e5, e6, e7, e8⟩ := h2
  refine ⟨e1, fun j hj => ?_⟩
  have hI : I64n ((numsP p).getD j 0) := hp j hj
  rcases (by omega : j = 0 ∨ j = 1 ∨ j = 2 ∨ j = 3 ∨ j = 4 ∨ j = 5 ∨ j = 6) with rfl | rfl | rfl | rfl | rfl | rfl | rfl
  · exact num_own hI e2
  · exact num_own hI e3
  · exact num_own hI e4
  · exact num_own hI e5
  · exact num_own hI e6
  · exact num_own hI e7
  · exact num_own hI e8
theorem par_num {s k : ByteArray} {L : List ByteArray} (PI : ∀ p, lineB p = s ↔ k = p.k ∧ L.map (·.toList) = tlP p) (h9 : L.length = 9) {j : Nat} (hj : j < 7) (h : numP (L.getD (2 + j) ⟨#[]⟩) = none) : ParR s none := fun p _ hn e => by
  have := (par_parts PI h9 p hn e).2.2 j hj
  rw [h] at this
  cases this
theorem par_no {s k : ByteArray} {L : List ByteArray} (PI : ∀ p, lineB p = s ↔ k = p.k ∧ L.map (·.toList) = tlP p) (h9 : L.length = 9) (hm : mayP (parQ k L) = false) : ParR s none := fun p hp hn e => by
  obtain ⟨h1, h2, h3⟩ := par_parts PI h9 p hn e
  have hd : kdN (L.getD 1 ⟨#[]⟩) 3 = p.d := by rw [ba_ext h2]; exact kdN_name (may_kind hp)
  have hy : ∀ j, j < 7 → ynF L j = (numsP p).getD j 0 := fun j hj => by unfold ynF; rw [h3 j hj]; rfl
  have : parQ k L = p := by
    unfold parQ
    rw [hd, hy 0 (by omega), hy 1 (by omega), hy 2 (by omega), hy 3 (by omega), hy 4 (by omega), hy 5 (by omega), hy 6 (by omega), h1]
    rfl
  rw [this, hp] at hm
  cases hm
theorem par_yes {s k : ByteArray} {L : List ByteArray} (PI : ∀ p, lineB p = s ↔ k = p.k ∧ L.map (·.toList) = tlP p) (h9 : L.length = 9) (h0 : (L.getD 0 ⟨#[]⟩).toList = []) (hs : ∀ j, j < 7 → numP (L.getD (2 + j) ⟨#[]⟩) = some (ynF L j)) (hm : mayP (parQ k L) = true) : ParR s (some (parQ k L)) := by
  have hn : NumOk (parQ k L) := fun j hj => by
    have e : (numsP (parQ k L)).getD j 0 = ynF L j := by
      rcases (by omega : j = 0 ∨ j = 1 ∨ j = 2 ∨ j = 3 ∨ j = 4 ∨ j = 5 ∨ j = 6) with rfl | rfl | rfl | rfl | rfl | rfl | rfl <;> rfl
    rw [e]
    exact (numP_some.1 (hs j hj)).1
  refine ⟨hm, hn, (PI _).2 ⟨rfl, ?_⟩⟩
  have hd : nameB (kdN (L.getD 1 ⟨#[]⟩) 3) = L.getD 1 ⟨#[]⟩ := by
    have h1 := (may_kind hm).1
    rcases kdN_some (t := L.getD 1 ⟨#[]⟩) 3 with h | ⟨-, -, h⟩
    · unfold parQ at h1; rw [h] at h1; simp at h1
    · exact h
  have hi : ∀ j, j < 7 → (intB (ynF L j)).toList = (L.getD (2 + j) ⟨#[]⟩).toList := fun j hj => by rw [(numP_some.1 (hs j hj)).2]
  have i0 := hi 0 (by omega)
  have i1 := hi 1 (by omega)
  have i2 := hi 2 (by omega)
  have i3 := hi 3 (by omega)
  have i4 := hi 4 (by omega)
  have i5 := hi 5 (by omega)
  have i6 := hi 6 (by omega)
  have e1 : tlP (parQ k L) = [[], (L.getD 1 ⟨#[]⟩).toList, (L.getD 2 ⟨#[]⟩).toList, (L.getD 3 ⟨#[]⟩).toList, (L.getD 4 ⟨#[]⟩).toList, (L.getD 5 ⟨#[]⟩).toList, (L.getD 6 ⟨#[]⟩).toList, (L.getD 7 ⟨#[]⟩).toList, (L.getD 8 ⟨#[]⟩).toList] := by
    unfold tlP parQ
    simp only [numsP, List.map_cons, List.map_nil]
    rw [hd, i0, i1, i2, i3, i4, i5, i6]
  rw [e1]
  obtain ⟨a0, a1, a2, a3, a4, a5, a6, a7, a8, rfl⟩ := list9 h9
  simp only [List.map_cons, List.map_nil]
  have h0' : a0.toList = [] := h0
  rw [h0']
  rfl
/-- A result that lies in a block of its own, one that does not. -/
theorem results_cell_one {P : Program} {fn : Func} {p u : Tmp} {ty : TypeId} (h : fn.results = #[.cell p ty, .tmp u]) (tmps : Array Value) (w : World) (g : Nat) (t : TypeId) (cs : Array Value) (fr : Nat × Nat) (d : TypeDesc)
    (hp : tmps.getD p undef = .pointer (some ⟨g, 0, none⟩)) (hg : w.heap[g]? = some (.cells cs t fr)) (hu : P.underlying ty = some d) (hd : (match d with | .struct _ | .array _ _ => true | _ => false) = true) (hi : (P.info? ty).map (·.size) = some cs.size) (v : Value) (hv : tmps.getD u undef = v) :
    (results fn tmps).run P w = .ok (.tuple #[.agg cs, v]) w := by
  have hp' : tmps[p]?.getD undef = .pointer (some ⟨g, 0, none⟩) := by simpa using hp
  have hv' : tmps[u]?.getD undef = v := by simpa using hv
  simp [results, h, hp', hv', asAddr, run_loadVar_row w g t ty cs fr d hg hu hd hi]

end Go.Proofs.YtamfcmmhmfhhkaaGreatDoor

namespace Go.Proofs.YtamfcmmhmfhhkaaGreatDoor
open Go.RowKit

/-- Lines' bytes, each with a byte 10 behind it. -/
def lnB (L : List Pn) : List UInt8 := L.flatMap fun p => (lineB p).toList ++ [10]
theorem lnB_nil : lnB [] = [] := rfl
theorem lnB_cons (p : Pn) (L : List Pn) : lnB (p :: L) = (lineB p).toList ++ 10 :: lnB L := by
  unfold lnB; rw [List.flatMap_cons, List.append_assoc]; rfl
theorem lnB_app (L M : List Pn) : lnB (L ++ M) = lnB L ++ lnB M := by
  unfold lnB; exact List.flatMap_append
theorem esc_no (c : Nat) (hc : c < 256) : ∀ x ∈ escL (c : Int), tbN x ≠ 10 := by
  intro x hx
  by_cases hp : 32 ≤ c ∧ c ≤ 126 ∧ c ≠ 34 ∧ c ≠ 92
  · rw [esc_plain hp] at hx
    simp only [List.mem_singleton] at hx
    subst hx
    intro h
    have := tbN_nat (n := (c : Int)) (by omega) (by omega)
    rw [h] at this
    have e : (10 : UInt8).toNat = 10 := rfl
    omega
  · rw [esc_four hp] at hx
    simp only [List.mem_cons, List.not_mem_nil, or_false] at hx
    have hh : ∀ n : Int, 0 ≤ n → n < 16 → tbN (hexB n) ≠ 10 := fun n h0 h1 h => by
      have := tbN_nat (hexB_in h0 h1).1 (hexB_in h0 h1).2
      rw [h] at this
      have e : (10 : UInt8).toNat = 10 := rfl
      unfold hexB at this
      split at this <;> omega
    rcases hx with rfl | rfl | rfl | rfl
    · decide
    · decide
    · exact hh _ (by omega) (by omega)
    · exact hh _ (by omega) (by omega)
theorem qk_no (k : ByteArray) : ∀ b ∈ qk k, b ≠ 10 := by
  intro b hb
  unfold qk at hb
  obtain ⟨x, hx, rfl⟩ := List.mem_map.1 hb
  unfold quoA quoL at hx
  rcases List.mem_append.1 hx with hx | hx
  · rcases List.mem_cons.1 hx with rfl | hx
    · decide
    · obtain ⟨u, -, hu⟩ := List.mem_flatMap.1 hx
      exact esc_no u.toNat u.toNat_lt x hu
  · simp only [List.mem_singleton] at hx
    subst hx
    decide
theorem name_no10 (d : Int) : ∀ b ∈ (nameB d).toList, b ≠ 10 := by
  unfold nameB
  split
  · rw [ByteArray.toList_eq]; decide
  · split
    · rw [ByteArray.toList_eq]; decide
    · rw [ByteArray.toList_eq]; decide
theorem int_no10 (x : Int) : ∀ b ∈ (intB x).toList, b ≠ 10 := by
  intro b hb h
  subst h
  rw [intB_list] at hb
  rcases List.mem_append.1 hb with hb | hb
  · split at hb
    · simp at hb
    · cases hb
  · exact absurd (dec_byte _ _ hb).1 (by decide)
theorem jn_no {c : UInt8} (hc : (32 : UInt8) ≠ c) : ∀ (L : List (List UInt8)), (∀ x ∈ L, ∀ b ∈ x, b ≠ c) → ∀ b ∈ jn L, b ≠ c
  | [], _, b, hb => by cases hb
  | [x], h, b, hb => h x (by simp) b hb
  | x :: y :: r, h, b, hb => by
    rw [jn_cons x (by simp)] at hb
    rcases List.mem_append.1 hb with hb | hb
    · exact h x (by simp) b hb
    · rcases List.mem_cons.1 hb with rfl | hb
      · exact hc
      · exact jn_no hc (y :: r) (fun z hz => h z (by simp [hz])) b hb
/-- A line has no byte 10. -/
theorem line_no (p : Pn) : ∀ b ∈ (lineB p).toList, b ≠ 10 := by
  rw [line_split]
  intro b hb
  rcases List.mem_append.1 hb with hb | hb
  · exact qk_no _ b hb
  · refine jn_no (by decide) (tlP p) ?_ b hb
    intro x hx
    unfold tlP at hx
    rcases List.mem_cons.1 hx with rfl | hx
    · intro b hb; cases hb
    · rcases List.mem_cons.1 hx with rfl | hx
      · exact name_no10 _
      · obtain ⟨y, -, rfl⟩ := List.mem_map.1 hx
        exact int_no10 y
/-- Cut at the first byte 10. -/
theorem cut10 : ∀ {A B x y : List UInt8}, (∀ b ∈ A, b ≠ 10) → (∀ b ∈ B, b ≠ 10) → A ++ 10 :: x = B ++ 10 :: y → A = B ∧ x = y
  | [], [], x, y, _, _, h => by simpa using h
  | [], b :: B, x, y, _, hB, h => by
    simp only [List.nil_append, List.cons_append, List.cons.injEq] at h
    exact absurd h.1.symm (hB b (by simp))
  | a :: A, [], x, y, hA, _, h => by
    simp only [List.nil_append, List.cons_append, List.cons.injEq] at h
    exact absurd h.1 (hA a (by simp))
  | a :: A, b :: B, x, y, hA, hB, h => by
    simp only [List.cons_append, List.cons.injEq] at h
    obtain ⟨e1, e2⟩ := cut10 (fun c hc => hA c (by simp [hc])) (fun c hc => hB c (by simp [hc])) h.2
    exact ⟨by rw [h.1, e1], e2⟩

/-- No line stands at the front. -/
def Stk (r : List UInt8) : Prop := ∀ p r', mayP p = true → NumOk p → r ≠ (lineB p).toList ++ 10 :: r'
theorem Stk.nil : Stk [] := fun p r' _ _ h => by
  have := congrArg List.length h
  simp at this
theorem Stk.none10 {r : List UInt8} (h : ∀ b ∈ r, b ≠ 10) : Stk r := fun p r' _ _ e => h 10 (by rw [e]; simp) rfl
/-- What a text is read as: its lines' panes, and what is left where no line stands. -/
structure RdR (s : List UInt8) (L : List Pn) (r : List UInt8) : Prop where
  ok : ∀ p ∈ L, mayP p = true ∧ NumOk p
  eq : s = lnB L ++ r
  st : Stk r
theorem ln_two : ∀ {L L' : List Pn} {r r' : List UInt8}, (∀ p ∈ L, mayP p = true ∧ NumOk p) → (∀ p ∈ L', mayP p = true ∧ NumOk p) → Stk r → Stk r' → lnB L ++ r = lnB L' ++ r' → L = L' ∧ r = r'
  | [], [], r, r', _, _, _, _, h => by simpa [lnB_nil] using h
  | [], q :: L', r, r', _, h2, hr, _, h => by
    rw [lnB_nil, lnB_cons, List.nil_append, List.append_assoc] at h
    exact absurd h (hr q (lnB L' ++ r') (h2 q (by simp)).1 (h2 q (by simp)).2)
  | p :: L, [], r, r', h1, _, _, hr', h => by
    rw [lnB_nil, lnB_cons, List.nil_append, List.append_assoc] at h
    exact absurd h.symm (hr' p (lnB L ++ r) (h1 p (by simp)).1 (h1 p (by simp)).2)
  | p :: L, q :: L', r, r', h1, h2, hr, hr', h => by
    rw [lnB_cons, lnB_cons, List.append_assoc, List.append_assoc] at h
    obtain ⟨e1, e2⟩ := cut10 (line_no p) (line_no q) h
    have hpq := line_inj (h1 p (by simp)).1 (h2 q (by simp)).1 (ba_ext e1)
    obtain ⟨e3, e4⟩ := ln_two (fun x hx => h1 x (by simp [hx])) (fun x hx => h2 x (by simp [hx])) hr hr' e2
    exact ⟨by rw [hpq, e3], e4⟩
theorem RdR.one {s : List UInt8} {L L' : List Pn} {r r' : List UInt8} (h : RdR s L r) (h' : RdR s L' r') : L = L' ∧ r = r' := ln_two h.ok h'.ok h.st h'.st (h.eq.symm.trans h'.eq)
/-- Lines are read as their panes. -/
theorem RdR.own {L : List Pn} (h : ∀ p ∈ L, mayP p = true ∧ NumOk p) : RdR (lnB L) L [] := ⟨h, by simp, Stk.nil⟩

/-- A text's next line. -/
theorem nx_yes {s : ByteArray} {f t : Nat} {p : Pn} (hft : f ≤ t) (ht : t < s.size) (h10 : (s[t]'ht).toNat = 10) (hp : ParR (s.extract f t) (some p)) : s.toList.drop f = (lineB p).toList ++ 10 :: s.toList.drop (t + 1) := by
  have e : (lineB p).toList = (s.toList.drop f).take (t - f) := by rw [hp.2.2, ex_toList]
  rw [e]
  have e2 : (10 : UInt8) :: s.toList.drop (t + 1) = s.toList.drop t := by
    rw [tl_at s t ht]
    congr 1
    exact (UInt8.toNat_inj.1 (by rw [h10]; rfl)).symm
  have e3 : s.toList.drop t = (s.toList.drop f).drop (t - f) := by rw [List.drop_drop]; congr 1; omega
  rw [e2, e3, List.take_append_drop]
theorem nx_no {s : ByteArray} {f t : Nat} (hft : f ≤ t) (ht : t < s.size) (h10 : (s[t]'ht).toNat = 10) (hn : ∀ b ∈ (s.extract f t).toList, b ≠ 10) (hp : ParR (s.extract f t) none) : Stk (s.toList.drop f) := fun p r' h1 h2 h => by
  have e2 : s.toList.drop t = (10 : UInt8) :: s.toList.drop (t + 1) := by
    rw [tl_at s t ht]
    congr 1
    exact UInt8.toNat_inj.1 (by rw [h10]; rfl)
  have e3 : s.toList.drop t = (s.toList.drop f).drop (t - f) := by rw [List.drop_drop]; congr 1; omega
  have e4 : s.toList.drop f = (s.extract f t).toList ++ 10 :: s.toList.drop (t + 1) := by
    rw [ex_toList, ← e2, e3, List.take_append_drop]
  rw [e4] at h
  obtain ⟨e5, -⟩ := cut10 hn (line_no p) h
  exact hp p h1 h2 (ba_ext e5.symm)
theorem nx_end {s : ByteArray} {f : Nat} (hn : ∀ b ∈ (s.extract f s.size).toList, b ≠ 10) : Stk (s.toList.drop f) := by
  apply Stk.none10
  rw [ex_toList, List.take_of_length_le (by rw [List.length_drop, tl_len]; omega)] at hn
  exact hn
theorem nx_byte {s : ByteArray} {f t : Nat} (hft : f ≤ t) (ht : t < s.size) (h10 : (s[t]'ht).toNat ≠ 10) (hn : ∀ b ∈ (s.extract f t).toList, b ≠ 10) : ∀ b ∈ (s.extract f (t + 1)).toList, b ≠ 10 := by
  rw [ex_toList, tk_next hft ht, ← ex_toList]
  intro b hb
  rcases List.mem_append.1 hb with hb | hb
  · exact hn b hb
  · simp only [List.mem_singleton] at hb
    subst hb
    intro h
    rw [h] at h10
    exact h10 rfl

end Go.Proofs.YtamfcmmhmfhhkaaGreatDoor

namespace Go.Proofs.YtamfcmmhmfhhkaaGreatDoor
open Go.RowKit

/-- Does a byte stand for itself? -/
def itB (b : Int) : Bool := decide (32 ≤ b ∧ b ≤ 126 ∧ b ≠ 34 ∧ b ≠ 92)

set_option maxRecDepth 100000 in
theorem itself_any (b : Int) (w : World) : Calls Tryz.prog 47 #[.int .u8 b] w fun e w' => e = .returned (.bool (itB b)) ∧ w' = w := by
  have g : Hid (itB b = decide (32 ≤ b ∧ b ≤ 126 ∧ b ≠ 34 ∧ b ≠ 92)) := hide rfl
  by_cases h1 : 32 ≤ b
  · by_cases h2 : b ≤ 126
    · by_cases h3 : b = 34
      · have z3 : (b != 34) = false := by rw [bne_eq_false_iff_eq]; exact h3
        have G : Hid (itB b = false) := hide (by rw [g.out]; exact decide_eq_false (fun h => h.2.2.1 h3))
        clear g h3
        go_enter Tryz.func47, Tryz.ntmps47
        go_wp2_with fail
        go_ret
        exact ⟨by rw [G.out]; rfl, rfl⟩
      · have z3 : (b != 34) = true := by rw [bne_iff_ne]; exact h3
        by_cases h4 : b = 92
        · have z4 : (b != 92) = false := by rw [bne_eq_false_iff_eq]; exact h4
          have G : Hid (itB b = false) := hide (by rw [g.out]; exact decide_eq_false (fun h => h.2.2.2 h4))
          clear g h3 h4
          go_enter Tryz.func47, Tryz.ntmps47
          go_wp2_with fail
          go_ret
          exact ⟨by rw [G.out]; rfl, rfl⟩
        · have z4 : (b != 92) = true := by rw [bne_iff_ne]; exact h4
          have G : Hid (itB b = true) := hide (by rw [g.out]; exact decide_eq_true ⟨h1, h2, h3, h4⟩)
          clear g h3 h4
          go_enter Tryz.func47, Tryz.ntmps47
          go_wp2_with fail
          go_ret
          exact ⟨by rw [G.out]; rfl, rfl⟩
    · have G : Hid (itB b = false) := hide (by rw [g.out]; exact decide_eq_false (fun h => h2 h.2.1))
      clear g
      go_enter Tryz.func47, Tryz.ntmps47
      go_wp2_with fail
      go_ret
      exact ⟨by rw [G.out]; rfl, rfl⟩
  · have G : Hid (itB b = false) := hide (by rw [g.out]; exact decide_eq_false (fun h => h1 h.1))
    clear g
    go_enter Tryz.func47, Tryz.ntmps47
    go_wp2_with fail
    go_ret
    exact ⟨by rw [G.out]; rfl, rfl⟩

set_option maxRecDepth 100000 in
set_option maxHeartbeats 1000000 in
theorem maybe_any (p : Pn) (w : World) : Calls Tryz.prog 32 #[pnv p] w fun e w' => e = .returned (.bool (mayP p)) ∧ Calm w w' := by
  have T0 : Hid (∀ o, Calm w (w.alloc o)) := hide fun o => (Touch.refl _ w).alloc o
  have A0 := hide (al_new w (.cells (pnc p) 40))
  obtain ⟨k, a, b, d, n, t⟩ := p
  have c0 : Hid ((w.alloc (.cells (pnc ⟨k, a, b, d, n, t⟩) 40)).cell? ⟨w.heap.size, 0, none⟩ = some (.string k) ∧ (w.alloc (.cells (pnc ⟨k, a, b, d, n, t⟩) 40)).cell? ⟨w.heap.size, 3, none⟩ = some (.int .i64 d)) := hide ⟨(pn_cells A0.out).1.1, (pn_cells A0.out).1.2.2.2.1⟩
  have g : Hid (mayP ⟨k, a, b, d, n, t⟩ = decide (k.size ≤ 256 ∧ 1 ≤ d ∧ d ≤ 3)) := hide rfl
  by_cases h1 : k.size ≤ 256
  · have z1 : (k.size : Int) ≤ 256 := by omega
    by_cases h2 : 1 ≤ d
    · by_cases h3 : d ≤ 3
      · go_enter Tryz.func32, Tryz.ntmps32
        obtain ⟨c1, c2⟩ := c0.out
        go_wp2_with fail
        go_ret
        exact ⟨by rw [g.out, decide_eq_true ⟨h1, h2, h3⟩]; rfl, T0.out _⟩
      · go_enter Tryz.func32, Tryz.ntmps32
        obtain ⟨c1, c2⟩ := c0.out
        go_wp2_with fail
        go_ret
        exact ⟨by rw [g.out, decide_eq_false (fun h => by omega)]; rfl, T0.out _⟩
    · go_enter Tryz.func32, Tryz.ntmps32
      obtain ⟨c1, c2⟩ := c0.out
      go_wp2_with fail
      go_ret
      exact ⟨by rw [g.out, decide_eq_false (fun h => by omega)]; rfl, T0.out _⟩
  · have z1 : ¬ (k.size : Int) ≤ 256 := by omega
    go_enter Tryz.func32, Tryz.ntmps32
    obtain ⟨c1, c2⟩ := c0.out
    go_wp2_with fail
    go_ret
    exact ⟨by rw [g.out, decide_eq_false (fun h => by omega)]; rfl, T0.out _⟩

end Go.Proofs.YtamfcmmhmfhhkaaGreatDoor

namespace Go.Proofs
open Go.Shelf
def Tryz.laysM246_ren : Go.Shelf.Ren := ⟨fun | 246 => 80 | 283 => 85 | 284 => 86 | 285 => 87 | 286 => 88 | 129 => 102 | 317 => 101 | 318 => 103 | 319 => 104 | 320 => 105 | 337 => 112 | 338 => 113 | n => n, fun | 2 => 2 | 3 => 3 | 9 => 9 | 4 => 4 | 171 => 143 | 0 => 0 | 53 => 135 | 37 => 64 | 5 => 5 | 173 => 146 | 212 => 158 | 51 => 159 | 20 => 20 | 213 => 160 | 46 => 88 | 232 => 171 | 233 => 172 | n => n, fun | 17 => 1 | 18 => 5 | 19 => 6 | n => n⟩
theorem Tryz.laysM246 : Go.Proofs.LaysM.n246 Tryz.prog Tryz.laysM246_ren := {
  mixed := by kernel_rfl
  f129 := Tryz.func102.trans (congrArg some (by kernel_rfl))
  f246 := Tryz.func80.trans (congrArg some (by kernel_rfl))
  f283 := Tryz.func85.trans (congrArg some (by kernel_rfl))
  f284 := Tryz.func86.trans (congrArg some (by kernel_rfl))
  f285 := Tryz.func87.trans (congrArg some (by kernel_rfl))
  f286 := Tryz.func88.trans (congrArg some (by kernel_rfl))
  f317 := Tryz.func101.trans (congrArg some (by kernel_rfl))
  f318 := Tryz.func103.trans (congrArg some (by kernel_rfl))
  f319 := Tryz.func104.trans (congrArg some (by kernel_rfl))
  f320 := Tryz.func105.trans (congrArg some (by kernel_rfl))
  f337 := Tryz.func112.trans (congrArg some (by kernel_rfl))
  f338 := Tryz.func113.trans (congrArg some (by kernel_rfl))
  t0 := Tryz.underlying0
  a0 := Tryz.isAgg0
  z0 := Tryz.sizeOf0
  v0 := Tryz.zeroValue0
  t2 := Tryz.underlying2
  a2 := Tryz.isAgg2
  z2 := Tryz.sizeOf2
  v2 := Tryz.zeroValue2
  t3 := Tryz.underlying3
  a3 := Tryz.isAgg3
  z3 := Tryz.sizeOf3
  v3 := Tryz.zeroValue3
  t4 := Tryz.underlying4
  a4 := Tryz.isAgg4
  z4 := Tryz.sizeOf4
  v4 := Tryz.zeroValue4
  t5 := Tryz.underlying5
  a5 := Tryz.isAgg5
  z5 := Tryz.sizeOf5
  v5 := Tryz.zeroValue5
  t9 := Tryz.underlying9
  a9 := Tryz.isAgg9
  z9 := Tryz.sizeOf9
  v9 := Tryz.zeroValue9
  t20 := Tryz.underlying20
  a20 := Tryz.isAgg20
  z20 := Tryz.sizeOf20
  v20 := Tryz.zeroValue20
  t37 := Tryz.underlying64
  a37 := Tryz.isAgg64
  z37 := Tryz.sizeOf64
  v37 := Tryz.zeroValue64
  t46 := Tryz.underlying88
  a46 := Tryz.isAgg88
  z46 := Tryz.sizeOf88
  v46 := Tryz.zeroValue88
  t51 := Tryz.underlying159
  a51 := Tryz.isAgg159
  z51 := Tryz.sizeOf159
  v51 := Tryz.zeroValue159
  t53 := Tryz.underlying135
  a53 := Tryz.isAgg135
  z53 := Tryz.sizeOf135
  v53 := Tryz.zeroValue135
  t171 := Tryz.underlying143
  a171 := Tryz.isAgg143
  z171 := Tryz.sizeOf143
  v171 := Tryz.zeroValue143
  t173 := Tryz.underlying146
  a173 := Tryz.isAgg146
  z173 := Tryz.sizeOf146
  v173 := Tryz.zeroValue146
  t212 := Tryz.underlying158
  a212 := Tryz.isAgg158
  z212 := Tryz.sizeOf158
  v212 := Tryz.zeroValue158
  t213 := Tryz.underlying160
  a213 := Tryz.isAgg160
  z213 := Tryz.sizeOf160
  t232 := Tryz.underlying171
  a232 := Tryz.isAgg171
  z232 := Tryz.sizeOf171
  v232 := Tryz.zeroValue171
  t233 := Tryz.underlying172
  a233 := Tryz.isAgg172
  z233 := Tryz.sizeOf172
  v233 := Tryz.zeroValue172
  g17 := by kernel_rfl
  g18 := by kernel_rfl
  g19 := by kernel_rfl
  i0 := by kernel_rfl
  i2 := by kernel_rfl
  i3 := by kernel_rfl
  i4 := by kernel_rfl
  i5 := by kernel_rfl
  i9 := by kernel_rfl
  i20 := by kernel_rfl
  i37 := by kernel_rfl
  i46 := by kernel_rfl
  i51 := by kernel_rfl
  i53 := by kernel_rfl
  i171 := by kernel_rfl
  i173 := by kernel_rfl
  i212 := by kernel_rfl
  i232 := by kernel_rfl
  i233 := by kernel_rfl
  m17 := by kernel_rfl
  m18 := by kernel_rfl
  m19 := by kernel_rfl }
def Tryz.laysM176_ren : Go.Shelf.Ren := ⟨fun | 176 => 48 | 249 => 68 | 288 => 76 | 283 => 85 | 284 => 86 | 285 => 87 | 286 => 88 | 129 => 102 | 317 => 101 | 318 => 103 | 319 => 104 | 320 => 105 | 337 => 112 | 338 => 113 | n => n, fun | 37 => 64 | 2 => 2 | 3 => 3 | 53 => 135 | 4 => 4 | 9 => 9 | 171 => 143 | 0 => 0 | 173 => 146 | 212 => 158 | 51 => 159 | 5 => 5 | 20 => 20 | 213 => 160 | 46 => 88 | 232 => 171 | 233 => 172 | n => n, fun | 17 => 1 | 18 => 5 | 19 => 6 | n => n⟩
theorem Tryz.laysM176 : Go.Proofs.LaysM.n176 Tryz.prog Tryz.laysM176_ren := {
  mixed := by kernel_rfl
  f129 := Tryz.func102.trans (congrArg some (by kernel_rfl))
  f176 := Tryz.func48.trans (congrArg some (by kernel_rfl))
  f249 := Tryz.func68.trans (congrArg some (by kernel_rfl))
  f283 := Tryz.func85.trans (congrArg some (by kernel_rfl))
  f284 := Tryz.func86.trans (congrArg some (by kernel_rfl))
  f285 := Tryz.func87.trans (congrArg some (by kernel_rfl))
  f286 := Tryz.func88.trans (congrArg some (by kernel_rfl))
  f288 := Tryz.func76.trans (congrArg some (by kernel_rfl))
  f317 := Tryz.func101.trans (congrArg some (by kernel_rfl))
  f318 := Tryz.func103.trans (congrArg some (by kernel_rfl))
  f319 := Tryz.func104.trans (congrArg some (by kernel_rfl))
  f320 := Tryz.func105.trans (congrArg some (by kernel_rfl))
  f337 := Tryz.func112.trans (congrArg some (by kernel_rfl))
  f338 := Tryz.func113.trans (congrArg some (by kernel_rfl))
  t0 := Tryz.underlying0
  a0 := Tryz.isAgg0
  z0 := Tryz.sizeOf0
  v0 := Tryz.zeroValue0
  t2 := Tryz.underlying2
  a2 := Tryz.isAgg2
  z2 := Tryz.sizeOf2
  v2 := Tryz.zeroValue2
  t3 := Tryz.underlying3
  a3 := Tryz.isAgg3
  z3 := Tryz.sizeOf3
  v3 := Tryz.zeroValue3
  t4 := Tryz.underlying4
  a4 := Tryz.isAgg4
  z4 := Tryz.sizeOf4
  v4 := Tryz.zeroValue4
  t5 := Tryz.underlying5
  a5 := Tryz.isAgg5
  z5 := Tryz.sizeOf5
  v5 := Tryz.zeroValue5
  t9 := Tryz.underlying9
  a9 := Tryz.isAgg9
  z9 := Tryz.sizeOf9
  v9 := Tryz.zeroValue9
  t20 := Tryz.underlying20
  a20 := Tryz.isAgg20
  z20 := Tryz.sizeOf20
  v20 := Tryz.zeroValue20
  t37 := Tryz.underlying64
  a37 := Tryz.isAgg64
  z37 := Tryz.sizeOf64
  v37 := Tryz.zeroValue64
  t46 := Tryz.underlying88
  a46 := Tryz.isAgg88
  z46 := Tryz.sizeOf88
  v46 := Tryz.zeroValue88
  t51 := Tryz.underlying159
  a51 := Tryz.isAgg159
  z51 := Tryz.sizeOf159
  v51 := Tryz.zeroValue159
  t53 := Tryz.underlying135
  a53 := Tryz.isAgg135
  z53 := Tryz.sizeOf135
  v53 := Tryz.zeroValue135
  t171 := Tryz.underlying143
  a171 := Tryz.isAgg143
  z171 := Tryz.sizeOf143
  v171 := Tryz.zeroValue143
  t173 := Tryz.underlying146
  a173 := Tryz.isAgg146
  z173 := Tryz.sizeOf146
  v173 := Tryz.zeroValue146
  t212 := Tryz.underlying158
  a212 := Tryz.isAgg158
  z212 := Tryz.sizeOf158
  v212 := Tryz.zeroValue158
  t213 := Tryz.underlying160
  a213 := Tryz.isAgg160
  z213 := Tryz.sizeOf160
  t232 := Tryz.underlying171
  a232 := Tryz.isAgg171
  z232 := Tryz.sizeOf171
  v232 := Tryz.zeroValue171
  t233 := Tryz.underlying172
  a233 := Tryz.isAgg172
  z233 := Tryz.sizeOf172
  v233 := Tryz.zeroValue172
  g17 := by kernel_rfl
  g18 := by kernel_rfl
  g19 := by kernel_rfl
  i0 := by kernel_rfl
  i2 := by kernel_rfl
  i3 := by kernel_rfl
  i4 := by kernel_rfl
  i5 := by kernel_rfl
  i9 := by kernel_rfl
  i20 := by kernel_rfl
  i37 := by kernel_rfl
  i46 := by kernel_rfl
  i51 := by kernel_rfl
  i53 := by kernel_rfl
  i171 := by kernel_rfl
  i173 := by kernel_rfl
  i212 := by kernel_rfl
  i232 := by kernel_rfl
  i233 := by kernel_rfl
  m17 := by kernel_rfl
  m18 := by kernel_rfl
  m19 := by kernel_rfl }
def Tryz.laysC174_ren : Go.Shelf.Ren := ⟨fun | 174 => 70 | 247 => 78 | 245 => 79 | 287 => 90 | 279 => 91 | 280 => 92 | 281 => 93 | 282 => 94 | 321 => 106 | 322 => 107 | 316 => 39 | 171 => 109 | 205 => 108 | 243 => 114 | 246 => 80 | 283 => 85 | 284 => 86 | 285 => 87 | 286 => 88 | 129 => 102 | 317 => 101 | 318 => 103 | 319 => 104 | 320 => 105 | 337 => 112 | 338 => 113 | n => n, fun | 9 => 9 | 3 => 3 | 2 => 2 | 75 => 124 | 85 => 125 | 4 => 4 | 167 => 148 | 5 => 5 | 53 => 135 | 175 => 149 | 46 => 88 | 168 => 151 | 37 => 64 | 0 => 0 | 210 => 165 | 21 => 21 | 127 => 109 | 145 => 170 | 143 => 168 | 171 => 143 | 173 => 146 | 212 => 158 | 51 => 159 | 20 => 20 | 213 => 160 | 232 => 171 | 233 => 172 | 80 => 99 | n => n, fun | 15 => 3 | 16 => 4 | 17 => 1 | 18 => 5 | 19 => 6 | n => n⟩
theorem Tryz.laysC174 : Go.Proofs.LaysC.n174 Tryz.prog Tryz.laysC174_ren := {
  mixed := by kernel_rfl
  f129 := Tryz.func102.trans (congrArg some (by kernel_rfl))
  f171 := Tryz.func109.trans (congrArg some (by kernel_rfl))
  f174 := Tryz.func70.trans (congrArg some (by kernel_rfl))
  f205 := Tryz.func108.trans (congrArg some (by kernel_rfl))
  f243 := Tryz.func114.trans (congrArg some (by kernel_rfl))
  f245 := Tryz.func79.trans (congrArg some (by kernel_rfl))
  f246 := Tryz.func80.trans (congrArg some (by kernel_rfl))
  f247 := Tryz.func78.trans (congrArg some (by kernel_rfl))
  f279 := Tryz.func91.trans (congrArg some (by kernel_rfl))
  f280 := Tryz.func92.trans (congrArg some (by kernel_rfl))
  f281 := Tryz.func93.trans (congrArg some (by kernel_rfl))
  f282 := Tryz.func94.trans (congrArg some (by kernel_rfl))
  f283 := Tryz.func85.trans (congrArg some (by kernel_rfl))
  f284 := Tryz.func86.trans (congrArg some (by kernel_rfl))
  f285 := Tryz.func87.trans (congrArg some (by kernel_rfl))
  f286 := Tryz.func88.trans (congrArg some (by kernel_rfl))
  f287 := Tryz.func90.trans (congrArg some (by kernel_rfl))
  f316 := Tryz.func39.trans (congrArg some (by kernel_rfl))
  f317 := Tryz.func101.trans (congrArg some (by kernel_rfl))
  f318 := Tryz.func103.trans (congrArg some (by kernel_rfl))
  f319 := Tryz.func104.trans (congrArg some (by kernel_rfl))
  f320 := Tryz.func105.trans (congrArg some (by kernel_rfl))
  f321 := Tryz.func106.trans (congrArg some (by kernel_rfl))
  f322 := Tryz.func107.trans (congrArg some (by kernel_rfl))
  f337 := Tryz.func112.trans (congrArg some (by kernel_rfl))
  f338 := Tryz.func113.trans (congrArg some (by kernel_rfl))
  t0 := Tryz.underlying0
  a0 := Tryz.isAgg0
  z0 := Tryz.sizeOf0
  v0 := Tryz.zeroValue0
  t2 := Tryz.underlying2
  a2 := Tryz.isAgg2
  z2 := Tryz.sizeOf2
  v2 := Tryz.zeroValue2
  t3 := Tryz.underlying3
  a3 := Tryz.isAgg3
  z3 := Tryz.sizeOf3
  v3 := Tryz.zeroValue3
  t4 := Tryz.underlying4
  a4 := Tryz.isAgg4
  z4 := Tryz.sizeOf4
  v4 := Tryz.zeroValue4
  t5 := Tryz.underlying5
  a5 := Tryz.isAgg5
  z5 := Tryz.sizeOf5
  v5 := Tryz.zeroValue5
  t9 := Tryz.underlying9
  a9 := Tryz.isAgg9
  z9 := Tryz.sizeOf9
  v9 := Tryz.zeroValue9
  t20 := Tryz.underlying20
  a20 := Tryz.isAgg20
  z20 := Tryz.sizeOf20
  v20 := Tryz.zeroValue20
  t21 := Tryz.underlying21
  a21 := Tryz.isAgg21
  z21 := Tryz.sizeOf21
  v21 := Tryz.zeroValue21
  t37 := Tryz.underlying64
  a37 := Tryz.isAgg64
  z37 := Tryz.sizeOf64
  v37 := Tryz.zeroValue64
  t46 := Tryz.underlying88
  a46 := Tryz.isAgg88
  z46 := Tryz.sizeOf88
  v46 := Tryz.zeroValue88
  t51 := Tryz.underlying159
  a51 := Tryz.isAgg159
  z51 := Tryz.sizeOf159
  v51 := Tryz.zeroValue159
  t53 := Tryz.underlying135
  a53 := Tryz.isAgg135
  z53 := Tryz.sizeOf135
  v53 := Tryz.zeroValue135
  t75 := Tryz.underlying124
  a75 := Tryz.isAgg124
  z75 := Tryz.sizeOf124
  v75 := Tryz.zeroValue124
  t85 := Tryz.underlying125
  a85 := Tryz.isAgg125
  z85 := Tryz.sizeOf125
  v85 := Tryz.zeroValue125
  t127 := Tryz.underlying109
  a127 := Tryz.isAgg109
  z127 := Tryz.sizeOf109
  v127 := Tryz.zeroValue109
  t143 := Tryz.underlying168
  a143 := Tryz.isAgg168
  z143 := Tryz.sizeOf168
  v143 := Tryz.zeroValue168
  t145 := Tryz.underlying170
  a145 := Tryz.isAgg170
  z145 := Tryz.sizeOf170
  v145 := Tryz.zeroValue170
  t167 := Tryz.underlying148
  a167 := Tryz.isAgg148
  z167 := Tryz.sizeOf148
  v167 := Tryz.zeroValue148
  t168 := Tryz.underlying151
  a168 := Tryz.isAgg151
  z168 := Tryz.sizeOf151
  v168 := Tryz.zeroValue151
  t171 := Tryz.underlying143
  a171 := Tryz.isAgg143
  z171 := Tryz.sizeOf143
  v171 := Tryz.zeroValue143
  t173 := Tryz.underlying146
  a173 := Tryz.isAgg146
  z173 := Tryz.sizeOf146
  v173 := Tryz.zeroValue146
  t175 := Tryz.underlying149
  a175 := Tryz.isAgg149
  z175 := Tryz.sizeOf149
  v175 := Tryz.zeroValue149
  t210 := Tryz.underlying165
  a210 := Tryz.isAgg165
  z210 := Tryz.sizeOf165
  v210 := Tryz.zeroValue165
  t212 := Tryz.underlying158
  a212 := Tryz.isAgg158
  z212 := Tryz.sizeOf158
  v212 := Tryz.zeroValue158
  t213 := Tryz.underlying160
  a213 := Tryz.isAgg160
  z213 := Tryz.sizeOf160
  t232 := Tryz.underlying171
  a232 := Tryz.isAgg171
  z232 := Tryz.sizeOf171
  v232 := Tryz.zeroValue171
  t233 := Tryz.underlying172
  a233 := Tryz.isAgg172
  z233 := Tryz.sizeOf172
  v233 := Tryz.zeroValue172
  g15 := by kernel_rfl
  g16 := by kernel_rfl
  g17 := by kernel_rfl
  g18 := by kernel_rfl
  g19 := by kernel_rfl
  t80 := Tryz.underlying99
  a80 := Tryz.isAgg99
  z80 := Tryz.sizeOf99
  v80 := Tryz.zeroValue99
  i0 := by kernel_rfl
  i2 := by kernel_rfl
  i3 := by kernel_rfl
  i4 := by kernel_rfl
  i5 := by kernel_rfl
  i9 := by kernel_rfl
  i20 := by kernel_rfl
  i21 := by kernel_rfl
  i37 := by kernel_rfl
  i46 := by kernel_rfl
  i51 := by kernel_rfl
  i53 := by kernel_rfl
  i75 := by kernel_rfl
  i80 := by kernel_rfl
  i85 := by kernel_rfl
  i127 := by kernel_rfl
  i143 := by kernel_rfl
  i145 := by kernel_rfl
  i167 := by kernel_rfl
  i168 := by kernel_rfl
  i171 := by kernel_rfl
  i173 := by kernel_rfl
  i175 := by kernel_rfl
  i210 := by kernel_rfl
  i212 := by kernel_rfl
  i232 := by kernel_rfl
  i233 := by kernel_rfl
  m15 := by kernel_rfl
  m16 := by kernel_rfl
  m17 := by kernel_rfl
  m18 := by kernel_rfl
  m19 := by kernel_rfl
  c0 := by kernel_rfl
  c2 := by kernel_rfl
  c3 := by kernel_rfl
  c4 := by kernel_rfl
  c5 := by kernel_rfl
  c9 := by kernel_rfl
  c20 := by kernel_rfl
  c21 := by kernel_rfl
  c37 := by kernel_rfl
  c46 := by kernel_rfl
  c51 := by kernel_rfl
  c53 := by kernel_rfl
  c75 := by kernel_rfl
  c80 := by kernel_rfl
  c85 := by kernel_rfl
  c127 := by kernel_rfl
  c143 := by kernel_rfl
  c145 := by kernel_rfl
  c167 := by kernel_rfl
  c168 := by kernel_rfl
  c171 := by kernel_rfl
  c173 := by kernel_rfl
  c175 := by kernel_rfl
  c210 := by kernel_rfl
  c212 := by kernel_rfl
  c213 := by kernel_rfl
  c232 := by kernel_rfl
  c233 := by kernel_rfl }
def Tryz.lays137_ren : Go.Shelf.Ren := ⟨fun | 137 => 69 | 217 => 77 | 266 => 89 | n => n, fun | 9 => 9 | 5 => 5 | 3 => 3 | n => n, fun | n => n⟩
theorem Tryz.lays137 : Go.Proofs.Lays.n137 Tryz.prog Tryz.lays137_ren := {
  mixed := by kernel_rfl
  f137 := Tryz.func69.trans (congrArg some (by kernel_rfl))
  f217 := Tryz.func77.trans (congrArg some (by kernel_rfl))
  f266 := Tryz.func89.trans (congrArg some (by kernel_rfl))
  t3 := Tryz.underlying3
  a3 := Tryz.isAgg3
  z3 := Tryz.sizeOf3
  v3 := Tryz.zeroValue3
  t5 := Tryz.underlying5
  a5 := Tryz.isAgg5
  z5 := Tryz.sizeOf5
  v5 := Tryz.zeroValue5
  t9 := Tryz.underlying9
  a9 := Tryz.isAgg9
  z9 := Tryz.sizeOf9
  v9 := Tryz.zeroValue9 }
def Tryz.laysM316_ren : Go.Shelf.Ren := ⟨fun | 316 => 39 | n => n, fun | 9 => 9 | 3 => 3 | 4 => 4 | 37 => 64 | 0 => 0 | 127 => 109 | 5 => 5 | n => n, fun | n => n⟩
theorem Tryz.laysM316 : Go.Proofs.LaysM.n316 Tryz.prog Tryz.laysM316_ren := {
  mixed := by kernel_rfl
  f316 := Tryz.func39.trans (congrArg some (by kernel_rfl))
  t0 := Tryz.underlying0
  a0 := Tryz.isAgg0
  z0 := Tryz.sizeOf0
  v0 := Tryz.zeroValue0
  t3 := Tryz.underlying3
  a3 := Tryz.isAgg3
  z3 := Tryz.sizeOf3
  v3 := Tryz.zeroValue3
  t4 := Tryz.underlying4
  a4 := Tryz.isAgg4
  z4 := Tryz.sizeOf4
  v4 := Tryz.zeroValue4
  t9 := Tryz.underlying9
  a9 := Tryz.isAgg9
  z9 := Tryz.sizeOf9
  v9 := Tryz.zeroValue9
  t37 := Tryz.underlying64
  a37 := Tryz.isAgg64
  z37 := Tryz.sizeOf64
  v37 := Tryz.zeroValue64
  t127 := Tryz.underlying109
  a127 := Tryz.isAgg109
  z127 := Tryz.sizeOf109
  v127 := Tryz.zeroValue109
  t5 := Tryz.underlying5
  a5 := Tryz.isAgg5
  z5 := Tryz.sizeOf5
  v5 := Tryz.zeroValue5
  i0 := by kernel_rfl
  i3 := by kernel_rfl
  i4 := by kernel_rfl
  i5 := by kernel_rfl
  i9 := by kernel_rfl
  i37 := by kernel_rfl
  i127 := by kernel_rfl }
end Go.Proofs
