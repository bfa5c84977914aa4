/- Small answers of the document: a digit to the base 16, a kind's word, whether a pane may be, its numbers. A drawn region whose operations come up in many orders: by a relation that each of them keeps. digits: a number from 0 on in decimal digits (the document's). Quote: a key quoted (the document's). -/
import Derived.Test.YtamfcmmhmfhhkaaGreatDoorG1
import Derived.Test.YtamfcmmhmfhhkaaGreatDoorG3
import Derived.Test.YtamfcmmhmfhhkaaGreatDoorG6
import Derived.Test.YtamfcmmhmfhhkaaGreatDoorG0
import Derived.Lib.ItoaNum
import Derived.Laws.BytesArg
import Derived.Laws.BytesString
namespace Go.Proofs.YtamfcmmhmfhhkaaGreatDoor
open Go.RowKit

/-- A digit to the base 16. -/
def hexB (n : Int) : Int := if n < 10 then 48 + n else 87 + n

/-- A kind's word. -/
def nameB (d : Int) : ByteArray := if d = 1 then ⟨#[101, 97, 114, 108, 121]⟩ else if d = 2 then ⟨#[111, 110, 116, 105, 109, 101]⟩ else ⟨#[108, 97, 116, 101]⟩

/-- May a pane be? -/
def mayP (p : Pn) : Bool := decide (p.k.size ≤ 256 ∧ 1 ≤ p.d ∧ p.d ≤ 3)

/-- A pane's numbers, in a line's order. -/
def numsP (p : Pn) : List Int := [p.a, p.b, p.n, p.t.c, p.t.s, p.t.m, p.t.x]

end Go.Proofs.YtamfcmmhmfhhkaaGreatDoor

namespace Go.Proofs.YtamfcmmhmfhhkaaGreatDoor

section
variable {P : Program} {ops : Array Oper} {Q : Exit → Act → World → Prop} {S : World → Prop} {md : Region.Mode}

/-- R n: n operations are left of those that come up in many orders. -/
theorem wpAnyH_sim {fuel : Nat} {R : Nat → Array Bool → Act → World → Prop} (tail : ∀ L a w, R 0 L a w → wpAnyH P md ops Q S fuel L a w)
    (prog : ∀ n L a w, R (n + 1) L a w → Region.ready md ops L ≠ [] ∧ ∀ i ∈ Region.ready md ops L, wpOp P ops Q i (fun a' w' => S w' ∧ R n (L.setIfInBounds i true) a' w') a w) :
    ∀ n L a w, R n L a w → wpAnyH P md ops Q S (fuel + n) L a w
  | 0, L, a, w, h => tail L a w h
  | n + 1, L, a, w, h => by
    obtain ⟨h1, h2⟩ := prog n L a w h
    refine wpAnyH_all rfl h1 fun i hi => wpOp_mono (fun a' w' h' => ⟨h'.1, wpAnyH_sim tail prog n _ a' w' h'.2⟩) (h2 i hi)

/-- The frame under a name. -/
theorem wpAnyH_named {fuel : Nat} {listed : Array Bool} {a : Act} {w : World} (h : ∀ a', a' = a → wpAnyH P md ops Q S fuel listed a' w) : wpAnyH P md ops Q S fuel listed a w := h a rfl

/-- The region, the way on and the frame under names. -/
theorem wpAnyH_names {fuel : Nat} {listed : Array Bool} {a : Act} {w : World} (h : ∀ ops' Q' a', ops' = ops → Q' = Q → a' = a → wpAnyH P md ops' Q' S fuel listed a' w) : wpAnyH P md ops Q S fuel listed a w := h ops Q a rfl rfl rfl

/-- An operation in a drawn region that changes the world. -/
theorem wpAnyH_do (i : Nat) {oi : Oper} {fuel : Nat} {listed : Array Bool} {a : Act} {w : World} (w' : World) (hi : ops[i]? = some oi)
    (hr : Region.ready md ops listed = [i]) (hw : Region.wanted oi (yielded ops a.tmps) = true) (hd : ∀ K : Act → World → Prop, K a w' → oi.wp P a w K Q) (hS : S w') (h : wpAnyH P md ops Q S fuel (listed.setIfInBounds i true) a w') : wpAnyH P md ops Q S (fuel + 1) listed a w := by
  refine wpAnyH_all hr (by simp) ?_
  intro j hj
  obtain rfl : j = i := by simpa using hj
  unfold wpOp
  simp only [hi, hw, if_true]
  left
  exact hd _ ⟨hS, h⟩

/-- An operation in a drawn region that changes the world, the last one aside. -/
theorem wpAnyZ_do {z : Nat} (i : Nat) {oi : Oper} {fuel : Nat} {listed : Array Bool} {a : Act} {w : World} (w' : World) (hi : ops[i]? = some oi) (hiz : i ≠ z)
    (hr : Region.ready md ops listed = [i]) (hw : Region.wanted oi (yielded ops a.tmps) = true) (hd : ∀ K : Act → World → Prop, K a w' → oi.wp P a w K Q) (hS : S w') (h : wpAnyZ P md ops Q S z fuel (listed.setIfInBounds i true) a w') : wpAnyZ P md ops Q S z (fuel + 1) listed a w := by
  refine ⟨fun h0 => (by rw [hr] at h0; cases h0), fun j hj => ?_⟩
  rw [hr] at hj
  obtain rfl : j = i := by simpa using hj
  unfold wpOp
  simp only [hi, hw, if_true, if_neg hiz]
  left
  exact hd _ ⟨hS, h⟩

/-- An operation that changes the world comes up. -/
theorem wpOp_do (i : Nat) {oi : Oper} {K : Act → World → Prop} {a : Act} {w : World} (w' : World) (hi : ops[i]? = some oi) (hw : Region.wanted oi (yielded ops a.tmps) = true) (hd : ∀ K' : Act → World → Prop, K' a w' → oi.wp P a w K' Q) (h : K a w') : wpOp P ops Q i K a w := by
  unfold wpOp
  simp only [hi, hw, if_true]
  left
  exact hd _ h

/-- A call comes up. -/
theorem wpOp_enter (i : Nat) (d : Tmp) (f : FuncId) (args : Array Value) {oi : Oper} {K : Act → World → Prop} {a : Act} {w : World} (hi : ops[i]? = some oi) (hd : oi.dst = some d)
    (hw : Region.wanted oi (yielded ops a.tmps) = true) (hrun : (execOp a.eval oi).run P w = .ok (.enter f args) w) (hc : Calls P f args w fun e w'' => ∃ v, e = .returned v ∧ K (a.put (some d) v) w'') : wpOp P ops Q i K a w := by
  unfold wpOp
  simp only [hi, hw, if_true]
  left
  unfold Oper.wp
  rw [hrun, Oper.upon_enter]
  refine hc.mono fun e w'' hh => ?_
  obtain ⟨v, rfl, h⟩ := hh
  rw [hd]
  exact h

/-- A value comes up, in a world of its own. -/
theorem wpOp_value (i : Nat) (d : Tmp) (v : Value) {oi : Oper} {K : Act → World → Prop} {a : Act} {w w' : World} (hi : ops[i]? = some oi) (hd : oi.dst = some d)
    (hw : Region.wanted oi (yielded ops a.tmps) = true) (hrun : (execOp a.eval oi).run P w = .ok (.value v) w') (h : K (a.put (some d) v) w') : wpOp P ops Q i K a w := by
  unfold wpOp
  simp only [hi, hw, if_true]
  left
  unfold Oper.wp
  rw [hrun, Oper.upon_value, hd]
  exact h

end
end Go.Proofs.YtamfcmmhmfhhkaaGreatDoor

namespace Go.Proofs.YtamfcmmhmfhhkaaGreatDoor
open Go.RowKit

theorem dec_len : ∀ (k u : Nat), u < 10 ^ (k + 1) → (Lib.decDigits u).length ≤ k + 1
  | 0, u, h => by rw [Lib.decDigits, dif_pos (by simpa using h)]; simp
  | k + 1, u, h => by
    by_cases h1 : u < 10
    · rw [Lib.decDigits, dif_pos h1]; simp
    · rw [Lib.decDigits, dif_neg h1, List.length_append]
      have := dec_len k (u / 10) (by rw [Nat.pow_succ] at h; omega)
      simp only [List.length_cons, List.length_nil]
      omega
/-- The digits, as a text. -/
def decB (u : Nat) : ByteArray := ⟨(Lib.decDigits u).toArray⟩
theorem decB_size {u : Nat} (h : u < 18446744073709551616) : (decB u).size ≤ 20 := by
  have := dec_len 19 u (by omega)
  show (Lib.decDigits u).toArray.size ≤ 20
  rw [List.size_toArray]
  exact this
theorem decB_one {u : Nat} (h : u < 10) : decB u = strOfNums [48 + (u : Int)] := by
  unfold decB strOfNums
  rw [Lib.decDigits, dif_pos h]
  have e : (48 + (u : Int)).toNat = 48 + u := by omega
  simp only [List.map_cons, List.map_nil, e]
theorem decB_more {u : Nat} (h : ¬ u < 10) : decB (u / 10) ++ strOfNums [48 + ((u % 10 : Nat) : Int)] = decB u := by
  have e : (48 + ((u % 10 : Nat) : Int)).toNat = 48 + u % 10 := by omega
  unfold decB strOfNums
  rw [Lib.decDigits.eq_1 u, dif_neg h]
  apply ByteArray.ext
  simp only [ByteArray.data_append, List.map_cons, List.map_nil, e]
  simp
theorem st_join (t : TypeId) (a b : ByteArray) (h : a.size + b.size ≤ 1000000) : binOp .add t (.string a) (.string b) = pure (.string (a ++ b)) := by
  rw [binOp_string_add]
  unfold Op.stringOp
  have : ¬ ((a.size + b.size : Nat) : Int) > IntKind.i64.max := by
    have e : IntKind.i64.max = 9223372036854775807 := by decide
    rw [e]; omega
  simp only [this, if_false]
/-- A byte, as a text. -/
theorem conv_one {W : World} {p : Nat} (c : Int) (h : W.heap[p]? = some (.cells #[.int .u8 c] 5 (0, 0))) : (convert 64 9 (.slice (some ⟨p, 0, none⟩) 1 1)).run Tryz.prog W = .ok (.string (strOfNums [c])) W :=
  run_convert_bytes_arg W _ _ Tryz.underlying64 Tryz.underlying5 p 0 1 1 [c] rfl (fun i hi => by
    obtain rfl : i = 0 := by simpa using hi
    simp [World.cell?, h]) _ Tryz.underlying9

end Go.Proofs.YtamfcmmhmfhhkaaGreatDoor

namespace Go.Proofs.YtamfcmmhmfhhkaaGreatDoor
open Go.RowKit

/-- How a byte is written. -/
def escL (b : Int) : List Int := if 32 ≤ b ∧ b ≤ 126 ∧ b ≠ 34 ∧ b ≠ 92 then [b] else [92, 120, hexB (b / 16), hexB (b % 16)]
/-- A key's first i bytes, behind their quotation mark. -/
def quoL (s : ByteArray) (i : Nat) : List Int := 34 :: (s.toList.take i).flatMap fun u => escL (u.toNat : Int)
/-- A key quoted. -/
def quoA (s : ByteArray) : List Int := quoL s s.size ++ [34]
theorem quoL_succ {s : ByteArray} {i : Nat} (h : i < s.size) : quoL s (i + 1) = quoL s i ++ escL ((s[i]'h).toNat : Int) := by
  unfold quoL
  rw [ByteArray.toList_eq]
  have h' : i < s.data.toList.length := by rw [Array.length_toList]; exact h
  rw [List.take_add_one, List.getElem?_eq_getElem h', List.flatMap_append, List.cons_append]
  simp
  rfl
theorem escL_len (b : Int) : (escL b).length ≤ 4 := by unfold escL; split <;> simp
theorem quoL_len {s : ByteArray} : ∀ i, i ≤ s.size → (quoL s i).length ≤ 4 * i + 1
  | 0, _ => by simp [quoL]
  | i + 1, h => by
    rw [quoL_succ (by omega), List.length_append]
    have := quoL_len (s := s) i (by omega)
    have := escL_len (((s[i]'(by omega)).toNat : Nat) : Int)
    omega

/-- Some new bytes more. -/
theorem by_appN {w : World} {base : Nat} {ao : Option Addr} {cap : Nat} {A : List Int} (M : List Int) (h : encB.Own 5 w base (.slice ao A.length cap) A) (hs : base ≤ w.heap.size) (hn : A.length + M.length ≤ 100000000000000) :
    ∃ a2 p2 w4, (Builtin.append_ #[64, 64] 64 #[.slice ao A.length cap, .slice (some ⟨w.heap.size, 0, none⟩) M.length M.length]).run Tryz.prog (w.alloc (.cells (encB.flat M).toArray 5)) = .ok (.slice a2 (A ++ M).length p2) w4 ∧
      encB.Own 5 w4 base (.slice a2 (A ++ M).length p2) (A ++ M) ∧ Touch (fun d => (Value.slice ao A.length cap).ownBlock = some d) w w4 := by
  have own := Rc.Own.calm h ((Touch.refl (fun _ => False) w).alloc (.cells (encB.flat M).toArray 5))
  have hs1 := al_size w (.cells (encB.flat M).toArray 5)
  obtain ⟨a2, p2, w4, hr, ow, t2⟩ := by_apps own (some ⟨w.heap.size, 0, none⟩) M.length M (Rc.Mem.new w M 5) (fun h => (nomatch h)) (by omega) hn
  exact ⟨a2, p2, w4, hr, ow, Touch.trans (((Touch.refl (fun _ => False) w).alloc _).mono fun _ _ h => h.elim) t2 fun _ _ h => h⟩

end Go.Proofs.YtamfcmmhmfhhkaaGreatDoor
