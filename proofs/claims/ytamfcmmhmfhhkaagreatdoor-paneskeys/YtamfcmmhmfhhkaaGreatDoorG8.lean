/- Rows written over: which stay. A job, and how it lies in memory. Jobs: which field may be (the notions). A job's numbers (notions). -/
import Derived.Test.YtamfcmmhmfhhkaaGreatDoorG4
import Derived.Test.YtamfcmmhmfhhkaaGreatDoorG6
import Derived.Test.YtamfcmmhmfhhkaaGreatDoorG7
import Derived.Test.YtamfcmmhmfhhkaaGreatDoorG0
import Derived.Test.YtamfcmmhmfhhkaaGreatDoorG1
namespace Go.Proofs.YtamfcmmhmfhhkaaGreatDoor
open Go.RowKit

theorem set_same {l : List Value} {k : Nat} {u : Value} (h : l[k]? = some u) : l.set k u = l := by
  apply List.ext_getElem?
  intro j
  rw [List.getElem?_set]
  by_cases hj : k = j
  · subst hj
    rw [if_pos rfl, h]
    have := (List.getElem?_eq_some_iff.1 h).1
    rw [if_pos this]
  · rw [if_neg hj]
/-- A key turned in place. -/
theorem own_setk {w : World} {base g n cap : Nat} {P : List Kp} (h : encG.Own 32 w base (.slice (some ⟨g, 0, none⟩) n cap) P) (i : Nat) (hi : i < P.length) (b : ByteArray) :
    encG.Own 32 (w.setCell ⟨g, i * 2, none⟩ (.string b)) base (.slice (some ⟨g, 0, none⟩) n cap) (P.set i { P.getD i kp0 with k := b }) := by
  have hnL : n = P.length := (Rc.Own.mem h).1
  have e9 : encG.n = 2 := rfl
  obtain ⟨h1, ⟨hv, h2⟩ | ⟨g', cap', cur, hv, h3, h4, h5, h6, h7, h8⟩⟩ := h
  · cases hv
  · injection hv with e1 e2 e3
    injection e1 with e1
    injection e1 with e1
    subst e1 e3
    have k0 := heap_setCell_row (i := i * 2) h4 (.string b)
    have pf := Rc.puts_flat (E := encG) P i hi { P.getD i kp0 with k := b }
    have hg := encG.flat_get P i hi 1 (by decide)
    have hc : encG.cells { P.getD i kp0 with k := b } = [.string b, .slice (P.getD i kp0).o (P.getD i kp0).n (P.getD i kp0).c] := rfl
    have hd : P.getD i kp0 = P[i] := by rw [List.getD_eq_getElem?_getD, List.getElem?_eq_getElem hi]; rfl
    rw [hc, e9] at pf
    have hg2 : ((encG.flat P).set (i * 2) (.string b))[i * 2 + 1]? = some (.slice (P.getD i kp0).o (P.getD i kp0).n (P.getD i kp0).c) := by
      rw [List.getElem?_set, if_neg (by omega), hd]
      exact hg
    have pf2 : (encG.flat P).set (i * 2) (.string b) = encG.flat (P.set i { P.getD i kp0 with k := b }) := by
      rw [← pf]
      show _ = ((encG.flat P).set (i * 2) (.string b)).set (i * 2 + 1) _
      rw [set_same hg2]
    refine ⟨by rw [encG.flat_len], .inr ⟨g, cap, _, ?_, h3, k0, by rw [List.length_set]; exact h5, h6, by simpa using h7, ?_⟩⟩
    · rw [List.length_set, hnL]
    · rw [List.length_set, ← pf2, ← h8]
      simp only [Array.toList_setIfInBounds, List.take_set]
/-- The rows of panes of keys: those from i on. -/
theorem KpIn.at {W : World} {base : Nat} {L : List Pn} {K : List ByteArray} {P : List Kp} (h : KpIn W base L K P) (j : Nat) (hj : j < P.length) : (P.getD j kp0).k = K.getD j ⟨#[]⟩ ∧ (P.getD j kp0).n = (ofP L (K.getD j ⟨#[]⟩)).length ∧ encP.Own 40 W base (.slice (P.getD j kp0).o (P.getD j kp0).n (P.getD j kp0).c) (ofP L (K.getD j ⟨#[]⟩)) := h j hj
/-- Keys that stay where blocks are written that are none of theirs. -/
theorem KpIn.keep {W W' : World} {base : Nat} {S : Nat → Prop} {L : List Pn} {K : List ByteArray} {P : List Kp} (h : KpIn W base L K P) (ht : Touch S W W') (hS : ∀ g, base ≤ g → g < W.heap.size → ¬ S g) : KpIn W' base L K P := fun j hj => by
  obtain ⟨h1, h2, h3⟩ := h j hj
  exact ⟨h1, h2, Rc.Own.touch h3 ht fun g hg => hS g (own_bd h3 hg).1 (own_bd h3 hg).2⟩
theorem lastF_len : ∀ (R O : List Pn), (lastF O R).length ≤ O.length + R.length
  | [], O => by simp [lastF]
  | p :: R, O => by
    show (lastF (if laterP R p then O else insW O p) R).length ≤ _
    have := lastF_len R (if laterP R p then O else insW O p)
    have h2 := insW_len O p
    rw [List.length_cons]
    split at this <;> split <;> simp_all <;> omega
theorem lastP_len (L : List Pn) : (lastP L).length ≤ L.length := by
  have := lastF_len L []
  simpa [lastP] using this
/-- Two answers of Keys are the same. -/
theorem twoKeys {w : World} {L : List Pn} {b1 b2 : Nat} {A B : List Kp} {a1 a2 : Option Addr} {c1 c2 : Nat} (hA : encG.Mem w a1 A) (hB : encG.Mem w a2 B) (lA : A.length = (keysP L).length) (lB : B.length = (keysP L).length) (kA : KpIn w b1 L (keysP L) A) (kB : KpIn w b2 L (keysP L) B) (hl : L.length ≤ 100000) :
    Calls Tryz.prog 13 #[.slice a1 A.length c1, .slice a2 B.length c2] w fun e w' => e = .returned (.bool true) ∧ Calm w w' := by
  have hk := keysP_len L L.length (Nat.le_refl _)
  rw [List.take_length] at hk
  have hA1 : A.length ≤ 1000000000000 := Nat.le_trans (Nat.le_of_eq lA) (by omega)
  have hr : ∀ j, j < A.length → (A.getD j kp0).k = (B.getD j kp0).k ∧ (A.getD j kp0).n = (ofP L ((keysP L).getD j ⟨#[]⟩)).length ∧ (B.getD j kp0).n = (ofP L ((keysP L).getD j ⟨#[]⟩)).length ∧ encP.Mem w (A.getD j kp0).o (ofP L ((keysP L).getD j ⟨#[]⟩)) ∧ encP.Mem w (B.getD j kp0).o (ofP L ((keysP L).getD j ⟨#[]⟩)) ∧ (ofP L ((keysP L).getD j ⟨#[]⟩)).length ≤ 1000000000000 := fun j hj => by
    obtain ⟨p1, p2, p3⟩ := kA j hj
    obtain ⟨q1, q2, q3⟩ := kB j (by rw [lB, ← lA]; exact hj)
    have := ofP_le L ((keysP L).getD j ⟨#[]⟩)
    have m1 := (Rc.Own.mem p3).2.1
    have m2 := (Rc.Own.mem q3).2.1
    have h6 : (ofP L ((keysP L).getD j ⟨#[]⟩)).length ≤ 1000000000000 := by omega
    exact ⟨p1.trans q1.symm, p2, q2, m1, m2, h6⟩
  have hlen : B.length = A.length := lB.trans lA.symm
  clear kA kB lA lB hk
  generalize keysP L = K at *
  have := sameKeys_any A B (fun j => ofP L (K.getD j ⟨#[]⟩)) a1 a2 c1 c2 w hA hB hlen hA1 hr
  rw [hlen]
  exact this

end Go.Proofs.YtamfcmmhmfhhkaaGreatDoor

namespace Go.Proofs.YtamfcmmhmfhhkaaGreatDoor
open Go.RowKit

/-- A job. -/
structure Cf where
  gr : Int
  so : Int
  ki : Int
  sz : Int
  sl : Int
  of : Int
  gp : Int
  lt : Int
  ea : Int
  di : Bool
abbrev cfc (c : Cf) : Array Value := #[.int .i64 c.gr, .int .i64 c.so, .int .i64 c.ki, .int .i64 c.sz, .int .i64 c.sl, .int .i64 c.of, .int .i64 c.gp, .int .i64 c.lt, .int .i64 c.ea, .bool c.di]
abbrev cfv (c : Cf) : Value := .agg (cfc c)
theorem cf_cells {w : World} {b : Nat} {c : Cf} {ty : TypeId} (h : w.heap[b]? = some (.cells (cfc c) ty (0, 0))) :
    (w.cell? ⟨b, 0, none⟩ = some (.int .i64 c.gr) ∧ w.cell? ⟨b, 1, none⟩ = some (.int .i64 c.so) ∧ w.cell? ⟨b, 2, none⟩ = some (.int .i64 c.ki) ∧ w.cell? ⟨b, 3, none⟩ = some (.int .i64 c.sz) ∧ w.cell? ⟨b, 4, none⟩ = some (.int .i64 c.sl) ∧ w.cell? ⟨b, 5, none⟩ = some (.int .i64 c.of) ∧ w.cell? ⟨b, 6, none⟩ = some (.int .i64 c.gp)) ∧
    w.cell? ⟨b, 7, none⟩ = some (.int .i64 c.lt) ∧ w.cell? ⟨b, 8, none⟩ = some (.int .i64 c.ea) ∧ w.cell? ⟨b, 9, none⟩ = some (.bool c.di) := by simp [World.cell?, h]

end Go.Proofs.YtamfcmmhmfhhkaaGreatDoor

namespace Go.Proofs.YtamfcmmhmfhhkaaGreatDoor
open Go.RowKit

/-- From lo to hi? -/
def inB (x lo hi : Int) : Bool := decide (lo ≤ x) && decide (x ≤ hi)
/-- May the field of that number be? -/
def fieldB (c : Cf) : Nat → Bool
  | 1 => inB c.gr 1 32768
  | 2 => inB c.so 1 64
  | 3 => (c.ki == 1 || c.ki == 2) || c.ki == 3
  | 4 => if c.ki = 3 then c.sz == 0 else inB c.sz 1 1099511627776
  | 5 => if ¬ c.ki = 2 then c.sl == 0 else (inB c.sl 1 c.sz && decide (c.sz ≤ wrap64 (64 * c.sl)))
  | 6 => if c.ki = 1 then inB c.of 0 (wrap64 (c.sz - 1)) else if c.ki = 2 then inB c.of 0 (wrap64 (c.sl - 1)) else c.of == 0
  | 7 => if ¬ c.ki = 3 then c.gp == 0 else inB c.gp 1 1099511627776
  | 8 => inB c.lt 0 1099511627776
  | _ => inB c.ea 0 2147483647
/-- The first field from n on, of k, that may not be; 0: none. -/
def wrongF (c : Cf) : Nat → Nat → Nat
  | _, 0 => 0
  | n, k + 1 => if fieldB c n then wrongF c (n + 1) k else n
def wrongN (c : Cf) : Nat := wrongF c 1 9

end Go.Proofs.YtamfcmmhmfhhkaaGreatDoor

namespace Go.Proofs.YtamfcmmhmfhhkaaGreatDoor
open Go.RowKit
/-- Ten numbers; a job's. -/
abbrev f10c (f : Nat → Int) : Array Value := #[.int .i64 (f 0), .int .i64 (f 1), .int .i64 (f 2), .int .i64 (f 3), .int .i64 (f 4), .int .i64 (f 5), .int .i64 (f 6), .int .i64 (f 7), .int .i64 (f 8), .int .i64 (f 9)]
theorem f10_cells {w : World} {b : Nat} {f : Nat → Int} {ty : TypeId} (h : w.heap[b]? = some (.cells (f10c f) ty (0, 0))) (j : Nat) (hj : j < 10) : w.cell? ⟨b, j, none⟩ = some (.int .i64 (f j)) := by
  rcases (by omega : j = 0 ∨ j = 1 ∨ j = 2 ∨ j = 3 ∨ j = 4 ∨ j = 5 ∨ j = 6 ∨ j = 7 ∨ j = 8 ∨ j = 9) with rfl | rfl | rfl | rfl | rfl | rfl | rfl | rfl | rfl | rfl <;> simp [World.cell?, h]
def fldF (c : Cf) : Nat → Int
  | 0 => c.gr
  | 1 => c.so
  | 2 => c.ki
  | 3 => c.sz
  | 4 => c.sl
  | 5 => c.of
  | 6 => c.gp
  | 7 => c.lt
  | 8 => c.ea
  | _ => if c.di then 1 else 0
def ofF (f : Nat → Int) : Cf := ⟨f 0, f 1, f 2, f 3, f 4, f 5, f 6, f 7, f 8, f 9 == 1⟩

end Go.Proofs.YtamfcmmhmfhhkaaGreatDoor
