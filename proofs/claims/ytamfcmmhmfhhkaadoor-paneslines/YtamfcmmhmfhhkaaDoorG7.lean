/- Of: the panes of a key, in the list's order (the document's). Texts in memory. keys: of all panes, rising, each once (the document's). -/
import Derived.Test.YtamfcmmhmfhhkaaDoorG6
import Derived.Test.YtamfcmmhmfhhkaaDoorG2
import Derived.Test.YtamfcmmhmfhhkaaDoorG1
namespace Go.Proofs.YtamfcmmhmfhhkaaDoor
open Go.RowKit

/-- One pane behind a row of one's own. -/
theorem pn_app1 {w : World} {base : Nat} {ao : Option Addr} {cap : Nat} {A : List Pn} (x : Pn) (h : encP.Own 29 w base (.slice ao A.length cap) A) (hs : base ≤ w.heap.size) (hn : A.length ≤ 1000000000000) :
    ∃ a2 p2 w4, (Builtin.append_ #[22, 22] 22 #[.slice ao A.length cap, .slice (some ⟨w.heap.size, 0, none⟩) 1 1]).run Tryd.prog (w.alloc (.cells (pnc x) 29)) = .ok (.slice a2 (A.length + 1) p2) w4 ∧
      encP.Own 29 w4 base (.slice a2 (A ++ [x]).length p2) (A ++ [x]) ∧ Touch (fun d => (Value.slice ao A.length cap).ownBlock = some d) w w4 := by
  obtain ⟨i0, hi, hz, hsz, hby⟩ := Rc.info_parts infoPane
  have own := Rc.Own.calm h ((Touch.refl (fun _ => False) w).alloc (.cells (pnc x) 29))
  have hs1 := al_size w (.cells (pnc x) 29)
  obtain ⟨a2, p2, w4, hr, ow, t2, -⟩ := Rc.Own.appw (E := encP) (ty := 22) Tryd.underlying22 hi hz hsz hby rfl own (some ⟨w.heap.size, 0, none⟩) 1 [x] (Rc.Mem.new w [x] 29) (fun h => (nomatch h)) (by simp; unfold maxLen; omega) (by simp; omega) (by omega) (by omega)
  have e3 : (A ++ [x]).length = A.length + 1 := by simp
  refine ⟨a2, p2, w4, by rw [← e3]; exact hr, ow, ?_⟩
  exact Touch.trans (((Touch.refl (fun _ => False) w).alloc _).mono fun _ _ h => h.elim) t2 fun _ _ h => h

/-- The panes of a key. -/
def ofP (L : List Pn) (k : ByteArray) : List Pn := L.filter fun p => decide (p.k = k)
/-- Those of the first i. -/
theorem ofP_succ {L : List Pn} {k : ByteArray} {i : Nat} (hi : i < L.length) : ofP (L.take (i + 1)) k = ofP (L.take i) k ++ (if (L.getD i pn0).k = k then [L.getD i pn0] else []) := by
  unfold ofP
  rw [List.take_add_one, List.filter_append, List.getElem?_eq_getElem hi, List.getD_eq_getElem?_getD, List.getElem?_eq_getElem hi]
  congr 1
  by_cases h : L[i].k = k <;> simp [h]
theorem ofP_le (L : List Pn) (k : ByteArray) : (ofP L k).length ≤ L.length := List.length_filter_le _ _

/-- What a function answers that makes a row of panes. -/
def RetP (w : World) (e : Ending) (w' : World) (L : List Pn) : Prop := ∃ a c, e = .returned (.slice a L.length c) ∧ encP.Own 29 w' w.heap.size (.slice a L.length c) L ∧ Calm w w'

end Go.Proofs.YtamfcmmhmfhhkaaDoor

namespace Go.Proofs.YtamfcmmhmfhhkaaDoor
open Go.RowKit

/-- Texts as records of one cell. -/
def encZ : Rc.Enc ByteArray := ⟨1, fun x => [.string x], fun _ => rfl, fun _ u hu => by simp at hu; subst hu; rfl, by decide⟩
theorem infoStr : (Tryd.prog.info? 9).map (fun i => (i.zero, i.size, i.bytes)) = some (some (.string ⟨#[]⟩), 1, 16) := by kernel_rfl
theorem elemStr : Tryd.prog.elem 66 = 9 := by kernel_rfl
theorem st_at {w : World} {ao : Option Addr} {L : List ByteArray} (h : encZ.Mem w ao L) (j : Nat) (hj : j < L.length) : ∃ b off, ao = some ⟨b, off, none⟩ ∧ w.cell? ⟨b, off + j, none⟩ = some (.string (L.getD j ⟨#[]⟩)) := by
  obtain ⟨b, off, e, g⟩ := Rc.Mem.at h j hj
  rw [List.getD_eq_getElem?_getD, List.getElem?_eq_getElem hj]
  have := g 0 _ rfl
  have e1 : encZ.n = 1 := rfl
  rw [e1, Nat.mul_one] at this
  exact ⟨b, off, e, this⟩

/-- One text more. -/
theorem st_app {w : World} {base : Nat} {ao : Option Addr} {cap : Nat} {A : List ByteArray} (b : ByteArray) (h : encZ.Own 9 w base (.slice ao A.length cap) A) (hs : base ≤ w.heap.size) (hn : A.length ≤ 1000000000000) :
    ∃ a2 p2 w4, (Builtin.append_ #[66, 66] 66 #[.slice ao A.length cap, .slice (some ⟨w.heap.size, 0, none⟩) 1 1]).run Tryd.prog (w.alloc (.cells #[.string b] 9)) = .ok (.slice a2 (A.length + 1) p2) w4 ∧
      encZ.Own 9 w4 base (.slice a2 (A ++ [b]).length p2) (A ++ [b]) ∧ Touch (fun d => (Value.slice ao A.length cap).ownBlock = some d) w w4 := by
  obtain ⟨i0, hi, hz, hsz, hby⟩ := Rc.info_parts infoStr
  have own := Rc.Own.calm h ((Touch.refl (fun _ => False) w).alloc (.cells #[.string b] 9))
  have hs1 := al_size w (.cells #[.string b] 9)
  obtain ⟨a2, p2, w4, hr, ow, t2, -⟩ := Rc.Own.appw (E := encZ) (ty := 66) Tryd.underlying66 hi hz hsz hby rfl own (some ⟨w.heap.size, 0, none⟩) 1 [b] (Rc.Mem.new w [b] 9) (fun h => (nomatch h)) (by simp; unfold maxLen; omega) (by simp; omega) (by omega) (by omega)
  have e3 : (A ++ [b]).length = A.length + 1 := by simp
  refine ⟨a2, p2, w4, by rw [← e3]; exact hr, ow, ?_⟩
  exact Touch.trans (((Touch.refl (fun _ => False) w).alloc _).mono fun _ _ h => h.elim) t2 fun _ _ h => h

end Go.Proofs.YtamfcmmhmfhhkaaDoor

namespace Go.Proofs.YtamfcmmhmfhhkaaDoor
open Go.RowKit

/-- A text ahead of another one. -/
def kLt (a b : ByteArray) : Bool := Op.bytesLess a.toList b.toList
/-- How many stand ahead of it. -/
def leadK (O : List ByteArray) (k : ByteArray) : Nat := (O.takeWhile fun a => kLt a k).length
def putK (O : List ByteArray) (k : ByteArray) : List ByteArray := if leadK O k < O.length ∧ O.getD (leadK O k) ⟨#[]⟩ = k then O else O.take (leadK O k) ++ [k] ++ O.drop (leadK O k)
def keysP (L : List Pn) : List ByteArray := L.foldl (fun O p => putK O p.k) []

theorem leadK_eq : ∀ (l : List ByteArray) (s : ByteArray) (i : Nat), i ≤ l.length → (∀ j, j < i → kLt (l.getD j ⟨#[]⟩) s = true) → (i < l.length → kLt (l.getD i ⟨#[]⟩) s = false) → leadK l s = i
  | [], _, i, hi, _, _ => by simp at hi; subst hi; rfl
  | x :: l, s, 0, _, _, h2 => by
    have : kLt x s = false := h2 (by simp)
    simp [leadK, this]
  | x :: l, s, i + 1, hi, h1, h2 => by
    have h0 : kLt x s = true := h1 0 (by omega)
    have ih := leadK_eq l s i (by simpa using hi) (fun j hj => h1 (j + 1) (by omega)) (fun h => h2 (by simpa using h))
    unfold leadK at ih ⊢
    rw [List.takeWhile_cons, if_pos (by simpa using h0), List.length_cons, ih]
theorem putK_len (O : List ByteArray) (k : ByteArray) : (putK O k).length ≤ O.length + 1 := by
  unfold putK
  split
  · omega
  · simp only [List.length_append, List.length_take, List.length_drop, List.length_cons, List.length_nil]; omega
theorem keysP_succ {L : List Pn} {i : Nat} (hi : i < L.length) : keysP (L.take (i + 1)) = putK (keysP (L.take i)) (L.getD i pn0).k := by
  unfold keysP
  rw [List.take_add_one, List.getElem?_eq_getElem hi, List.getD_eq_getElem?_getD, List.getElem?_eq_getElem hi, List.foldl_append]
  rfl
theorem keysP_len (L : List Pn) : ∀ i, i ≤ L.length → (keysP (L.take i)).length ≤ i
  | 0, _ => by simp [keysP]
  | i + 1, hi => by
    rw [keysP_succ (by omega)]
    exact Nat.le_trans (putK_len _ _) (by have := keysP_len L i (by omega); omega)

/-- A text put in at a place of a row of one's own, in a new row. -/
theorem st_put {W : World} {base : Nat} {ao : Option Addr} {cap : Nat} {O : List ByteArray} (b : ByteArray) (h : encZ.Own 9 W base (.slice ao O.length cap) O) (k : Nat) (hk : k ≤ O.length) (hn : O.length ≤ 1000000000) :
    ∃ so1 sc1 so2 sc2 a1 p1 w3 a2 p2 w4 a3 p3 w5, (∀ V, (Instr.slice 66 (.slice ao O.length cap) none (some (.int .i64 (k : Nat))) none).run Tryd.prog V = .ok (.slice so1 k sc1) V) ∧ (∀ V, (Instr.slice 66 (.slice ao O.length cap) (some (.int .i64 (k : Nat))) none none).run Tryd.prog V = .ok (.slice so2 (O.length - k) sc2) V) ∧
      (Builtin.append_ #[66, 66] 66 #[.slice none 0 0, .slice so1 k sc1]).run Tryd.prog W = .ok (.slice a1 k p1) w3 ∧
      (Builtin.append_ #[66, 66] 66 #[.slice a1 k p1, .slice (some ⟨w3.heap.size, 0, none⟩) 1 1]).run Tryd.prog (w3.alloc (.cells #[.string b] 9)) = .ok (.slice a2 (k + 1) p2) w4 ∧
      (Builtin.append_ #[66, 66] 66 #[.slice a2 (k + 1) p2, .slice so2 (O.length - k) sc2]).run Tryd.prog w4 = .ok (.slice a3 (O.length + 1) p3) w5 ∧
      encZ.Own 9 w5 W.heap.size (.slice a3 (O.length + 1) p3) (O.take k ++ [b] ++ O.drop k) ∧ Calm W w3 ∧ Calm W w5 := by
  obtain ⟨i0, hi, hz, hs, hby⟩ := Rc.info_parts infoStr
  have sl := Rc.Own.sl h
  obtain ⟨so1, sc1, hsl1, m1, n1⟩ := Rc.Sl.to Tryd.underlying66 elemStr hi (k := k) sl hk
  obtain ⟨so2, sc2, hsl2, m2, n2⟩ := Rc.Sl.from Tryd.underlying66 elemStr hi hs (k := k) sl hk
  have e1 : (O.take k).length = k := by rw [List.length_take]; omega
  have e2 : (O.drop k).length = O.length - k := by rw [List.length_drop]
  have eb : encZ.n = 1 := rfl
  obtain ⟨a1, p1, w3, hr1, ow1, t1, -⟩ := Rc.Own.appw (E := encZ) (ty := 66) Tryd.underlying66 hi hz hs hby rfl (Rc.Own.nil 9 W W.heap.size) so1 sc1 (O.take k) m1 n1 (by rw [e1]; simp; unfold maxLen; omega) (by rw [e1]; simp; omega) (by omega) (Nat.le_refl _)
  have C3 : Calm W w3 := Rc.Own.fresh (Rc.Own.nil (E := encZ) 9 W W.heap.size) t1 (fun _ h => h) (Touch.refl _ _) (Nat.le_refl _)
  rw [List.nil_append, e1] at hr1
  rw [List.nil_append, e1] at ow1
  have ow1' := Rc.Own.calm ow1 ((Touch.refl (fun _ => False) w3).alloc (.cells #[.string b] 9))
  have hsz3 := C3.size
  have hs1 := al_size w3 (.cells #[.string b] 9)
  obtain ⟨a2, p2, w4, hr2, ow2, t2, -⟩ := Rc.Own.appw (E := encZ) (ty := 66) Tryd.underlying66 hi hz hs hby rfl ow1' (some ⟨w3.heap.size, 0, none⟩) 1 [b] (Rc.Mem.new w3 [b] 9) (fun h => (nomatch h)) (by rw [e1]; simp; unfold maxLen; omega) (by rw [e1]; simp; omega) (by omega) (by omega)
  have C4 : Calm W w4 := Rc.Own.fresh ow1' t2 (fun _ h => h) (C3.alloc _) (Nat.le_refl _)
  have e3 : (O.take k ++ [b]).length = k + 1 := by rw [List.length_append, e1]; rfl
  rw [e3] at hr2
  rw [e3] at ow2
  have hsz4 := C4.size
  obtain ⟨a3, p3, w5, hr3, ow3, t3, -⟩ := Rc.Own.appw (E := encZ) (ty := 66) Tryd.underlying66 hi hz hs hby rfl ow2 so2 sc2 (O.drop k) (Rc.Mem.calm m2 C4) n2 (by rw [e2, e3]; unfold maxLen; omega) (by rw [e2, e3]; omega) (by omega) (by omega)
  have C5 : Calm W w5 := Rc.Own.fresh ow2 t3 (fun _ h => h) C4 (Nat.le_refl _)
  have e4 : (O.take k ++ [b] ++ O.drop k).length = O.length + 1 := by rw [List.length_append, e3, e2]; omega
  rw [e2, e4] at hr3
  rw [e4] at ow3
  exact ⟨so1, sc1, so2, sc2, a1, p1, w3, a2, p2, w4, a3, p3, w5, fun V => hsl1 V, fun V => hsl2 V, hr1, hr2, hr3, ow3, C3, C5⟩

end Go.Proofs.YtamfcmmhmfhhkaaDoor
