/- Rows of one's own: where they lie. Rows written over: which stay. Where two operations may come up, each of which changes the world. PanesAlike, walked over what the program is to answer. -/
import Derived.Test.YtamfcmmhmfhhkaaGreatDoorG1
import Derived.Test.YtamfcmmhmfhhkaaGreatDoorG4
import Derived.Test.YtamfcmmhmfhhkaaGreatDoorG14
import Derived.Test.YtamfcmmhmfhhkaaGreatDoorG0
import Derived.Laws.Tables
import Derived.Test.YtamfcmmhmfhhkaaGreatDoorG11
import Derived.Test.YtamfcmmhmfhhkaaGreatDoorG3
import Derived.Test.YtamfcmmhmfhhkaaGreatDoorG13
import Derived.Deep.CutRange
namespace Go.Proofs.YtamfcmmhmfhhkaaGreatDoor
open Go.RowKit

theorem own_bd {α : Type} {E : Rc.Enc α} {e : TypeId} {w : World} {base : Nat} {v : Value} {L : List α} (h : E.Own e w base v L) {g : Nat} (hg : v.ownBlock = some g) : base ≤ g ∧ g < w.heap.size := by
  obtain ⟨h1, cur, hc⟩ := Rc.own_block h hg
  exact ⟨h1, lt_of_heap hc⟩
theorem own_keep {α : Type} {E : Rc.Enc α} {e : TypeId} {w w' : World} {base : Nat} {v : Value} {L : List α} {S : Nat → Prop} (h : E.Own e w base v L) (ht : Touch S w w') (hS : ∀ g, base ≤ g → g < w.heap.size → ¬ S g) : E.Own e w' base v L :=
  Rc.Own.touch h ht fun g hg => hS g (own_bd h hg).1 (own_bd h hg).2

end Go.Proofs.YtamfcmmhmfhhkaaGreatDoor

namespace Go.Proofs.YtamfcmmhmfhhkaaGreatDoor
open Go.RowKit

theorem set_same {l : List Value} {k : Nat} {u : Value} (h : l[k]? = some u) : l.set k u = l := by
  apply List.ext_getElem?
  intro j
  rw [List.getElem?_set]
  by_cases hj : k = j
  · subst hj
    rw [if_pos rfl, h]
    have := (List.getElem?_eq_some_iff.1 h).1
    rw [if_pos this]
  · rw [if_neg hj]
/-- A key turned in place. -/
theorem own_setk {w : World} {base g n cap : Nat} {P : List Kp} (h : encG.Own 32 w base (.slice (some ⟨g, 0, none⟩) n cap) P) (i : Nat) (hi : i < P.length) (b : ByteArray) :
    encG.Own 32 (w.setCell ⟨g, i * 2, none⟩ (.string b)) base (.slice (some ⟨g, 0, none⟩) n cap) (P.set i { P.getD i kp0 with k := b }) := by
  have hnL : n = P.length := (Rc.Own.mem h).1
  have e9 : encG.n = 2 := rfl
  obtain ⟨h1, ⟨hv, h2⟩ | ⟨g', cap', cur, hv, h3, h4, h5, h6, h7, h8⟩⟩ := h
  · cases hv
  · injection hv with e1 e2 e3
    injection e1 with e1
    injection e1 with e1
    subst e1 e3
    have k0 := heap_setCell_row (i := i * 2) h4 (.string b)
    have pf := Rc.puts_flat (E := encG) P i hi { P.getD i kp0 with k := b }
    have hg := encG.flat_get P i hi 1 (by decide)
    have hc : encG.cells { P.getD i kp0 with k := b } = [.string b, .slice (P.getD i kp0).o (P.getD i kp0).n (P.getD i kp0).c] := rfl
    have hd : P.getD i kp0 = P[i] := by rw [List.getD_eq_getElem?_getD, List.getElem?_eq_getElem hi]; rfl
    rw [hc, e9] at pf
    have hg2 : ((encG.flat P).set (i * 2) (.string b))[i * 2 + 1]? = some (.slice (P.getD i kp0).o (P.getD i kp0).n (P.getD i kp0).c) := by
      rw [List.getElem?_set, if_neg (by omega), hd]
      exact hg
    have pf2 : (encG.flat P).set (i * 2) (.string b) = encG.flat (P.set i { P.getD i kp0 with k := b }) := by
      rw [← pf]
      show _ = ((encG.flat P).set (i * 2) (.string b)).set (i * 2 + 1) _
      rw [set_same hg2]
    refine ⟨by rw [encG.flat_len], .inr ⟨g, cap, _, ?_, h3, k0, by rw [List.length_set]; exact h5, h6, by simpa using h7, ?_⟩⟩
    · rw [List.length_set, hnL]
    · rw [List.length_set, ← pf2, ← h8]
      simp only [Array.toList_setIfInBounds, List.take_set]
/-- The rows of panes of keys: those from i on. -/
theorem KpIn.at {W : World} {base : Nat} {L : List Pn} {K : List ByteArray} {P : List Kp} (h : KpIn W base L K P) (j : Nat) (hj : j < P.length) : (P.getD j kp0).k = K.getD j ⟨#[]⟩ ∧ (P.getD j kp0).n = (ofP L (K.getD j ⟨#[]⟩)).length ∧ encP.Own 40 W base (.slice (P.getD j kp0).o (P.getD j kp0).n (P.getD j kp0).c) (ofP L (K.getD j ⟨#[]⟩)) := h j hj
/-- Keys that stay where blocks are written that are none of theirs. -/
theorem KpIn.keep {W W' : World} {base : Nat} {S : Nat → Prop} {L : List Pn} {K : List ByteArray} {P : List Kp} (h : KpIn W base L K P) (ht : Touch S W W') (hS : ∀ g, base ≤ g → g < W.heap.size → ¬ S g) : KpIn W' base L K P := fun j hj => by
  obtain ⟨h1, h2, h3⟩ := h j hj
  exact ⟨h1, h2, Rc.Own.touch h3 ht fun g hg => hS g (own_bd h3 hg).1 (own_bd h3 hg).2⟩
theorem lastF_len : ∀ (R O : List Pn), (lastF O R).length ≤ O.length + R.length
  | [], O => by simp [lastF]
  | p :: R, O => by
    show (lastF (if laterP R p then O else insW O p) R).length ≤ _
    have := lastF_len R (if laterP R p then O else insW O p)
    have h2 := insW_len O p
    rw [List.length_cons]
    split at this <;> split <;> simp_all <;> omega
theorem lastP_len (L : List Pn) : (lastP L).length ≤ L.length := by
  have := lastF_len L []
  simpa [lastP] using this
/-- Two answers of Keys are the same. -/
theorem twoKeys {w : World} {L : List Pn} {b1 b2 : Nat} {A B : List Kp} {a1 a2 : Option Addr} {c1 c2 : Nat} (hA : encG.Mem w a1 A) (hB : encG.Mem w a2 B) (lA : A.length = (keysP L).length) (lB : B.length = (keysP L).length) (kA : KpIn w b1 L (keysP L) A) (kB : KpIn w b2 L (keysP L) B) (hl : L.length ≤ 100000) :
    Calls Tryz.prog 13 #[.slice a1 A.length c1, .slice a2 B.length c2] w fun e w' => e = .returned (.bool true) ∧ Calm w w' := by
  have hk := keysP_len L L.length (Nat.le_refl _)
  rw [List.take_length] at hk
  have hA1 : A.length ≤ 1000000000000 := Nat.le_trans (Nat.le_of_eq lA) (by omega)
  have hr : ∀ j, j < A.length → (A.getD j kp0).k = (B.getD j kp0).k ∧ (A.getD j kp0).n = (ofP L ((keysP L).getD j ⟨#[]⟩)).length ∧ (B.getD j kp0).n = (ofP L ((keysP L).getD j ⟨#[]⟩)).length ∧ encP.Mem w (A.getD j kp0).o (ofP L ((keysP L).getD j ⟨#[]⟩)) ∧ encP.Mem w (B.getD j kp0).o (ofP L ((keysP L).getD j ⟨#[]⟩)) ∧ (ofP L ((keysP L).getD j ⟨#[]⟩)).length ≤ 1000000000000 := fun j hj => by
    obtain ⟨p1, p2, p3⟩ := kA j hj
    obtain ⟨q1, q2, q3⟩ := kB j (by rw [lB, ← lA]; exact hj)
    have := ofP_le L ((keysP L).getD j ⟨#[]⟩)
    have m1 := (Rc.Own.mem p3).2.1
    have m2 := (Rc.Own.mem q3).2.1
    have h6 : (ofP L ((keysP L).getD j ⟨#[]⟩)).length ≤ 1000000000000 := by omega
    exact ⟨p1.trans q1.symm, p2, q2, m1, m2, h6⟩
  have hlen : B.length = A.length := lB.trans lA.symm
  clear kA kB lA lB hk
  generalize keysP L = K at *
  have := sameKeys_any A B (fun j => ofP L (K.getD j ⟨#[]⟩)) a1 a2 c1 c2 w hA hB hlen hA1 hr
  rw [hlen]
  exact this

end Go.Proofs.YtamfcmmhmfhhkaaGreatDoor

namespace Go.Proofs.YtamfcmmhmfhhkaaGreatDoor

section
variable {P : Program} {ops : Array Oper} {Q : Exit → Act → World → Prop} {S : World → Prop} {md : Region.Mode}



/-- One of two. -/
theorem wpAnyH_two (i j : Nat) {fuel : Nat} {listed : Array Bool} {a : Act} {w : World} (hr : Region.ready md ops listed = [i, j])
    (h1 : wpOp P ops Q i (fun a' w' => S w' ∧ wpAnyH P md ops Q S fuel (listed.setIfInBounds i true) a' w') a w)
    (h2 : wpOp P ops Q j (fun a' w' => S w' ∧ wpAnyH P md ops Q S fuel (listed.setIfInBounds j true) a' w') a w) : wpAnyH P md ops Q S (fuel + 1) listed a w := by
  refine wpAnyH_all hr (by simp) ?_
  intro x hx
  rcases (by simpa using hx : x = i ∨ x = j) with rfl | rfl
  · exact h1
  · exact h2

/-- The one operation that may come up stores a whole row. -/
theorem wpAnyH_row (i : Nat) {oi : Oper} {fuel : Nat} {listed : Array Bool} {a : Act} {w : World} (hi : ops[i]? = some oi) (hd : oi.dst = none) (ty : TypeId) (x y : Operand) (ho : oi.op = .store ty x y)
    (hr : Region.ready md ops listed = [i]) (hw : Region.wanted oi (yielded ops a.tmps) = true) (g : Nat) (cells : Array Value) (hx : a.eval x = .pointer (some ⟨g, 0, none⟩)) (hy : a.eval y = .agg cells)
    (t : TypeId) (old : Array Value) (hg : w.heap[g]? = some (.cells old t (0, 0))) (hsz : (P.info? ty).map (·.size) = some cells.size) (hold : old.size = cells.size) (h1 : cells.all (·.oneCell') = true) (hS : S (w.setRow g cells))
    (h : wpAnyH P md ops Q S fuel (listed.setIfInBounds i true) a (w.setRow g cells)) : wpAnyH P md ops Q S (fuel + 1) listed a w := by
  refine wpAnyH_all hr (by simp) ?_
  intro j hj
  obtain rfl : j = i := by simpa using hj
  unfold wpOp
  simp only [hi, hw, if_true]
  left
  refine wp_store_row ty x y ho g cells hx hy t old hg hsz hold h1 ?_
  rw [hd]
  exact ⟨hS, h⟩

end
end Go.Proofs.YtamfcmmhmfhhkaaGreatDoor

namespace Go.Proofs.YtamfcmmhmfhhkaaGreatDoor
open Go.RowKit

theorem own_atK {w : World} {base : Nat} {a : Option Addr} {n c : Nat} {O : List Pn} (h : encP.Own 40 w base (.slice a n c) O) (j : Nat) (hj : j < O.length) : ∃ g, a = some ⟨g, 0, none⟩ ∧ ∀ W, Calm w W → pcell W g (j * 9) (O.getD j pn0) := by
  obtain ⟨g, off, e, hc⟩ := pn_W (Rc.Own.mem h).2.1 j hj
  obtain ⟨_, _, _, _, _, ha⟩ := Rc.Own.mem h
  have h2 : off = 0 := (ha _ e).2.1
  subst h2
  refine ⟨g, e, fun W hW => ?_⟩
  have := hc W hW
  rwa [Nat.zero_add] at this
theorem geq_strN (t : TypeId) (a b : ByteArray) : binOp .geq t (.string a) (.string b) = pure (.bool (!kLt a b)) := by
  unfold kLt
  simp [binOp, Op.stringOp]
theorem gtr_strN (t : TypeId) (a b : ByteArray) : binOp .gtr t (.string a) (.string b) = pure (.bool (kLt b a)) := by
  unfold kLt
  simp only [binOp, Op.stringOp]
  have e : (!Op.bytesLess a.toList b.toList && !a.toList == b.toList) = Op.bytesLess b.toList a.toList := by
    rw [← Bool.not_or, lessN_or, Bool.not_not]
  simp [← e]
/-- Panes behind a row of one's own. -/
theorem pn_apps {w : World} {base : Nat} {ao : Option Addr} {cap : Nat} {A B : List Pn} {bo : Option Addr} {bc : Nat} (h : encP.Own 40 w base (.slice ao A.length cap) A) (hB : encP.Mem w bo B) (hc : bo = none → bc = 0) (hs : base ≤ w.heap.size) (hn : A.length + B.length ≤ 1000000000000) :
    ∃ a3 p3 w4, (Builtin.append_ #[22, 22] 22 #[.slice ao A.length cap, .slice bo B.length bc]).run Tryz.prog w = .ok (.slice a3 (A ++ B).length p3) w4 ∧
      encP.Own 40 w4 base (.slice a3 (A ++ B).length p3) (A ++ B) ∧ Touch (fun d => (Value.slice ao A.length cap).ownBlock = some d) w w4 := by
  obtain ⟨i0, hi, hz, hsz, hby⟩ := Rc.info_parts infoPane
  obtain ⟨a3, p3, w4, hr, ow, t2, -⟩ := Rc.Own.appw (E := encP) (ty := 22) Tryz.underlying22 hi hz hsz hby rfl h bo bc B hB hc (by unfold maxLen; omega) (by omega) (by omega) hs
  exact ⟨a3, p3, w4, hr, ow, t2⟩
/-- The rows put together from the last one down to the one of the number k. -/
def catD (L : List Pn) (k : Nat) : List Pn := catK L ((keysP L).drop k)
theorem catD_end (L : List Pn) : catD L (keysP L).length = [] := by unfold catD; rw [List.drop_of_length_le (Nat.le_refl _)]; rfl
theorem catD_zero (L : List Pn) : catD L 0 = catK L (keysP L) := by unfold catD; rw [List.drop_zero]
theorem catD_next {L : List Pn} {j : Nat} (h : j < (keysP L).length) : catD L j = catD L (j + 1) ++ ofP L ((keysP L).getD j ⟨#[]⟩) := by
  unfold catD
  rw [List.drop_eq_getElem_cons h, catK_cons, List.getD_eq_getElem?_getD, List.getElem?_eq_getElem h]
  rfl
theorem cat_len (L : List Pn) : (catK L (keysP L)).length = L.length := same_len (cat_of L)
theorem catD_len (L : List Pn) {j : Nat} (h : j ≤ (keysP L).length) : (catD L j).length ≤ L.length := by
  have h2 : ∀ j, j ≤ (keysP L).length → (catD L j).length ≤ (catD L 0).length := by
    intro j
    induction j with
    | zero => intro _; exact Nat.le_refl _
    | succ j ih =>
      intro hj
      have := ih (by omega)
      rw [catD_next (L := L) (j := j) (by omega), List.length_append] at this
      omega
  have h3 := h2 j h
  rw [catD_zero, cat_len] at h3
  exact h3
theorem catK_mem {L : List Pn} {p : Pn} (h : p ∈ catK L (keysP L)) : p ∈ L := by
  have h2 : p ∈ ofP (catK L (keysP L)) p.k := by unfold ofP; exact List.mem_filter.2 ⟨h, by simp⟩
  rw [cat_of] at h2
  unfold ofP at h2
  exact (List.mem_filter.1 h2).1
theorem cat_b1 (L : List Pn) : beginsP L (catK L (keysP L)) = true := begins_yes fun k => ⟨[], by rw [cat_of, List.append_nil]⟩
theorem cat_b2 (L : List Pn) : beginsP (catK L (keysP L)) L = true := begins_yes fun k => ⟨[], by rw [cat_of, List.append_nil]⟩
theorem cat_b4 (L : List Pn) (x : Pn) : beginsP L (catK L (keysP L) ++ [x]) = true := begins_yes fun k => ⟨ofP [x] k, by rw [ofP_app, cat_of]⟩
theorem cat_b5 (L : List Pn) (x : Pn) : beginsP (catK L (keysP L) ++ [x]) L = false := by
  refine begins_no (k := x.k) ((keys_mem _ _).2 ⟨x, by simp, rfl⟩) ?_
  rw [ofP_app, cat_of, List.length_append]
  have : ofP [x] x.k = [x] := by unfold ofP; simp
  rw [this]
  simp
theorem key_row {L : List Pn} {j : Nat} (h : j < (keysP L).length) : ofP L ((keysP L).getD j ⟨#[]⟩) ≠ [] := by
  rw [← keys_of, List.getD_eq_getElem?_getD, List.getElem?_eq_getElem h]
  exact List.getElem_mem h
theorem key_two {L : List Pn} {j : Nat} (h : j + 1 < (keysP L).length) : kLt ((keysP L).getD j ⟨#[]⟩) ((keysP L).getD (j + 1) ⟨#[]⟩) = true := by
  rw [List.getD_eq_getElem?_getD, List.getD_eq_getElem?_getD, List.getElem?_eq_getElem h, List.getElem?_eq_getElem (by omega)]
  exact List.pairwise_iff_getElem.1 (keys_rise L) j (j + 1) (by omega) h (by omega)

set_option maxRecDepth 100000 in
set_option maxHeartbeats 16000000 in
theorem alike18_walk (I : Ppl) (L : List Pn) (ao : Option Addr) (cap : Nat) (x : Pn) (w : World) (hs : encP.Sl w ao cap L) (hY : Yv w) (hK : KeyB L) : Calls Tryz.prog 4 #[.slice ao L.length cap, pnv x] w fun e w' => e = .returned (.bool true) ∧ Calm w w' := by
  have CK := hide (fun W (h : Calm w W) => known18_any I.toPpk W (hY.calm h))
  have HKB := hide hK
  clear hK
  have A0 := hide (al_new w (.cells (pnc x) 40))
  have T0 := hide ((Touch.refl (fun _ => False) w).alloc (.cells (pnc x) 40))
  by_cases hn : L.length ≤ 200
  case neg =>
    generalize L.length = n at *
    have hnz : (200 : Int) < (n : Int) := by omega
    clear I hs
    go_enter Tryz.func4, Tryz.ntmps4
    go_wp2_with fail
    refine (CK.out _ T0.out).mono ?_
    rintro e w1 ⟨rfl, T1⟩
    have HT := hide (T0.out.tr T1)
    clear T1 CK
    go_wp2_with fail
    go_ret
    exact ⟨rfl, HT.out⟩
  have hnz : ¬ (200 : Int) < (L.length : Int) := by omega
  have HI := hide I
  have HS := hide hs
  have hKl : (keysP L).length ≤ 200 := by
    have := keysP_len L L.length (Nat.le_refl _)
    rw [List.take_length] at this; omega
  have hRl : ∀ k, (ofP L k).length ≤ 200 := fun k => by have := ofP_le L k; omega
  have HRl := hide hRl
  have HCE := hide (catD_end L)
  have HCN : Hid (∀ j, j < (keysP L).length → catD L j = catD L (j + 1) ++ ofP L ((keysP L).getD j ⟨#[]⟩)) := hide fun j => catD_next
  have HCL : Hid (∀ j, j ≤ (keysP L).length → (catD L j).length ≤ 200) := hide fun j h => by have := catD_len L h; omega
  have HKR : Hid (∀ j, j < (keysP L).length → 0 < (ofP L ((keysP L).getD j ⟨#[]⟩)).length) := hide fun j h => List.length_pos_iff.2 (key_row h)
  have HKT : Hid (∀ j, j + 1 < (keysP L).length → kLt ((keysP L).getD j ⟨#[]⟩) ((keysP L).getD (j + 1) ⟨#[]⟩) = true) := hide fun j => key_two
  have HOf : Hid (∀ k a W, encP.Sl W ao cap L → a = k → Calls Tryz.prog 9 #[.slice ao L.length cap, .string k] W fun e w' => RetP W e w' (ofP L a)) := hide fun k a W h e => by subst e; exact I.of L a ao cap W h (by omega) HKB.out
  have CKs := hide (I.keys L ao cap (w.alloc (.cells (pnc x) 40)) (Rc.Sl.calm hs T0.out) (by omega) HKB.out)
  clear hs I hRl
  go_enter Tryz.func4, Tryz.ntmps4
  go_wp2_with fail
  refine CKs.out.mono ?_
  rintro e w1 ⟨aA, cA, PA, rfl, lA, OA, KA, -, T1⟩
  rw [lA] at OA ⊢
  have W1 := hide (T0.out.tr T1)
  have A1 := hide (T1.at A0.out)
  have KP : Hid (∀ j, j < (keysP L).length → ∃ g off o c, aA = some ⟨g, off, none⟩ ∧ (∀ W, Calm w1 W → W.cell? ⟨g, off + j * 2, none⟩ = some (.string ((keysP L).getD j ⟨#[]⟩)) ∧ W.cell? ⟨g, off + j * 2 + 1, none⟩ = some (.slice o (ofP L ((keysP L).getD j ⟨#[]⟩)).length c)) ∧ ∀ W, Calm w1 W → encP.Sl W o c (ofP L ((keysP L).getD j ⟨#[]⟩))) := hide fun j hj => by
    obtain ⟨g, off, e, hc⟩ := kp_W (Rc.Own.mem OA).2.1 j (by rw [lA]; exact hj)
    obtain ⟨k1, k2, k3⟩ := KA j (by rw [lA]; exact hj)
    refine ⟨g, off, (PA.getD j kp0).o, (PA.getD j kp0).c, e, fun W hW => ?_, fun W hW => ?_⟩
    · have q := hc W hW
      rw [k1, k2] at q
      exact q
    · rw [k2] at k3
      exact Rc.Sl.calm (Rc.Own.sl k3) hW
  clear OA KA T1 T0 A0 CKs lA
  obtain ⟨K, hK⟩ : ∃ K : Nat → ByteArray, ∀ j, (keysP L).getD j ⟨#[]⟩ = K j := ⟨fun j => (keysP L).getD j ⟨#[]⟩, fun _ => rfl⟩
  simp only [hK] at HCN HKR HKT KP
  clear hK
  obtain ⟨C0, hC0⟩ : ∃ C0, catD L 0 = C0 := ⟨_, rfl⟩
  have HC0 := hide hC0
  have HCK : Hid (C0 = catK L (keysP L)) := hide (by rw [← hC0]; exact catD_zero L)
  have HKC : Hid (KeyB C0) := hide (by rw [HCK.out]; exact fun p hp => HKB.out p (catK_mem hp))
  clear hC0
  generalize hNk : (keysP L).length = nk at *
  generalize hCd : catD L = C at *
  clear hNk hCd
  generalize w.heap.size = D at *
  go_wp2_with fail
  go_loopw [5, 7] (fun s5 s7 wr => ∃ (k : Nat) (a : Option Addr) (c : Nat) (z : Int), s7 = .int .i64 z ∧ z = (k : Int) - 1 ∧ k ≤ nk ∧ s5 = .slice a (C k).length c ∧ encP.Own 40 wr w1.heap.size (.slice a (C k).length c) (C k) ∧ Calm w1 wr) (fun _ s7 _ => (intOf s7 + 1).toNat)
  case atStart => exact ⟨nk, none, 0, (nk : Int) - 1, by go_num, rfl, Nat.le_refl _, by rw [HCE.out]; rfl, by rw [HCE.out]; exact Rc.Own.nil _ _ _, Touch.refl _ _⟩
  case round =>
    obtain ⟨k, a, c, z, rfl, hz, hk, rfl, OW, TE⟩ := hrel
    have HT := hide TE
    have OW := hide OW
    clear TE
    by_cases hk0 : 0 < k
    · obtain ⟨j, rfl⟩ : ∃ j, k = j + 1 := ⟨k - 1, by omega⟩
      obtain rfl : z = (j : Int) := by omega
      clear hz
      have hj0 : (0 : Int) ≤ (j : Int) := by omega
      obtain ⟨ga, oa, po, pc, rfl, hc, hsl⟩ := KP.out j (by omega)
      have KC : Hid (∀ W, Calm wr W → W.cell? ⟨ga, oa + j * 2, none⟩ = some (.string (K j)) ∧ W.cell? ⟨ga, oa + j * 2 + 1, none⟩ = some (.slice po (ofP L (K j)).length pc)) := hide fun W hW => hc W (HT.out.tr hW)
      have hR0 := HKR.out j (by omega)
      have hRn := HRl.out (K j)
      have CO : Hid (∀ W, Calm wr W → Calls Tryz.prog 9 #[.slice ao L.length cap, .string (K j)] W fun e w' => RetP W e w' (ofP L (K j))) := hide fun W hW => HOf.out (K j) (K j) W (Rc.Sl.calm HS.out ((W1.out.tr HT.out).tr hW)) rfl
      have CSm : Hid (∀ W a c, Calm wr W → encP.Mem W a (ofP L (K j)) → Calls Tryz.prog 14 #[.slice po (ofP L (K j)).length pc, .slice a (ofP L (K j)).length c] W fun e w' => e = .returned (.bool true) ∧ Calm W w') := hide fun W a c hW hM => by
        have := sameP_any (ofP L (K j)) (ofP L (K j)) po a pc c W (hsl W (HT.out.tr hW)).mem hM (by omega) (by omega)
        rw [decide_eq_true rfl] at this
        exact this
      have hCl := HCL.out (j + 1) hk
      have hCj := HCN.out j (by omega)
      have APP : Hid (∀ W, Calm wr W → ∃ a3 p3 w4, (Builtin.append_ #[22, 22] 22 #[.slice a (C (j + 1)).length c, .slice po (ofP L (K j)).length pc]).run Tryz.prog W = .ok (.slice a3 (C (j + 1) ++ ofP L (K j)).length p3) w4 ∧
          encP.Own 40 w4 w1.heap.size (.slice a3 (C (j + 1) ++ ofP L (K j)).length p3) (C (j + 1) ++ ofP L (K j)) ∧ Touch (fun d => (Value.slice a (C (j + 1)).length c).ownBlock = some d) W w4) := hide fun W hW =>
        pn_apps (Rc.Own.calm OW.out hW) (hsl W (HT.out.tr hW)).mem (hsl W (HT.out.tr hW)).nil (HT.out.tr hW).size (by omega)
      have HCj := hide hCj
      unfold RetP at CO
      have KM : Hid (∀ m, m + 1 = j → ∀ W, Calm wr W → W.cell? ⟨ga, oa + m * 2, none⟩ = some (.string (K m)) ∧ True) := hide fun m hm W hW => by
        obtain ⟨g2, o2, p2, q2, e2, h2, -⟩ := KP.out m (by omega)
        injection e2 with e2
        injection e2 with e3 e4
        subst e3 e4
        exact ⟨(h2 W (HT.out.tr hW)).1, trivial⟩
      have KT : Hid (∀ m, m + 1 = j → kLt (K m) (K j) = true) := hide fun m hm => by subst hm; exact HKT.out m (by omega)
      clear KP hc hsl HKR HRl HOf HCN HCL HKT hCj HC0 HS HI
      generalize hk1 : K j = k1 at *
      generalize hR : ofP L k1 = R at *
      generalize hn' : L.length = n at *
      have hRz : ¬ (R.length : Int) = 0 := by omega
      have hRne : ¬ R = [] := fun h => by rw [h] at hR0; simp at hR0
      clear hk1 hR hn'
      by_cases hj1 : 0 < j
      · have hj1z : (0 : Int) < (j : Int) := by omega
        obtain ⟨m, hm⟩ : ∃ m, m + 1 = j := ⟨j - 1, by omega⟩
        have KM := hide (KM.out m hm)
        have HGE0 := geq_strN 9 (K m) k1
        rw [KT.out m hm] at HGE0
        have HGE := hide HGE0
        clear HGE0 KT
        generalize K m = k0 at *
        go_wp2_with fail
        refine wp_region_held (S := Calm wr) (by kernel_rfl) ?_
        have hT0 : Calm wr { wr with drawn := wr.drawn + 1 } := (Touch.refl (fun _ => False) wr).drew
        refine wpAnyH_yield 0 25 (.slice (some ⟨ga, oa, none⟩) nk cA) rfl rfl (by kernel_rfl) (by kernel_rfl) (by kernel_rfl) (fun _ _ _ h => h) (by kernel_rfl) (fun W hW => by kernel_rfl) (by assumption) rfl rfl ?_
        simp only [Act.put, List.setIfInBounds_toArray, List.set_cons_zero, List.set_cons_succ]
        refine wpAnyH_yield 1 26 (.int .i64 (j : Int)) rfl rfl (by kernel_rfl) (by kernel_rfl) (by kernel_rfl) (fun _ _ _ h => h) (by kernel_rfl) (fun W hW => by kernel_rfl) (by assumption) rfl rfl ?_
        simp only [Act.put, List.setIfInBounds_toArray, List.set_cons_zero, List.set_cons_succ]
        refine wpAnyH_yield 2 27 (.pointer (some ⟨ga, oa + j * 2, none⟩)) rfl rfl (by kernel_rfl) (by kernel_rfl) (by kernel_rfl) (fun _ _ _ h => h) (by kernel_rfl) (fun W hW => by go_simp; intro h; omega) (by assumption) rfl rfl ?_
        simp only [Act.put, List.setIfInBounds_toArray, List.set_cons_zero, List.set_cons_succ]
        refine wpAnyH_yield 3 28 (.pointer (some ⟨ga, oa + j * 2 + 1, none⟩)) rfl rfl (by kernel_rfl) (by kernel_rfl) (by kernel_rfl) (fun _ _ _ h => h) (by kernel_rfl) (fun W hW => by go_simp) (by assumption) rfl rfl ?_
        simp only [Act.put, List.setIfInBounds_toArray, List.set_cons_zero, List.set_cons_succ]
        refine wpAnyH_yield 4 29 (.slice po (R.length) pc) rfl rfl (by kernel_rfl) (by kernel_rfl) (by kernel_rfl) (fun _ _ _ h => h) (by kernel_rfl) (fun W hW => by obtain ⟨-, c1⟩ := KC.out W hW; go_simp) (by assumption) rfl rfl ?_
        simp only [Act.put, List.setIfInBounds_toArray, List.set_cons_zero, List.set_cons_succ]
        refine wpAnyH_yield 5 30 (.int .i64 (R.length : Int)) rfl rfl (by kernel_rfl) (by kernel_rfl) (by kernel_rfl) (fun _ _ _ h => h) (by kernel_rfl) (fun W hW => by go_simp) (by assumption) rfl rfl ?_
        simp only [Act.put, List.setIfInBounds_toArray, List.set_cons_zero, List.set_cons_succ]
        refine wpAnyH_yield 6 31 (.bool false) rfl rfl (by kernel_rfl) (by kernel_rfl) (by kernel_rfl) (fun _ _ _ h => h) (by kernel_rfl) (fun W hW => by go_simp) (by assumption) rfl rfl ?_
        simp only [Act.put, List.setIfInBounds_toArray, List.set_cons_zero, List.set_cons_succ]
        refine wpAnyH_yield 7 32 (.bool false) rfl rfl (by kernel_rfl) (by kernel_rfl) (by kernel_rfl) (fun _ _ _ h => h) (by kernel_rfl) (fun W hW => by kernel_rfl) (by assumption) rfl rfl ?_
        simp only [Act.put, List.setIfInBounds_toArray, List.set_cons_zero, List.set_cons_succ]
        refine wpAnyH_yield 8 33 (.int .i64 (j : Int)) rfl rfl (by kernel_rfl) (by kernel_rfl) (by kernel_rfl) (fun _ _ _ h => h) (by kernel_rfl) (fun W hW => by kernel_rfl) (by assumption) rfl rfl ?_
        simp only [Act.put, List.setIfInBounds_toArray, List.set_cons_zero, List.set_cons_succ]
        refine wpAnyH_yield 9 34 (.bool true) rfl rfl (by kernel_rfl) (by kernel_rfl) (by kernel_rfl) (fun _ _ _ h => h) (by kernel_rfl) (fun W hW => by go_simp) (by assumption) rfl rfl ?_
        simp only [Act.put, List.setIfInBounds_toArray, List.set_cons_zero, List.set_cons_succ]
        refine wpAnyH_yield 10 35 (.bool true) rfl rfl (by kernel_rfl) (by kernel_rfl) (by kernel_rfl) (fun _ _ _ h => h) (by kernel_rfl) (fun W hW => by kernel_rfl) (by assumption) rfl rfl ?_
        simp only [Act.put, List.setIfInBounds_toArray, List.set_cons_zero, List.set_cons_succ]
        refine wpAnyH_yield 11 36 (.slice (some ⟨ga, oa, none⟩) nk cA) rfl rfl (by kernel_rfl) (by kernel_rfl) (by kernel_rfl) (fun _ _ _ h => h) (by kernel_rfl) (fun W hW => by kernel_rfl) (by assumption) rfl rfl ?_
        simp only [Act.put, List.setIfInBounds_toArray, List.set_cons_zero, List.set_cons_succ]
        refine wpAnyH_yield 12 37 (.int .i64 (j : Int)) rfl rfl (by kernel_rfl) (by kernel_rfl) (by kernel_rfl) (fun _ _ _ h => h) (by kernel_rfl) (fun W hW => by kernel_rfl) (by assumption) rfl rfl ?_
        simp only [Act.put, List.setIfInBounds_toArray, List.set_cons_zero, List.set_cons_succ]
        refine wpAnyH_yield 13 38 (.int .i64 (m : Int)) rfl rfl (by kernel_rfl) (by kernel_rfl) (by kernel_rfl) (fun _ _ _ h => h) (by kernel_rfl) (fun W hW => by go_simp; rw [wrapEq]; unfold wrap64; omega) (by assumption) rfl rfl ?_
        simp only [Act.put, List.setIfInBounds_toArray, List.set_cons_zero, List.set_cons_succ]
        refine wpAnyH_yield 14 39 (.pointer (some ⟨ga, oa + m * 2, none⟩)) rfl rfl (by kernel_rfl) (by kernel_rfl) (by kernel_rfl) (fun _ _ _ h => h) (by kernel_rfl) (fun W hW => by go_simp; intro h; omega) (by assumption) rfl rfl ?_
        simp only [Act.put, List.setIfInBounds_toArray, List.set_cons_zero, List.set_cons_succ]
        refine wpAnyH_yield 15 40 (.pointer (some ⟨ga, oa + m * 2, none⟩)) rfl rfl (by kernel_rfl) (by kernel_rfl) (by kernel_rfl) (fun _ _ _ h => h) (by kernel_rfl) (fun W hW => by go_simp) (by assumption) rfl rfl ?_
        simp only [Act.put, List.setIfInBounds_toArray, List.set_cons_zero, List.set_cons_succ]
        refine wpAnyH_yield 16 41 (.string k0) rfl rfl (by kernel_rfl) (by kernel_rfl) (by kernel_rfl) (fun _ _ _ h => h) (by kernel_rfl) (fun W hW => by obtain ⟨c0, -⟩ := KM.out W hW; go_simp) (by assumption) rfl rfl ?_
        simp only [Act.put, List.setIfInBounds_toArray, List.set_cons_zero, List.set_cons_succ]
        refine wpAnyH_yield 17 42 (.slice (some ⟨ga, oa, none⟩) nk cA) rfl rfl (by kernel_rfl) (by kernel_rfl) (by kernel_rfl) (fun _ _ _ h => h) (by kernel_rfl) (fun W hW => by kernel_rfl) (by assumption) rfl rfl ?_
        simp only [Act.put, List.setIfInBounds_toArray, List.set_cons_zero, List.set_cons_succ]
        refine wpAnyH_yield 18 43 (.int .i64 (j : Int)) rfl rfl (by kernel_rfl) (by kernel_rfl) (by kernel_rfl) (fun _ _ _ h => h) (by kernel_rfl) (fun W hW => by kernel_rfl) (by assumption) rfl rfl ?_
        simp only [Act.put, List.setIfInBounds_toArray, List.set_cons_zero, List.set_cons_succ]
        refine wpAnyH_yield 19 44 (.pointer (some ⟨ga, oa + j * 2, none⟩)) rfl rfl (by kernel_rfl) (by kernel_rfl) (by kernel_rfl) (fun _ _ _ h => h) (by kernel_rfl) (fun W hW => by go_simp; intro h; omega) (by assumption) rfl rfl ?_
        simp only [Act.put, List.setIfInBounds_toArray, List.set_cons_zero, List.set_cons_succ]
        refine wpAnyH_yield 20 45 (.pointer (some ⟨ga, oa + j * 2, none⟩)) rfl rfl (by kernel_rfl) (by kernel_rfl) (by kernel_rfl) (fun _ _ _ h => h) (by kernel_rfl) (fun W hW => by go_simp) (by assumption) rfl rfl ?_
        simp only [Act.put, List.setIfInBounds_toArray, List.set_cons_zero, List.set_cons_succ]
        refine wpAnyH_yield 21 46 (.string k1) rfl rfl (by kernel_rfl) (by kernel_rfl) (by kernel_rfl) (fun _ _ _ h => h) (by kernel_rfl) (fun W hW => by obtain ⟨c0, -⟩ := KC.out W hW; go_simp) (by assumption) rfl rfl ?_
        simp only [Act.put, List.setIfInBounds_toArray, List.set_cons_zero, List.set_cons_succ]
        refine wpAnyH_yield 22 47 (.bool false) rfl rfl (by kernel_rfl) (by kernel_rfl) (by kernel_rfl) (fun _ _ _ h => h) (by kernel_rfl) (fun W hW => by have h := HGE.out; go_simp) (by assumption) rfl rfl ?_
        simp only [Act.put, List.setIfInBounds_toArray, List.set_cons_zero, List.set_cons_succ]
        refine wpAnyH_yield 23 48 (.bool false) rfl rfl (by kernel_rfl) (by kernel_rfl) (by kernel_rfl) (fun _ _ _ h => h) (by kernel_rfl) (fun W hW => by go_simp) (by assumption) rfl rfl ?_
        simp only [Act.put, List.setIfInBounds_toArray, List.set_cons_zero, List.set_cons_succ]
        refine wpAnyH_yield 24 49 (.bool false) rfl rfl (by kernel_rfl) (by kernel_rfl) (by kernel_rfl) (fun _ _ _ h => h) (by kernel_rfl) (fun W hW => by go_simp) (by assumption) rfl rfl ?_
        simp only [Act.put, List.setIfInBounds_toArray, List.set_cons_zero, List.set_cons_succ]
        refine wpAnyH_yield 25 50 (.bool false) rfl rfl (by kernel_rfl) (by kernel_rfl) (by kernel_rfl) (fun _ _ _ h => h) (by kernel_rfl) (fun W hW => by kernel_rfl) (by assumption) rfl rfl ?_
        simp only [Act.put, List.setIfInBounds_toArray, List.set_cons_zero, List.set_cons_succ]
        refine wpAnyH_yield 26 51 (.slice (some ⟨ga, oa, none⟩) nk cA) rfl rfl (by kernel_rfl) (by kernel_rfl) (by kernel_rfl) (fun _ _ _ h => h) (by kernel_rfl) (fun W hW => by kernel_rfl) (by assumption) rfl rfl ?_
        simp only [Act.put, List.setIfInBounds_toArray, List.set_cons_zero, List.set_cons_succ]
        refine wpAnyH_yield 27 52 (.int .i64 (j : Int)) rfl rfl (by kernel_rfl) (by kernel_rfl) (by kernel_rfl) (fun _ _ _ h => h) (by kernel_rfl) (fun W hW => by kernel_rfl) (by assumption) rfl rfl ?_
        simp only [Act.put, List.setIfInBounds_toArray, List.set_cons_zero, List.set_cons_succ]
        refine wpAnyH_yield 28 53 (.pointer (some ⟨ga, oa + j * 2, none⟩)) rfl rfl (by kernel_rfl) (by kernel_rfl) (by kernel_rfl) (fun _ _ _ h => h) (by kernel_rfl) (fun W hW => by go_simp; intro h; omega) (by assumption) rfl rfl ?_
        simp only [Act.put, List.setIfInBounds_toArray, List.set_cons_zero, List.set_cons_succ]
        refine wpAnyH_yield 29 54 (.pointer (some ⟨ga, oa + j * 2 + 1, none⟩)) rfl rfl (by kernel_rfl) (by kernel_rfl) (by kernel_rfl) (fun _ _ _ h => h) (by kernel_rfl) (fun W hW => by go_simp) (by assumption) rfl rfl ?_
        simp only [Act.put, List.setIfInBounds_toArray, List.set_cons_zero, List.set_cons_succ]
        refine wpAnyH_yield 30 55 (.slice po (R.length) pc) rfl rfl (by kernel_rfl) (by kernel_rfl) (by kernel_rfl) (fun _ _ _ h => h) (by kernel_rfl) (fun W hW => by obtain ⟨-, c1⟩ := KC.out W hW; go_simp) (by assumption) rfl rfl ?_
        simp only [Act.put, List.setIfInBounds_toArray, List.set_cons_zero, List.set_cons_succ]
        refine wpAnyH_yield 31 56 (.slice ao n cap) rfl rfl (by kernel_rfl) (by kernel_rfl) (by kernel_rfl) (fun _ _ _ h => h) (by kernel_rfl) (fun W hW => by kernel_rfl) (by assumption) rfl rfl ?_
        simp only [Act.put, List.setIfInBounds_toArray, List.set_cons_zero, List.set_cons_succ]
        refine wpAnyH_yield 32 57 (.slice (some ⟨ga, oa, none⟩) nk cA) rfl rfl (by kernel_rfl) (by kernel_rfl) (by kernel_rfl) (fun _ _ _ h => h) (by kernel_rfl) (fun W hW => by kernel_rfl) (by assumption) rfl rfl ?_
        simp only [Act.put, List.setIfInBounds_toArray, List.set_cons_zero, List.set_cons_succ]
        refine wpAnyH_yield 33 58 (.int .i64 (j : Int)) rfl rfl (by kernel_rfl) (by kernel_rfl) (by kernel_rfl) (fun _ _ _ h => h) (by kernel_rfl) (fun W hW => by kernel_rfl) (by assumption) rfl rfl ?_
        simp only [Act.put, List.setIfInBounds_toArray, List.set_cons_zero, List.set_cons_succ]
        refine wpAnyH_yield 34 59 (.pointer (some ⟨ga, oa + j * 2, none⟩)) rfl rfl (by kernel_rfl) (by kernel_rfl) (by kernel_rfl) (fun _ _ _ h => h) (by kernel_rfl) (fun W hW => by go_simp; intro h; omega) (by assumption) rfl rfl ?_
        simp only [Act.put, List.setIfInBounds_toArray, List.set_cons_zero, List.set_cons_succ]
        refine wpAnyH_yield 35 60 (.pointer (some ⟨ga, oa + j * 2, none⟩)) rfl rfl (by kernel_rfl) (by kernel_rfl) (by kernel_rfl) (fun _ _ _ h => h) (by kernel_rfl) (fun W hW => by go_simp) (by assumption) rfl rfl ?_
        simp only [Act.put, List.setIfInBounds_toArray, List.set_cons_zero, List.set_cons_succ]
        refine wpAnyH_yield 36 61 (.string k1) rfl rfl (by kernel_rfl) (by kernel_rfl) (by kernel_rfl) (fun _ _ _ h => h) (by kernel_rfl) (fun W hW => by obtain ⟨c0, -⟩ := KC.out W hW; go_simp) (by assumption) rfl rfl ?_
        simp only [Act.put, List.setIfInBounds_toArray, List.set_cons_zero, List.set_cons_succ]
        refine wpAnyH_enter 37 62 9 #[.slice ao n cap, .string k1] rfl rfl (by kernel_rfl) (by kernel_rfl) (by kernel_rfl) ?_
        refine ((CO.out _ hT0)).mono ?_
        rintro r v1 ⟨aO, cO, rfl, OO, t1⟩
        refine ⟨_, rfl, hT0.tr t1, ?_⟩
        simp only [Act.put, List.setIfInBounds_toArray, List.set_cons_zero, List.set_cons_succ]
        have hT1 := hT0.tr t1
        have CS := hide (CSm.out v1 aO cO hT1 (Rc.Own.mem OO).2.1)
        refine wpAnyH_enter 38 63 14 #[.slice po R.length pc, .slice aO R.length cO] rfl rfl (by kernel_rfl) (by kernel_rfl) (by kernel_rfl) ?_
        refine (CS.out).mono ?_
        rintro r v2 ⟨rfl, t2⟩
        refine ⟨_, rfl, hT1.tr t2, ?_⟩
        simp only [Act.put, List.setIfInBounds_toArray, List.set_cons_zero, List.set_cons_succ]
        have hT2 := hT1.tr t2
        refine wpAnyH_yield 39 64 (.bool false) rfl rfl (by kernel_rfl) (by kernel_rfl) (by kernel_rfl) (fun _ _ _ h => h) (by kernel_rfl) (fun W hW => by go_simp) (by assumption) rfl rfl ?_
        simp only [Act.put, List.setIfInBounds_toArray, List.set_cons_zero, List.set_cons_succ]
        refine wpAnyH_yield 40 65 (.bool false) rfl rfl (by kernel_rfl) (by kernel_rfl) (by kernel_rfl) (fun _ _ _ h => h) (by kernel_rfl) (fun W hW => by go_simp) (by assumption) rfl rfl ?_
        simp only [Act.put, List.setIfInBounds_toArray, List.set_cons_zero, List.set_cons_succ]
        refine wpAnyH_done (by kernel_rfl) ?_ _
        have HV := hide hT2
        clear hT0 hT1 hT2 t1 t2 OO CS
        obtain ⟨a4, p4, w4, hr, ow, t4⟩ := APP.out v2 HV.out
        have HR := hide hr
        have HO := hide ow
        have HT4 := hide (Rc.Own.fresh (w0 := w1) (Rc.Own.calm OW.out HV.out) t4 (fun _ h => h) (HT.out.tr HV.out) (Nat.le_refl _))
        obtain ⟨c0, c1⟩ := KC.out v2 HV.out
        clear hr ow t4 APP CSm CO
        go_wp2_with (at_builtin; refine Rc.wpList_appR rfl (.tmp 66) (.tmp 71) 22 22 rfl _ _ _ rfl rfl HR.out ?_)
        go_roundw
        case rel => exact ⟨j, a4, p4, (j : Int) - 1, by go_num, rfl, by omega, by rw [HCj.out, List.length_append], by rw [HCj.out]; exact HO.out, HT4.out⟩
        case measure => simp [intOf]
      · have hj1z : ¬ (0 : Int) < (j : Int) := by omega
        clear KM KT
        go_wp2_with fail
        refine wp_region_held (S := Calm wr) (by kernel_rfl) ?_
        have hT0 : Calm wr { wr with drawn := wr.drawn + 1 } := (Touch.refl (fun _ => False) wr).drew
        refine wpAnyH_yield 0 25 (.slice (some ⟨ga, oa, none⟩) nk cA) rfl rfl (by kernel_rfl) (by kernel_rfl) (by kernel_rfl) (fun _ _ _ h => h) (by kernel_rfl) (fun W hW => by kernel_rfl) (by assumption) rfl rfl ?_
        simp only [Act.put, List.setIfInBounds_toArray, List.set_cons_zero, List.set_cons_succ]
        refine wpAnyH_yield 1 26 (.int .i64 (j : Int)) rfl rfl (by kernel_rfl) (by kernel_rfl) (by kernel_rfl) (fun _ _ _ h => h) (by kernel_rfl) (fun W hW => by kernel_rfl) (by assumption) rfl rfl ?_
        simp only [Act.put, List.setIfInBounds_toArray, List.set_cons_zero, List.set_cons_succ]
        refine wpAnyH_yield 2 27 (.pointer (some ⟨ga, oa + j * 2, none⟩)) rfl rfl (by kernel_rfl) (by kernel_rfl) (by kernel_rfl) (fun _ _ _ h => h) (by kernel_rfl) (fun W hW => by go_simp; intro h; omega) (by assumption) rfl rfl ?_
        simp only [Act.put, List.setIfInBounds_toArray, List.set_cons_zero, List.set_cons_succ]
        refine wpAnyH_yield 3 28 (.pointer (some ⟨ga, oa + j * 2 + 1, none⟩)) rfl rfl (by kernel_rfl) (by kernel_rfl) (by kernel_rfl) (fun _ _ _ h => h) (by kernel_rfl) (fun W hW => by go_simp) (by assumption) rfl rfl ?_
        simp only [Act.put, List.setIfInBounds_toArray, List.set_cons_zero, List.set_cons_succ]
        refine wpAnyH_yield 4 29 (.slice po (R.length) pc) rfl rfl (by kernel_rfl) (by kernel_rfl) (by kernel_rfl) (fun _ _ _ h => h) (by kernel_rfl) (fun W hW => by obtain ⟨-, c1⟩ := KC.out W hW; go_simp) (by assumption) rfl rfl ?_
        simp only [Act.put, List.setIfInBounds_toArray, List.set_cons_zero, List.set_cons_succ]
        refine wpAnyH_yield 5 30 (.int .i64 (R.length : Int)) rfl rfl (by kernel_rfl) (by kernel_rfl) (by kernel_rfl) (fun _ _ _ h => h) (by kernel_rfl) (fun W hW => by go_simp) (by assumption) rfl rfl ?_
        simp only [Act.put, List.setIfInBounds_toArray, List.set_cons_zero, List.set_cons_succ]
        refine wpAnyH_yield 6 31 (.bool false) rfl rfl (by kernel_rfl) (by kernel_rfl) (by kernel_rfl) (fun _ _ _ h => h) (by kernel_rfl) (fun W hW => by go_simp) (by assumption) rfl rfl ?_
        simp only [Act.put, List.setIfInBounds_toArray, List.set_cons_zero, List.set_cons_succ]
        refine wpAnyH_yield 7 32 (.bool false) rfl rfl (by kernel_rfl) (by kernel_rfl) (by kernel_rfl) (fun _ _ _ h => h) (by kernel_rfl) (fun W hW => by kernel_rfl) (by assumption) rfl rfl ?_
        simp only [Act.put, List.setIfInBounds_toArray, List.set_cons_zero, List.set_cons_succ]
        refine wpAnyH_yield 8 33 (.int .i64 (j : Int)) rfl rfl (by kernel_rfl) (by kernel_rfl) (by kernel_rfl) (fun _ _ _ h => h) (by kernel_rfl) (fun W hW => by kernel_rfl) (by assumption) rfl rfl ?_
        simp only [Act.put, List.setIfInBounds_toArray, List.set_cons_zero, List.set_cons_succ]
        refine wpAnyH_yield 9 34 (.bool false) rfl rfl (by kernel_rfl) (by kernel_rfl) (by kernel_rfl) (fun _ _ _ h => h) (by kernel_rfl) (fun W hW => by go_simp) (by assumption) rfl rfl ?_
        simp only [Act.put, List.setIfInBounds_toArray, List.set_cons_zero, List.set_cons_succ]
        refine wpAnyH_yield 10 35 (.bool false) rfl rfl (by kernel_rfl) (by kernel_rfl) (by kernel_rfl) (fun _ _ _ h => h) (by kernel_rfl) (fun W hW => by kernel_rfl) (by assumption) rfl rfl ?_
        simp only [Act.put, List.setIfInBounds_toArray, List.set_cons_zero, List.set_cons_succ]
        refine wpAnyH_skip 11 36 rfl rfl (by kernel_rfl) (by kernel_rfl) (by kernel_rfl) (fun _ _ _ h => h) (by kernel_rfl) (by assumption) rfl rfl ?_
        simp only [Act.put, List.setIfInBounds_toArray, List.set_cons_zero, List.set_cons_succ]
        refine wpAnyH_skip 12 37 rfl rfl (by kernel_rfl) (by kernel_rfl) (by kernel_rfl) (fun _ _ _ h => h) (by kernel_rfl) (by assumption) rfl rfl ?_
        simp only [Act.put, List.setIfInBounds_toArray, List.set_cons_zero, List.set_cons_succ]
        refine wpAnyH_skip 13 38 rfl rfl (by kernel_rfl) (by kernel_rfl) (by kernel_rfl) (fun _ _ _ h => h) (by kernel_rfl) (by assumption) rfl rfl ?_
        simp only [Act.put, List.setIfInBounds_toArray, List.set_cons_zero, List.set_cons_succ]
        refine wpAnyH_skip 14 39 rfl rfl (by kernel_rfl) (by kernel_rfl) (by kernel_rfl) (fun _ _ _ h => h) (by kernel_rfl) (by assumption) rfl rfl ?_
        simp only [Act.put, List.setIfInBounds_toArray, List.set_cons_zero, List.set_cons_succ]
        refine wpAnyH_skip 15 40 rfl rfl (by kernel_rfl) (by kernel_rfl) (by kernel_rfl) (fun _ _ _ h => h) (by kernel_rfl) (by assumption) rfl rfl ?_
        simp only [Act.put, List.setIfInBounds_toArray, List.set_cons_zero, List.set_cons_succ]
        refine wpAnyH_skip 16 41 rfl rfl (by kernel_rfl) (by kernel_rfl) (by kernel_rfl) (fun _ _ _ h => h) (by kernel_rfl) (by assumption) rfl rfl ?_
        simp only [Act.put, List.setIfInBounds_toArray, List.set_cons_zero, List.set_cons_succ]
        refine wpAnyH_skip 17 42 rfl rfl (by kernel_rfl) (by kernel_rfl) (by kernel_rfl) (fun _ _ _ h => h) (by kernel_rfl) (by assumption) rfl rfl ?_
        simp only [Act.put, List.setIfInBounds_toArray, List.set_cons_zero, List.set_cons_succ]
        refine wpAnyH_skip 18 43 rfl rfl (by kernel_rfl) (by kernel_rfl) (by kernel_rfl) (fun _ _ _ h => h) (by kernel_rfl) (by assumption) rfl rfl ?_
        simp only [Act.put, List.setIfInBounds_toArray, List.set_cons_zero, List.set_cons_succ]
        refine wpAnyH_skip 19 44 rfl rfl (by kernel_rfl) (by kernel_rfl) (by kernel_rfl) (fun _ _ _ h => h) (by kernel_rfl) (by assumption) rfl rfl ?_
        simp only [Act.put, List.setIfInBounds_toArray, List.set_cons_zero, List.set_cons_succ]
        refine wpAnyH_skip 20 45 rfl rfl (by kernel_rfl) (by kernel_rfl) (by kernel_rfl) (fun _ _ _ h => h) (by kernel_rfl) (by assumption) rfl rfl ?_
        simp only [Act.put, List.setIfInBounds_toArray, List.set_cons_zero, List.set_cons_succ]
        refine wpAnyH_skip 21 46 rfl rfl (by kernel_rfl) (by kernel_rfl) (by kernel_rfl) (fun _ _ _ h => h) (by kernel_rfl) (by assumption) rfl rfl ?_
        simp only [Act.put, List.setIfInBounds_toArray, List.set_cons_zero, List.set_cons_succ]
        refine wpAnyH_skip 22 47 rfl rfl (by kernel_rfl) (by kernel_rfl) (by kernel_rfl) (fun _ _ _ h => h) (by kernel_rfl) (by assumption) rfl rfl ?_
        simp only [Act.put, List.setIfInBounds_toArray, List.set_cons_zero, List.set_cons_succ]
        refine wpAnyH_yield 23 48 (.bool false) rfl rfl (by kernel_rfl) (by kernel_rfl) (by kernel_rfl) (fun _ _ _ h => h) (by kernel_rfl) (fun W hW => by go_simp) (by assumption) rfl rfl ?_
        simp only [Act.put, List.setIfInBounds_toArray, List.set_cons_zero, List.set_cons_succ]
        refine wpAnyH_yield 24 49 (.bool false) rfl rfl (by kernel_rfl) (by kernel_rfl) (by kernel_rfl) (fun _ _ _ h => h) (by kernel_rfl) (fun W hW => by go_simp) (by assumption) rfl rfl ?_
        simp only [Act.put, List.setIfInBounds_toArray, List.set_cons_zero, List.set_cons_succ]
        refine wpAnyH_yield 25 50 (.bool false) rfl rfl (by kernel_rfl) (by kernel_rfl) (by kernel_rfl) (fun _ _ _ h => h) (by kernel_rfl) (fun W hW => by kernel_rfl) (by assumption) rfl rfl ?_
        simp only [Act.put, List.setIfInBounds_toArray, List.set_cons_zero, List.set_cons_succ]
        refine wpAnyH_yield 26 51 (.slice (some ⟨ga, oa, none⟩) nk cA) rfl rfl (by kernel_rfl) (by kernel_rfl) (by kernel_rfl) (fun _ _ _ h => h) (by kernel_rfl) (fun W hW => by kernel_rfl) (by assumption) rfl rfl ?_
        simp only [Act.put, List.setIfInBounds_toArray, List.set_cons_zero, List.set_cons_succ]
        refine wpAnyH_yield 27 52 (.int .i64 (j : Int)) rfl rfl (by kernel_rfl) (by kernel_rfl) (by kernel_rfl) (fun _ _ _ h => h) (by kernel_rfl) (fun W hW => by kernel_rfl) (by assumption) rfl rfl ?_
        simp only [Act.put, List.setIfInBounds_toArray, List.set_cons_zero, List.set_cons_succ]
        refine wpAnyH_yield 28 53 (.pointer (some ⟨ga, oa + j * 2, none⟩)) rfl rfl (by kernel_rfl) (by kernel_rfl) (by kernel_rfl) (fun _ _ _ h => h) (by kernel_rfl) (fun W hW => by go_simp; intro h; omega) (by assumption) rfl rfl ?_
        simp only [Act.put, List.setIfInBounds_toArray, List.set_cons_zero, List.set_cons_succ]
        refine wpAnyH_yield 29 54 (.pointer (some ⟨ga, oa + j * 2 + 1, none⟩)) rfl rfl (by kernel_rfl) (by kernel_rfl) (by kernel_rfl) (fun _ _ _ h => h) (by kernel_rfl) (fun W hW => by go_simp) (by assumption) rfl rfl ?_
        simp only [Act.put, List.setIfInBounds_toArray, List.set_cons_zero, List.set_cons_succ]
        refine wpAnyH_yield 30 55 (.slice po (R.length) pc) rfl rfl (by kernel_rfl) (by kernel_rfl) (by kernel_rfl) (fun _ _ _ h => h) (by kernel_rfl) (fun W hW => by obtain ⟨-, c1⟩ := KC.out W hW; go_simp) (by assumption) rfl rfl ?_
        simp only [Act.put, List.setIfInBounds_toArray, List.set_cons_zero, List.set_cons_succ]
        refine wpAnyH_yield 31 56 (.slice ao n cap) rfl rfl (by kernel_rfl) (by kernel_rfl) (by kernel_rfl) (fun _ _ _ h => h) (by kernel_rfl) (fun W hW => by kernel_rfl) (by assumption) rfl rfl ?_
        simp only [Act.put, List.setIfInBounds_toArray, List.set_cons_zero, List.set_cons_succ]
        refine wpAnyH_yield 32 57 (.slice (some ⟨ga, oa, none⟩) nk cA) rfl rfl (by kernel_rfl) (by kernel_rfl) (by kernel_rfl) (fun _ _ _ h => h) (by kernel_rfl) (fun W hW => by kernel_rfl) (by assumption) rfl rfl ?_
        simp only [Act.put, List.setIfInBounds_toArray, List.set_cons_zero, List.set_cons_succ]
        refine wpAnyH_yield 33 58 (.int .i64 (j : Int)) rfl rfl (by kernel_rfl) (by kernel_rfl) (by kernel_rfl) (fun _ _ _ h => h) (by kernel_rfl) (fun W hW => by kernel_rfl) (by assumption) rfl rfl ?_
        simp only [Act.put, List.setIfInBounds_toArray, List.set_cons_zero, List.set_cons_succ]
        refine wpAnyH_yield 34 59 (.pointer (some ⟨ga, oa + j * 2, none⟩)) rfl rfl (by kernel_rfl) (by kernel_rfl) (by kernel_rfl) (fun _ _ _ h => h) (by kernel_rfl) (fun W hW => by go_simp; intro h; omega) (by assumption) rfl rfl ?_
        simp only [Act.put, List.setIfInBounds_toArray, List.set_cons_zero, List.set_cons_succ]
        refine wpAnyH_yield 35 60 (.pointer (some ⟨ga, oa + j * 2, none⟩)) rfl rfl (by kernel_rfl) (by kernel_rfl) (by kernel_rfl) (fun _ _ _ h => h) (by kernel_rfl) (fun W hW => by go_simp) (by assumption) rfl rfl ?_
        simp only [Act.put, List.setIfInBounds_toArray, List.set_cons_zero, List.set_cons_succ]
        refine wpAnyH_yield 36 61 (.string k1) rfl rfl (by kernel_rfl) (by kernel_rfl) (by kernel_rfl) (fun _ _ _ h => h) (by kernel_rfl) (fun W hW => by obtain ⟨c0, -⟩ := KC.out W hW; go_simp) (by assumption) rfl rfl ?_
        simp only [Act.put, List.setIfInBounds_toArray, List.set_cons_zero, List.set_cons_succ]
        refine wpAnyH_enter 37 62 9 #[.slice ao n cap, .string k1] rfl rfl (by kernel_rfl) (by kernel_rfl) (by kernel_rfl) ?_
        refine ((CO.out _ hT0)).mono ?_
        rintro r v1 ⟨aO, cO, rfl, OO, t1⟩
        refine ⟨_, rfl, hT0.tr t1, ?_⟩
        simp only [Act.put, List.setIfInBounds_toArray, List.set_cons_zero, List.set_cons_succ]
        have hT1 := hT0.tr t1
        have CS := hide (CSm.out v1 aO cO hT1 (Rc.Own.mem OO).2.1)
        refine wpAnyH_enter 38 63 14 #[.slice po R.length pc, .slice aO R.length cO] rfl rfl (by kernel_rfl) (by kernel_rfl) (by kernel_rfl) ?_
        refine (CS.out).mono ?_
        rintro r v2 ⟨rfl, t2⟩
        refine ⟨_, rfl, hT1.tr t2, ?_⟩
        simp only [Act.put, List.setIfInBounds_toArray, List.set_cons_zero, List.set_cons_succ]
        have hT2 := hT1.tr t2
        refine wpAnyH_yield 39 64 (.bool false) rfl rfl (by kernel_rfl) (by kernel_rfl) (by kernel_rfl) (fun _ _ _ h => h) (by kernel_rfl) (fun W hW => by go_simp) (by assumption) rfl rfl ?_
        simp only [Act.put, List.setIfInBounds_toArray, List.set_cons_zero, List.set_cons_succ]
        refine wpAnyH_yield 40 65 (.bool false) rfl rfl (by kernel_rfl) (by kernel_rfl) (by kernel_rfl) (fun _ _ _ h => h) (by kernel_rfl) (fun W hW => by go_simp) (by assumption) rfl rfl ?_
        simp only [Act.put, List.setIfInBounds_toArray, List.set_cons_zero, List.set_cons_succ]
        refine wpAnyH_done (by kernel_rfl) ?_ _
        have HV := hide hT2
        clear hT0 hT1 hT2 t1 t2 OO CS
        obtain ⟨a4, p4, w4, hr, ow, t4⟩ := APP.out v2 HV.out
        have HR := hide hr
        have HO := hide ow
        have HT4 := hide (Rc.Own.fresh (w0 := w1) (Rc.Own.calm OW.out HV.out) t4 (fun _ h => h) (HT.out.tr HV.out) (Nat.le_refl _))
        obtain ⟨c0, c1⟩ := KC.out v2 HV.out
        clear hr ow t4 APP CSm CO
        go_wp2_with (at_builtin; refine Rc.wpList_appR rfl (.tmp 66) (.tmp 71) 22 22 rfl _ _ _ rfl rfl HR.out ?_)
        go_roundw
        case rel => exact ⟨j, a4, p4, (j : Int) - 1, by go_num, rfl, by omega, by rw [HCj.out, List.length_append], by rw [HCj.out]; exact HO.out, HT4.out⟩
        case measure => simp [intOf]
    · obtain rfl : k = 0 := by omega
      have hzz : ¬ (0 : Int) ≤ z := by omega
      have hC := HC0.out
      rw [hC] at OW ⊢
      have hCk := HCK.out
      clear HCE HCN HCL HKR HKT HOf KP HRl hC HC0 HCK hz
      have hlen : C0.length = L.length := by rw [hCk]; exact cat_len L
      have hb1 : beginsP L C0 = true := by rw [hCk]; exact cat_b1 L
      have hb2 : beginsP C0 L = true := by rw [hCk]; exact cat_b2 L
      have hb4 : beginsP L (C0 ++ [x]) = true := by rw [hCk]; exact cat_b4 L x
      have hb5 : beginsP (C0 ++ [x]) L = false := by rw [hCk]; exact cat_b5 L x
      have hls : lastP C0 = lastP L := by rw [hCk]; exact last_same (cat_of L)
      have hll : (lastP L).length ≤ 200 := by have := lastP_len L; omega
      have WL : Hid (∀ W, Calm wr W → encP.Sl W ao cap L) := hide fun W hW => Rc.Sl.calm HS.out ((W1.out.tr HT.out).tr hW)
      have WM : Hid (∀ W, Calm wr W → encP.Sl W a c C0) := hide fun W hW => Rc.Own.sl (Rc.Own.calm OW.out hW)
      have Z1 : Hid (∀ W, Calm wr W → Calls Tryz.prog 17 #[.slice ao L.length cap, .slice a L.length c] W fun e w' => e = .returned (.bool true) ∧ Calm W w') := hide fun W hW => by
        have := HI.out.alike L C0 ao a cap c W (WL.out W hW) (WM.out W hW) (by omega) (by omega)
        unfold aliP at this
        rw [hb1, hb2, hlen] at this
        exact this
      have Z2 : Hid (∀ W, Calm wr W → Calls Tryz.prog 17 #[.slice a L.length c, .slice ao L.length cap] W fun e w' => e = .returned (.bool true) ∧ Calm W w') := hide fun W hW => by
        have := HI.out.alike C0 L a ao c cap W (WM.out W hW) (WL.out W hW) (by omega) (by omega)
        unfold aliP at this
        rw [hb1, hb2, hlen] at this
        exact this
      have Z3 : Hid (∀ W, Calm wr W → Calls Tryz.prog 17 #[.slice ao L.length cap, .slice ao L.length cap] W fun e w' => e = .returned (.bool true) ∧ Calm W w') := hide fun W hW => by
        have := HI.out.alike L L ao ao cap cap W (WL.out W hW) (WL.out W hW) (by omega) (by omega)
        rw [aliP_self] at this
        exact this
      have Z4 : Hid (∀ W, Calm wr W → Calls Tryz.prog 16 #[.slice ao L.length cap, .slice a L.length c] W fun e w' => e = .returned (.bool true) ∧ Calm W w') := hide fun W hW => by
        have := HI.out.begins L C0 ao a cap c W (WL.out W hW) (WM.out W hW) (by omega) (by omega)
        rw [hb1, hlen] at this
        exact this
      have Z5 : Hid (∀ W, Calm wr W → Calls Tryz.prog 16 #[.slice a L.length c, .slice ao L.length cap] W fun e w' => e = .returned (.bool true) ∧ Calm W w') := hide fun W hW => by
        have := HI.out.begins C0 L a ao c cap W (WM.out W hW) (WL.out W hW) (by omega) (by omega)
        rw [hb2, hlen] at this
        exact this
      have Z6 : Hid (∀ W, Calm wr W → Calls Tryz.prog 16 #[.slice none 0 0, .slice ao L.length cap] W fun e w' => e = .returned (.bool true) ∧ Calm W w') := hide fun W hW =>
        HI.out.begins [] L none ao 0 cap W (Rc.Sl.empty W) (WL.out W hW) (by simp) (by omega)
      have Z7 : Hid (∀ W a8 p8, Calm wr W → encP.Sl W a8 p8 (C0 ++ [x]) → Calls Tryz.prog 16 #[.slice ao L.length cap, .slice a8 (L.length + 1) p8] W fun e w' => e = .returned (.bool true) ∧ Calm W w') := hide fun W a8 p8 hW h8 => by
        have := HI.out.begins L (C0 ++ [x]) ao a8 cap p8 W (WL.out W hW) h8 (by omega) (by rw [List.length_append, hlen]; simp; omega)
        rw [hb4, List.length_append, hlen] at this
        exact this
      have Z8 : Hid (∀ W a8 p8, Calm wr W → encP.Sl W a8 p8 (C0 ++ [x]) → Calls Tryz.prog 16 #[.slice a8 (L.length + 1) p8, .slice ao L.length cap] W fun e w' => e = .returned (.bool false) ∧ Calm W w') := hide fun W a8 p8 hW h8 => by
        have := HI.out.begins (C0 ++ [x]) L a8 ao p8 cap W h8 (WL.out W hW) (by rw [List.length_append, hlen]; simp; omega) (by omega)
        rw [hb5, List.length_append, hlen] at this
        exact this
      have Z9 : Hid (∀ W a8 p8, Calm wr W → encP.Sl W a8 p8 (C0 ++ [x]) → Calls Tryz.prog 17 #[.slice ao L.length cap, .slice a8 (L.length + 1) p8] W fun e w' => e = .returned (.bool false) ∧ Calm W w') := hide fun W a8 p8 hW h8 => by
        have := HI.out.alike L (C0 ++ [x]) ao a8 cap p8 W (WL.out W hW) h8 (by omega) (by rw [List.length_append, hlen]; simp; omega)
        unfold aliP at this
        rw [hb5, hb4, List.length_append, hlen] at this
        exact this
      have Za : Hid (∀ W, Calm wr W → Calls Tryz.prog 8 #[.slice ao L.length cap] W fun e w' => RetP W e w' (lastP L)) := hide fun W hW => HI.out.last L ao cap W (WL.out W hW) (by omega) HKB.out
      have Zb : Hid (∀ W, Calm wr W → Calls Tryz.prog 8 #[.slice a L.length c] W fun e w' => RetP W e w' (lastP L)) := hide fun W hW => by
        have := HI.out.last C0 a c W (WM.out W hW) (by omega) HKC.out
        rw [hls, hlen] at this
        exact this
      have LT : Hid (∀ i, i + 1 < (lastP L).length → kLt ((lastP L).getD (i + 1) pn0).k ((lastP L).getD i pn0).k = false ∧ sameW ((lastP L).getD i pn0) ((lastP L).getD (i + 1) pn0) = false) := hide fun i => last_two
      have CPY : Hid (∀ W, Calm wr W → ∃ a1 p1 w4, (Builtin.append_ #[22, 22] 22 #[.slice none 0 0, .slice a L.length c]).run Tryz.prog W = .ok (.slice a1 L.length p1) w4 ∧ encP.Own 40 w4 W.heap.size (.slice a1 C0.length p1) C0 ∧ Calm W w4) := hide fun W hW => by
        have hm := WM.out W hW
        obtain ⟨a1, p1, w4, h1, h2, h3⟩ := pn_apps (A := []) (Rc.Own.nil (E := encP) 40 W W.heap.size) hm.mem hm.nil (Nat.le_refl _) (by simp; omega)
        rw [List.nil_append] at h1 h2
        rw [hlen] at h1
        exact ⟨a1, p1, w4, h1, h2, h3.mono fun _ _ h => by simp [Value.ownBlock] at h⟩
      have HLn := hide hlen
      have W2 := hide (W1.out.tr HT.out)
      have A2 := hide (HT.out.at A1.out)
      unfold RetP at Za Zb
      clear hb1 hb2 hb4 hb5 hls hCk HS HI W1 A1 HT WL WM OW
      rw [hlen]
      clear hlen
      generalize lastP L = Y at *
      generalize L.length = n at *
      obtain ⟨w2, hw2⟩ : ∃ w2, w2 = wr := ⟨_, rfl⟩
      subst hw2
      go_wp2_with fail
      refine (Z1.out _ (Touch.refl _ _)).mono ?_
      rintro e v1 ⟨rfl, t1⟩
      have t1 := hide t1
      go_wp2_with fail
      refine (Z2.out _ t1.out).mono ?_
      rintro e v2 ⟨rfl, t2⟩
      have t2 := hide (t1.out.tr t2)
      go_wp2_with fail
      refine (Z3.out _ t2.out).mono ?_
      rintro e v3 ⟨rfl, t3⟩
      have t3 := hide (t2.out.tr t3)
      go_wp2_with fail
      refine (Z4.out _ t3.out).mono ?_
      rintro e v4 ⟨rfl, t4⟩
      have t4 := hide (t3.out.tr t4)
      go_wp2_with fail
      refine (Z5.out _ t4.out).mono ?_
      rintro e v5 ⟨rfl, t5⟩
      have t5 := hide (t4.out.tr t5)
      go_wp2_with fail
      refine (Z6.out _ t5.out).mono ?_
      rintro e v6 ⟨rfl, t6⟩
      have t6 := hide (t5.out.tr t6)
      clear t1 t2 t3 t4 t5 Z1 Z2 Z3 Z4 Z5 Z6
      go_upto_region 13 with fail
      go_cut [8] from 113 to 117 (fun s8 wx => ∃ a8 p8, s8 = .slice a8 (n + 1) p8 ∧ encP.Sl wx a8 p8 (C0 ++ [x]) ∧ Calm w2 wx)
      case first =>
        refine wp_region_held (S := Calm w2) (by kernel_rfl) ?_
        have hT0 : Calm w2 { v6 with drawn := v6.drawn + 1 } := t6.out.drew
        refine wpAnyH_yield 0 113 (.slice a n c) rfl rfl (by kernel_rfl) (by kernel_rfl) (by kernel_rfl) (fun _ _ _ h => h) (by kernel_rfl) (fun W hW => by kernel_rfl) (by assumption) rfl rfl ?_
        simp only [Act.put, List.setIfInBounds_toArray, List.set_cons_zero, List.set_cons_succ]
        refine wpAnyH_yield 2 115 (pnv x) rfl rfl (by kernel_rfl) (by kernel_rfl) (by kernel_rfl) (fun _ _ _ h => h) (by kernel_rfl) (fun W hW => by obtain ⟨⟨c0, c1, c2, c3, c4⟩, c5, c6, c7, c8⟩ := pn_cells (hW.at A2.out); go_simp) (by assumption) rfl rfl ?_
        simp only [Act.put, List.setIfInBounds_toArray, List.set_cons_zero, List.set_cons_succ]
        generalize ({ v6 with drawn := v6.drawn + 1 } : World) = wD at *
        clear Z7 Z8 Z9 Za Zb LT CK
        refine wpAnyH_two 1 3 (by kernel_rfl) ?_ ?_
        · obtain ⟨a1, p1, u1, hr1, o1, t1⟩ := CPY.out wD hT0
          have h2 : Calm w2 u1 := hT0.tr t1
          refine wpOp_value 1 114 (.slice a1 n p1) (w' := u1) rfl rfl (by kernel_rfl) (exec_apk (.const (.slice none 0 0)) (.tmp 113) 22 22 rfl _ _ _ rfl rfl hr1) ?_
          refine ⟨h2, ?_⟩
          simp only [Act.put, List.setIfInBounds_toArray, List.set_cons_zero, List.set_cons_succ]
          have h3 : Calm w2 (u1.alloc (.cells (pnc x) 40)) := h2.alloc _
          refine wpAnyH_value 3 116 (.slice (some ⟨u1.heap.size, 0, none⟩) 1 1) (w' := u1.alloc (.cells (pnc x) 40)) rfl rfl (by kernel_rfl) (by kernel_rfl) (by go_simp) h3 ?_
          simp only [Act.put, List.setIfInBounds_toArray, List.set_cons_zero, List.set_cons_succ]
          have OWN : encP.Own 40 (u1.alloc (.cells (pnc x) 40)) wD.heap.size (.slice a1 C0.length p1) C0 := Rc.Own.calm o1 ((Touch.refl (fun _ => False) u1).alloc _)
          have MEM : encP.Mem (u1.alloc (.cells (pnc x) 40)) (some ⟨u1.heap.size, 0, none⟩) [x] := Rc.Mem.new u1 [x] 40
          have BASE : wD.heap.size ≤ (u1.alloc (.cells (pnc x) 40)).heap.size := by have := t1.size; rw [al_size]; omega
          have HC := h3
          clear o1 t1 h2 h3 hr1
          obtain ⟨a3, p3, w4, hr3, o3, t3⟩ := pn_apps (bc := 1) OWN MEM (fun h => (nomatch h)) BASE (by rw [HLn.out]; simp; omega)
          have h4 : Calm w2 w4 := HC.trans t3 fun gb hk hf => by have := (own_bd OWN hf).1; have := hT0.size; omega
          have e3 : (C0 ++ [x]).length = n + 1 := by rw [List.length_append, HLn.out]; rfl
          have SL := Rc.Own.sl o3
          rw [HLn.out, e3] at hr3
          have hr3 : (Builtin.append_ #[22, 22] 22 #[.slice a1 n p1, .slice (some ⟨u1.heap.size, 0, none⟩) 1 1]).run Tryz.prog (u1.alloc (.cells (pnc x) 40)) = .ok (.slice a3 (n + 1) p3) w4 := hr3
          refine wpAnyH_value 4 117 (.slice a3 (n + 1) p3) (w' := w4) rfl rfl (by kernel_rfl) (by kernel_rfl) (exec_apk (.tmp 114) (.tmp 116) 22 22 rfl _ _ _ rfl rfl hr3) h4 ?_
          simp only [Act.put, List.setIfInBounds_toArray, List.set_cons_zero, List.set_cons_succ]
          refine wpAnyH_yield 5 8 (.slice a3 (n + 1) p3) rfl rfl (by kernel_rfl) (by kernel_rfl) (by kernel_rfl) (fun _ _ _ h => h) (by kernel_rfl) (fun W hW => by kernel_rfl) (by assumption) rfl rfl ?_
          simp only [Act.put, List.setIfInBounds_toArray, List.set_cons_zero, List.set_cons_succ]
          refine wpAnyH_done (by kernel_rfl) ?_ _
          have HL := hide SL
          have H4 := hide h4
          clear OWN MEM BASE HC hr3 o3 t3 h4 SL
          go_wp2_with fail
          go_meet
          case rel => exact ⟨a3, p3, rfl, HL.out, H4.out⟩
        · have h2 : Calm w2 (wD.alloc (.cells (pnc x) 40)) := hT0.alloc _
          refine wpOp_value 3 116 (.slice (some ⟨wD.heap.size, 0, none⟩) 1 1) (w' := wD.alloc (.cells (pnc x) 40)) rfl rfl (by kernel_rfl) (by go_simp) ?_
          refine ⟨h2, ?_⟩
          simp only [Act.put, List.setIfInBounds_toArray, List.set_cons_zero, List.set_cons_succ]
          obtain ⟨a1, p1, u1, hr1, o1, t1⟩ := CPY.out _ h2
          have h3 : Calm w2 u1 := h2.tr t1
          refine wpAnyH_value 1 114 (.slice a1 n p1) (w' := u1) rfl rfl (by kernel_rfl) (by kernel_rfl) (exec_apk (.const (.slice none 0 0)) (.tmp 113) 22 22 rfl _ _ _ rfl rfl hr1) h3 ?_
          simp only [Act.put, List.setIfInBounds_toArray, List.set_cons_zero, List.set_cons_succ]
          have OWN : encP.Own 40 u1 wD.heap.size (.slice a1 C0.length p1) C0 := Rc.Own.base o1 (by rw [al_size]; omega)
          have MEM : encP.Mem u1 (some ⟨wD.heap.size, 0, none⟩) [x] := Rc.Mem.calm (Rc.Mem.new wD [x] 40) t1
          have BASE : wD.heap.size ≤ u1.heap.size := by have := t1.size; rw [al_size] at this; omega
          have HC := h3
          clear o1 t1 h2 h3 hr1
          obtain ⟨a3, p3, w4, hr3, o3, t3⟩ := pn_apps (bc := 1) OWN MEM (fun h => (nomatch h)) BASE (by rw [HLn.out]; simp; omega)
          have h4 : Calm w2 w4 := HC.trans t3 fun gb hk hf => by have := (own_bd OWN hf).1; have := hT0.size; omega
          have e3 : (C0 ++ [x]).length = n + 1 := by rw [List.length_append, HLn.out]; rfl
          have SL := Rc.Own.sl o3
          rw [HLn.out, e3] at hr3
          have hr3 : (Builtin.append_ #[22, 22] 22 #[.slice a1 n p1, .slice (some ⟨wD.heap.size, 0, none⟩) 1 1]).run Tryz.prog u1 = .ok (.slice a3 (n + 1) p3) w4 := hr3
          refine wpAnyH_value 4 117 (.slice a3 (n + 1) p3) (w' := w4) rfl rfl (by kernel_rfl) (by kernel_rfl) (exec_apk (.tmp 114) (.tmp 116) 22 22 rfl _ _ _ rfl rfl hr3) h4 ?_
          simp only [Act.put, List.setIfInBounds_toArray, List.set_cons_zero, List.set_cons_succ]
          refine wpAnyH_yield 5 8 (.slice a3 (n + 1) p3) rfl rfl (by kernel_rfl) (by kernel_rfl) (by kernel_rfl) (fun _ _ _ h => h) (by kernel_rfl) (fun W hW => by kernel_rfl) (by assumption) rfl rfl ?_
          simp only [Act.put, List.setIfInBounds_toArray, List.set_cons_zero, List.set_cons_succ]
          refine wpAnyH_done (by kernel_rfl) ?_ _
          have HL := hide SL
          have H4 := hide h4
          clear OWN MEM BASE HC hr3 o3 t3 h4 SL
          go_wp2_with fail
          go_meet
          case rel => exact ⟨a3, p3, rfl, HL.out, H4.out⟩
      case rest =>
        obtain ⟨a8, p8, rfl, SL, TE⟩ := hcut
        have HSL := hide SL
        have t7 := hide TE
        clear SL TE t6 CPY A2 HLn
        go_wp2_with fail
        refine (Z7.out _ _ _ t7.out HSL.out).mono ?_
        rintro e v8 ⟨rfl, t8⟩
        have HSL8 := hide (Rc.Sl.calm HSL.out t8)
        have t8 := hide (t7.out.tr t8)
        clear HSL Z7 t7
        go_wp2_with fail
        refine (Z8.out _ _ _ t8.out HSL8.out).mono ?_
        rintro e v9 ⟨rfl, t9⟩
        have HSL9 := hide (Rc.Sl.calm HSL8.out t9)
        have t9 := hide (t8.out.tr t9)
        clear HSL8 Z8 t8
        go_wp2_with fail
        refine (Z9.out _ _ _ t9.out HSL9.out).mono ?_
        rintro e v10 ⟨rfl, t10⟩
        have t10 := hide (t9.out.tr t10)
        clear HSL9 Z9 t9
        go_wp2_with fail
        refine (Za.out _ t10.out).mono ?_
        rintro e v11 ⟨aa, ca, rfl, OA, t11⟩
        have OA := hide OA
        have t11 := hide (t10.out.tr t11)
        clear t10 Za
        go_wp2_with fail
        refine (Zb.out _ t11.out).mono ?_
        rintro e v12 ⟨ab, cb, rfl, OB, t12⟩
        have OA := hide (Rc.Own.calm OA.out t12)
        have OB := hide OB
        have t12 := hide (t11.out.tr t12)
        clear t11 Zb
        go_wp2_with fail
        generalize hny : Y.length = ny at *
        go_loopw [11] (fun s11 wr => ∃ i : Nat, s11 = .int .i64 (i : Int) ∧ 1 ≤ i ∧ i ≤ 201 ∧ Calm v12 wr) (fun s11 _ => ny - (intOf s11).toNat)
        case atStart => exact ⟨1, rfl, Nat.le_refl _, by omega, Touch.refl _ _⟩
        case round =>
          obtain ⟨i, rfl, hi1, hi2, TE⟩ := hrel
          have HT := hide TE
          clear TE
          by_cases hlt : i < ny
          · have hltz : (i : Int) < (ny : Int) := by omega
            obtain ⟨m, hm⟩ : ∃ m, i = m + 1 := ⟨i - 1, by omega⟩
            obtain ⟨gy, rfl, k0⟩ := own_atK OA.out m (by omega)
            obtain ⟨gz, ez, k1⟩ := own_atK OA.out i (by omega)
            injection ez with ez
            injection ez with ez _
            subst ez
            have K0 := hide k0
            have K1 := hide k1
            obtain ⟨l1, l2⟩ := LT.out m (by omega)
            rw [← hm] at l1 l2
            have hmA : m + 1 ≤ i := by omega
            have hmB : i ≤ m + 1 := by omega
            clear k0 k1 LT OB CK hm
            generalize Y.getD m pn0 = y0 at *
            generalize Y.getD i pn0 = y1 at *
            have HGT0 := gtr_strN 9 y0.k y1.k
            rw [l1] at HGT0
            have HGT := hide HGT0
            clear HGT0 l1
            by_cases hk : y0.k = y1.k
            · have hkk : Hid ((y0.k.toList == y1.k.toList) = true) := hide (by rw [ba_beq, decide_eq_true hk])
              have HSP : Hid ((decide (y0.a = y1.a) && decide (y0.b = y1.b)) = false) := hide (by
                unfold sameW at l2
                rw [decide_eq_true hk] at l2
                exact l2)
              clear l2 hk
              go_wp2_with fail
              refine wp_region_held (S := Calm v12) (by kernel_rfl) ?_
              have hT0 : Calm v12 { wr with drawn := wr.drawn + 1 } := HT.out.drew
              refine wpAnyH_yield 0 142 (.slice (some ⟨gy, 0, none⟩) ny ca) rfl rfl (by kernel_rfl) (by kernel_rfl) (by kernel_rfl) (fun _ _ _ h => h) (by kernel_rfl) (fun W hW => by kernel_rfl) (by assumption) rfl rfl ?_
              simp only [Act.put, List.setIfInBounds_toArray, List.set_cons_zero, List.set_cons_succ]
              refine wpAnyH_yield 1 143 (.int .i64 (i : Int)) rfl rfl (by kernel_rfl) (by kernel_rfl) (by kernel_rfl) (fun _ _ _ h => h) (by kernel_rfl) (fun W hW => by kernel_rfl) (by assumption) rfl rfl ?_
              simp only [Act.put, List.setIfInBounds_toArray, List.set_cons_zero, List.set_cons_succ]
              refine wpAnyH_yield 2 144 (.int .i64 (m : Int)) rfl rfl (by kernel_rfl) (by kernel_rfl) (by kernel_rfl) (fun _ _ _ h => h) (by kernel_rfl) (fun W hW => by go_simp; rw [wrapEq]; unfold wrap64; omega) (by assumption) rfl rfl ?_
              simp only [Act.put, List.setIfInBounds_toArray, List.set_cons_zero, List.set_cons_succ]
              refine wpAnyH_yield 3 145 (.pointer (some ⟨gy, m * 9, none⟩)) rfl rfl (by kernel_rfl) (by kernel_rfl) (by kernel_rfl) (fun _ _ _ h => h) (by kernel_rfl) (fun W hW => by go_simp <;> (intro h; omega)) (by assumption) rfl rfl ?_
              simp only [Act.put, List.setIfInBounds_toArray, List.set_cons_zero, List.set_cons_succ]
              refine wpAnyH_yield 4 146 (.pointer (some ⟨gy, m * 9, none⟩)) rfl rfl (by kernel_rfl) (by kernel_rfl) (by kernel_rfl) (fun _ _ _ h => h) (by kernel_rfl) (fun W hW => by go_simp) (by assumption) rfl rfl ?_
              simp only [Act.put, List.setIfInBounds_toArray, List.set_cons_zero, List.set_cons_succ]
              refine wpAnyH_yield 5 147 (.string y0.k) rfl rfl (by kernel_rfl) (by kernel_rfl) (by kernel_rfl) (fun _ _ _ h => h) (by kernel_rfl) (fun W hW => by obtain ⟨⟨c0, -⟩, -⟩ := K0.out W hW; go_simp) (by assumption) rfl rfl ?_
              simp only [Act.put, List.setIfInBounds_toArray, List.set_cons_zero, List.set_cons_succ]
              refine wpAnyH_yield 6 148 (.slice (some ⟨gy, 0, none⟩) ny ca) rfl rfl (by kernel_rfl) (by kernel_rfl) (by kernel_rfl) (fun _ _ _ h => h) (by kernel_rfl) (fun W hW => by kernel_rfl) (by assumption) rfl rfl ?_
              simp only [Act.put, List.setIfInBounds_toArray, List.set_cons_zero, List.set_cons_succ]
              refine wpAnyH_yield 7 149 (.int .i64 (i : Int)) rfl rfl (by kernel_rfl) (by kernel_rfl) (by kernel_rfl) (fun _ _ _ h => h) (by kernel_rfl) (fun W hW => by kernel_rfl) (by assumption) rfl rfl ?_
              simp only [Act.put, List.setIfInBounds_toArray, List.set_cons_zero, List.set_cons_succ]
              refine wpAnyH_yield 8 150 (.pointer (some ⟨gy, i * 9, none⟩)) rfl rfl (by kernel_rfl) (by kernel_rfl) (by kernel_rfl) (fun _ _ _ h => h) (by kernel_rfl) (fun W hW => by go_simp <;> (intro h; omega)) (by assumption) rfl rfl ?_
              simp only [Act.put, List.setIfInBounds_toArray, List.set_cons_zero, List.set_cons_succ]
              refine wpAnyH_yield 9 151 (.pointer (some ⟨gy, i * 9, none⟩)) rfl rfl (by kernel_rfl) (by kernel_rfl) (by kernel_rfl) (fun _ _ _ h => h) (by kernel_rfl) (fun W hW => by go_simp) (by assumption) rfl rfl ?_
              simp only [Act.put, List.setIfInBounds_toArray, List.set_cons_zero, List.set_cons_succ]
              refine wpAnyH_yield 10 152 (.string y1.k) rfl rfl (by kernel_rfl) (by kernel_rfl) (by kernel_rfl) (fun _ _ _ h => h) (by kernel_rfl) (fun W hW => by obtain ⟨⟨c0, -⟩, -⟩ := K1.out W hW; go_simp) (by assumption) rfl rfl ?_
              simp only [Act.put, List.setIfInBounds_toArray, List.set_cons_zero, List.set_cons_succ]
              refine wpAnyH_yield 11 153 (.bool false) rfl rfl (by kernel_rfl) (by kernel_rfl) (by kernel_rfl) (fun _ _ _ h => h) (by kernel_rfl) (fun W hW => by have h := HGT.out; go_simp) (by assumption) rfl rfl ?_
              simp only [Act.put, List.setIfInBounds_toArray, List.set_cons_zero, List.set_cons_succ]
              refine wpAnyH_yield 12 154 (.bool false) rfl rfl (by kernel_rfl) (by kernel_rfl) (by kernel_rfl) (fun _ _ _ h => h) (by kernel_rfl) (fun W hW => by kernel_rfl) (by assumption) rfl rfl ?_
              simp only [Act.put, List.setIfInBounds_toArray, List.set_cons_zero, List.set_cons_succ]
              refine wpAnyH_yield 13 155 (.slice (some ⟨gy, 0, none⟩) ny ca) rfl rfl (by kernel_rfl) (by kernel_rfl) (by kernel_rfl) (fun _ _ _ h => h) (by kernel_rfl) (fun W hW => by kernel_rfl) (by assumption) rfl rfl ?_
              simp only [Act.put, List.setIfInBounds_toArray, List.set_cons_zero, List.set_cons_succ]
              refine wpAnyH_yield 14 156 (.int .i64 (i : Int)) rfl rfl (by kernel_rfl) (by kernel_rfl) (by kernel_rfl) (fun _ _ _ h => h) (by kernel_rfl) (fun W hW => by kernel_rfl) (by assumption) rfl rfl ?_
              simp only [Act.put, List.setIfInBounds_toArray, List.set_cons_zero, List.set_cons_succ]
              refine wpAnyH_yield 15 157 (.int .i64 (m : Int)) rfl rfl (by kernel_rfl) (by kernel_rfl) (by kernel_rfl) (fun _ _ _ h => h) (by kernel_rfl) (fun W hW => by go_simp; rw [wrapEq]; unfold wrap64; omega) (by assumption) rfl rfl ?_
              simp only [Act.put, List.setIfInBounds_toArray, List.set_cons_zero, List.set_cons_succ]
              refine wpAnyH_yield 16 158 (.pointer (some ⟨gy, m * 9, none⟩)) rfl rfl (by kernel_rfl) (by kernel_rfl) (by kernel_rfl) (fun _ _ _ h => h) (by kernel_rfl) (fun W hW => by go_simp <;> (intro h; omega)) (by assumption) rfl rfl ?_
              simp only [Act.put, List.setIfInBounds_toArray, List.set_cons_zero, List.set_cons_succ]
              refine wpAnyH_yield 17 159 (.pointer (some ⟨gy, m * 9, none⟩)) rfl rfl (by kernel_rfl) (by kernel_rfl) (by kernel_rfl) (fun _ _ _ h => h) (by kernel_rfl) (fun W hW => by go_simp) (by assumption) rfl rfl ?_
              simp only [Act.put, List.setIfInBounds_toArray, List.set_cons_zero, List.set_cons_succ]
              refine wpAnyH_yield 18 160 (.string y0.k) rfl rfl (by kernel_rfl) (by kernel_rfl) (by kernel_rfl) (fun _ _ _ h => h) (by kernel_rfl) (fun W hW => by obtain ⟨⟨c0, -⟩, -⟩ := K0.out W hW; go_simp) (by assumption) rfl rfl ?_
              simp only [Act.put, List.setIfInBounds_toArray, List.set_cons_zero, List.set_cons_succ]
              refine wpAnyH_yield 19 161 (.slice (some ⟨gy, 0, none⟩) ny ca) rfl rfl (by kernel_rfl) (by kernel_rfl) (by kernel_rfl) (fun _ _ _ h => h) (by kernel_rfl) (fun W hW => by kernel_rfl) (by assumption) rfl rfl ?_
              simp only [Act.put, List.setIfInBounds_toArray, List.set_cons_zero, List.set_cons_succ]
              refine wpAnyH_yield 20 162 (.int .i64 (i : Int)) rfl rfl (by kernel_rfl) (by kernel_rfl) (by kernel_rfl) (fun _ _ _ h => h) (by kernel_rfl) (fun W hW => by kernel_rfl) (by assumption) rfl rfl ?_
              simp only [Act.put, List.setIfInBounds_toArray, List.set_cons_zero, List.set_cons_succ]
              refine wpAnyH_yield 21 163 (.pointer (some ⟨gy, i * 9, none⟩)) rfl rfl (by kernel_rfl) (by kernel_rfl) (by kernel_rfl) (fun _ _ _ h => h) (by kernel_rfl) (fun W hW => by go_simp <;> (intro h; omega)) (by assumption) rfl rfl ?_
              simp only [Act.put, List.setIfInBounds_toArray, List.set_cons_zero, List.set_cons_succ]
              refine wpAnyH_yield 22 164 (.pointer (some ⟨gy, i * 9, none⟩)) rfl rfl (by kernel_rfl) (by kernel_rfl) (by kernel_rfl) (fun _ _ _ h => h) (by kernel_rfl) (fun W hW => by go_simp) (by assumption) rfl rfl ?_
              simp only [Act.put, List.setIfInBounds_toArray, List.set_cons_zero, List.set_cons_succ]
              refine wpAnyH_yield 23 165 (.string y1.k) rfl rfl (by kernel_rfl) (by kernel_rfl) (by kernel_rfl) (fun _ _ _ h => h) (by kernel_rfl) (fun W hW => by obtain ⟨⟨c0, -⟩, -⟩ := K1.out W hW; go_simp) (by assumption) rfl rfl ?_
              simp only [Act.put, List.setIfInBounds_toArray, List.set_cons_zero, List.set_cons_succ]
              refine wpAnyH_yield 24 166 (.bool true) rfl rfl (by kernel_rfl) (by kernel_rfl) (by kernel_rfl) (fun _ _ _ h => h) (by kernel_rfl) (fun W hW => by have hk2 := hkk.out; go_simp) (by assumption) rfl rfl ?_
              simp only [Act.put, List.setIfInBounds_toArray, List.set_cons_zero, List.set_cons_succ]
              refine wpAnyH_yield 25 167 (.bool true) rfl rfl (by kernel_rfl) (by kernel_rfl) (by kernel_rfl) (fun _ _ _ h => h) (by kernel_rfl) (fun W hW => by kernel_rfl) (by assumption) rfl rfl ?_
              simp only [Act.put, List.setIfInBounds_toArray, List.set_cons_zero, List.set_cons_succ]
              refine wpAnyH_yield 26 168 (.slice (some ⟨gy, 0, none⟩) ny ca) rfl rfl (by kernel_rfl) (by kernel_rfl) (by kernel_rfl) (fun _ _ _ h => h) (by kernel_rfl) (fun W hW => by kernel_rfl) (by assumption) rfl rfl ?_
              simp only [Act.put, List.setIfInBounds_toArray, List.set_cons_zero, List.set_cons_succ]
              refine wpAnyH_yield 27 169 (.int .i64 (i : Int)) rfl rfl (by kernel_rfl) (by kernel_rfl) (by kernel_rfl) (fun _ _ _ h => h) (by kernel_rfl) (fun W hW => by kernel_rfl) (by assumption) rfl rfl ?_
              simp only [Act.put, List.setIfInBounds_toArray, List.set_cons_zero, List.set_cons_succ]
              refine wpAnyH_yield 28 170 (.int .i64 (m : Int)) rfl rfl (by kernel_rfl) (by kernel_rfl) (by kernel_rfl) (fun _ _ _ h => h) (by kernel_rfl) (fun W hW => by go_simp; rw [wrapEq]; unfold wrap64; omega) (by assumption) rfl rfl ?_
              simp only [Act.put, List.setIfInBounds_toArray, List.set_cons_zero, List.set_cons_succ]
              refine wpAnyH_yield 29 171 (.pointer (some ⟨gy, m * 9, none⟩)) rfl rfl (by kernel_rfl) (by kernel_rfl) (by kernel_rfl) (fun _ _ _ h => h) (by kernel_rfl) (fun W hW => by go_simp <;> (intro h; omega)) (by assumption) rfl rfl ?_
              simp only [Act.put, List.setIfInBounds_toArray, List.set_cons_zero, List.set_cons_succ]
              refine wpAnyH_yield 30 172 (.pointer (some ⟨gy, m * 9 + 1, none⟩)) rfl rfl (by kernel_rfl) (by kernel_rfl) (by kernel_rfl) (fun _ _ _ h => h) (by kernel_rfl) (fun W hW => by go_simp) (by assumption) rfl rfl ?_
              simp only [Act.put, List.setIfInBounds_toArray, List.set_cons_zero, List.set_cons_succ]
              refine wpAnyH_yield 31 173 (.agg #[.int .i64 y0.a, .int .i64 y0.b]) rfl rfl (by kernel_rfl) (by kernel_rfl) (by kernel_rfl) (fun _ _ _ h => h) (by kernel_rfl) (fun W hW => by obtain ⟨⟨-, c1, c2, -⟩, -⟩ := K0.out W hW; go_simp) (by assumption) rfl rfl ?_
              simp only [Act.put, List.setIfInBounds_toArray, List.set_cons_zero, List.set_cons_succ]
              refine wpAnyH_yield 32 174 (.slice (some ⟨gy, 0, none⟩) ny ca) rfl rfl (by kernel_rfl) (by kernel_rfl) (by kernel_rfl) (fun _ _ _ h => h) (by kernel_rfl) (fun W hW => by kernel_rfl) (by assumption) rfl rfl ?_
              simp only [Act.put, List.setIfInBounds_toArray, List.set_cons_zero, List.set_cons_succ]
              refine wpAnyH_yield 33 175 (.int .i64 (i : Int)) rfl rfl (by kernel_rfl) (by kernel_rfl) (by kernel_rfl) (fun _ _ _ h => h) (by kernel_rfl) (fun W hW => by kernel_rfl) (by assumption) rfl rfl ?_
              simp only [Act.put, List.setIfInBounds_toArray, List.set_cons_zero, List.set_cons_succ]
              refine wpAnyH_yield 34 176 (.pointer (some ⟨gy, i * 9, none⟩)) rfl rfl (by kernel_rfl) (by kernel_rfl) (by kernel_rfl) (fun _ _ _ h => h) (by kernel_rfl) (fun W hW => by go_simp <;> (intro h; omega)) (by assumption) rfl rfl ?_
              simp only [Act.put, List.setIfInBounds_toArray, List.set_cons_zero, List.set_cons_succ]
              refine wpAnyH_yield 35 177 (.pointer (some ⟨gy, i * 9 + 1, none⟩)) rfl rfl (by kernel_rfl) (by kernel_rfl) (by kernel_rfl) (fun _ _ _ h => h) (by kernel_rfl) (fun W hW => by go_simp) (by assumption) rfl rfl ?_
              simp only [Act.put, List.setIfInBounds_toArray, List.set_cons_zero, List.set_cons_succ]
              refine wpAnyH_yield 36 178 (.agg #[.int .i64 y1.a, .int .i64 y1.b]) rfl rfl (by kernel_rfl) (by kernel_rfl) (by kernel_rfl) (fun _ _ _ h => h) (by kernel_rfl) (fun W hW => by obtain ⟨⟨-, c1, c2, -⟩, -⟩ := K1.out W hW; go_simp) (by assumption) rfl rfl ?_
              simp only [Act.put, List.setIfInBounds_toArray, List.set_cons_zero, List.set_cons_succ]
              refine wpAnyH_yield 37 179 (.bool false) rfl rfl (by kernel_rfl) (by kernel_rfl) (by kernel_rfl) (fun _ _ _ h => h) (by kernel_rfl) (fun W hW => by go_simp; intro ha hb; have q := HSP.out; rw [decide_eq_true ha, decide_eq_true hb] at q; cases q) (by assumption) rfl rfl ?_
              simp only [Act.put, List.setIfInBounds_toArray, List.set_cons_zero, List.set_cons_succ]
              refine wpAnyH_yield 38 180 (.bool false) rfl rfl (by kernel_rfl) (by kernel_rfl) (by kernel_rfl) (fun _ _ _ h => h) (by kernel_rfl) (fun W hW => by go_simp) (by assumption) rfl rfl ?_
              simp only [Act.put, List.setIfInBounds_toArray, List.set_cons_zero, List.set_cons_succ]
              refine wpAnyH_yield 39 181 (.bool false) rfl rfl (by kernel_rfl) (by kernel_rfl) (by kernel_rfl) (fun _ _ _ h => h) (by kernel_rfl) (fun W hW => by go_simp) (by assumption) rfl rfl ?_
              simp only [Act.put, List.setIfInBounds_toArray, List.set_cons_zero, List.set_cons_succ]
              refine wpAnyH_done (by kernel_rfl) ?_ _
              have H1 := hide hT0
              clear hT0 HT K0 K1
              go_wp2_with fail
              go_roundw
              case rel => exact ⟨i + 1, by go_num, by omega, by omega, H1.out⟩
              case measure => simp [intOf]; omega
            · have hkk : Hid ((y0.k.toList == y1.k.toList) = false) := hide (by rw [ba_beq, decide_eq_false hk])
              clear l2
              go_wp2_with fail
              refine wp_region_held (S := Calm v12) (by kernel_rfl) ?_
              have hT0 : Calm v12 { wr with drawn := wr.drawn + 1 } := HT.out.drew
              refine wpAnyH_yield 0 142 (.slice (some ⟨gy, 0, none⟩) ny ca) rfl rfl (by kernel_rfl) (by kernel_rfl) (by kernel_rfl) (fun _ _ _ h => h) (by kernel_rfl) (fun W hW => by kernel_rfl) (by assumption) rfl rfl ?_
              simp only [Act.put, List.setIfInBounds_toArray, List.set_cons_zero, List.set_cons_succ]
              refine wpAnyH_yield 1 143 (.int .i64 (i : Int)) rfl rfl (by kernel_rfl) (by kernel_rfl) (by kernel_rfl) (fun _ _ _ h => h) (by kernel_rfl) (fun W hW => by kernel_rfl) (by assumption) rfl rfl ?_
              simp only [Act.put, List.setIfInBounds_toArray, List.set_cons_zero, List.set_cons_succ]
              refine wpAnyH_yield 2 144 (.int .i64 (m : Int)) rfl rfl (by kernel_rfl) (by kernel_rfl) (by kernel_rfl) (fun _ _ _ h => h) (by kernel_rfl) (fun W hW => by go_simp; rw [wrapEq]; unfold wrap64; omega) (by assumption) rfl rfl ?_
              simp only [Act.put, List.setIfInBounds_toArray, List.set_cons_zero, List.set_cons_succ]
              refine wpAnyH_yield 3 145 (.pointer (some ⟨gy, m * 9, none⟩)) rfl rfl (by kernel_rfl) (by kernel_rfl) (by kernel_rfl) (fun _ _ _ h => h) (by kernel_rfl) (fun W hW => by go_simp <;> (intro h; omega)) (by assumption) rfl rfl ?_
              simp only [Act.put, List.setIfInBounds_toArray, List.set_cons_zero, List.set_cons_succ]
              refine wpAnyH_yield 4 146 (.pointer (some ⟨gy, m * 9, none⟩)) rfl rfl (by kernel_rfl) (by kernel_rfl) (by kernel_rfl) (fun _ _ _ h => h) (by kernel_rfl) (fun W hW => by go_simp) (by assumption) rfl rfl ?_
              simp only [Act.put, List.setIfInBounds_toArray, List.set_cons_zero, List.set_cons_succ]
              refine wpAnyH_yield 5 147 (.string y0.k) rfl rfl (by kernel_rfl) (by kernel_rfl) (by kernel_rfl) (fun _ _ _ h => h) (by kernel_rfl) (fun W hW => by obtain ⟨⟨c0, -⟩, -⟩ := K0.out W hW; go_simp) (by assumption) rfl rfl ?_
              simp only [Act.put, List.setIfInBounds_toArray, List.set_cons_zero, List.set_cons_succ]
              refine wpAnyH_yield 6 148 (.slice (some ⟨gy, 0, none⟩) ny ca) rfl rfl (by kernel_rfl) (by kernel_rfl) (by kernel_rfl) (fun _ _ _ h => h) (by kernel_rfl) (fun W hW => by kernel_rfl) (by assumption) rfl rfl ?_
              simp only [Act.put, List.setIfInBounds_toArray, List.set_cons_zero, List.set_cons_succ]
              refine wpAnyH_yield 7 149 (.int .i64 (i : Int)) rfl rfl (by kernel_rfl) (by kernel_rfl) (by kernel_rfl) (fun _ _ _ h => h) (by kernel_rfl) (fun W hW => by kernel_rfl) (by assumption) rfl rfl ?_
              simp only [Act.put, List.setIfInBounds_toArray, List.set_cons_zero, List.set_cons_succ]
              refine wpAnyH_yield 8 150 (.pointer (some ⟨gy, i * 9, none⟩)) rfl rfl (by kernel_rfl) (by kernel_rfl) (by kernel_rfl) (fun _ _ _ h => h) (by kernel_rfl) (fun W hW => by go_simp <;> (intro h; omega)) (by assumption) rfl rfl ?_
              simp only [Act.put, List.setIfInBounds_toArray, List.set_cons_zero, List.set_cons_succ]
              refine wpAnyH_yield 9 151 (.pointer (some ⟨gy, i * 9, none⟩)) rfl rfl (by kernel_rfl) (by kernel_rfl) (by kernel_rfl) (fun _ _ _ h => h) (by kernel_rfl) (fun W hW => by go_simp) (by assumption) rfl rfl ?_
              simp only [Act.put, List.setIfInBounds_toArray, List.set_cons_zero, List.set_cons_succ]
              refine wpAnyH_yield 10 152 (.string y1.k) rfl rfl (by kernel_rfl) (by kernel_rfl) (by kernel_rfl) (fun _ _ _ h => h) (by kernel_rfl) (fun W hW => by obtain ⟨⟨c0, -⟩, -⟩ := K1.out W hW; go_simp) (by assumption) rfl rfl ?_
              simp only [Act.put, List.setIfInBounds_toArray, List.set_cons_zero, List.set_cons_succ]
              refine wpAnyH_yield 11 153 (.bool false) rfl rfl (by kernel_rfl) (by kernel_rfl) (by kernel_rfl) (fun _ _ _ h => h) (by kernel_rfl) (fun W hW => by have h := HGT.out; go_simp) (by assumption) rfl rfl ?_
              simp only [Act.put, List.setIfInBounds_toArray, List.set_cons_zero, List.set_cons_succ]
              refine wpAnyH_yield 12 154 (.bool false) rfl rfl (by kernel_rfl) (by kernel_rfl) (by kernel_rfl) (fun _ _ _ h => h) (by kernel_rfl) (fun W hW => by kernel_rfl) (by assumption) rfl rfl ?_
              simp only [Act.put, List.setIfInBounds_toArray, List.set_cons_zero, List.set_cons_succ]
              refine wpAnyH_yield 13 155 (.slice (some ⟨gy, 0, none⟩) ny ca) rfl rfl (by kernel_rfl) (by kernel_rfl) (by kernel_rfl) (fun _ _ _ h => h) (by kernel_rfl) (fun W hW => by kernel_rfl) (by assumption) rfl rfl ?_
              simp only [Act.put, List.setIfInBounds_toArray, List.set_cons_zero, List.set_cons_succ]
              refine wpAnyH_yield 14 156 (.int .i64 (i : Int)) rfl rfl (by kernel_rfl) (by kernel_rfl) (by kernel_rfl) (fun _ _ _ h => h) (by kernel_rfl) (fun W hW => by kernel_rfl) (by assumption) rfl rfl ?_
              simp only [Act.put, List.setIfInBounds_toArray, List.set_cons_zero, List.set_cons_succ]
              refine wpAnyH_yield 15 157 (.int .i64 (m : Int)) rfl rfl (by kernel_rfl) (by kernel_rfl) (by kernel_rfl) (fun _ _ _ h => h) (by kernel_rfl) (fun W hW => by go_simp; rw [wrapEq]; unfold wrap64; omega) (by assumption) rfl rfl ?_
              simp only [Act.put, List.setIfInBounds_toArray, List.set_cons_zero, List.set_cons_succ]
              refine wpAnyH_yield 16 158 (.pointer (some ⟨gy, m * 9, none⟩)) rfl rfl (by kernel_rfl) (by kernel_rfl) (by kernel_rfl) (fun _ _ _ h => h) (by kernel_rfl) (fun W hW => by go_simp <;> (intro h; omega)) (by assumption) rfl rfl ?_
              simp only [Act.put, List.setIfInBounds_toArray, List.set_cons_zero, List.set_cons_succ]
              refine wpAnyH_yield 17 159 (.pointer (some ⟨gy, m * 9, none⟩)) rfl rfl (by kernel_rfl) (by kernel_rfl) (by kernel_rfl) (fun _ _ _ h => h) (by kernel_rfl) (fun W hW => by go_simp) (by assumption) rfl rfl ?_
              simp only [Act.put, List.setIfInBounds_toArray, List.set_cons_zero, List.set_cons_succ]
              refine wpAnyH_yield 18 160 (.string y0.k) rfl rfl (by kernel_rfl) (by kernel_rfl) (by kernel_rfl) (fun _ _ _ h => h) (by kernel_rfl) (fun W hW => by obtain ⟨⟨c0, -⟩, -⟩ := K0.out W hW; go_simp) (by assumption) rfl rfl ?_
              simp only [Act.put, List.setIfInBounds_toArray, List.set_cons_zero, List.set_cons_succ]
              refine wpAnyH_yield 19 161 (.slice (some ⟨gy, 0, none⟩) ny ca) rfl rfl (by kernel_rfl) (by kernel_rfl) (by kernel_rfl) (fun _ _ _ h => h) (by kernel_rfl) (fun W hW => by kernel_rfl) (by assumption) rfl rfl ?_
              simp only [Act.put, List.setIfInBounds_toArray, List.set_cons_zero, List.set_cons_succ]
              refine wpAnyH_yield 20 162 (.int .i64 (i : Int)) rfl rfl (by kernel_rfl) (by kernel_rfl) (by kernel_rfl) (fun _ _ _ h => h) (by kernel_rfl) (fun W hW => by kernel_rfl) (by assumption) rfl rfl ?_
              simp only [Act.put, List.setIfInBounds_toArray, List.set_cons_zero, List.set_cons_succ]
              refine wpAnyH_yield 21 163 (.pointer (some ⟨gy, i * 9, none⟩)) rfl rfl (by kernel_rfl) (by kernel_rfl) (by kernel_rfl) (fun _ _ _ h => h) (by kernel_rfl) (fun W hW => by go_simp <;> (intro h; omega)) (by assumption) rfl rfl ?_
              simp only [Act.put, List.setIfInBounds_toArray, List.set_cons_zero, List.set_cons_succ]
              refine wpAnyH_yield 22 164 (.pointer (some ⟨gy, i * 9, none⟩)) rfl rfl (by kernel_rfl) (by kernel_rfl) (by kernel_rfl) (fun _ _ _ h => h) (by kernel_rfl) (fun W hW => by go_simp) (by assumption) rfl rfl ?_
              simp only [Act.put, List.setIfInBounds_toArray, List.set_cons_zero, List.set_cons_succ]
              refine wpAnyH_yield 23 165 (.string y1.k) rfl rfl (by kernel_rfl) (by kernel_rfl) (by kernel_rfl) (fun _ _ _ h => h) (by kernel_rfl) (fun W hW => by obtain ⟨⟨c0, -⟩, -⟩ := K1.out W hW; go_simp) (by assumption) rfl rfl ?_
              simp only [Act.put, List.setIfInBounds_toArray, List.set_cons_zero, List.set_cons_succ]
              refine wpAnyH_yield 24 166 (.bool false) rfl rfl (by kernel_rfl) (by kernel_rfl) (by kernel_rfl) (fun _ _ _ h => h) (by kernel_rfl) (fun W hW => by have hk2 := hkk.out; go_simp) (by assumption) rfl rfl ?_
              simp only [Act.put, List.setIfInBounds_toArray, List.set_cons_zero, List.set_cons_succ]
              refine wpAnyH_yield 25 167 (.bool false) rfl rfl (by kernel_rfl) (by kernel_rfl) (by kernel_rfl) (fun _ _ _ h => h) (by kernel_rfl) (fun W hW => by kernel_rfl) (by assumption) rfl rfl ?_
              simp only [Act.put, List.setIfInBounds_toArray, List.set_cons_zero, List.set_cons_succ]
              refine wpAnyH_skip 26 168 rfl rfl (by kernel_rfl) (by kernel_rfl) (by kernel_rfl) (fun _ _ _ h => h) (by kernel_rfl) (by assumption) rfl rfl ?_
              simp only [Act.put, List.setIfInBounds_toArray, List.set_cons_zero, List.set_cons_succ]
              refine wpAnyH_skip 27 169 rfl rfl (by kernel_rfl) (by kernel_rfl) (by kernel_rfl) (fun _ _ _ h => h) (by kernel_rfl) (by assumption) rfl rfl ?_
              simp only [Act.put, List.setIfInBounds_toArray, List.set_cons_zero, List.set_cons_succ]
              refine wpAnyH_skip 28 170 rfl rfl (by kernel_rfl) (by kernel_rfl) (by kernel_rfl) (fun _ _ _ h => h) (by kernel_rfl) (by assumption) rfl rfl ?_
              simp only [Act.put, List.setIfInBounds_toArray, List.set_cons_zero, List.set_cons_succ]
              refine wpAnyH_skip 29 171 rfl rfl (by kernel_rfl) (by kernel_rfl) (by kernel_rfl) (fun _ _ _ h => h) (by kernel_rfl) (by assumption) rfl rfl ?_
              simp only [Act.put, List.setIfInBounds_toArray, List.set_cons_zero, List.set_cons_succ]
              refine wpAnyH_skip 30 172 rfl rfl (by kernel_rfl) (by kernel_rfl) (by kernel_rfl) (fun _ _ _ h => h) (by kernel_rfl) (by assumption) rfl rfl ?_
              simp only [Act.put, List.setIfInBounds_toArray, List.set_cons_zero, List.set_cons_succ]
              refine wpAnyH_skip 31 173 rfl rfl (by kernel_rfl) (by kernel_rfl) (by kernel_rfl) (fun _ _ _ h => h) (by kernel_rfl) (by assumption) rfl rfl ?_
              simp only [Act.put, List.setIfInBounds_toArray, List.set_cons_zero, List.set_cons_succ]
              refine wpAnyH_skip 32 174 rfl rfl (by kernel_rfl) (by kernel_rfl) (by kernel_rfl) (fun _ _ _ h => h) (by kernel_rfl) (by assumption) rfl rfl ?_
              simp only [Act.put, List.setIfInBounds_toArray, List.set_cons_zero, List.set_cons_succ]
              refine wpAnyH_skip 33 175 rfl rfl (by kernel_rfl) (by kernel_rfl) (by kernel_rfl) (fun _ _ _ h => h) (by kernel_rfl) (by assumption) rfl rfl ?_
              simp only [Act.put, List.setIfInBounds_toArray, List.set_cons_zero, List.set_cons_succ]
              refine wpAnyH_skip 34 176 rfl rfl (by kernel_rfl) (by kernel_rfl) (by kernel_rfl) (fun _ _ _ h => h) (by kernel_rfl) (by assumption) rfl rfl ?_
              simp only [Act.put, List.setIfInBounds_toArray, List.set_cons_zero, List.set_cons_succ]
              refine wpAnyH_skip 35 177 rfl rfl (by kernel_rfl) (by kernel_rfl) (by kernel_rfl) (fun _ _ _ h => h) (by kernel_rfl) (by assumption) rfl rfl ?_
              simp only [Act.put, List.setIfInBounds_toArray, List.set_cons_zero, List.set_cons_succ]
              refine wpAnyH_skip 36 178 rfl rfl (by kernel_rfl) (by kernel_rfl) (by kernel_rfl) (fun _ _ _ h => h) (by kernel_rfl) (by assumption) rfl rfl ?_
              simp only [Act.put, List.setIfInBounds_toArray, List.set_cons_zero, List.set_cons_succ]
              refine wpAnyH_skip 37 179 rfl rfl (by kernel_rfl) (by kernel_rfl) (by kernel_rfl) (fun _ _ _ h => h) (by kernel_rfl) (by assumption) rfl rfl ?_
              simp only [Act.put, List.setIfInBounds_toArray, List.set_cons_zero, List.set_cons_succ]
              refine wpAnyH_yield 38 180 (.bool false) rfl rfl (by kernel_rfl) (by kernel_rfl) (by kernel_rfl) (fun _ _ _ h => h) (by kernel_rfl) (fun W hW => by go_simp) (by assumption) rfl rfl ?_
              simp only [Act.put, List.setIfInBounds_toArray, List.set_cons_zero, List.set_cons_succ]
              refine wpAnyH_yield 39 181 (.bool false) rfl rfl (by kernel_rfl) (by kernel_rfl) (by kernel_rfl) (fun _ _ _ h => h) (by kernel_rfl) (fun W hW => by go_simp) (by assumption) rfl rfl ?_
              simp only [Act.put, List.setIfInBounds_toArray, List.set_cons_zero, List.set_cons_succ]
              refine wpAnyH_done (by kernel_rfl) ?_ _
              have H1 := hide hT0
              clear hT0 HT K0 K1
              go_wp2_with fail
              go_roundw
              case rel => exact ⟨i + 1, by go_num, by omega, by omega, H1.out⟩
              case measure => simp [intOf]; omega
          · have hltz : ¬ (i : Int) < (ny : Int) := by omega
            have CE := hide (fun W (h : Calm v12 W) => sameP_any Y Y aa ab ca cb W (Rc.Mem.calm (Rc.Own.mem OA.out).2.1 h) (Rc.Mem.calm (Rc.Own.mem OB.out).2.1 h) (by omega) (by omega))
            simp only [hny, decide_true] at CE
            have WF := hide ((W2.out.tr t12.out).tr HT.out)
            clear LT OA OB W2
            go_wp2_with fail
            refine (CE.out _ HT.out).mono ?_
            rintro e v13 ⟨rfl, t13⟩
            have W13 := hide (WF.out.tr t13)
            clear t13 CE
            go_wp2_with fail
            refine (CK.out _ W13.out).mono ?_
            rintro e v14 ⟨rfl, t14⟩
            have W14 := hide (W13.out.tr t14)
            clear t14
            go_wp2_with fail
            go_ret
            exact ⟨rfl, W14.out⟩

end Go.Proofs.YtamfcmmhmfhhkaaGreatDoor
