/- A record put in place into a row of one's own. Cells that may be written; x[:k]. The law's own functions: panes lent, kept, spoilt. -/
import Derived.Test.YtamfcmmhmfhhkaaDoorG1
import Derived.Test.YtamfcmmhmfhhkaaDoorG7
namespace Go.Proofs.YtamfcmmhmfhhkaaDoor
open Go.RowKit

namespace Rc

/-- Cells put one behind the other. -/
def puts (cs : List Value) (o : Nat) : List Value → List Value
  | [] => cs
  | v :: vs => puts (cs.set o v) (o + 1) vs

theorem puts_mid : ∀ (vs C P S : List Value), C.length = vs.length → puts (P ++ (C ++ S)) P.length vs = P ++ (vs ++ S)
  | [], C, P, S, h => by
    have : C = [] := List.eq_nil_of_length_eq_zero (by simpa using h)
    subst this
    rfl
  | v :: vs, C, P, S, h => by
    cases C with
    | nil => simp at h
    | cons c C =>
      have e : (P ++ (c :: C ++ S)).set P.length v = (P ++ [v]) ++ (C ++ S) := by
        rw [List.set_append_right _ _ (Nat.le_refl _), Nat.sub_self]
        simp
      have ih := puts_mid vs C (P ++ [v]) S (by simpa using h)
      unfold puts
      rw [e]
      have el : (P ++ [v]).length = P.length + 1 := by simp
      rw [el] at ih
      rw [ih]
      simp

variable {α : Type} {E : Enc α}

theorem puts_flat (L : List α) (j : Nat) (hj : j < L.length) (x : α) : puts (E.flat L) (j * E.n) (E.cells x) = E.flat (L.set j x) := by
  have e : L = L.take j ++ L[j] :: L.drop (j + 1) := by rw [← List.drop_eq_getElem_cons hj, List.take_append_drop]
  have e2 : L.set j x = L.take j ++ x :: L.drop (j + 1) := List.set_eq_take_append_cons_drop .. |>.trans (by rw [if_pos hj])
  have f : ∀ y, E.flat (L.take j ++ y :: L.drop (j + 1)) = E.flat (L.take j) ++ (E.cells y ++ E.flat (L.drop (j + 1))) := fun y => by
    rw [E.flat_append]; rfl
  rw [e2, f]
  conv => lhs; arg 1; rw [e, f]
  have hl : j * E.n = (E.flat (L.take j)).length := by rw [E.flat_len, List.length_take, Nat.min_eq_left (by omega)]
  rw [hl]
  exact puts_mid _ _ _ _ (by rw [E.len, E.len])

/-- The record number j turned, cell by cell. -/
theorem Own.set9 (hn : E.n = 9) {e : TypeId} {w : World} {base g n cap : Nat} {L : List α} (h : E.Own e w base (.slice (some ⟨g, 0, none⟩) n cap) L) (j : Nat) (hj : j < L.length) (x : α) {v0 v1 v2 v3 v4 v5 v6 v7 v8 : Value} (hx : E.cells x = [v0, v1, v2, v3, v4, v5, v6, v7, v8]) :
    E.Own e (((((((((w.setCell ⟨g, j * 9, none⟩ v0).setCell ⟨g, j * 9 + 1, none⟩ v1).setCell ⟨g, j * 9 + 2, none⟩ v2).setCell ⟨g, j * 9 + 3, none⟩ v3).setCell ⟨g, j * 9 + 4, none⟩ v4).setCell ⟨g, j * 9 + 5, none⟩ v5).setCell ⟨g, j * 9 + 6, none⟩ v6).setCell ⟨g, j * 9 + 7, none⟩ v7).setCell ⟨g, j * 9 + 8, none⟩ v8) base (.slice (some ⟨g, 0, none⟩) n cap) (L.set j x) ∧
    Touch (fun k => k = g) w (((((((((w.setCell ⟨g, j * 9, none⟩ v0).setCell ⟨g, j * 9 + 1, none⟩ v1).setCell ⟨g, j * 9 + 2, none⟩ v2).setCell ⟨g, j * 9 + 3, none⟩ v3).setCell ⟨g, j * 9 + 4, none⟩ v4).setCell ⟨g, j * 9 + 5, none⟩ v5).setCell ⟨g, j * 9 + 6, none⟩ v6).setCell ⟨g, j * 9 + 7, none⟩ v7).setCell ⟨g, j * 9 + 8, none⟩ v8) := by
  refine ⟨?_, (((((((((Touch.refl (fun k => k = g) w).setCell (p := ⟨g, j * 9, none⟩) (fun _ => rfl) _).setCell (p := ⟨g, j * 9 + 1, none⟩) (fun _ => rfl) _).setCell (p := ⟨g, j * 9 + 2, none⟩) (fun _ => rfl) _).setCell (p := ⟨g, j * 9 + 3, none⟩) (fun _ => rfl) _).setCell (p := ⟨g, j * 9 + 4, none⟩) (fun _ => rfl) _).setCell (p := ⟨g, j * 9 + 5, none⟩) (fun _ => rfl) _).setCell (p := ⟨g, j * 9 + 6, none⟩) (fun _ => rfl) _).setCell (p := ⟨g, j * 9 + 7, none⟩) (fun _ => rfl) _).setCell (p := ⟨g, j * 9 + 8, none⟩) (fun _ => rfl) _⟩
  have hnL : n = L.length := (Own.mem h).1
  obtain ⟨h1, ⟨hv, h2⟩ | ⟨g', cap', cur, hv, h3, h4, h5, h6, h7, h8⟩⟩ := h
  · cases hv
  · injection hv with e1 e2 e3
    injection e1 with e1
    injection e1 with e1
    subst e1 e3
    have k0 := heap_setCell_row (i := j * 9) h4 v0
    have k1 := heap_setCell_row (i := j * 9 + 1) k0 v1
    have k2 := heap_setCell_row (i := j * 9 + 2) k1 v2
    have k3 := heap_setCell_row (i := j * 9 + 3) k2 v3
    have k4 := heap_setCell_row (i := j * 9 + 4) k3 v4
    have k5 := heap_setCell_row (i := j * 9 + 5) k4 v5
    have k6 := heap_setCell_row (i := j * 9 + 6) k5 v6
    have k7 := heap_setCell_row (i := j * 9 + 7) k6 v7
    have k8 := heap_setCell_row (i := j * 9 + 8) k7 v8
    have pf := puts_flat (E := E) L j hj x
    rw [hn, hx] at pf
    refine ⟨by rw [E.flat_len], .inr ⟨g, cap, _, ?_, h3, k8, by rw [List.length_set]; exact h5, h6, by simpa using h7, ?_⟩⟩
    · rw [List.length_set, hnL]
    · rw [List.length_set, ← pf, ← h8]
      simp only [Array.toList_setIfInBounds, List.take_set]
      rfl

end Rc
end Go.Proofs.YtamfcmmhmfhhkaaDoor

namespace Go.Proofs.YtamfcmmhmfhhkaaDoor
open Go.RowKit

theorem wn_frozen {w : World} {b : Nat} {c : Array Value} {ty : TypeId} (h : w.heap[b]? = some (.cells c ty (0, 0))) (o : Nat) : w.frozen? ⟨b, o, none⟩ = false := by simp [World.frozen?, h]

/-- x[:k] of what begins its block. -/
theorem cut_to {P : Program} {t e : TypeId} {i : TypeInfo} (ht : P.underlying t = some (.slice e)) (he : P.elem t = e) (hi : P.info? e = some i) {g n cap k : Nat} (hk : k ≤ cap) (W : World) :
    (Instr.slice t (.slice (some ⟨g, 0, none⟩) n cap) none (some (.int .i64 (k : Nat))) none).run P W = .ok (.slice (some ⟨g, 0, none⟩) k cap) W := by
  rw [run_slice_h W t (some ⟨g, 0, none⟩) n cap (by rw [he]; exact ht) .i64 (k : Nat) (by omega) (by omega), he]
  simp only [sizeOf, typeInfo]
  simp [hi, sliced, Addr.add_lit]

end Go.Proofs.YtamfcmmhmfhhkaaDoor

namespace Go.Proofs.YtamfcmmhmfhhkaaDoor
open Go.RowKit

/-- The mark. -/
abbrev markP : Pn := ⟨⟨#[]⟩, 0, 0, 0, 4242, tl0⟩
/-- Panes lent: a row of one's own, the mark behind it. -/
def LentP (w : World) (base g c : Nat) (L : List Pn) : Prop := encP.Own 29 w base (.slice (some ⟨g, 0, none⟩) (L ++ [markP]).length c) (L ++ [markP])
theorem LentP.mem {w : World} {base g c : Nat} {L : List Pn} (h : LentP w base g c L) : encP.Mem w (some ⟨g, 0, none⟩) L ∧ L.length + 1 ≤ c ∧ base ≤ g ∧ w.cell? ⟨g, L.length * 9 + 4, none⟩ = some (.int .i64 4242) := by
  obtain ⟨-, h2, h3, -, -, h6⟩ := Rc.Own.mem h
  have hm := Rc.Mem.take h2 L.length
  rw [List.take_left' rfl] at hm
  obtain ⟨b, off, e, hc⟩ := Rc.Mem.at h2 L.length (by simp)
  injection e with e
  injection e with e1 e2
  subst e1 e2
  have := hc 4 (.int .i64 4242) (by rw [List.getElem_append_right (Nat.le_refl _)]; simp; rfl)
  refine ⟨hm, by simpa using h3, (h6 _ rfl).2.2.1, ?_⟩
  rw [Nat.zero_add] at this
  exact this
theorem LentP.calm {w w' : World} {base g c : Nat} {L : List Pn} (h : LentP w base g c L) (ht : Calm w w') : LentP w' base g c L := Rc.Own.calm h ht
theorem LentP.touch {S : Nat → Prop} {w w' : World} {base g c : Nat} {L : List Pn} (h : LentP w base g c L) (ht : Touch S w w') (hS : ¬ S g) : LentP w' base g c L := Rc.Own.touch h ht fun b hb => by simp [Value.ownBlock] at hb; subst hb; exact hS
theorem LentP.lt {w : World} {base g c : Nat} {L : List Pn} (h : LentP w base g c L) : g < w.heap.size := by
  obtain ⟨-, cur, hc⟩ := Rc.own_block h (g := g) rfl
  exact lt_of_heap hc

set_option maxRecDepth 100000 in
set_option maxHeartbeats 1000000 in
theorem lentP_any (ao : Option Addr) (cap : Nat) (L : List Pn) (w : World) (hs : encP.Sl w ao cap L) (hn : L.length ≤ 1000000) :
    Calls Tryd.prog 7 #[.slice ao L.length cap] w fun e w' => ∃ g c, e = .returned (.slice (some ⟨g, 0, none⟩) L.length c) ∧ LentP w' w.heap.size g c L ∧ Calm w w' := by
  obtain ⟨i0, hi, hz, hsz, hby⟩ := Rc.info_parts infoPane
  have en : encP.n = 9 := rfl
  obtain ⟨a1, p1, w3, hr1, ow1, t1, -⟩ := Rc.Own.appw (E := encP) (ty := 22) Tryd.underlying22 hi hz hsz hby rfl (Rc.Own.nil 29 w w.heap.size) ao cap L hs.mem hs.nil (by simp; unfold maxLen; omega) (by simp; omega) (by omega) (Nat.le_refl _)
  have C3 : Calm w w3 := Rc.Own.fresh (Rc.Own.nil (E := encP) 29 w w.heap.size) t1 (fun _ h => h) (Touch.refl _ _) (Nat.le_refl _)
  rw [List.nil_append] at hr1
  rw [List.nil_append] at ow1
  have ow1' := Rc.Own.calm ow1 ((Touch.refl (fun _ => False) w3).alloc (.cells (pnc markP) 29))
  have hs3 := C3.size
  have hs3' := ((Touch.refl (fun _ => False) w3).alloc (.cells (pnc markP) 29)).size
  obtain ⟨a2, p2, w4, hr2, ow2, t2, -⟩ := Rc.Own.appw (E := encP) (ty := 22) Tryd.underlying22 hi hz hsz hby rfl ow1' (some ⟨w3.heap.size, 0, none⟩) 1 [markP] (Rc.Mem.new w3 [markP] 29) (fun h => (nomatch h)) (by simp; unfold maxLen; omega) (by simp; omega) (by omega) (by omega)
  have C4 : Calm w w4 := Rc.Own.fresh ow1' t2 (fun _ h => h) (C3.alloc _) (Nat.le_refl _)
  have hg : ∃ g, a2 = some ⟨g, 0, none⟩ := by
    obtain ⟨-, h2, -, -, -, h6⟩ := Rc.Own.mem ow2
    obtain ⟨b, off, e, -⟩ := Rc.Mem.at h2 L.length (by simp)
    have := (h6 _ e).2.1
    simp only at this
    subst this
    exact ⟨b, e⟩
  obtain ⟨g, rfl⟩ := hg
  have hm := LentP.mem ow2
  have hcut := fun W => cut_to (g := g) (n := (L ++ [markP]).length) (cap := p2) (k := L.length) Tryd.underlying22 elemPane hi (by omega) W
  have HR : Hid (∃ g' c, Ending.returned (.slice (some ⟨g, 0, none⟩) L.length p2) = .returned (.slice (some ⟨g', 0, none⟩) L.length c) ∧ LentP w4 w.heap.size g' c L ∧ Calm w w4) := hide ⟨g, p2, rfl, ow2, C4⟩
  have hr2 : (Builtin.append_ #[22, 22] 22 #[.slice a1 L.length p1, .slice (some ⟨w3.heap.size, 0, none⟩) 1 1]).run Tryd.prog (w3.alloc (.cells (pnc markP) 29)) = .ok (.slice (some ⟨g, 0, none⟩) (L ++ [markP]).length p2) w4 := hr2
  clear ow1 ow1' ow2 t1 t2 C3 C4 hs3 hs3' hm hs hi hz hsz hby
  generalize (L ++ [markP]).length = q at *
  generalize hN : L.length = n at *
  clear hN
  go_enter Tryd.func7, Tryd.ntmps7
  go_wp2_with (at_builtin; first | refine Rc.wpList_appR rfl (.const (.slice none 0 0)) (.tmp 3) 22 22 rfl _ _ _ rfl rfl hr1 ?_ | refine Rc.wpList_appR rfl (.tmp 4) (.tmp 6) 22 22 rfl _ _ _ rfl rfl hr2 ?_)
  go_ret
  exact HR.out

set_option maxRecDepth 100000 in
set_option maxHeartbeats 1000000 in
theorem keptP_any (base g c : Nat) (bo : Option Addr) (cb : Nat) (L : List Pn) (w : World) (hl : LentP w base g c L) (hb : encP.Mem w bo L) (hn : L.length ≤ 1000000) :
    Calls Tryd.prog 12 #[.slice (some ⟨g, 0, none⟩) L.length c, .slice bo L.length cb] w fun e w' => e = .returned (.bool true) ∧ Calm w w' := by
  obtain ⟨m1, m2, -, -⟩ := LentP.mem hl
  have HK : Hid (∀ W, Calm w W → W.cell? ⟨g, L.length * 9 + 4, none⟩ = some (.int .i64 4242)) := hide fun W hW => (LentP.mem (hl.calm hW)).2.2.2
  have CS := hide (sameP_any L L (some ⟨g, 0, none⟩) bo c cb w m1 hb (by omega) (by omega))
  obtain ⟨i0, hi, -, -, -⟩ := Rc.info_parts infoPane
  have hcut : ∀ W, (Instr.slice 22 (.slice (some ⟨g, 0, none⟩) L.length c) none (some (.int .i64 ((L.length : Int) + 1))) none).run Tryd.prog W = .ok (.slice (some ⟨g, 0, none⟩) (L.length + 1) c) W := fun W => cut_to (k := L.length + 1) Tryd.underlying22 elemPane hi m2 W
  clear hl hb m1 m2 hi
  have hd : decide (L = L) = true := decide_eq_true rfl
  rw [hd] at CS
  clear hd
  generalize hN : L.length = n at *
  clear hN
  go_enter Tryd.func12, Tryd.ntmps12
  go_wp2_with fail
  refine CS.out.mono ?_
  rintro e w1 ⟨rfl, T1⟩
  have c0 := HK.out w1 T1
  have HT := hide T1
  clear T1 HK
  go_wp2_with fail
  go_ret
  exact ⟨rfl, HT.out⟩

/-- One pane behind a row of one's own; where the new row lies. -/
theorem pn_app1n {w : World} {base : Nat} {ao : Option Addr} {cap : Nat} {A : List Pn} (x : Pn) (h : encP.Own 29 w base (.slice ao A.length cap) A) (hs : base ≤ w.heap.size) (hn : A.length ≤ 1000000000000) :
    ∃ a2 p2 w4, (Builtin.append_ #[22, 22] 22 #[.slice ao A.length cap, .slice (some ⟨w.heap.size, 0, none⟩) 1 1]).run Tryd.prog (w.alloc (.cells (pnc x) 29)) = .ok (.slice a2 (A.length + 1) p2) w4 ∧
      encP.Own 29 w4 base (.slice a2 (A ++ [x]).length p2) (A ++ [x]) ∧ Touch (fun d => (Value.slice ao A.length cap).ownBlock = some d) w w4 ∧ ∀ g, (Value.slice a2 (A ++ [x]).length p2).ownBlock = some g → (Value.slice ao A.length cap).ownBlock = some g ∨ w.heap.size ≤ g := by
  obtain ⟨i0, hi, hz, hsz, hby⟩ := Rc.info_parts infoPane
  have own := Rc.Own.calm h ((Touch.refl (fun _ => False) w).alloc (.cells (pnc x) 29))
  have hs1 := al_size w (.cells (pnc x) 29)
  obtain ⟨a2, p2, w4, hr, ow, t2, n2⟩ := Rc.Own.appw (E := encP) (ty := 22) Tryd.underlying22 hi hz hsz hby rfl own (some ⟨w.heap.size, 0, none⟩) 1 [x] (Rc.Mem.new w [x] 29) (fun h => (nomatch h)) (by simp; unfold maxLen; omega) (by simp; omega) (by omega) (by omega)
  have e3 : (A ++ [x]).length = A.length + 1 := by simp
  refine ⟨a2, p2, w4, by rw [← e3]; exact hr, ow, ?_, fun g hg => ?_⟩
  · exact Touch.trans (((Touch.refl (fun _ => False) w).alloc _).mono fun _ _ h => h.elim) t2 fun _ _ h => h
  · rcases n2 g hg with h1 | h1
    · exact .inl h1
    · exact .inr (by omega)

/-- What is written over. -/
abbrev goneP : Pn := ⟨⟨#[103, 111, 110, 101]⟩, 0, 0, 0, 0, tl0⟩
theorem pn_frz {w : World} {g : Nat} {cs : Array Value} {t : TypeId} (h : w.heap[g]? = some (.cells cs t (0, 0))) (o : Nat) : w.frozen? ⟨g, o, none⟩ = false := by simp [World.frozen?, h]

set_option maxRecDepth 100000 in
set_option maxHeartbeats 2000000 in
theorem spoiltP_any (ao : Option Addr) (cap : Nat) (L : List Pn) (base : Nat) (w : World) (h : encP.Own 29 w base (.slice ao L.length cap) L) (hb : base ≤ w.heap.size) (hn : L.length ≤ 1000000) :
    Calls Tryd.prog 20 #[.slice ao L.length cap] w fun e w' => e = .returned (.tuple #[]) ∧ Touch (fun g => (Value.slice ao L.length cap).ownBlock = some g) w w' := by
  obtain ⟨n, hN⟩ : ∃ n, L.length = n := ⟨_, rfl⟩
  rw [hN] at h hn ⊢
  have H := hide h
  have HNL := hide hN
  clear h hN
  go_enter Tryd.func20, Tryd.ntmps20
  go_wp2_with fail
  go_loopw [2] (fun s wr => ∃ (i : Nat) (Q : List Pn), s = .int .i64 i ∧ i ≤ n ∧ Q.length = n ∧ encP.Own 29 wr base (.slice ao n cap) Q ∧ Touch (fun g => (Value.slice ao n cap).ownBlock = some g) w wr) (fun s _ => n - (intOf s).toNat)
  case atStart => exact ⟨0, L, rfl, Nat.zero_le _, HNL.out, H.out, Touch.refl _ _⟩
  case round =>
    obtain ⟨i, Q, rfl, hi, hQ, OW, TF⟩ := hrel
    clear H HNL
    by_cases hlt : i < n
    · have hltz : (i : Int) < (n : Int) := by omega
      obtain ⟨gp, rfl⟩ : ∃ gp, ao = some ⟨gp, 0, none⟩ := by
        obtain ⟨_, hm, _, _, _, ha⟩ := Rc.Own.mem OW
        obtain ⟨b, off, e, -⟩ := pn_at hm i (by omega)
        obtain ⟨_, h2, _⟩ := ha _ e
        have h2' : off = 0 := h2
        subst h2'
        exact ⟨b, e⟩
      obtain ⟨gb, gf, e0, cc⟩ := pn_at (Rc.Own.mem OW).2.1 i (by omega)
      injection e0 with e0
      injection e0 with e1 e2
      subst e1 e2
      obtain ⟨-, cur, hcur⟩ := Rc.own_block OW (g := gp) rfl
      rw [Nat.zero_add] at cc
      obtain ⟨⟨c0, c1, c2, c3, c4⟩, c5, c6, c7, c8⟩ := cc
      have y0 := pn_frz hcur (i * 9)
      have y1 := pn_frz hcur (i * 9 + 1)
      have y2 := pn_frz hcur (i * 9 + 2)
      have y3 := pn_frz hcur (i * 9 + 3)
      have y4 := pn_frz hcur (i * 9 + 4)
      have y5 := pn_frz hcur (i * 9 + 5)
      have y6 := pn_frz hcur (i * 9 + 6)
      have y7 := pn_frz hcur (i * 9 + 7)
      have y8 := pn_frz hcur (i * 9 + 8)
      obtain ⟨OW', t8⟩ := Rc.Own.set9 (E := encP) rfl OW i (by omega) goneP rfl
      have NX : Hid (encP.Own 29 (((((((((wr.setCell ⟨gp, i * 9, none⟩ (.string ⟨#[103, 111, 110, 101]⟩)).setCell ⟨gp, i * 9 + 1, none⟩ (.int .i64 0)).setCell ⟨gp, i * 9 + 2, none⟩ (.int .i64 0)).setCell ⟨gp, i * 9 + 3, none⟩ (.int .i64 0)).setCell ⟨gp, i * 9 + 4, none⟩ (.int .i64 0)).setCell ⟨gp, i * 9 + 5, none⟩ (.int .i64 0)).setCell ⟨gp, i * 9 + 6, none⟩ (.int .i64 0)).setCell ⟨gp, i * 9 + 7, none⟩ (.int .i64 0)).setCell ⟨gp, i * 9 + 8, none⟩ (.int .i64 0)) base (.slice (some ⟨gp, 0, none⟩) n cap) (Q.set i goneP) ∧ Touch (fun g => (Value.slice (some ⟨gp, 0, none⟩) n cap).ownBlock = some g) w (((((((((wr.setCell ⟨gp, i * 9, none⟩ (.string ⟨#[103, 111, 110, 101]⟩)).setCell ⟨gp, i * 9 + 1, none⟩ (.int .i64 0)).setCell ⟨gp, i * 9 + 2, none⟩ (.int .i64 0)).setCell ⟨gp, i * 9 + 3, none⟩ (.int .i64 0)).setCell ⟨gp, i * 9 + 4, none⟩ (.int .i64 0)).setCell ⟨gp, i * 9 + 5, none⟩ (.int .i64 0)).setCell ⟨gp, i * 9 + 6, none⟩ (.int .i64 0)).setCell ⟨gp, i * 9 + 7, none⟩ (.int .i64 0)).setCell ⟨gp, i * 9 + 8, none⟩ (.int .i64 0))) := hide ⟨OW', Touch.trans TF t8 (fun d _ e => by rw [e]; rfl)⟩
      have HQl : Hid ((Q.set i goneP).length = n) := hide (by rw [List.length_set]; exact hQ)
      clear OW' t8 OW TF hcur hQ
      go_wp2_with fail
      go_roundw
      case rel => exact ⟨i + 1, Q.set i goneP, by go_num, by omega, HQl.out, NX.out.1, NX.out.2⟩
      case measure => simp [intOf]; omega
    · have hltz : ¬ (i : Int) < (n : Int) := by omega
      have HOW := hide OW
      have HTF := hide TF
      have HQ := hide hQ
      clear OW TF hQ
      go_wp2_with fail
      go_loopw [0, 3] (fun s0 s wr => ∃ (i : Nat) (ao' : Option Addr) (c' : Nat) (Q : List Pn), s = .int .i64 i ∧ i ≤ 20 ∧ s0 = .slice ao' Q.length c' ∧ Q.length ≤ n + i ∧ encP.Own 29 wr base (.slice ao' Q.length c') Q ∧ (∀ g, (Value.slice ao' Q.length c').ownBlock = some g → (Value.slice ao n cap).ownBlock = some g ∨ w.heap.size ≤ g) ∧ Touch (fun g => (Value.slice ao n cap).ownBlock = some g) w wr) (fun _ s _ => 20 - (intOf s).toNat)
      case atStart => exact ⟨0, ao, cap, Q, rfl, by omega, by rw [HQ.out], by rw [HQ.out]; omega, by rw [HQ.out]; exact HOW.out, fun g hg => .inl (by rw [HQ.out] at hg; exact hg), HTF.out⟩
      case round =>
        clear HOW HTF HQ
        obtain ⟨i, ao', c', Q, rfl, hi3, rfl, hQ, OA, FA, TF⟩ := hrel
        by_cases hlt3 : i < 20
        · have hlt3z : (i : Int) < 20 := by omega
          have hS : base ≤ wr.heap.size := by have := TF.size; omega
          obtain ⟨a2, c2, w8, hr1, ow1, t1, n1⟩ := pn_app1n goneP OA hS (by omega)
          have e1 : (Q ++ [goneP]).length = Q.length + 1 := by simp
          have FB : Hid (∀ g, (Value.slice a2 (Q ++ [goneP]).length c2).ownBlock = some g → (Value.slice ao n cap).ownBlock = some g ∨ w.heap.size ≤ g) := hide fun g hg => by
            rcases n1 g hg with h1 | h1
            · exact FA g h1
            · exact .inr (by have := TF.size; omega)
          have TB : Hid (Touch (fun g => (Value.slice ao n cap).ownBlock = some g) w w8) := hide (Touch.trans TF t1 fun d hd he => by
            rcases FA d he with h1 | h1
            · exact h1
            · omega)
          have HR := hide hr1
          have HO := hide ow1
          clear hr1 ow1 t1 n1 OA FA TF
          go_wp2_with (at_builtin; refine Rc.wpList_appR rfl (.tmp 18) (.tmp 20) 22 22 rfl _ _ _ rfl rfl HR.out ?_)
          go_roundw
          case rel => exact ⟨i + 1, a2, c2, Q ++ [goneP], by go_num, by omega, by rw [e1], by omega, HO.out, FB.out, TB.out⟩
          case measure => simp [intOf]; omega
        · have hlt3z : ¬ (i : Int) < 20 := by omega
          have HTF := hide TF
          clear OA FA TF
          go_wp2_with fail
          go_end0
          exact ⟨rfl, HTF.out⟩

end Go.Proofs.YtamfcmmhmfhhkaaDoor
