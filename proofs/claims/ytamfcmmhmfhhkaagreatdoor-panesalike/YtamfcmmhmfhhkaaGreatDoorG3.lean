/- The law's own functions: panes lent, kept, spoilt. Texts in memory. keys: of all panes, rising, each once (the document's). Whole numbers in memory. -/
import Derived.Test.YtamfcmmhmfhhkaaGreatDoorG2
import Derived.Test.YtamfcmmhmfhhkaaGreatDoorG1
namespace Go.Proofs.YtamfcmmhmfhhkaaGreatDoor
open Go.RowKit

/-- The mark. -/
abbrev markP : Pn := ⟨⟨#[]⟩, 0, 0, 0, 4242, tl0⟩
/-- Panes lent: a row of one's own, the mark behind it. -/
def LentP (w : World) (base g c : Nat) (L : List Pn) : Prop := encP.Own 40 w base (.slice (some ⟨g, 0, none⟩) (L ++ [markP]).length c) (L ++ [markP])
theorem LentP.mem {w : World} {base g c : Nat} {L : List Pn} (h : LentP w base g c L) : encP.Mem w (some ⟨g, 0, none⟩) L ∧ L.length + 1 ≤ c ∧ base ≤ g ∧ w.cell? ⟨g, L.length * 9 + 4, none⟩ = some (.int .i64 4242) := by
  obtain ⟨-, h2, h3, -, -, h6⟩ := Rc.Own.mem h
  have hm := Rc.Mem.take h2 L.length
  rw [List.take_left' rfl] at hm
  obtain ⟨b, off, e, hc⟩ := Rc.Mem.at h2 L.length (by simp)
  injection e with e
  injection e with e1 e2
  subst e1 e2
  have := hc 4 (.int .i64 4242) (by rw [List.getElem_append_right (Nat.le_refl _)]; simp; rfl)
  refine ⟨hm, by simpa using h3, (h6 _ rfl).2.2.1, ?_⟩
  rw [Nat.zero_add] at this
  exact this
theorem LentP.calm {w w' : World} {base g c : Nat} {L : List Pn} (h : LentP w base g c L) (ht : Calm w w') : LentP w' base g c L := Rc.Own.calm h ht
theorem LentP.touch {S : Nat → Prop} {w w' : World} {base g c : Nat} {L : List Pn} (h : LentP w base g c L) (ht : Touch S w w') (hS : ¬ S g) : LentP w' base g c L := Rc.Own.touch h ht fun b hb => by simp [Value.ownBlock] at hb; subst hb; exact hS
theorem LentP.lt {w : World} {base g c : Nat} {L : List Pn} (h : LentP w base g c L) : g < w.heap.size := by
  obtain ⟨-, cur, hc⟩ := Rc.own_block h (g := g) rfl
  exact lt_of_heap hc

set_option maxRecDepth 100000 in
set_option maxHeartbeats 1000000 in
theorem lentP_any (ao : Option Addr) (cap : Nat) (L : List Pn) (w : World) (hs : encP.Sl w ao cap L) (hn : L.length ≤ 1000000) :
    Calls Tryz.prog 6 #[.slice ao L.length cap] w fun e w' => ∃ g c, e = .returned (.slice (some ⟨g, 0, none⟩) L.length c) ∧ LentP w' w.heap.size g c L ∧ Calm w w' := by
  obtain ⟨i0, hi, hz, hsz, hby⟩ := Rc.info_parts infoPane
  have en : encP.n = 9 := rfl
  obtain ⟨a1, p1, w3, hr1, ow1, t1, -⟩ := Rc.Own.appw (E := encP) (ty := 22) Tryz.underlying22 hi hz hsz hby rfl (Rc.Own.nil 40 w w.heap.size) ao cap L hs.mem hs.nil (by simp; unfold maxLen; omega) (by simp; omega) (by omega) (Nat.le_refl _)
  have C3 : Calm w w3 := Rc.Own.fresh (Rc.Own.nil (E := encP) 40 w w.heap.size) t1 (fun _ h => h) (Touch.refl _ _) (Nat.le_refl _)
  rw [List.nil_append] at hr1
  rw [List.nil_append] at ow1
  have ow1' := Rc.Own.calm ow1 ((Touch.refl (fun _ => False) w3).alloc (.cells (pnc markP) 40))
  have hs3 := C3.size
  have hs3' := ((Touch.refl (fun _ => False) w3).alloc (.cells (pnc markP) 40)).size
  obtain ⟨a2, p2, w4, hr2, ow2, t2, -⟩ := Rc.Own.appw (E := encP) (ty := 22) Tryz.underlying22 hi hz hsz hby rfl ow1' (some ⟨w3.heap.size, 0, none⟩) 1 [markP] (Rc.Mem.new w3 [markP] 40) (fun h => (nomatch h)) (by simp; unfold maxLen; omega) (by simp; omega) (by omega) (by omega)
  have C4 : Calm w w4 := Rc.Own.fresh ow1' t2 (fun _ h => h) (C3.alloc _) (Nat.le_refl _)
  have hg : ∃ g, a2 = some ⟨g, 0, none⟩ := by
    obtain ⟨-, h2, -, -, -, h6⟩ := Rc.Own.mem ow2
    obtain ⟨b, off, e, -⟩ := Rc.Mem.at h2 L.length (by simp)
    have := (h6 _ e).2.1
    simp only at this
    subst this
    exact ⟨b, e⟩
  obtain ⟨g, rfl⟩ := hg
  have hm := LentP.mem ow2
  have hcut := fun W => cut_to (g := g) (n := (L ++ [markP]).length) (cap := p2) (k := L.length) Tryz.underlying22 elemPane hi (by omega) W
  have HR : Hid (∃ g' c, Ending.returned (.slice (some ⟨g, 0, none⟩) L.length p2) = .returned (.slice (some ⟨g', 0, none⟩) L.length c) ∧ LentP w4 w.heap.size g' c L ∧ Calm w w4) := hide ⟨g, p2, rfl, ow2, C4⟩
  have hr2 : (Builtin.append_ #[22, 22] 22 #[.slice a1 L.length p1, .slice (some ⟨w3.heap.size, 0, none⟩) 1 1]).run Tryz.prog (w3.alloc (.cells (pnc markP) 40)) = .ok (.slice (some ⟨g, 0, none⟩) (L ++ [markP]).length p2) w4 := hr2
  clear ow1 ow1' ow2 t1 t2 C3 C4 hs3 hs3' hm hs hi hz hsz hby
  generalize (L ++ [markP]).length = q at *
  generalize hN : L.length = n at *
  clear hN
  go_enter Tryz.func6, Tryz.ntmps6
  go_wp2_with (at_builtin; first | refine Rc.wpList_appR rfl (.const (.slice none 0 0)) (.tmp 3) 22 22 rfl _ _ _ rfl rfl hr1 ?_ | refine Rc.wpList_appR rfl (.tmp 4) (.tmp 6) 22 22 rfl _ _ _ rfl rfl hr2 ?_)
  go_ret
  exact HR.out

set_option maxRecDepth 100000 in
set_option maxHeartbeats 1000000 in
theorem keptP_any (base g c : Nat) (bo : Option Addr) (cb : Nat) (L : List Pn) (w : World) (hl : LentP w base g c L) (hb : encP.Mem w bo L) (hn : L.length ≤ 1000000) :
    Calls Tryz.prog 18 #[.slice (some ⟨g, 0, none⟩) L.length c, .slice bo L.length cb] w fun e w' => e = .returned (.bool true) ∧ Calm w w' := by
  obtain ⟨m1, m2, -, -⟩ := LentP.mem hl
  have HK : Hid (∀ W, Calm w W → W.cell? ⟨g, L.length * 9 + 4, none⟩ = some (.int .i64 4242)) := hide fun W hW => (LentP.mem (hl.calm hW)).2.2.2
  have CS := hide (sameP_any L L (some ⟨g, 0, none⟩) bo c cb w m1 hb (by omega) (by omega))
  obtain ⟨i0, hi, -, -, -⟩ := Rc.info_parts infoPane
  have hcut : ∀ W, (Instr.slice 22 (.slice (some ⟨g, 0, none⟩) L.length c) none (some (.int .i64 ((L.length : Int) + 1))) none).run Tryz.prog W = .ok (.slice (some ⟨g, 0, none⟩) (L.length + 1) c) W := fun W => cut_to (k := L.length + 1) Tryz.underlying22 elemPane hi m2 W
  clear hl hb m1 m2 hi
  have hd : decide (L = L) = true := decide_eq_true rfl
  rw [hd] at CS
  clear hd
  generalize hN : L.length = n at *
  clear hN
  go_enter Tryz.func18, Tryz.ntmps18
  go_wp2_with fail
  refine CS.out.mono ?_
  rintro e w1 ⟨rfl, T1⟩
  have c0 := HK.out w1 T1
  have HT := hide T1
  clear T1 HK
  go_wp2_with fail
  go_ret
  exact ⟨rfl, HT.out⟩

/-- One pane behind a row of one's own; where the new row lies. -/
theorem pn_app1n {w : World} {base : Nat} {ao : Option Addr} {cap : Nat} {A : List Pn} (x : Pn) (h : encP.Own 40 w base (.slice ao A.length cap) A) (hs : base ≤ w.heap.size) (hn : A.length ≤ 1000000000000) :
    ∃ a2 p2 w4, (Builtin.append_ #[22, 22] 22 #[.slice ao A.length cap, .slice (some ⟨w.heap.size, 0, none⟩) 1 1]).run Tryz.prog (w.alloc (.cells (pnc x) 40)) = .ok (.slice a2 (A.length + 1) p2) w4 ∧
      encP.Own 40 w4 base (.slice a2 (A ++ [x]).length p2) (A ++ [x]) ∧ Touch (fun d => (Value.slice ao A.length cap).ownBlock = some d) w w4 ∧ ∀ g, (Value.slice a2 (A ++ [x]).length p2).ownBlock = some g → (Value.slice ao A.length cap).ownBlock = some g ∨ w.heap.size ≤ g := by
  obtain ⟨i0, hi, hz, hsz, hby⟩ := Rc.info_parts infoPane
  have own := Rc.Own.calm h ((Touch.refl (fun _ => False) w).alloc (.cells (pnc x) 40))
  have hs1 := al_size w (.cells (pnc x) 40)
  obtain ⟨a2, p2, w4, hr, ow, t2, n2⟩ := Rc.Own.appw (E := encP) (ty := 22) Tryz.underlying22 hi hz hsz hby rfl own (some ⟨w.heap.size, 0, none⟩) 1 [x] (Rc.Mem.new w [x] 40) (fun h => (nomatch h)) (by simp; unfold maxLen; omega) (by simp; omega) (by omega) (by omega)
  have e3 : (A ++ [x]).length = A.length + 1 := by simp
  refine ⟨a2, p2, w4, by rw [← e3]; exact hr, ow, ?_, fun g hg => ?_⟩
  · exact Touch.trans (((Touch.refl (fun _ => False) w).alloc _).mono fun _ _ h => h.elim) t2 fun _ _ h => h
  · rcases n2 g hg with h1 | h1
    · exact .inl h1
    · exact .inr (by omega)

/-- What is written over. -/
abbrev goneP : Pn := ⟨⟨#[103, 111, 110, 101]⟩, 0, 0, 0, 0, tl0⟩
theorem pn_frz {w : World} {g : Nat} {cs : Array Value} {t : TypeId} (h : w.heap[g]? = some (.cells cs t (0, 0))) (o : Nat) : w.frozen? ⟨g, o, none⟩ = false := by simp [World.frozen?, h]

set_option maxRecDepth 100000 in
set_option maxHeartbeats 2000000 in
theorem spoiltP_any (ao : Option Addr) (cap : Nat) (L : List Pn) (base : Nat) (w : World) (h : encP.Own 40 w base (.slice ao L.length cap) L) (hb : base ≤ w.heap.size) (hn : L.length ≤ 1000000) :
    Calls Tryz.prog 19 #[.slice ao L.length cap] w fun e w' => e = .returned (.tuple #[]) ∧ Touch (fun g => (Value.slice ao L.length cap).ownBlock = some g) w w' := by
  obtain ⟨n, hN⟩ : ∃ n, L.length = n := ⟨_, rfl⟩
  rw [hN] at h hn ⊢
  have H := hide h
  have HNL := hide hN
  clear h hN
  go_enter Tryz.func19, Tryz.ntmps19
  go_wp2_with fail
  go_loopw [2] (fun s wr => ∃ (i : Nat) (Q : List Pn), s = .int .i64 i ∧ i ≤ n ∧ Q.length = n ∧ encP.Own 40 wr base (.slice ao n cap) Q ∧ Touch (fun g => (Value.slice ao n cap).ownBlock = some g) w wr) (fun s _ => n - (intOf s).toNat)
  case atStart => exact ⟨0, L, rfl, Nat.zero_le _, HNL.out, H.out, Touch.refl _ _⟩
  case round =>
    obtain ⟨i, Q, rfl, hi, hQ, OW, TF⟩ := hrel
    clear H HNL
    by_cases hlt : i < n
    · have hltz : (i : Int) < (n : Int) := by omega
      obtain ⟨gp, rfl⟩ : ∃ gp, ao = some ⟨gp, 0, none⟩ := by
        obtain ⟨_, hm, _, _, _, ha⟩ := Rc.Own.mem OW
        obtain ⟨b, off, e, -⟩ := pn_at hm i (by omega)
        obtain ⟨_, h2, _⟩ := ha _ e
        have h2' : off = 0 := h2
        subst h2'
        exact ⟨b, e⟩
      obtain ⟨gb, gf, e0, cc⟩ := pn_at (Rc.Own.mem OW).2.1 i (by omega)
      injection e0 with e0
      injection e0 with e1 e2
      subst e1 e2
      obtain ⟨-, cur, hcur⟩ := Rc.own_block OW (g := gp) rfl
      rw [Nat.zero_add] at cc
      obtain ⟨⟨c0, c1, c2, c3, c4⟩, c5, c6, c7, c8⟩ := cc
      have y0 := pn_frz hcur (i * 9)
      have y1 := pn_frz hcur (i * 9 + 1)
      have y2 := pn_frz hcur (i * 9 + 2)
      have y3 := pn_frz hcur (i * 9 + 3)
      have y4 := pn_frz hcur (i * 9 + 4)
      have y5 := pn_frz hcur (i * 9 + 5)
      have y6 := pn_frz hcur (i * 9 + 6)
      have y7 := pn_frz hcur (i * 9 + 7)
      have y8 := pn_frz hcur (i * 9 + 8)
      obtain ⟨OW', t8⟩ := Rc.Own.set9 (E := encP) rfl OW i (by omega) goneP rfl
      have NX : Hid (encP.Own 40 (((((((((wr.setCell ⟨gp, i * 9, none⟩ (.string ⟨#[103, 111, 110, 101]⟩)).setCell ⟨gp, i * 9 + 1, none⟩ (.int .i64 0)).setCell ⟨gp, i * 9 + 2, none⟩ (.int .i64 0)).setCell ⟨gp, i * 9 + 3, none⟩ (.int .i64 0)).setCell ⟨gp, i * 9 + 4, none⟩ (.int .i64 0)).setCell ⟨gp, i * 9 + 5, none⟩ (.int .i64 0)).setCell ⟨gp, i * 9 + 6, none⟩ (.int .i64 0)).setCell ⟨gp, i * 9 + 7, none⟩ (.int .i64 0)).setCell ⟨gp, i * 9 + 8, none⟩ (.int .i64 0)) base (.slice (some ⟨gp, 0, none⟩) n cap) (Q.set i goneP) ∧ Touch (fun g => (Value.slice (some ⟨gp, 0, none⟩) n cap).ownBlock = some g) w (((((((((wr.setCell ⟨gp, i * 9, none⟩ (.string ⟨#[103, 111, 110, 101]⟩)).setCell ⟨gp, i * 9 + 1, none⟩ (.int .i64 0)).setCell ⟨gp, i * 9 + 2, none⟩ (.int .i64 0)).setCell ⟨gp, i * 9 + 3, none⟩ (.int .i64 0)).setCell ⟨gp, i * 9 + 4, none⟩ (.int .i64 0)).setCell ⟨gp, i * 9 + 5, none⟩ (.int .i64 0)).setCell ⟨gp, i * 9 + 6, none⟩ (.int .i64 0)).setCell ⟨gp, i * 9 + 7, none⟩ (.int .i64 0)).setCell ⟨gp, i * 9 + 8, none⟩ (.int .i64 0))) := hide ⟨OW', Touch.trans TF t8 (fun d _ e => by rw [e]; rfl)⟩
      have HQl : Hid ((Q.set i goneP).length = n) := hide (by rw [List.length_set]; exact hQ)
      clear OW' t8 OW TF hcur hQ
      go_wp2_with fail
      go_roundw
      case rel => exact ⟨i + 1, Q.set i goneP, by go_num, by omega, HQl.out, NX.out.1, NX.out.2⟩
      case measure => simp [intOf]; omega
    · have hltz : ¬ (i : Int) < (n : Int) := by omega
      have HOW := hide OW
      have HTF := hide TF
      have HQ := hide hQ
      clear OW TF hQ
      go_wp2_with fail
      go_loopw [0, 3] (fun s0 s wr => ∃ (i : Nat) (ao' : Option Addr) (c' : Nat) (Q : List Pn), s = .int .i64 i ∧ i ≤ 20 ∧ s0 = .slice ao' Q.length c' ∧ Q.length ≤ n + i ∧ encP.Own 40 wr base (.slice ao' Q.length c') Q ∧ (∀ g, (Value.slice ao' Q.length c').ownBlock = some g → (Value.slice ao n cap).ownBlock = some g ∨ w.heap.size ≤ g) ∧ Touch (fun g => (Value.slice ao n cap).ownBlock = some g) w wr) (fun _ s _ => 20 - (intOf s).toNat)
      case atStart => exact ⟨0, ao, cap, Q, rfl, by omega, by rw [HQ.out], by rw [HQ.out]; omega, by rw [HQ.out]; exact HOW.out, fun g hg => .inl (by rw [HQ.out] at hg; exact hg), HTF.out⟩
      case round =>
        clear HOW HTF HQ
        obtain ⟨i, ao', c', Q, rfl, hi3, rfl, hQ, OA, FA, TF⟩ := hrel
        by_cases hlt3 : i < 20
        · have hlt3z : (i : Int) < 20 := by omega
          have hS : base ≤ wr.heap.size := by have := TF.size; omega
          obtain ⟨a2, c2, w8, hr1, ow1, t1, n1⟩ := pn_app1n goneP OA hS (by omega)
          have e1 : (Q ++ [goneP]).length = Q.length + 1 := by simp
          have FB : Hid (∀ g, (Value.slice a2 (Q ++ [goneP]).length c2).ownBlock = some g → (Value.slice ao n cap).ownBlock = some g ∨ w.heap.size ≤ g) := hide fun g hg => by
            rcases n1 g hg with h1 | h1
            · exact FA g h1
            · exact .inr (by have := TF.size; omega)
          have TB : Hid (Touch (fun g => (Value.slice ao n cap).ownBlock = some g) w w8) := hide (Touch.trans TF t1 fun d hd he => by
            rcases FA d he with h1 | h1
            · exact h1
            · omega)
          have HR := hide hr1
          have HO := hide ow1
          clear hr1 ow1 t1 n1 OA FA TF
          go_wp2_with (at_builtin; refine Rc.wpList_appR rfl (.tmp 18) (.tmp 20) 22 22 rfl _ _ _ rfl rfl HR.out ?_)
          go_roundw
          case rel => exact ⟨i + 1, a2, c2, Q ++ [goneP], by go_num, by omega, by rw [e1], by omega, HO.out, FB.out, TB.out⟩
          case measure => simp [intOf]; omega
        · have hlt3z : ¬ (i : Int) < 20 := by omega
          have HTF := hide TF
          clear OA FA TF
          go_wp2_with fail
          go_end0
          exact ⟨rfl, HTF.out⟩

end Go.Proofs.YtamfcmmhmfhhkaaGreatDoor

namespace Go.Proofs.YtamfcmmhmfhhkaaGreatDoor
open Go.RowKit

/-- Texts as records of one cell. -/
def encZ : Rc.Enc ByteArray := ⟨1, fun x => [.string x], fun _ => rfl, fun _ u hu => by simp at hu; subst hu; rfl, by decide⟩
theorem infoStr : (Tryz.prog.info? 9).map (fun i => (i.zero, i.size, i.bytes)) = some (some (.string ⟨#[]⟩), 1, 16) := by kernel_rfl
theorem elemStr : Tryz.prog.elem 58 = 9 := by kernel_rfl
theorem st_at {w : World} {ao : Option Addr} {L : List ByteArray} (h : encZ.Mem w ao L) (j : Nat) (hj : j < L.length) : ∃ b off, ao = some ⟨b, off, none⟩ ∧ w.cell? ⟨b, off + j, none⟩ = some (.string (L.getD j ⟨#[]⟩)) := by
  obtain ⟨b, off, e, g⟩ := Rc.Mem.at h j hj
  rw [List.getD_eq_getElem?_getD, List.getElem?_eq_getElem hj]
  have := g 0 _ rfl
  have e1 : encZ.n = 1 := rfl
  rw [e1, Nat.mul_one] at this
  exact ⟨b, off, e, this⟩

/-- One text more. -/
theorem st_app {w : World} {base : Nat} {ao : Option Addr} {cap : Nat} {A : List ByteArray} (b : ByteArray) (h : encZ.Own 9 w base (.slice ao A.length cap) A) (hs : base ≤ w.heap.size) (hn : A.length ≤ 1000000000000) :
    ∃ a2 p2 w4, (Builtin.append_ #[58, 58] 58 #[.slice ao A.length cap, .slice (some ⟨w.heap.size, 0, none⟩) 1 1]).run Tryz.prog (w.alloc (.cells #[.string b] 9)) = .ok (.slice a2 (A.length + 1) p2) w4 ∧
      encZ.Own 9 w4 base (.slice a2 (A ++ [b]).length p2) (A ++ [b]) ∧ Touch (fun d => (Value.slice ao A.length cap).ownBlock = some d) w w4 := by
  obtain ⟨i0, hi, hz, hsz, hby⟩ := Rc.info_parts infoStr
  have own := Rc.Own.calm h ((Touch.refl (fun _ => False) w).alloc (.cells #[.string b] 9))
  have hs1 := al_size w (.cells #[.string b] 9)
  obtain ⟨a2, p2, w4, hr, ow, t2, -⟩ := Rc.Own.appw (E := encZ) (ty := 58) Tryz.underlying58 hi hz hsz hby rfl own (some ⟨w.heap.size, 0, none⟩) 1 [b] (Rc.Mem.new w [b] 9) (fun h => (nomatch h)) (by simp; unfold maxLen; omega) (by simp; omega) (by omega) (by omega)
  have e3 : (A ++ [b]).length = A.length + 1 := by simp
  refine ⟨a2, p2, w4, by rw [← e3]; exact hr, ow, ?_⟩
  exact Touch.trans (((Touch.refl (fun _ => False) w).alloc _).mono fun _ _ h => h.elim) t2 fun _ _ h => h

end Go.Proofs.YtamfcmmhmfhhkaaGreatDoor

namespace Go.Proofs.YtamfcmmhmfhhkaaGreatDoor
open Go.RowKit

/-- A text ahead of another one. -/
def kLt (a b : ByteArray) : Bool := Op.bytesLess a.toList b.toList
/-- How many stand ahead of it. -/
def leadK (O : List ByteArray) (k : ByteArray) : Nat := (O.takeWhile fun a => kLt a k).length
def putK (O : List ByteArray) (k : ByteArray) : List ByteArray := if leadK O k < O.length ∧ O.getD (leadK O k) ⟨#[]⟩ = k then O else O.take (leadK O k) ++ [k] ++ O.drop (leadK O k)
def keysP (L : List Pn) : List ByteArray := L.foldl (fun O p => putK O p.k) []

theorem leadK_eq : ∀ (l : List ByteArray) (s : ByteArray) (i : Nat), i ≤ l.length → (∀ j, j < i → kLt (l.getD j ⟨#[]⟩) s = true) → (i < l.length → kLt (l.getD i ⟨#[]⟩) s = false) → leadK l s = i
  | [], _, i, hi, _, _ => by simp at hi; subst hi; rfl
  | x :: l, s, 0, _, _, h2 => by
    have : kLt x s = false := h2 (by simp)
    simp [leadK, this]
  | x :: l, s, i + 1, hi, h1, h2 => by
    have h0 : kLt x s = true := h1 0 (by omega)
    have ih := leadK_eq l s i (by simpa using hi) (fun j hj => h1 (j + 1) (by omega)) (fun h => h2 (by simpa using h))
    unfold leadK at ih ⊢
    rw [List.takeWhile_cons, if_pos (by simpa using h0), List.length_cons, ih]
theorem putK_len (O : List ByteArray) (k : ByteArray) : (putK O k).length ≤ O.length + 1 := by
  unfold putK
  split
  · omega
  · simp only [List.length_append, List.length_take, List.length_drop, List.length_cons, List.length_nil]; omega
theorem keysP_succ {L : List Pn} {i : Nat} (hi : i < L.length) : keysP (L.take (i + 1)) = putK (keysP (L.take i)) (L.getD i pn0).k := by
  unfold keysP
  rw [List.take_add_one, List.getElem?_eq_getElem hi, List.getD_eq_getElem?_getD, List.getElem?_eq_getElem hi, List.foldl_append]
  rfl
theorem keysP_len (L : List Pn) : ∀ i, i ≤ L.length → (keysP (L.take i)).length ≤ i
  | 0, _ => by simp [keysP]
  | i + 1, hi => by
    rw [keysP_succ (by omega)]
    exact Nat.le_trans (putK_len _ _) (by have := keysP_len L i (by omega); omega)

/-- A text put in at a place of a row of one's own, in a new row. -/
theorem st_put {W : World} {base : Nat} {ao : Option Addr} {cap : Nat} {O : List ByteArray} (b : ByteArray) (h : encZ.Own 9 W base (.slice ao O.length cap) O) (k : Nat) (hk : k ≤ O.length) (hn : O.length ≤ 1000000000) :
    ∃ so1 sc1 so2 sc2 a1 p1 w3 a2 p2 w4 a3 p3 w5, (∀ V, (Instr.slice 58 (.slice ao O.length cap) none (some (.int .i64 (k : Nat))) none).run Tryz.prog V = .ok (.slice so1 k sc1) V) ∧ (∀ V, (Instr.slice 58 (.slice ao O.length cap) (some (.int .i64 (k : Nat))) none none).run Tryz.prog V = .ok (.slice so2 (O.length - k) sc2) V) ∧
      (Builtin.append_ #[58, 58] 58 #[.slice none 0 0, .slice so1 k sc1]).run Tryz.prog W = .ok (.slice a1 k p1) w3 ∧
      (Builtin.append_ #[58, 58] 58 #[.slice a1 k p1, .slice (some ⟨w3.heap.size, 0, none⟩) 1 1]).run Tryz.prog (w3.alloc (.cells #[.string b] 9)) = .ok (.slice a2 (k + 1) p2) w4 ∧
      (Builtin.append_ #[58, 58] 58 #[.slice a2 (k + 1) p2, .slice so2 (O.length - k) sc2]).run Tryz.prog w4 = .ok (.slice a3 (O.length + 1) p3) w5 ∧
      encZ.Own 9 w5 W.heap.size (.slice a3 (O.length + 1) p3) (O.take k ++ [b] ++ O.drop k) ∧ Calm W w3 ∧ Calm W w5 := by
  obtain ⟨i0, hi, hz, hs, hby⟩ := Rc.info_parts infoStr
  have sl := Rc.Own.sl h
  obtain ⟨so1, sc1, hsl1, m1, n1⟩ := Rc.Sl.to Tryz.underlying58 elemStr hi (k := k) sl hk
  obtain ⟨so2, sc2, hsl2, m2, n2⟩ := Rc.Sl.from Tryz.underlying58 elemStr hi hs (k := k) sl hk
  have e1 : (O.take k).length = k := by rw [List.length_take]; omega
  have e2 : (O.drop k).length = O.length - k := by rw [List.length_drop]
  have eb : encZ.n = 1 := rfl
  obtain ⟨a1, p1, w3, hr1, ow1, t1, -⟩ := Rc.Own.appw (E := encZ) (ty := 58) Tryz.underlying58 hi hz hs hby rfl (Rc.Own.nil 9 W W.heap.size) so1 sc1 (O.take k) m1 n1 (by rw [e1]; simp; unfold maxLen; omega) (by rw [e1]; simp; omega) (by omega) (Nat.le_refl _)
  have C3 : Calm W w3 := Rc.Own.fresh (Rc.Own.nil (E := encZ) 9 W W.heap.size) t1 (fun _ h => h) (Touch.refl _ _) (Nat.le_refl _)
  rw [List.nil_append, e1] at hr1
  rw [List.nil_append, e1] at ow1
  have ow1' := Rc.Own.calm ow1 ((Touch.refl (fun _ => False) w3).alloc (.cells #[.string b] 9))
  have hsz3 := C3.size
  have hs1 := al_size w3 (.cells #[.string b] 9)
  obtain ⟨a2, p2, w4, hr2, ow2, t2, -⟩ := Rc.Own.appw (E := encZ) (ty := 58) Tryz.underlying58 hi hz hs hby rfl ow1' (some ⟨w3.heap.size, 0, none⟩) 1 [b] (Rc.Mem.new w3 [b] 9) (fun h => (nomatch h)) (by rw [e1]; simp; unfold maxLen; omega) (by rw [e1]; simp; omega) (by omega) (by omega)
  have C4 : Calm W w4 := Rc.Own.fresh ow1' t2 (fun _ h => h) (C3.alloc _) (Nat.le_refl _)
  have e3 : (O.take k ++ [b]).length = k + 1 := by rw [List.length_append, e1]; rfl
  rw [e3] at hr2
  rw [e3] at ow2
  have hsz4 := C4.size
  obtain ⟨a3, p3, w5, hr3, ow3, t3, -⟩ := Rc.Own.appw (E := encZ) (ty := 58) Tryz.underlying58 hi hz hs hby rfl ow2 so2 sc2 (O.drop k) (Rc.Mem.calm m2 C4) n2 (by rw [e2, e3]; unfold maxLen; omega) (by rw [e2, e3]; omega) (by omega) (by omega)
  have C5 : Calm W w5 := Rc.Own.fresh ow2 t3 (fun _ h => h) C4 (Nat.le_refl _)
  have e4 : (O.take k ++ [b] ++ O.drop k).length = O.length + 1 := by rw [List.length_append, e3, e2]; omega
  rw [e2, e4] at hr3
  rw [e4] at ow3
  exact ⟨so1, sc1, so2, sc2, a1, p1, w3, a2, p2, w4, a3, p3, w5, fun V => hsl1 V, fun V => hsl2 V, hr1, hr2, hr3, ow3, C3, C5⟩

end Go.Proofs.YtamfcmmhmfhhkaaGreatDoor

namespace Go.Proofs.YtamfcmmhmfhhkaaGreatDoor
open Go.RowKit

/-- Whole numbers as records of one cell. -/
def encJ : Rc.Enc Int := ⟨1, fun x => [.int .i64 x], fun _ => rfl, fun _ u hu => by simp at hu; subst hu; rfl, by decide⟩
theorem ints_at {w : World} {ao : Option Addr} {L : List Int} (h : encJ.Mem w ao L) (j : Nat) (hj : j < L.length) : ∃ b off, ao = some ⟨b, off, none⟩ ∧ w.cell? ⟨b, off + j, none⟩ = some (.int .i64 (L.getD j 0)) := by
  obtain ⟨b, off, e, g⟩ := Rc.Mem.at h j hj
  rw [List.getD_eq_getElem?_getD, List.getElem?_eq_getElem hj]
  have := g 0 _ rfl
  have e1 : encJ.n = 1 := rfl
  rw [e1, Nat.mul_one] at this
  exact ⟨b, off, e, this⟩

end Go.Proofs.YtamfcmmhmfhhkaaGreatDoor
