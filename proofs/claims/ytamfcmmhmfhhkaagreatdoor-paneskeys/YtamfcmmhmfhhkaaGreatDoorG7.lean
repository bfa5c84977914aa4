/- Last: of each key and window the last pane (the notions; a pane put into a row in a new row). Last: of each key and window the last pane (the document's; the walk). Last: of each key and window the last pane (the document's; the walk). Rows of one's own: where they lie. -/
import Derived.Test.YtamfcmmhmfhhkaaGreatDoorG4
import Derived.Test.YtamfcmmhmfhhkaaGreatDoorG5
import Derived.Test.YtamfcmmhmfhhkaaGreatDoorG1
namespace Go.Proofs.YtamfcmmhmfhhkaaGreatDoor
open Go.RowKit

/-- A pane's key and window alone. -/
abbrev wpn (p : Pn) : Pn := ⟨p.k, p.a, p.b, 0, 0, tl0⟩
def wLt (p q : Pn) : Bool := decide (cmpP (wpn p) (wpn q) < 0)
def sameW (p q : Pn) : Bool := decide (p.k = q.k) && (decide (p.a = q.a) && decide (p.b = q.b))
def laterP (R : List Pn) (p : Pn) : Bool := R.any fun q => sameW q p
/-- How many stand ahead of it. -/
def leadW (O : List Pn) (p : Pn) : Nat := (O.takeWhile fun a => wLt a p).length
def insW (O : List Pn) (p : Pn) : List Pn := O.take (leadW O p) ++ [p] ++ O.drop (leadW O p)
def lastF : List Pn → List Pn → List Pn
  | O, [] => O
  | O, p :: R => lastF (if laterP R p then O else insW O p) R
def lastP (L : List Pn) : List Pn := lastF [] L

theorem leadW_eq : ∀ (l : List Pn) (s : Pn) (i : Nat), i ≤ l.length → (∀ j, j < i → wLt (l.getD j pn0) s = true) → (i < l.length → wLt (l.getD i pn0) s = false) → leadW l s = i
  | [], _, i, hi, _, _ => by simp at hi; subst hi; rfl
  | x :: l, s, 0, _, _, h2 => by
    have : wLt x s = false := h2 (by simp)
    simp [leadW, this]
  | x :: l, s, i + 1, hi, h1, h2 => by
    have h0 : wLt x s = true := h1 0 (by omega)
    have ih := leadW_eq l s i (by simpa using hi) (fun j hj => h1 (j + 1) (by omega)) (fun h => h2 (by simpa using h))
    unfold leadW at ih ⊢
    rw [List.takeWhile_cons, if_pos (by simpa using h0), List.length_cons, ih]
theorem drop_at {L : List Pn} {i : Nat} (h : i < L.length) : L.drop i = L.getD i pn0 :: L.drop (i + 1) := by
  rw [List.getD_eq_getElem?_getD, List.getElem?_eq_getElem h]
  exact List.drop_eq_getElem_cons h
theorem lastF_next {L O : List Pn} {i : Nat} (h : i < L.length) : lastF O (L.drop i) = lastF (if laterP (L.drop (i + 1)) (L.getD i pn0) then O else insW O (L.getD i pn0)) (L.drop (i + 1)) := by
  rw [drop_at h]; rfl
theorem lastF_end {L O : List Pn} : lastF O (L.drop L.length) = O := by rw [List.drop_of_length_le (Nat.le_refl _)]; rfl
/-- Is there a later one among those up to j? -/
def lateJ (L : List Pn) (i j : Nat) : Bool := laterP ((L.drop (i + 1)).take (j - (i + 1))) (L.getD i pn0)
theorem lateJ_zero (L : List Pn) (i : Nat) : lateJ L i (i + 1) = false := by unfold lateJ; rw [Nat.sub_self]; rfl
theorem lateJ_next {L : List Pn} {i j : Nat} (hi : i + 1 ≤ j) (hj : j < L.length) : lateJ L i (j + 1) = (lateJ L i j || sameW (L.getD j pn0) (L.getD i pn0)) := by
  unfold lateJ laterP
  have e : j + 1 - (i + 1) = (j - (i + 1)) + 1 := by omega
  rw [e, List.take_add_one, List.getElem?_drop, show i + 1 + (j - (i + 1)) = j by omega, List.getElem?_eq_getElem hj, List.any_append]
  rw [List.getD_eq_getElem?_getD (i := j), List.getElem?_eq_getElem hj]
  simp
theorem lateJ_end (L : List Pn) (i : Nat) : lateJ L i L.length = laterP (L.drop (i + 1)) (L.getD i pn0) := by
  unfold lateJ
  rw [List.take_of_length_le (by rw [List.length_drop]; omega)]
theorem insW_len (O : List Pn) (p : Pn) : (insW O p).length = O.length + 1 := by
  unfold insW
  have : leadW O p ≤ O.length := List.IsPrefix.length_le (List.takeWhile_prefix _)
  simp only [List.length_append, List.length_take, List.length_drop, List.length_cons, List.length_nil]; omega

/-- A pane put in at a place of a row of one's own, in a new row. -/
theorem pn_put {W : World} {base : Nat} {ao : Option Addr} {cap : Nat} {O : List Pn} (b : Pn) (h : encP.Own 40 W base (.slice ao O.length cap) O) (k : Nat) (hk : k ≤ O.length) (hn : O.length ≤ 1000000000) :
    ∃ so1 sc1 so2 sc2 a1 p1 w3 a2 p2 w4 a3 p3 w5, (∀ V, (Instr.slice 22 (.slice ao O.length cap) none (some (.int .i64 (k : Nat))) none).run Tryz.prog V = .ok (.slice so1 k sc1) V) ∧ (∀ V, (Instr.slice 22 (.slice ao O.length cap) (some (.int .i64 (k : Nat))) none none).run Tryz.prog V = .ok (.slice so2 (O.length - k) sc2) V) ∧
      (Builtin.append_ #[22, 22] 22 #[.slice none 0 0, .slice so1 k sc1]).run Tryz.prog W = .ok (.slice a1 k p1) w3 ∧
      (Builtin.append_ #[22, 22] 22 #[.slice a1 k p1, .slice (some ⟨w3.heap.size, 0, none⟩) 1 1]).run Tryz.prog (w3.alloc (.cells (pnc b) 40)) = .ok (.slice a2 (k + 1) p2) w4 ∧
      (Builtin.append_ #[22, 22] 22 #[.slice a2 (k + 1) p2, .slice so2 (O.length - k) sc2]).run Tryz.prog w4 = .ok (.slice a3 (O.length + 1) p3) w5 ∧
      encP.Own 40 w5 W.heap.size (.slice a3 (O.length + 1) p3) (O.take k ++ [b] ++ O.drop k) ∧ Calm W w3 ∧ Calm W w5 := by
  obtain ⟨i0, hi, hz, hs, hby⟩ := Rc.info_parts infoPane
  have sl := Rc.Own.sl h
  obtain ⟨so1, sc1, hsl1, m1, n1⟩ := Rc.Sl.to Tryz.underlying22 elemPane hi (k := k) sl hk
  obtain ⟨so2, sc2, hsl2, m2, n2⟩ := Rc.Sl.from Tryz.underlying22 elemPane hi hs (k := k) sl hk
  have e1 : (O.take k).length = k := by rw [List.length_take]; omega
  have e2 : (O.drop k).length = O.length - k := by rw [List.length_drop]
  have eb : encP.n = 9 := rfl
  obtain ⟨a1, p1, w3, hr1, ow1, t1, -⟩ := Rc.Own.appw (E := encP) (ty := 22) Tryz.underlying22 hi hz hs hby rfl (Rc.Own.nil 40 W W.heap.size) so1 sc1 (O.take k) m1 n1 (by rw [e1]; simp; unfold maxLen; omega) (by rw [e1]; simp; omega) (by omega) (Nat.le_refl _)
  have C3 : Calm W w3 := Rc.Own.fresh (Rc.Own.nil (E := encP) 40 W W.heap.size) t1 (fun _ h => h) (Touch.refl _ _) (Nat.le_refl _)
  rw [List.nil_append, e1] at hr1
  rw [List.nil_append, e1] at ow1
  have ow1' := Rc.Own.calm ow1 ((Touch.refl (fun _ => False) w3).alloc (.cells (pnc b) 40))
  have hsz3 := C3.size
  have hs1 := al_size w3 (.cells (pnc b) 40)
  obtain ⟨a2, p2, w4, hr2, ow2, t2, -⟩ := Rc.Own.appw (E := encP) (ty := 22) Tryz.underlying22 hi hz hs hby rfl ow1' (some ⟨w3.heap.size, 0, none⟩) 1 [b] (Rc.Mem.new w3 [b] 40) (fun h => (nomatch h)) (by rw [e1]; simp; unfold maxLen; omega) (by rw [e1]; simp; omega) (by omega) (by omega)
  have C4 : Calm W w4 := Rc.Own.fresh ow1' t2 (fun _ h => h) (C3.alloc _) (Nat.le_refl _)
  have e3 : (O.take k ++ [b]).length = k + 1 := by rw [List.length_append, e1]; rfl
  rw [e3] at hr2
  rw [e3] at ow2
  have hsz4 := C4.size
  obtain ⟨a3, p3, w5, hr3, ow3, t3, -⟩ := Rc.Own.appw (E := encP) (ty := 22) Tryz.underlying22 hi hz hs hby rfl ow2 so2 sc2 (O.drop k) (Rc.Mem.calm m2 C4) n2 (by rw [e2, e3]; unfold maxLen; omega) (by rw [e2, e3]; omega) (by omega) (by omega)
  have C5 : Calm W w5 := Rc.Own.fresh ow2 t3 (fun _ h => h) C4 (Nat.le_refl _)
  have e4 : (O.take k ++ [b] ++ O.drop k).length = O.length + 1 := by rw [List.length_append, e3, e2]; omega
  rw [e2, e4] at hr3
  rw [e4] at ow3
  exact ⟨so1, sc1, so2, sc2, a1, p1, w3, a2, p2, w4, a3, p3, w5, fun V => hsl1 V, fun V => hsl2 V, hr1, hr2, hr3, ow3, C3, C5⟩

end Go.Proofs.YtamfcmmhmfhhkaaGreatDoor

namespace Go.Proofs.YtamfcmmhmfhhkaaGreatDoor
open Go.RowKit

end Go.Proofs.YtamfcmmhmfhhkaaGreatDoor

namespace Go.Proofs.YtamfcmmhmfhhkaaGreatDoor
open Go.RowKit

set_option maxRecDepth 100000 in
set_option maxHeartbeats 4000000 in
theorem rlast_any (L : List Pn) (ao : Option Addr) (ac : Nat) (w : World) (ha : encP.Mem w ao L) (hl : L.length ≤ 1000000000) : Calls Tryz.prog 11 #[.slice ao L.length ac] w fun e w' => RetP w e w' (lastP L) := by
  obtain ⟨x, hx⟩ : ∃ x : Nat → Pn, ∀ i, x i = L.getD i pn0 := ⟨fun i => L.getD i pn0, fun _ => rfl⟩
  have SA : Hid (∀ j, j < L.length → ∃ g off, ao = some ⟨g, off, none⟩ ∧ ∀ W, Calm w W → pcell W g (off + j * 9) (x j)) := hide fun j hj => by
    rw [hx]; exact pn_W ha j hj
  obtain ⟨o, ho⟩ : ∃ o : Nat → List Pn → List Pn, ∀ i O, o i O = lastF O (L.drop i) := ⟨fun i O => lastF O (L.drop i), fun _ _ => rfl⟩
  have O0 : Hid (o 0 [] = lastP L) := hide (by rw [ho]; rfl)
  obtain ⟨lt, hlt0⟩ : ∃ lt : Nat → Nat → Bool, ∀ i j, lt i j = lateJ L i j := ⟨lateJ L, fun _ _ => rfl⟩
  have OS : Hid (∀ i O, i < L.length → o i O = o (i + 1) (if lt i L.length then O else insW O (x i))) := hide fun i O hi => by
    rw [ho, ho, hx, hlt0, lateJ_end]; exact lastF_next hi
  have OE : Hid (∀ O, o L.length O = O) := hide fun O => by rw [ho]; exact lastF_end
  have LZ : Hid (∀ i, lt i (i + 1) = false) := hide fun i => by rw [hlt0]; exact lateJ_zero L i
  have LN : Hid (∀ i j, i + 1 ≤ j → j < L.length → lt i (j + 1) = (lt i j || sameW (x j) (x i))) := hide fun i j h1 h2 => by
    rw [hlt0, hlt0, hx, hx]; exact lateJ_next h1 h2
  unfold RetP
  clear ha hx ho hlt0
  generalize lastP L = Z at *
  generalize L.length = n at *
  go_enter Tryz.func11, Tryz.ntmps11
  go_wp2_with fail
  go_loopw [3, 4] (fun s3 s4 wr => ∃ (i : Nat) (O : List Pn) (a : Option Addr) (c : Nat), s4 = .int .i64 (i : Int) ∧ i ≤ n ∧ s3 = .slice a O.length c ∧ O.length ≤ i ∧ o i O = Z ∧ encP.Own 40 wr w.heap.size (.slice a O.length c) O ∧ Calm w wr) (fun _ s4 _ => n - (intOf s4).toNat)
  case atStart => exact ⟨0, [], none, 0, rfl, by omega, rfl, Nat.le_refl _, O0.out, Rc.Own.nil _ _ _, Touch.refl _ _⟩
  case round =>
    obtain ⟨i, O, a, c, rfl, hi, rfl, hOi, hoz, OW, TE⟩ := hrel
    obtain ⟨w0, hw0⟩ : ∃ x, x = wr := ⟨_, rfl⟩
    subst hw0
    by_cases hlt : i < n
    · have hltz : (i : Int) < (n : Int) := by omega
      obtain ⟨ga, oa, rfl, ca⟩ := SA.out i hlt
      have HO := hide OW
      have HT := hide TE
      have hs := hide (OS.out i O hlt)
      have SB : Hid (∀ j, j < n → ∀ W, Calm w W → pcell W ga (oa + j * 9) (x j)) := hide fun j hj W hW => by
        obtain ⟨g, off, e, h⟩ := SA.out j hj
        injection e with e
        injection e with e1 e2
        subst e1 e2
        exact h W hW
      have L0 := hide (LZ.out i)
      have L1 := hide (LN.out i)
      generalize lt i = late at *
      clear SA OS LZ LN O0 ca OW TE
      go_wp2_with fail
      go_loopw [5, 6] (fun s5 s6 wq => ∃ j : Nat, s6 = .int .i64 (j : Int) ∧ s5 = .bool (late j) ∧ i + 1 ≤ j ∧ j ≤ n ∧ Calm w0 wq) (fun _ s6 _ => n - (intOf s6).toNat)
      case atStart => exact ⟨i + 1, by go_num, by rw [L0.out], by omega, by omega, Touch.refl _ _⟩
      case round =>
        obtain ⟨j, rfl, rfl, hj1, hj, TQ⟩ := hrel
        by_cases hjl : j < n
        · have hjz : (j : Int) < (n : Int) := by omega
          have CJ : Hid (∀ W, Calm w0 W → pcell W ga (oa + j * 9) (x j)) := hide fun W hW => SB.out j hjl W (HT.out.tr hW)
          have CI : Hid (∀ W, Calm w0 W → pcell W ga (oa + i * 9) (x i)) := hide fun W hW => SB.out i hlt W (HT.out.tr hW)
          have L2 := hide (L1.out j hj1 hjl)
          have HQ := hide TQ
          clear SB L0 L1 TQ hs HO
          generalize hq : x j = q at *
          generalize hp : x i = p at *
          generalize late j = lj at *
          cases lj with
          | true =>
            go_wp2_with fail
            refine wp_region_held (S := Calm w0) (by kernel_rfl) ?_
            have hT0 : Calm w0 { wr with drawn := wr.drawn + 1 } := HQ.out.drew
            refine wpAnyH_yield 0 23 (.bool true) rfl rfl (by kernel_rfl) (by kernel_rfl) (by kernel_rfl) (fun _ _ _ h => h) (by kernel_rfl) (fun W hW => by kernel_rfl) (by assumption) rfl rfl ?_
            simp only [Act.put, List.setIfInBounds_toArray, List.set_cons_zero, List.set_cons_succ]
            refine wpAnyH_yield 1 24 (.bool true) rfl rfl (by kernel_rfl) (by kernel_rfl) (by kernel_rfl) (fun _ _ _ h => h) (by kernel_rfl) (fun W hW => by kernel_rfl) (by assumption) rfl rfl ?_
            simp only [Act.put, List.setIfInBounds_toArray, List.set_cons_zero, List.set_cons_succ]
            refine wpAnyH_skip 2 25 rfl rfl (by kernel_rfl) (by kernel_rfl) (by kernel_rfl) (fun _ _ _ h => h) (by kernel_rfl) (by assumption) rfl rfl ?_
            simp only [Act.put, List.setIfInBounds_toArray, List.set_cons_zero, List.set_cons_succ]
            refine wpAnyH_skip 3 26 rfl rfl (by kernel_rfl) (by kernel_rfl) (by kernel_rfl) (fun _ _ _ h => h) (by kernel_rfl) (by assumption) rfl rfl ?_
            simp only [Act.put, List.setIfInBounds_toArray, List.set_cons_zero, List.set_cons_succ]
            refine wpAnyH_skip 4 27 rfl rfl (by kernel_rfl) (by kernel_rfl) (by kernel_rfl) (fun _ _ _ h => h) (by kernel_rfl) (by assumption) rfl rfl ?_
            simp only [Act.put, List.setIfInBounds_toArray, List.set_cons_zero, List.set_cons_succ]
            refine wpAnyH_skip 5 28 rfl rfl (by kernel_rfl) (by kernel_rfl) (by kernel_rfl) (fun _ _ _ h => h) (by kernel_rfl) (by assumption) rfl rfl ?_
            simp only [Act.put, List.setIfInBounds_toArray, List.set_cons_zero, List.set_cons_succ]
            refine wpAnyH_skip 6 29 rfl rfl (by kernel_rfl) (by kernel_rfl) (by kernel_rfl) (fun _ _ _ h => h) (by kernel_rfl) (by assumption) rfl rfl ?_
            simp only [Act.put, List.setIfInBounds_toArray, List.set_cons_zero, List.set_cons_succ]
            refine wpAnyH_skip 7 30 rfl rfl (by kernel_rfl) (by kernel_rfl) (by kernel_rfl) (fun _ _ _ h => h) (by kernel_rfl) (by assumption) rfl rfl ?_
            simp only [Act.put, List.setIfInBounds_toArray, List.set_cons_zero, List.set_cons_succ]
            refine wpAnyH_skip 8 31 rfl rfl (by kernel_rfl) (by kernel_rfl) (by kernel_rfl) (fun _ _ _ h => h) (by kernel_rfl) (by assumption) rfl rfl ?_
            simp only [Act.put, List.setIfInBounds_toArray, List.set_cons_zero, List.set_cons_succ]
            refine wpAnyH_skip 9 32 rfl rfl (by kernel_rfl) (by kernel_rfl) (by kernel_rfl) (fun _ _ _ h => h) (by kernel_rfl) (by assumption) rfl rfl ?_
            simp only [Act.put, List.setIfInBounds_toArray, List.set_cons_zero, List.set_cons_succ]
            refine wpAnyH_skip 10 33 rfl rfl (by kernel_rfl) (by kernel_rfl) (by kernel_rfl) (fun _ _ _ h => h) (by kernel_rfl) (by assumption) rfl rfl ?_
            simp only [Act.put, List.setIfInBounds_toArray, List.set_cons_zero, List.set_cons_succ]
            refine wpAnyH_skip 11 34 rfl rfl (by kernel_rfl) (by kernel_rfl) (by kernel_rfl) (fun _ _ _ h => h) (by kernel_rfl) (by assumption) rfl rfl ?_
            simp only [Act.put, List.setIfInBounds_toArray, List.set_cons_zero, List.set_cons_succ]
            refine wpAnyH_skip 12 35 rfl rfl (by kernel_rfl) (by kernel_rfl) (by kernel_rfl) (fun _ _ _ h => h) (by kernel_rfl) (by assumption) rfl rfl ?_
            simp only [Act.put, List.setIfInBounds_toArray, List.set_cons_zero, List.set_cons_succ]
            refine wpAnyH_skip 13 36 rfl rfl (by kernel_rfl) (by kernel_rfl) (by kernel_rfl) (fun _ _ _ h => h) (by kernel_rfl) (by assumption) rfl rfl ?_
            simp only [Act.put, List.setIfInBounds_toArray, List.set_cons_zero, List.set_cons_succ]
            refine wpAnyH_skip 14 37 rfl rfl (by kernel_rfl) (by kernel_rfl) (by kernel_rfl) (fun _ _ _ h => h) (by kernel_rfl) (by assumption) rfl rfl ?_
            simp only [Act.put, List.setIfInBounds_toArray, List.set_cons_zero, List.set_cons_succ]
            refine wpAnyH_skip 15 38 rfl rfl (by kernel_rfl) (by kernel_rfl) (by kernel_rfl) (fun _ _ _ h => h) (by kernel_rfl) (by assumption) rfl rfl ?_
            simp only [Act.put, List.setIfInBounds_toArray, List.set_cons_zero, List.set_cons_succ]
            refine wpAnyH_skip 16 39 rfl rfl (by kernel_rfl) (by kernel_rfl) (by kernel_rfl) (fun _ _ _ h => h) (by kernel_rfl) (by assumption) rfl rfl ?_
            simp only [Act.put, List.setIfInBounds_toArray, List.set_cons_zero, List.set_cons_succ]
            refine wpAnyH_skip 17 40 rfl rfl (by kernel_rfl) (by kernel_rfl) (by kernel_rfl) (fun _ _ _ h => h) (by kernel_rfl) (by assumption) rfl rfl ?_
            simp only [Act.put, List.setIfInBounds_toArray, List.set_cons_zero, List.set_cons_succ]
            refine wpAnyH_skip 18 41 rfl rfl (by kernel_rfl) (by kernel_rfl) (by kernel_rfl) (fun _ _ _ h => h) (by kernel_rfl) (by assumption) rfl rfl ?_
            simp only [Act.put, List.setIfInBounds_toArray, List.set_cons_zero, List.set_cons_succ]
            refine wpAnyH_skip 19 42 rfl rfl (by kernel_rfl) (by kernel_rfl) (by kernel_rfl) (fun _ _ _ h => h) (by kernel_rfl) (by assumption) rfl rfl ?_
            simp only [Act.put, List.setIfInBounds_toArray, List.set_cons_zero, List.set_cons_succ]
            refine wpAnyH_skip 20 43 rfl rfl (by kernel_rfl) (by kernel_rfl) (by kernel_rfl) (fun _ _ _ h => h) (by kernel_rfl) (by assumption) rfl rfl ?_
            simp only [Act.put, List.setIfInBounds_toArray, List.set_cons_zero, List.set_cons_succ]
            refine wpAnyH_skip 21 44 rfl rfl (by kernel_rfl) (by kernel_rfl) (by kernel_rfl) (fun _ _ _ h => h) (by kernel_rfl) (by assumption) rfl rfl ?_
            simp only [Act.put, List.setIfInBounds_toArray, List.set_cons_zero, List.set_cons_succ]
            refine wpAnyH_skip 22 45 rfl rfl (by kernel_rfl) (by kernel_rfl) (by kernel_rfl) (fun _ _ _ h => h) (by kernel_rfl) (by assumption) rfl rfl ?_
            simp only [Act.put, List.setIfInBounds_toArray, List.set_cons_zero, List.set_cons_succ]
            refine wpAnyH_skip 23 46 rfl rfl (by kernel_rfl) (by kernel_rfl) (by kernel_rfl) (fun _ _ _ h => h) (by kernel_rfl) (by assumption) rfl rfl ?_
            simp only [Act.put, List.setIfInBounds_toArray, List.set_cons_zero, List.set_cons_succ]
            refine wpAnyH_skip 24 47 rfl rfl (by kernel_rfl) (by kernel_rfl) (by kernel_rfl) (fun _ _ _ h => h) (by kernel_rfl) (by assumption) rfl rfl ?_
            simp only [Act.put, List.setIfInBounds_toArray, List.set_cons_zero, List.set_cons_succ]
            refine wpAnyH_skip 25 48 rfl rfl (by kernel_rfl) (by kernel_rfl) (by kernel_rfl) (fun _ _ _ h => h) (by kernel_rfl) (by assumption) rfl rfl ?_
            simp only [Act.put, List.setIfInBounds_toArray, List.set_cons_zero, List.set_cons_succ]
            refine wpAnyH_yield 26 49 (.bool true) rfl rfl (by kernel_rfl) (by kernel_rfl) (by kernel_rfl) (fun _ _ _ h => h) (by kernel_rfl) (fun W hW => by go_simp) (by assumption) rfl rfl ?_
            simp only [Act.put, List.setIfInBounds_toArray, List.set_cons_zero, List.set_cons_succ]
            refine wpAnyH_yield 27 5 (.bool true) rfl rfl (by kernel_rfl) (by kernel_rfl) (by kernel_rfl) (fun _ _ _ h => h) (by kernel_rfl) (fun W hW => by kernel_rfl) (by assumption) rfl rfl ?_
            simp only [Act.put, List.setIfInBounds_toArray, List.set_cons_zero, List.set_cons_succ]
            refine wpAnyH_done (by kernel_rfl) ?_ _
            have H1 := hide hT0
            clear hT0 HQ CI CJ
            go_wp2_with fail
            go_roundw
            case rel => exact ⟨j + 1, by go_num, by rw [L2.out]; rfl, by omega, by omega, H1.out⟩
            case measure => simp [intOf]; omega
          | false =>
            by_cases hk : q.k = p.k
            · obtain ⟨sp, hsp⟩ : ∃ sp, (decide (q.a = p.a) && decide (q.b = p.b)) = sp := ⟨_, rfl⟩
              have HSP := hide hsp
              have L3 : Hid (late (j + 1) = sp) := hide (by rw [L2.out]; unfold sameW; rw [decide_eq_true hk, hsp]; rfl)
              have hkk : Hid ((q.k.toList == p.k.toList) = true) := hide (by rw [ba_beq, decide_eq_true hk])
              clear hsp L2 hk
              go_wp2_with fail
              refine wp_region_held (S := Calm w0) (by kernel_rfl) ?_
              have hT0 : Calm w0 { wr with drawn := wr.drawn + 1 } := HQ.out.drew
              refine wpAnyH_yield 0 23 (.bool false) rfl rfl (by kernel_rfl) (by kernel_rfl) (by kernel_rfl) (fun _ _ _ h => h) (by kernel_rfl) (fun W hW => by kernel_rfl) (by assumption) rfl rfl ?_
              simp only [Act.put, List.setIfInBounds_toArray, List.set_cons_zero, List.set_cons_succ]
              refine wpAnyH_yield 1 24 (.bool false) rfl rfl (by kernel_rfl) (by kernel_rfl) (by kernel_rfl) (fun _ _ _ h => h) (by kernel_rfl) (fun W hW => by kernel_rfl) (by assumption) rfl rfl ?_
              simp only [Act.put, List.setIfInBounds_toArray, List.set_cons_zero, List.set_cons_succ]
              refine wpAnyH_yield 2 25 (.slice (some ⟨ga, oa, none⟩) n ac) rfl rfl (by kernel_rfl) (by kernel_rfl) (by kernel_rfl) (fun _ _ _ h => h) (by kernel_rfl) (fun W hW => by kernel_rfl) (by assumption) rfl rfl ?_
              simp only [Act.put, List.setIfInBounds_toArray, List.set_cons_zero, List.set_cons_succ]
              refine wpAnyH_yield 3 26 (.int .i64 (j : Int)) rfl rfl (by kernel_rfl) (by kernel_rfl) (by kernel_rfl) (fun _ _ _ h => h) (by kernel_rfl) (fun W hW => by kernel_rfl) (by assumption) rfl rfl ?_
              simp only [Act.put, List.setIfInBounds_toArray, List.set_cons_zero, List.set_cons_succ]
              refine wpAnyH_yield 4 27 (.pointer (some ⟨ga, oa + j * 9, none⟩)) rfl rfl (by kernel_rfl) (by kernel_rfl) (by kernel_rfl) (fun _ _ _ h => h) (by kernel_rfl) (fun W hW => by go_simp) (by assumption) rfl rfl ?_
              simp only [Act.put, List.setIfInBounds_toArray, List.set_cons_zero, List.set_cons_succ]
              refine wpAnyH_yield 5 28 (.pointer (some ⟨ga, oa + j * 9, none⟩)) rfl rfl (by kernel_rfl) (by kernel_rfl) (by kernel_rfl) (fun _ _ _ h => h) (by kernel_rfl) (fun W hW => by go_simp) (by assumption) rfl rfl ?_
              simp only [Act.put, List.setIfInBounds_toArray, List.set_cons_zero, List.set_cons_succ]
              refine wpAnyH_yield 6 29 (.string q.k) rfl rfl (by kernel_rfl) (by kernel_rfl) (by kernel_rfl) (fun _ _ _ h => h) (by kernel_rfl) (fun W hW => by obtain ⟨⟨c0, -⟩, -⟩ := CJ.out W hW; go_simp) (by assumption) rfl rfl ?_
              simp only [Act.put, List.setIfInBounds_toArray, List.set_cons_zero, List.set_cons_succ]
              refine wpAnyH_yield 7 30 (.slice (some ⟨ga, oa, none⟩) n ac) rfl rfl (by kernel_rfl) (by kernel_rfl) (by kernel_rfl) (fun _ _ _ h => h) (by kernel_rfl) (fun W hW => by kernel_rfl) (by assumption) rfl rfl ?_
              simp only [Act.put, List.setIfInBounds_toArray, List.set_cons_zero, List.set_cons_succ]
              refine wpAnyH_yield 8 31 (.int .i64 (i : Int)) rfl rfl (by kernel_rfl) (by kernel_rfl) (by kernel_rfl) (fun _ _ _ h => h) (by kernel_rfl) (fun W hW => by kernel_rfl) (by assumption) rfl rfl ?_
              simp only [Act.put, List.setIfInBounds_toArray, List.set_cons_zero, List.set_cons_succ]
              refine wpAnyH_yield 9 32 (.pointer (some ⟨ga, oa + i * 9, none⟩)) rfl rfl (by kernel_rfl) (by kernel_rfl) (by kernel_rfl) (fun _ _ _ h => h) (by kernel_rfl) (fun W hW => by go_simp) (by assumption) rfl rfl ?_
              simp only [Act.put, List.setIfInBounds_toArray, List.set_cons_zero, List.set_cons_succ]
              refine wpAnyH_yield 10 33 (.pointer (some ⟨ga, oa + i * 9, none⟩)) rfl rfl (by kernel_rfl) (by kernel_rfl) (by kernel_rfl) (fun _ _ _ h => h) (by kernel_rfl) (fun W hW => by go_simp) (by assumption) rfl rfl ?_
              simp only [Act.put, List.setIfInBounds_toArray, List.set_cons_zero, List.set_cons_succ]
              refine wpAnyH_yield 11 34 (.string p.k) rfl rfl (by kernel_rfl) (by kernel_rfl) (by kernel_rfl) (fun _ _ _ h => h) (by kernel_rfl) (fun W hW => by obtain ⟨⟨c0, -⟩, -⟩ := CI.out W hW; go_simp) (by assumption) rfl rfl ?_
              simp only [Act.put, List.setIfInBounds_toArray, List.set_cons_zero, List.set_cons_succ]
              refine wpAnyH_yield 12 35 (.bool true) rfl rfl (by kernel_rfl) (by kernel_rfl) (by kernel_rfl) (fun _ _ _ h => h) (by kernel_rfl) (fun W hW => by have hk2 := hkk.out; go_simp) (by assumption) rfl rfl ?_
              simp only [Act.put, List.setIfInBounds_toArray, List.set_cons_zero, List.set_cons_succ]
              refine wpAnyH_yield 13 36 (.bool true) rfl rfl (by kernel_rfl) (by kernel_rfl) (by kernel_rfl) (fun _ _ _ h => h) (by kernel_rfl) (fun W hW => by kernel_rfl) (by assumption) rfl rfl ?_
              simp only [Act.put, List.setIfInBounds_toArray, List.set_cons_zero, List.set_cons_succ]
              refine wpAnyH_yield 14 37 (.slice (some ⟨ga, oa, none⟩) n ac) rfl rfl (by kernel_rfl) (by kernel_rfl) (by kernel_rfl) (fun _ _ _ h => h) (by kernel_rfl) (fun W hW => by kernel_rfl) (by assumption) rfl rfl ?_
              simp only [Act.put, List.setIfInBounds_toArray, List.set_cons_zero, List.set_cons_succ]
              refine wpAnyH_yield 15 38 (.int .i64 (j : Int)) rfl rfl (by kernel_rfl) (by kernel_rfl) (by kernel_rfl) (fun _ _ _ h => h) (by kernel_rfl) (fun W hW => by kernel_rfl) (by assumption) rfl rfl ?_
              simp only [Act.put, List.setIfInBounds_toArray, List.set_cons_zero, List.set_cons_succ]
              refine wpAnyH_yield 16 39 (.pointer (some ⟨ga, oa + j * 9, none⟩)) rfl rfl (by kernel_rfl) (by kernel_rfl) (by kernel_rfl) (fun _ _ _ h => h) (by kernel_rfl) (fun W hW => by go_simp) (by assumption) rfl rfl ?_
              simp only [Act.put, List.setIfInBounds_toArray, List.set_cons_zero, List.set_cons_succ]
              refine wpAnyH_yield 17 40 (.pointer (some ⟨ga, oa + j * 9 + 1, none⟩)) rfl rfl (by kernel_rfl) (by kernel_rfl) (by kernel_rfl) (fun _ _ _ h => h) (by kernel_rfl) (fun W hW => by go_simp) (by assumption) rfl rfl ?_
              simp only [Act.put, List.setIfInBounds_toArray, List.set_cons_zero, List.set_cons_succ]
              refine wpAnyH_yield 18 41 (.agg #[.int .i64 q.a, .int .i64 q.b]) rfl rfl (by kernel_rfl) (by kernel_rfl) (by kernel_rfl) (fun _ _ _ h => h) (by kernel_rfl) (fun W hW => by obtain ⟨⟨-, c1, c2, -⟩, -⟩ := CJ.out W hW; go_simp) (by assumption) rfl rfl ?_
              simp only [Act.put, List.setIfInBounds_toArray, List.set_cons_zero, List.set_cons_succ]
              refine wpAnyH_yield 19 42 (.slice (some ⟨ga, oa, none⟩) n ac) rfl rfl (by kernel_rfl) (by kernel_rfl) (by kernel_rfl) (fun _ _ _ h => h) (by kernel_rfl) (fun W hW => by kernel_rfl) (by assumption) rfl rfl ?_
              simp only [Act.put, List.setIfInBounds_toArray, List.set_cons_zero, List.set_cons_succ]
              refine wpAnyH_yield 20 43 (.int .i64 (i : Int)) rfl rfl (by kernel_rfl) (by kernel_rfl) (by kernel_rfl) (fun _ _ _ h => h) (by kernel_rfl) (fun W hW => by kernel_rfl) (by assumption) rfl rfl ?_
              simp only [Act.put, List.setIfInBounds_toArray, List.set_cons_zero, List.set_cons_succ]
              refine wpAnyH_yield 21 44 (.pointer (some ⟨ga, oa + i * 9, none⟩)) rfl rfl (by kernel_rfl) (by kernel_rfl) (by kernel_rfl) (fun _ _ _ h => h) (by kernel_rfl) (fun W hW => by go_simp) (by assumption) rfl rfl ?_
              simp only [Act.put, List.setIfInBounds_toArray, List.set_cons_zero, List.set_cons_succ]
              refine wpAnyH_yield 22 45 (.pointer (some ⟨ga, oa + i * 9 + 1, none⟩)) rfl rfl (by kernel_rfl) (by kernel_rfl) (by kernel_rfl) (fun _ _ _ h => h) (by kernel_rfl) (fun W hW => by go_simp) (by assumption) rfl rfl ?_
              simp only [Act.put, List.setIfInBounds_toArray, List.set_cons_zero, List.set_cons_succ]
              refine wpAnyH_yield 23 46 (.agg #[.int .i64 p.a, .int .i64 p.b]) rfl rfl (by kernel_rfl) (by kernel_rfl) (by kernel_rfl) (fun _ _ _ h => h) (by kernel_rfl) (fun W hW => by obtain ⟨⟨-, c1, c2, -⟩, -⟩ := CI.out W hW; go_simp) (by assumption) rfl rfl ?_
              simp only [Act.put, List.setIfInBounds_toArray, List.set_cons_zero, List.set_cons_succ]
              refine wpAnyH_yield 24 47 (.bool sp) rfl rfl (by kernel_rfl) (by kernel_rfl) (by kernel_rfl) (fun _ _ _ h => h) (by kernel_rfl) (fun W hW => by go_simp; rw [← HSP.out]; by_cases ha : q.a = p.a <;> by_cases hb : q.b = p.b <;> simp [ha, hb]) (by assumption) rfl rfl ?_
              simp only [Act.put, List.setIfInBounds_toArray, List.set_cons_zero, List.set_cons_succ]
              refine wpAnyH_yield 25 48 (.bool sp) rfl rfl (by kernel_rfl) (by kernel_rfl) (by kernel_rfl) (fun _ _ _ h => h) (by kernel_rfl) (fun W hW => by go_simp) (by assumption) rfl rfl ?_
              simp only [Act.put, List.setIfInBounds_toArray, List.set_cons_zero, List.set_cons_succ]
              refine wpAnyH_yield 26 49 (.bool sp) rfl rfl (by kernel_rfl) (by kernel_rfl) (by kernel_rfl) (fun _ _ _ h => h) (by kernel_rfl) (fun W hW => by go_simp) (by assumption) rfl rfl ?_
              simp only [Act.put, List.setIfInBounds_toArray, List.set_cons_zero, List.set_cons_succ]
              refine wpAnyH_yield 27 5 (.bool sp) rfl rfl (by kernel_rfl) (by kernel_rfl) (by kernel_rfl) (fun _ _ _ h => h) (by kernel_rfl) (fun W hW => by kernel_rfl) (by assumption) rfl rfl ?_
              simp only [Act.put, List.setIfInBounds_toArray, List.set_cons_zero, List.set_cons_succ]
              refine wpAnyH_done (by kernel_rfl) ?_ _
              have H1 := hide hT0
              clear hT0 HQ CI CJ
              go_wp2_with fail
              go_roundw
              case rel => exact ⟨j + 1, by go_num, by rw [L3.out], by omega, by omega, H1.out⟩
              case measure => simp [intOf]; omega
            · have L3 : Hid (late (j + 1) = false) := hide (by rw [L2.out]; unfold sameW; rw [decide_eq_false hk]; rfl)
              have hkk : Hid ((q.k.toList == p.k.toList) = false) := hide (by rw [ba_beq, decide_eq_false hk])
              clear L2
              go_wp2_with fail
              refine wp_region_held (S := Calm w0) (by kernel_rfl) ?_
              have hT0 : Calm w0 { wr with drawn := wr.drawn + 1 } := HQ.out.drew
              refine wpAnyH_yield 0 23 (.bool false) rfl rfl (by kernel_rfl) (by kernel_rfl) (by kernel_rfl) (fun _ _ _ h => h) (by kernel_rfl) (fun W hW => by kernel_rfl) (by assumption) rfl rfl ?_
              simp only [Act.put, List.setIfInBounds_toArray, List.set_cons_zero, List.set_cons_succ]
              refine wpAnyH_yield 1 24 (.bool false) rfl rfl (by kernel_rfl) (by kernel_rfl) (by kernel_rfl) (fun _ _ _ h => h) (by kernel_rfl) (fun W hW => by kernel_rfl) (by assumption) rfl rfl ?_
              simp only [Act.put, List.setIfInBounds_toArray, List.set_cons_zero, List.set_cons_succ]
              refine wpAnyH_yield 2 25 (.slice (some ⟨ga, oa, none⟩) n ac) rfl rfl (by kernel_rfl) (by kernel_rfl) (by kernel_rfl) (fun _ _ _ h => h) (by kernel_rfl) (fun W hW => by kernel_rfl) (by assumption) rfl rfl ?_
              simp only [Act.put, List.setIfInBounds_toArray, List.set_cons_zero, List.set_cons_succ]
              refine wpAnyH_yield 3 26 (.int .i64 (j : Int)) rfl rfl (by kernel_rfl) (by kernel_rfl) (by kernel_rfl) (fun _ _ _ h => h) (by kernel_rfl) (fun W hW => by kernel_rfl) (by assumption) rfl rfl ?_
              simp only [Act.put, List.setIfInBounds_toArray, List.set_cons_zero, List.set_cons_succ]
              refine wpAnyH_yield 4 27 (.pointer (some ⟨ga, oa + j * 9, none⟩)) rfl rfl (by kernel_rfl) (by kernel_rfl) (by kernel_rfl) (fun _ _ _ h => h) (by kernel_rfl) (fun W hW => by go_simp) (by assumption) rfl rfl ?_
              simp only [Act.put, List.setIfInBounds_toArray, List.set_cons_zero, List.set_cons_succ]
              refine wpAnyH_yield 5 28 (.pointer (some ⟨ga, oa + j * 9, none⟩)) rfl rfl (by kernel_rfl) (by kernel_rfl) (by kernel_rfl) (fun _ _ _ h => h) (by kernel_rfl) (fun W hW => by go_simp) (by assumption) rfl rfl ?_
              simp only [Act.put, List.setIfInBounds_toArray, List.set_cons_zero, List.set_cons_succ]
              refine wpAnyH_yield 6 29 (.string q.k) rfl rfl (by kernel_rfl) (by kernel_rfl) (by kernel_rfl) (fun _ _ _ h => h) (by kernel_rfl) (fun W hW => by obtain ⟨⟨c0, -⟩, -⟩ := CJ.out W hW; go_simp) (by assumption) rfl rfl ?_
              simp only [Act.put, List.setIfInBounds_toArray, List.set_cons_zero, List.set_cons_succ]
              refine wpAnyH_yield 7 30 (.slice (some ⟨ga, oa, none⟩) n ac) rfl rfl (by kernel_rfl) (by kernel_rfl) (by kernel_rfl) (fun _ _ _ h => h) (by kernel_rfl) (fun W hW => by kernel_rfl) (by assumption) rfl rfl ?_
              simp only [Act.put, List.setIfInBounds_toArray, List.set_cons_zero, List.set_cons_succ]
              refine wpAnyH_yield 8 31 (.int .i64 (i : Int)) rfl rfl (by kernel_rfl) (by kernel_rfl) (by kernel_rfl) (fun _ _ _ h => h) (by kernel_rfl) (fun W hW => by kernel_rfl) (by assumption) rfl rfl ?_
              simp only [Act.put, List.setIfInBounds_toArray, List.set_cons_zero, List.set_cons_succ]
              refine wpAnyH_yield 9 32 (.pointer (some ⟨ga, oa + i * 9, none⟩)) rfl rfl (by kernel_rfl) (by kernel_rfl) (by kernel_rfl) (fun _ _ _ h => h) (by kernel_rfl) (fun W hW => by go_simp) (by assumption) rfl rfl ?_
              simp only [Act.put, List.setIfInBounds_toArray, List.set_cons_zero, List.set_cons_succ]
              refine wpAnyH_yield 10 33 (.pointer (some ⟨ga, oa + i * 9, none⟩)) rfl rfl (by kernel_rfl) (by kernel_rfl) (by kernel_rfl) (fun _ _ _ h => h) (by kernel_rfl) (fun W hW => by go_simp) (by assumption) rfl rfl ?_
              simp only [Act.put, List.setIfInBounds_toArray, List.set_cons_zero, List.set_cons_succ]
              refine wpAnyH_yield 11 34 (.string p.k) rfl rfl (by kernel_rfl) (by kernel_rfl) (by kernel_rfl) (fun _ _ _ h => h) (by kernel_rfl) (fun W hW => by obtain ⟨⟨c0, -⟩, -⟩ := CI.out W hW; go_simp) (by assumption) rfl rfl ?_
              simp only [Act.put, List.setIfInBounds_toArray, List.set_cons_zero, List.set_cons_succ]
              refine wpAnyH_yield 12 35 (.bool false) rfl rfl (by kernel_rfl) (by kernel_rfl) (by kernel_rfl) (fun _ _ _ h => h) (by kernel_rfl) (fun W hW => by have hk2 := hkk.out; go_simp) (by assumption) rfl rfl ?_
              simp only [Act.put, List.setIfInBounds_toArray, List.set_cons_zero, List.set_cons_succ]
              refine wpAnyH_yield 13 36 (.bool false) rfl rfl (by kernel_rfl) (by kernel_rfl) (by kernel_rfl) (fun _ _ _ h => h) (by kernel_rfl) (fun W hW => by kernel_rfl) (by assumption) rfl rfl ?_
              simp only [Act.put, List.setIfInBounds_toArray, List.set_cons_zero, List.set_cons_succ]
              refine wpAnyH_skip 14 37 rfl rfl (by kernel_rfl) (by kernel_rfl) (by kernel_rfl) (fun _ _ _ h => h) (by kernel_rfl) (by assumption) rfl rfl ?_
              simp only [Act.put, List.setIfInBounds_toArray, List.set_cons_zero, List.set_cons_succ]
              refine wpAnyH_skip 15 38 rfl rfl (by kernel_rfl) (by kernel_rfl) (by kernel_rfl) (fun _ _ _ h => h) (by kernel_rfl) (by assumption) rfl rfl ?_
              simp only [Act.put, List.setIfInBounds_toArray, List.set_cons_zero, List.set_cons_succ]
              refine wpAnyH_skip 16 39 rfl rfl (by kernel_rfl) (by kernel_rfl) (by kernel_rfl) (fun _ _ _ h => h) (by kernel_rfl) (by assumption) rfl rfl ?_
              simp only [Act.put, List.setIfInBounds_toArray, List.set_cons_zero, List.set_cons_succ]
              refine wpAnyH_skip 17 40 rfl rfl (by kernel_rfl) (by kernel_rfl) (by kernel_rfl) (fun _ _ _ h => h) (by kernel_rfl) (by assumption) rfl rfl ?_
              simp only [Act.put, List.setIfInBounds_toArray, List.set_cons_zero, List.set_cons_succ]
              refine wpAnyH_skip 18 41 rfl rfl (by kernel_rfl) (by kernel_rfl) (by kernel_rfl) (fun _ _ _ h => h) (by kernel_rfl) (by assumption) rfl rfl ?_
              simp only [Act.put, List.setIfInBounds_toArray, List.set_cons_zero, List.set_cons_succ]
              refine wpAnyH_skip 19 42 rfl rfl (by kernel_rfl) (by kernel_rfl) (by kernel_rfl) (fun _ _ _ h => h) (by kernel_rfl) (by assumption) rfl rfl ?_
              simp only [Act.put, List.setIfInBounds_toArray, List.set_cons_zero, List.set_cons_succ]
              refine wpAnyH_skip 20 43 rfl rfl (by kernel_rfl) (by kernel_rfl) (by kernel_rfl) (fun _ _ _ h => h) (by kernel_rfl) (by assumption) rfl rfl ?_
              simp only [Act.put, List.setIfInBounds_toArray, List.set_cons_zero, List.set_cons_succ]
              refine wpAnyH_skip 21 44 rfl rfl (by kernel_rfl) (by kernel_rfl) (by kernel_rfl) (fun _ _ _ h => h) (by kernel_rfl) (by assumption) rfl rfl ?_
              simp only [Act.put, List.setIfInBounds_toArray, List.set_cons_zero, List.set_cons_succ]
              refine wpAnyH_skip 22 45 rfl rfl (by kernel_rfl) (by kernel_rfl) (by kernel_rfl) (fun _ _ _ h => h) (by kernel_rfl) (by assumption) rfl rfl ?_
              simp only [Act.put, List.setIfInBounds_toArray, List.set_cons_zero, List.set_cons_succ]
              refine wpAnyH_skip 23 46 rfl rfl (by kernel_rfl) (by kernel_rfl) (by kernel_rfl) (fun _ _ _ h => h) (by kernel_rfl) (by assumption) rfl rfl ?_
              simp only [Act.put, List.setIfInBounds_toArray, List.set_cons_zero, List.set_cons_succ]
              refine wpAnyH_skip 24 47 rfl rfl (by kernel_rfl) (by kernel_rfl) (by kernel_rfl) (fun _ _ _ h => h) (by kernel_rfl) (by assumption) rfl rfl ?_
              simp only [Act.put, List.setIfInBounds_toArray, List.set_cons_zero, List.set_cons_succ]
              refine wpAnyH_yield 25 48 (.bool false) rfl rfl (by kernel_rfl) (by kernel_rfl) (by kernel_rfl) (fun _ _ _ h => h) (by kernel_rfl) (fun W hW => by go_simp) (by assumption) rfl rfl ?_
              simp only [Act.put, List.setIfInBounds_toArray, List.set_cons_zero, List.set_cons_succ]
              refine wpAnyH_yield 26 49 (.bool false) rfl rfl (by kernel_rfl) (by kernel_rfl) (by kernel_rfl) (fun _ _ _ h => h) (by kernel_rfl) (fun W hW => by go_simp) (by assumption) rfl rfl ?_
              simp only [Act.put, List.setIfInBounds_toArray, List.set_cons_zero, List.set_cons_succ]
              refine wpAnyH_yield 27 5 (.bool false) rfl rfl (by kernel_rfl) (by kernel_rfl) (by kernel_rfl) (fun _ _ _ h => h) (by kernel_rfl) (fun W hW => by kernel_rfl) (by assumption) rfl rfl ?_
              simp only [Act.put, List.setIfInBounds_toArray, List.set_cons_zero, List.set_cons_succ]
              refine wpAnyH_done (by kernel_rfl) ?_ _
              have H1 := hide hT0
              clear hT0 HQ CI CJ
              go_wp2_with fail
              go_roundw
              case rel => exact ⟨j + 1, by go_num, by rw [L3.out], by omega, by omega, H1.out⟩
              case measure => simp [intOf]; omega
        · have hjz : ¬ (j : Int) < (n : Int) := by omega
          obtain rfl : n = j := by omega
          have HQ := hide TQ
          have CI : Hid (∀ W, Calm w0 W → pcell W ga (oa + i * 9) (x i)) := hide fun W hW => SB.out i hlt W (HT.out.tr hW)
          clear SB L0 L1 TQ
          generalize hp : x i = p at *
          generalize hlj : late n = lj at *
          cases lj with
          | true =>
            have HZ1 : Hid (o (i + 1) O = Z) := hide (by rw [← hoz, hs.out]; rfl)
            have HOW := hide (Rc.Own.calm HO.out HQ.out)
            have HTW := hide (HT.out.tr HQ.out)
            clear HO HT HQ CI hs hoz OE
            go_wp2_with fail
            go_roundw
            case rel => exact ⟨i + 1, O, a, c, by go_num, by omega, rfl, by omega, HZ1.out, HOW.out, HTW.out⟩
            case measure => simp [intOf]; omega
          | false =>
            have HZ1 : Hid (o (i + 1) (insW O p) = Z) := hide (by rw [← hoz, hs.out]; rfl)
            have SO : Hid (∀ m, m < O.length → ∃ g off, a = some ⟨g, off, none⟩ ∧ ∀ W, Calm w0 W → pcell W g (off + m * 9) (O.getD m pn0)) := hide fun m hm => pn_W (Rc.Own.mem HO.out).2.1 m hm
            have HL := hide (leadW_eq O p)
            have HT1 := hide HQ.out
            clear hs HQ OE
            obtain ⟨w1, hw1⟩ : ∃ x, x = wr := ⟨_, rfl⟩
            subst hw1
            go_wp2_with fail
            go_loopw [7] (fun s7 wq => ∃ k : Nat, s7 = .int .i64 (k : Int) ∧ k ≤ O.length ∧ (∀ t, t < k → wLt (O.getD t pn0) p = true) ∧ Calm w1 wq) (fun s7 _ => O.length - (intOf s7).toNat)
            case atStart => exact ⟨0, rfl, by omega, fun t ht => by omega, Touch.refl _ _⟩
            case round =>
              obtain ⟨k, rfl, hk, hA, TQ⟩ := hrel
              by_cases hkl : k < O.length
              · have hkz : (k : Int) < (O.length : Int) := by omega
                obtain ⟨gb, ob, rfl, cb⟩ := SO.out k hkl
                have CK : Hid (∀ W, Calm w1 W → pcell W gb (ob + k * 9) (O.getD k pn0)) := hide fun W hW => cb W (HT1.out.tr hW)
                have CI1 : Hid (∀ W, Calm w1 W → pcell W ga (oa + i * 9) p) := hide fun W hW => CI.out W (HT1.out.tr hW)
                have HQ := hide TQ
                have HL1 : Hid (wLt (O.getD k pn0) p = false → leadW O p = k) := hide fun h => HL.out k hk hA (fun _ => h)
                have HA1 : Hid (wLt (O.getD k pn0) p = true → ∀ t, t < k + 1 → wLt (O.getD t pn0) p = true) := hide fun h t ht => by
                  rcases Nat.lt_or_ge t k with h3 | h3
                  · exact hA t h3
                  · obtain rfl : t = k := by omega
                    exact h
                have CC := hide fun W => rcomp_any (wpn (O.getD k pn0)) (wpn p) W
                have hlk0 : wLt (O.getD k pn0) p = decide (cmpP (wpn (O.getD k pn0)) (wpn p) < 0) := rfl
                generalize O.getD k pn0 = q at *
                generalize hcv : cmpP (wpn q) (wpn p) = cv at *
                generalize hlk : wLt q p = lk at *
                have HLK : Hid (decide (cv < 0) = lk) := hide hlk0.symm
                clear cb TQ hA SO hlk hlk0 hcv hlj HL
                go_wp2_with fail
                refine wp_region_held (S := Calm w1) (by kernel_rfl) ?_
                have hT0 : Calm w1 { wr with drawn := wr.drawn + 1 } := HQ.out.drew
                refine wpAnyH_yield 0 51 (.int .i64 (k : Int)) rfl rfl (by kernel_rfl) (by kernel_rfl) (by kernel_rfl) (fun _ _ _ h => h) (by kernel_rfl) (fun W hW => by kernel_rfl) (by assumption) rfl rfl ?_
                simp only [Act.put, List.setIfInBounds_toArray, List.set_cons_zero, List.set_cons_succ]
                refine wpAnyH_yield 1 52 (.slice (some ⟨gb, ob, none⟩) O.length c) rfl rfl (by kernel_rfl) (by kernel_rfl) (by kernel_rfl) (fun _ _ _ h => h) (by kernel_rfl) (fun W hW => by kernel_rfl) (by assumption) rfl rfl ?_
                simp only [Act.put, List.setIfInBounds_toArray, List.set_cons_zero, List.set_cons_succ]
                refine wpAnyH_yield 2 53 (.int .i64 (O.length : Int)) rfl rfl (by kernel_rfl) (by kernel_rfl) (by kernel_rfl) (fun _ _ _ h => h) (by kernel_rfl) (fun W hW => by go_simp) (by assumption) rfl rfl ?_
                simp only [Act.put, List.setIfInBounds_toArray, List.set_cons_zero, List.set_cons_succ]
                refine wpAnyH_yield 3 54 (.bool true) rfl rfl (by kernel_rfl) (by kernel_rfl) (by kernel_rfl) (fun _ _ _ h => h) (by kernel_rfl) (fun W hW => by go_simp) (by assumption) rfl rfl ?_
                simp only [Act.put, List.setIfInBounds_toArray, List.set_cons_zero, List.set_cons_succ]
                refine wpAnyH_yield 4 55 (.bool true) rfl rfl (by kernel_rfl) (by kernel_rfl) (by kernel_rfl) (fun _ _ _ h => h) (by kernel_rfl) (fun W hW => by kernel_rfl) (by assumption) rfl rfl ?_
                simp only [Act.put, List.setIfInBounds_toArray, List.set_cons_zero, List.set_cons_succ]
                refine wpAnyH_yield 5 56 (.slice (some ⟨gb, ob, none⟩) O.length c) rfl rfl (by kernel_rfl) (by kernel_rfl) (by kernel_rfl) (fun _ _ _ h => h) (by kernel_rfl) (fun W hW => by kernel_rfl) (by assumption) rfl rfl ?_
                simp only [Act.put, List.setIfInBounds_toArray, List.set_cons_zero, List.set_cons_succ]
                refine wpAnyH_yield 6 57 (.int .i64 (k : Int)) rfl rfl (by kernel_rfl) (by kernel_rfl) (by kernel_rfl) (fun _ _ _ h => h) (by kernel_rfl) (fun W hW => by kernel_rfl) (by assumption) rfl rfl ?_
                simp only [Act.put, List.setIfInBounds_toArray, List.set_cons_zero, List.set_cons_succ]
                refine wpAnyH_yield 7 58 (.pointer (some ⟨gb, ob + k * 9, none⟩)) rfl rfl (by kernel_rfl) (by kernel_rfl) (by kernel_rfl) (fun _ _ _ h => h) (by kernel_rfl) (fun W hW => by go_simp) (by assumption) rfl rfl ?_
                simp only [Act.put, List.setIfInBounds_toArray, List.set_cons_zero, List.set_cons_succ]
                refine wpAnyH_yield 8 59 (.pointer (some ⟨gb, ob + k * 9, none⟩)) rfl rfl (by kernel_rfl) (by kernel_rfl) (by kernel_rfl) (fun _ _ _ h => h) (by kernel_rfl) (fun W hW => by go_simp) (by assumption) rfl rfl ?_
                simp only [Act.put, List.setIfInBounds_toArray, List.set_cons_zero, List.set_cons_succ]
                refine wpAnyH_yield 9 60 (.string q.k) rfl rfl (by kernel_rfl) (by kernel_rfl) (by kernel_rfl) (fun _ _ _ h => h) (by kernel_rfl) (fun W hW => by obtain ⟨⟨c0, -⟩, -⟩ := CK.out W hW; go_simp) (by assumption) rfl rfl ?_
                simp only [Act.put, List.setIfInBounds_toArray, List.set_cons_zero, List.set_cons_succ]
                refine wpAnyH_yield 10 61 (.slice (some ⟨gb, ob, none⟩) O.length c) rfl rfl (by kernel_rfl) (by kernel_rfl) (by kernel_rfl) (fun _ _ _ h => h) (by kernel_rfl) (fun W hW => by kernel_rfl) (by assumption) rfl rfl ?_
                simp only [Act.put, List.setIfInBounds_toArray, List.set_cons_zero, List.set_cons_succ]
                refine wpAnyH_yield 11 62 (.int .i64 (k : Int)) rfl rfl (by kernel_rfl) (by kernel_rfl) (by kernel_rfl) (fun _ _ _ h => h) (by kernel_rfl) (fun W hW => by kernel_rfl) (by assumption) rfl rfl ?_
                simp only [Act.put, List.setIfInBounds_toArray, List.set_cons_zero, List.set_cons_succ]
                refine wpAnyH_yield 12 63 (.pointer (some ⟨gb, ob + k * 9, none⟩)) rfl rfl (by kernel_rfl) (by kernel_rfl) (by kernel_rfl) (fun _ _ _ h => h) (by kernel_rfl) (fun W hW => by go_simp) (by assumption) rfl rfl ?_
                simp only [Act.put, List.setIfInBounds_toArray, List.set_cons_zero, List.set_cons_succ]
                refine wpAnyH_yield 13 64 (.pointer (some ⟨gb, ob + k * 9 + 1, none⟩)) rfl rfl (by kernel_rfl) (by kernel_rfl) (by kernel_rfl) (fun _ _ _ h => h) (by kernel_rfl) (fun W hW => by go_simp) (by assumption) rfl rfl ?_
                simp only [Act.put, List.setIfInBounds_toArray, List.set_cons_zero, List.set_cons_succ]
                refine wpAnyH_yield 14 65 (.agg #[.int .i64 q.a, .int .i64 q.b]) rfl rfl (by kernel_rfl) (by kernel_rfl) (by kernel_rfl) (fun _ _ _ h => h) (by kernel_rfl) (fun W hW => by obtain ⟨⟨-, c1, c2, -⟩, -⟩ := CK.out W hW; go_simp) (by assumption) rfl rfl ?_
                simp only [Act.put, List.setIfInBounds_toArray, List.set_cons_zero, List.set_cons_succ]
                refine wpAnyH_yield 15 66 (pnv (wpn q)) rfl rfl (by kernel_rfl) (by kernel_rfl) (by kernel_rfl) (fun _ _ _ h => h) (by kernel_rfl) (fun W hW => by kernel_rfl) (by assumption) rfl rfl ?_
                simp only [Act.put, List.setIfInBounds_toArray, List.set_cons_zero, List.set_cons_succ]
                refine wpAnyH_yield 16 67 (.slice (some ⟨ga, oa, none⟩) n ac) rfl rfl (by kernel_rfl) (by kernel_rfl) (by kernel_rfl) (fun _ _ _ h => h) (by kernel_rfl) (fun W hW => by kernel_rfl) (by assumption) rfl rfl ?_
                simp only [Act.put, List.setIfInBounds_toArray, List.set_cons_zero, List.set_cons_succ]
                refine wpAnyH_yield 17 68 (.int .i64 (i : Int)) rfl rfl (by kernel_rfl) (by kernel_rfl) (by kernel_rfl) (fun _ _ _ h => h) (by kernel_rfl) (fun W hW => by kernel_rfl) (by assumption) rfl rfl ?_
                simp only [Act.put, List.setIfInBounds_toArray, List.set_cons_zero, List.set_cons_succ]
                refine wpAnyH_yield 18 69 (.pointer (some ⟨ga, oa + i * 9, none⟩)) rfl rfl (by kernel_rfl) (by kernel_rfl) (by kernel_rfl) (fun _ _ _ h => h) (by kernel_rfl) (fun W hW => by go_simp) (by assumption) rfl rfl ?_
                simp only [Act.put, List.setIfInBounds_toArray, List.set_cons_zero, List.set_cons_succ]
                refine wpAnyH_yield 19 70 (.pointer (some ⟨ga, oa + i * 9, none⟩)) rfl rfl (by kernel_rfl) (by kernel_rfl) (by kernel_rfl) (fun _ _ _ h => h) (by kernel_rfl) (fun W hW => by go_simp) (by assumption) rfl rfl ?_
                simp only [Act.put, List.setIfInBounds_toArray, List.set_cons_zero, List.set_cons_succ]
                refine wpAnyH_yield 20 71 (.string p.k) rfl rfl (by kernel_rfl) (by kernel_rfl) (by kernel_rfl) (fun _ _ _ h => h) (by kernel_rfl) (fun W hW => by obtain ⟨⟨c0, -⟩, -⟩ := CI1.out W hW; go_simp) (by assumption) rfl rfl ?_
                simp only [Act.put, List.setIfInBounds_toArray, List.set_cons_zero, List.set_cons_succ]
                refine wpAnyH_yield 21 72 (.slice (some ⟨ga, oa, none⟩) n ac) rfl rfl (by kernel_rfl) (by kernel_rfl) (by kernel_rfl) (fun _ _ _ h => h) (by kernel_rfl) (fun W hW => by kernel_rfl) (by assumption) rfl rfl ?_
                simp only [Act.put, List.setIfInBounds_toArray, List.set_cons_zero, List.set_cons_succ]
                refine wpAnyH_yield 22 73 (.int .i64 (i : Int)) rfl rfl (by kernel_rfl) (by kernel_rfl) (by kernel_rfl) (fun _ _ _ h => h) (by kernel_rfl) (fun W hW => by kernel_rfl) (by assumption) rfl rfl ?_
                simp only [Act.put, List.setIfInBounds_toArray, List.set_cons_zero, List.set_cons_succ]
                refine wpAnyH_yield 23 74 (.pointer (some ⟨ga, oa + i * 9, none⟩)) rfl rfl (by kernel_rfl) (by kernel_rfl) (by kernel_rfl) (fun _ _ _ h => h) (by kernel_rfl) (fun W hW => by go_simp) (by assumption) rfl rfl ?_
                simp only [Act.put, List.setIfInBounds_toArray, List.set_cons_zero, List.set_cons_succ]
                refine wpAnyH_yield 24 75 (.pointer (some ⟨ga, oa + i * 9 + 1, none⟩)) rfl rfl (by kernel_rfl) (by kernel_rfl) (by kernel_rfl) (fun _ _ _ h => h) (by kernel_rfl) (fun W hW => by go_simp) (by assumption) rfl rfl ?_
                simp only [Act.put, List.setIfInBounds_toArray, List.set_cons_zero, List.set_cons_succ]
                refine wpAnyH_yield 25 76 (.agg #[.int .i64 p.a, .int .i64 p.b]) rfl rfl (by kernel_rfl) (by kernel_rfl) (by kernel_rfl) (fun _ _ _ h => h) (by kernel_rfl) (fun W hW => by obtain ⟨⟨-, c1, c2, -⟩, -⟩ := CI1.out W hW; go_simp) (by assumption) rfl rfl ?_
                simp only [Act.put, List.setIfInBounds_toArray, List.set_cons_zero, List.set_cons_succ]
                refine wpAnyH_yield 26 77 (pnv (wpn p)) rfl rfl (by kernel_rfl) (by kernel_rfl) (by kernel_rfl) (fun _ _ _ h => h) (by kernel_rfl) (fun W hW => by kernel_rfl) (by assumption) rfl rfl ?_
                simp only [Act.put, List.setIfInBounds_toArray, List.set_cons_zero, List.set_cons_succ]
                refine wpAnyH_enter 27 78 29 #[pnv (wpn q), pnv (wpn p)] rfl rfl (by kernel_rfl) (by kernel_rfl) (by kernel_rfl) ?_
                refine ((CC.out _)).mono ?_
                rintro r w3 ⟨rfl, T3⟩
                refine ⟨_, rfl, hT0.tr T3, ?_⟩
                simp only [Act.put, List.setIfInBounds_toArray, List.set_cons_zero, List.set_cons_succ]
                have hT3 : Calm w1 w3 := hT0.tr T3
                refine wpAnyH_yield 28 79 (.bool lk) rfl rfl (by kernel_rfl) (by kernel_rfl) (by kernel_rfl) (fun _ _ _ h => h) (by kernel_rfl) (fun W hW => by have h := HLK.out; go_simp) (by assumption) rfl rfl ?_
                simp only [Act.put, List.setIfInBounds_toArray, List.set_cons_zero, List.set_cons_succ]
                refine wpAnyH_yield 29 80 (.bool lk) rfl rfl (by kernel_rfl) (by kernel_rfl) (by kernel_rfl) (fun _ _ _ h => h) (by kernel_rfl) (fun W hW => by go_simp) (by assumption) rfl rfl ?_
                simp only [Act.put, List.setIfInBounds_toArray, List.set_cons_zero, List.set_cons_succ]
                refine wpAnyH_done (by kernel_rfl) ?_ _
                have H1 := hide (hT0.tr T3)
                clear hT0 HQ T3 CC HLK CK CI1
                cases lk with
                | true =>
                  have HA2 := hide (HA1.out rfl)
                  clear HA1 HL1
                  go_wp2_with fail
                  go_roundw
                  case rel => exact ⟨k + 1, by go_num, by omega, HA2.out, H1.out⟩
                  case measure => simp [intOf]; omega
                | false =>
                  have E0 := hide (HL1.out rfl)
                  clear HA1 HL1
                  have e2 : Hid ((insW O p).length = O.length + 1) := hide (insW_len O p)
                  have EP : Hid (insW O p = O.take k ++ [p] ++ O.drop k) := hide (by unfold insW; rw [E0.out])
                  obtain ⟨so1, sc1, so2, sc2, a1, p1, w4, a2, p2, w5, a3, p3, w6, hs1, hs2, hr1, hr2, hr3, ow, C3, C5⟩ := pn_put p (Rc.Own.calm HO.out (HT1.out.tr H1.out)) k hk (by omega)
                  obtain ⟨⟨c0, c1, c2, c3, c4⟩, c5, c6, c7, c8⟩ := CI.out w4 ((HT1.out.tr H1.out).tr C3)
                  have HOW := hide (Rc.Own.base ow ((HT.out.tr HT1.out).tr H1.out).size)
                  have HTW := hide (((HT.out.tr HT1.out).tr H1.out).tr C5)
                  clear ow C3 C5 HT1 H1 HO HT hoz CI E0
                  go_wp2_with (at_builtin; first | refine Rc.wpList_appR rfl (.tmp 83) (.tmp 86) 22 22 rfl _ _ _ rfl rfl hr1 ?_ | refine Rc.wpList_appR rfl (.tmp 88) (.tmp 93) 22 22 rfl _ _ _ rfl rfl hr2 ?_ | refine Rc.wpList_appR rfl (.tmp 95) (.tmp 98) 22 22 rfl _ _ _ rfl rfl hr3 ?_)
                  go_roundw
                  case rel => exact ⟨i + 1, insW O p, a3, p3, by go_num, by omega, by rw [e2.out], by rw [e2.out]; omega, HZ1.out, by rw [e2.out, EP.out]; exact HOW.out, HTW.out⟩
                  case measure => simp [intOf]; omega
              · have hkz : ¬ (k : Int) < (O.length : Int) := by omega
                have E0 := hide (HL.out k hk hA (fun h => absurd h hkl))
                have HQ := hide TQ
                clear TQ hA SO HL hlj
                go_wp2_with fail
                refine wp_region_held (S := Calm w1) (by kernel_rfl) ?_
                have hT0 : Calm w1 { wr with drawn := wr.drawn + 1 } := HQ.out.drew
                refine wpAnyH_yield 0 51 (.int .i64 (k : Int)) rfl rfl (by kernel_rfl) (by kernel_rfl) (by kernel_rfl) (fun _ _ _ h => h) (by kernel_rfl) (fun W hW => by kernel_rfl) (by assumption) rfl rfl ?_
                simp only [Act.put, List.setIfInBounds_toArray, List.set_cons_zero, List.set_cons_succ]
                refine wpAnyH_yield 1 52 (.slice a O.length c) rfl rfl (by kernel_rfl) (by kernel_rfl) (by kernel_rfl) (fun _ _ _ h => h) (by kernel_rfl) (fun W hW => by kernel_rfl) (by assumption) rfl rfl ?_
                simp only [Act.put, List.setIfInBounds_toArray, List.set_cons_zero, List.set_cons_succ]
                refine wpAnyH_yield 2 53 (.int .i64 (O.length : Int)) rfl rfl (by kernel_rfl) (by kernel_rfl) (by kernel_rfl) (fun _ _ _ h => h) (by kernel_rfl) (fun W hW => by go_simp) (by assumption) rfl rfl ?_
                simp only [Act.put, List.setIfInBounds_toArray, List.set_cons_zero, List.set_cons_succ]
                refine wpAnyH_yield 3 54 (.bool false) rfl rfl (by kernel_rfl) (by kernel_rfl) (by kernel_rfl) (fun _ _ _ h => h) (by kernel_rfl) (fun W hW => by go_simp) (by assumption) rfl rfl ?_
                simp only [Act.put, List.setIfInBounds_toArray, List.set_cons_zero, List.set_cons_succ]
                refine wpAnyH_yield 4 55 (.bool false) rfl rfl (by kernel_rfl) (by kernel_rfl) (by kernel_rfl) (fun _ _ _ h => h) (by kernel_rfl) (fun W hW => by kernel_rfl) (by assumption) rfl rfl ?_
                simp only [Act.put, List.setIfInBounds_toArray, List.set_cons_zero, List.set_cons_succ]
                refine wpAnyH_skip 5 56 rfl rfl (by kernel_rfl) (by kernel_rfl) (by kernel_rfl) (fun _ _ _ h => h) (by kernel_rfl) (by assumption) rfl rfl ?_
                simp only [Act.put, List.setIfInBounds_toArray, List.set_cons_zero, List.set_cons_succ]
                refine wpAnyH_skip 6 57 rfl rfl (by kernel_rfl) (by kernel_rfl) (by kernel_rfl) (fun _ _ _ h => h) (by kernel_rfl) (by assumption) rfl rfl ?_
                simp only [Act.put, List.setIfInBounds_toArray, List.set_cons_zero, List.set_cons_succ]
                refine wpAnyH_skip 7 58 rfl rfl (by kernel_rfl) (by kernel_rfl) (by kernel_rfl) (fun _ _ _ h => h) (by kernel_rfl) (by assumption) rfl rfl ?_
                simp only [Act.put, List.setIfInBounds_toArray, List.set_cons_zero, List.set_cons_succ]
                refine wpAnyH_skip 8 59 rfl rfl (by kernel_rfl) (by kernel_rfl) (by kernel_rfl) (fun _ _ _ h => h) (by kernel_rfl) (by assumption) rfl rfl ?_
                simp only [Act.put, List.setIfInBounds_toArray, List.set_cons_zero, List.set_cons_succ]
                refine wpAnyH_skip 9 60 rfl rfl (by kernel_rfl) (by kernel_rfl) (by kernel_rfl) (fun _ _ _ h => h) (by kernel_rfl) (by assumption) rfl rfl ?_
                simp only [Act.put, List.setIfInBounds_toArray, List.set_cons_zero, List.set_cons_succ]
                refine wpAnyH_skip 10 61 rfl rfl (by kernel_rfl) (by kernel_rfl) (by kernel_rfl) (fun _ _ _ h => h) (by kernel_rfl) (by assumption) rfl rfl ?_
                simp only [Act.put, List.setIfInBounds_toArray, List.set_cons_zero, List.set_cons_succ]
                refine wpAnyH_skip 11 62 rfl rfl (by kernel_rfl) (by kernel_rfl) (by kernel_rfl) (fun _ _ _ h => h) (by kernel_rfl) (by assumption) rfl rfl ?_
                simp only [Act.put, List.setIfInBounds_toArray, List.set_cons_zero, List.set_cons_succ]
                refine wpAnyH_skip 12 63 rfl rfl (by kernel_rfl) (by kernel_rfl) (by kernel_rfl) (fun _ _ _ h => h) (by kernel_rfl) (by assumption) rfl rfl ?_
                simp only [Act.put, List.setIfInBounds_toArray, List.set_cons_zero, List.set_cons_succ]
                refine wpAnyH_skip 13 64 rfl rfl (by kernel_rfl) (by kernel_rfl) (by kernel_rfl) (fun _ _ _ h => h) (by kernel_rfl) (by assumption) rfl rfl ?_
                simp only [Act.put, List.setIfInBounds_toArray, List.set_cons_zero, List.set_cons_succ]
                refine wpAnyH_skip 14 65 rfl rfl (by kernel_rfl) (by kernel_rfl) (by kernel_rfl) (fun _ _ _ h => h) (by kernel_rfl) (by assumption) rfl rfl ?_
                simp only [Act.put, List.setIfInBounds_toArray, List.set_cons_zero, List.set_cons_succ]
                refine wpAnyH_skip 15 66 rfl rfl (by kernel_rfl) (by kernel_rfl) (by kernel_rfl) (fun _ _ _ h => h) (by kernel_rfl) (by assumption) rfl rfl ?_
                simp only [Act.put, List.setIfInBounds_toArray, List.set_cons_zero, List.set_cons_succ]
                refine wpAnyH_skip 16 67 rfl rfl (by kernel_rfl) (by kernel_rfl) (by kernel_rfl) (fun _ _ _ h => h) (by kernel_rfl) (by assumption) rfl rfl ?_
                simp only [Act.put, List.setIfInBounds_toArray, List.set_cons_zero, List.set_cons_succ]
                refine wpAnyH_skip 17 68 rfl rfl (by kernel_rfl) (by kernel_rfl) (by kernel_rfl) (fun _ _ _ h => h) (by kernel_rfl) (by assumption) rfl rfl ?_
                simp only [Act.put, List.setIfInBounds_toArray, List.set_cons_zero, List.set_cons_succ]
                refine wpAnyH_skip 18 69 rfl rfl (by kernel_rfl) (by kernel_rfl) (by kernel_rfl) (fun _ _ _ h => h) (by kernel_rfl) (by assumption) rfl rfl ?_
                simp only [Act.put, List.setIfInBounds_toArray, List.set_cons_zero, List.set_cons_succ]
                refine wpAnyH_skip 19 70 rfl rfl (by kernel_rfl) (by kernel_rfl) (by kernel_rfl) (fun _ _ _ h => h) (by kernel_rfl) (by assumption) rfl rfl ?_
                simp only [Act.put, List.setIfInBounds_toArray, List.set_cons_zero, List.set_cons_succ]
                refine wpAnyH_skip 20 71 rfl rfl (by kernel_rfl) (by kernel_rfl) (by kernel_rfl) (fun _ _ _ h => h) (by kernel_rfl) (by assumption) rfl rfl ?_
                simp only [Act.put, List.setIfInBounds_toArray, List.set_cons_zero, List.set_cons_succ]
                refine wpAnyH_skip 21 72 rfl rfl (by kernel_rfl) (by kernel_rfl) (by kernel_rfl) (fun _ _ _ h => h) (by kernel_rfl) (by assumption) rfl rfl ?_
                simp only [Act.put, List.setIfInBounds_toArray, List.set_cons_zero, List.set_cons_succ]
                refine wpAnyH_skip 22 73 rfl rfl (by kernel_rfl) (by kernel_rfl) (by kernel_rfl) (fun _ _ _ h => h) (by kernel_rfl) (by assumption) rfl rfl ?_
                simp only [Act.put, List.setIfInBounds_toArray, List.set_cons_zero, List.set_cons_succ]
                refine wpAnyH_skip 23 74 rfl rfl (by kernel_rfl) (by kernel_rfl) (by kernel_rfl) (fun _ _ _ h => h) (by kernel_rfl) (by assumption) rfl rfl ?_
                simp only [Act.put, List.setIfInBounds_toArray, List.set_cons_zero, List.set_cons_succ]
                refine wpAnyH_skip 24 75 rfl rfl (by kernel_rfl) (by kernel_rfl) (by kernel_rfl) (fun _ _ _ h => h) (by kernel_rfl) (by assumption) rfl rfl ?_
                simp only [Act.put, List.setIfInBounds_toArray, List.set_cons_zero, List.set_cons_succ]
                refine wpAnyH_skip 25 76 rfl rfl (by kernel_rfl) (by kernel_rfl) (by kernel_rfl) (fun _ _ _ h => h) (by kernel_rfl) (by assumption) rfl rfl ?_
                simp only [Act.put, List.setIfInBounds_toArray, List.set_cons_zero, List.set_cons_succ]
                refine wpAnyH_skip 26 77 rfl rfl (by kernel_rfl) (by kernel_rfl) (by kernel_rfl) (fun _ _ _ h => h) (by kernel_rfl) (by assumption) rfl rfl ?_
                simp only [Act.put, List.setIfInBounds_toArray, List.set_cons_zero, List.set_cons_succ]
                refine wpAnyH_skip 27 78 rfl rfl (by kernel_rfl) (by kernel_rfl) (by kernel_rfl) (fun _ _ _ h => h) (by kernel_rfl) (by assumption) rfl rfl ?_
                simp only [Act.put, List.setIfInBounds_toArray, List.set_cons_zero, List.set_cons_succ]
                refine wpAnyH_skip 28 79 rfl rfl (by kernel_rfl) (by kernel_rfl) (by kernel_rfl) (fun _ _ _ h => h) (by kernel_rfl) (by assumption) rfl rfl ?_
                simp only [Act.put, List.setIfInBounds_toArray, List.set_cons_zero, List.set_cons_succ]
                refine wpAnyH_yield 29 80 (.bool false) rfl rfl (by kernel_rfl) (by kernel_rfl) (by kernel_rfl) (fun _ _ _ h => h) (by kernel_rfl) (fun W hW => by go_simp) (by assumption) rfl rfl ?_
                simp only [Act.put, List.setIfInBounds_toArray, List.set_cons_zero, List.set_cons_succ]
                refine wpAnyH_done (by kernel_rfl) ?_ _
                have H1 := hide hT0
                clear hT0 HQ
                generalize ({ wr with drawn := wr.drawn + 1 } : World) = w3 at *
                have e2 : Hid ((insW O p).length = O.length + 1) := hide (insW_len O p)
                have EP : Hid (insW O p = O.take k ++ [p] ++ O.drop k) := hide (by unfold insW; rw [E0.out])
                obtain ⟨so1, sc1, so2, sc2, a1, p1, w4, a2, p2, w5, a3, p3, w6, hs1, hs2, hr1, hr2, hr3, ow, C3, C5⟩ := pn_put p (Rc.Own.calm HO.out (HT1.out.tr H1.out)) k hk (by omega)
                obtain ⟨⟨c0, c1, c2, c3, c4⟩, c5, c6, c7, c8⟩ := CI.out w4 ((HT1.out.tr H1.out).tr C3)
                have HOW := hide (Rc.Own.base ow ((HT.out.tr HT1.out).tr H1.out).size)
                have HTW := hide (((HT.out.tr HT1.out).tr H1.out).tr C5)
                clear ow C3 C5 HT1 H1 HO HT hoz CI E0
                go_wp2_with (at_builtin; first | refine Rc.wpList_appR rfl (.tmp 83) (.tmp 86) 22 22 rfl _ _ _ rfl rfl hr1 ?_ | refine Rc.wpList_appR rfl (.tmp 88) (.tmp 93) 22 22 rfl _ _ _ rfl rfl hr2 ?_ | refine Rc.wpList_appR rfl (.tmp 95) (.tmp 98) 22 22 rfl _ _ _ rfl rfl hr3 ?_)
                go_roundw
                case rel => exact ⟨i + 1, insW O p, a3, p3, by go_num, by omega, by rw [e2.out], by rw [e2.out]; omega, HZ1.out, by rw [e2.out, EP.out]; exact HOW.out, HTW.out⟩
                case measure => simp [intOf]; omega
    · have hltz : ¬ (i : Int) < (n : Int) := by omega
      obtain rfl : i = n := by omega
      have HO := hide OW
      have HT := hide TE
      have hz : O = Z := by rw [← OE.out O]; exact hoz
      clear SA OS OW TE O0 OE LZ LN hoz
      go_wp2_with fail
      go_ret
      exact ⟨a, c, by rw [← hz]; rfl, by rw [← hz]; exact HO.out, HT.out⟩

end Go.Proofs.YtamfcmmhmfhhkaaGreatDoor

namespace Go.Proofs.YtamfcmmhmfhhkaaGreatDoor
open Go.RowKit

theorem own_bd {α : Type} {E : Rc.Enc α} {e : TypeId} {w : World} {base : Nat} {v : Value} {L : List α} (h : E.Own e w base v L) {g : Nat} (hg : v.ownBlock = some g) : base ≤ g ∧ g < w.heap.size := by
  obtain ⟨h1, cur, hc⟩ := Rc.own_block h hg
  exact ⟨h1, lt_of_heap hc⟩
theorem own_keep {α : Type} {E : Rc.Enc α} {e : TypeId} {w w' : World} {base : Nat} {v : Value} {L : List α} {S : Nat → Prop} (h : E.Own e w base v L) (ht : Touch S w w') (hS : ∀ g, base ≤ g → g < w.heap.size → ¬ S g) : E.Own e w' base v L :=
  Rc.Own.touch h ht fun g hg => hS g (own_bd h hg).1 (own_bd h hg).2

end Go.Proofs.YtamfcmmhmfhhkaaGreatDoor
