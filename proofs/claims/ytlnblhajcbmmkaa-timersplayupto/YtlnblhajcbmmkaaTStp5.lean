/- What is due stands at the front of a sorted list. The verifier's step: kind 5. -/
import Derived.Test.YtlnblhajcbmmkaaTStep
namespace Go.Proofs.Ytlnblhajcbmmkaa
open Go.RowKit

theorem dueT_cons (u : Int) (x : Tm) (L : List Tm) : dueT u (x :: L) = if x.at_ ≤ u then dueT u L + 1 else 0 := by
  unfold dueT tw
  by_cases h : x.at_ ≤ u
  · rw [if_pos h, List.takeWhile_cons_of_pos (by simpa using h)]; rfl
  · rw [if_neg h, List.takeWhile_cons_of_neg (by simpa using h)]; rfl

theorem due_split (u : Int) : ∀ {L : List Tm}, Srt L → (∀ x, x ∈ L.take (dueT u L) ↔ x ∈ L ∧ x.at_ ≤ u) ∧ (∀ x, x ∈ L.drop (dueT u L) ↔ x ∈ L ∧ u < x.at_)
  | [], _ => ⟨fun x => by simp, fun x => by simp⟩
  | y :: L, h => by
    obtain ⟨h1, h2⟩ := List.pairwise_cons.1 h
    obtain ⟨i1, i2⟩ := due_split u h2
    rw [dueT_cons]
    by_cases hy : y.at_ ≤ u
    · rw [if_pos hy, List.take_succ_cons, List.drop_succ_cons]
      refine ⟨fun x => ?_, fun x => ?_⟩
      · rw [List.mem_cons, List.mem_cons, i1]
        constructor
        · rintro (rfl | ⟨a, b⟩)
          · exact ⟨.inl rfl, hy⟩
          · exact ⟨.inr a, b⟩
        · rintro ⟨rfl | a, b⟩
          · exact .inl rfl
          · exact .inr ⟨a, b⟩
      · rw [List.mem_cons, i2]
        constructor
        · rintro ⟨a, b⟩; exact ⟨.inr a, b⟩
        · rintro ⟨rfl | a, b⟩
          · omega
          · exact ⟨a, b⟩
    · rw [if_neg hy]
      have hall : ∀ x ∈ y :: L, u < x.at_ := fun x hx => by
        rcases List.mem_cons.1 hx with rfl | hx
        · omega
        · have := cmp_at (h1 x hx); omega
      refine ⟨fun x => ?_, fun x => ?_⟩
      · simp only [List.take_zero, List.not_mem_nil, false_iff]
        rintro ⟨a, b⟩
        have := hall x a
        omega
      · simp only [List.drop_zero]
        exact ⟨fun a => ⟨a, hall x a⟩, fun a => a.1⟩

/-- What the queue hands over as due is the list's front; what is left is its rest. -/
theorem due_front {V L D V1 : List Tm} {u : Int} (h : Srt L) (hm : ∀ z, z ∈ V ↔ z ∈ L) (hd : D.Pairwise fun a b => cmpT a b < 0) (md : ∀ x, x ∈ D ↔ x ∈ V ∧ x.at_ ≤ u) (m1 : ∀ x, x ∈ V1 ↔ x ∈ V ∧ u < x.at_) :
    D = L.take (dueT u L) ∧ Srt (L.drop (dueT u L)) ∧ ∀ x, x ∈ V1 ↔ x ∈ L.drop (dueT u L) := by
  obtain ⟨a, b⟩ := due_split u h
  exact ⟨sorted_ext hd (List.Pairwise.sublist (List.take_sublist _ _) h) (fun x => by rw [md, a, hm]), List.Pairwise.sublist (List.drop_sublist _ _) h, fun x => by rw [m1, b, hm]⟩

/-- A list in memory of its own has been laid for side k. -/
theorem Wd.lay {w w1 w3 : World} {b k q : Nat} {F : Nat → Prop} {V V1 L L' : List Tm} {lo lo' : Option Addr} {lc lc' : Nat} {x y u v : Value} (h : Wd w b k q F V L lo lc x y u v) (hk : k < 2) (t1 : Touch F w w1) (tq1 : Tq w1 q F V1)
    (t3 : Calm w1 w3) (srt' : Srt L') (mem' : ∀ z, z ∈ V1 ↔ z ∈ L') (rl' : Rl w3 lo' lc' L') (loc : ∀ a, lo' = some a → w1.heap.size ≤ a.block) :
    Wd (w3.setCell ⟨b, 2 + k, none⟩ (.slice lo' L'.length lc')) b k q F V1 L' lo' lc' x y u v ∧ Touch (fun g => F g ∨ g = b) w (w3.setCell ⟨b, 2 + k, none⟩ (.slice lo' L'.length lc')) := by
  have hb := lt_of_heap h.own
  have hb3 := t3.at (t1.heap h.own h.fb)
  have ts : Touch (fun g => g = b) w3 (w3.setCell ⟨b, 2 + k, none⟩ (.slice lo' L'.length lc')) := (Touch.refl (fun g => g = b) w3).setCell (p := ⟨b, 2 + k, none⟩) (fun _ => rfl) _
  have hrow : ∀ a, lo' = some a → L' ≠ [] → ¬ F a.block ∧ a.block ≠ b := fun a ha hn => by
    have h1 := loc a ha
    have hs := t1.size
    exact ⟨fun e => by have := h.tq.lt _ e; omega, by omega⟩
  exact ⟨⟨wb_set hk hb3, (tq1.calm t3).touch ts (fun g e => by rw [e]; exact h.fb), rl'.touch ts (fun a ha hn e => (hrow a ha hn).2 e), srt', mem', hrow, h.fb⟩, ((t1.mono (fun _ _ h => .inl h)).trans (t3.mono (S' := fun g => F g ∨ g = b) (fun _ _ h => h.elim)) (fun _ _ h => h)).trans (ts.mono (S' := fun g => F g ∨ g = b) (fun _ _ h => .inr h)) (fun _ _ h => h)⟩

end Go.Proofs.Ytlnblhajcbmmkaa

namespace Go.Proofs.Ytlnblhajcbmmkaa
open Go.RowKit

set_option maxRecDepth 100000 in
set_option maxHeartbeats 2000000 in
theorem step5_0 (b q : Nat) (F : Nat → Prop) (V L : List Tm) (lo : Option Addr) (lc : Nat) (x y u v : Value) (on leave : Int) (t tu : Tm) (upto : Int) (w : World) (h : Wd w b 0 q F V L lo lc x y u v) (hk : kOf on = 0) (gt : Good t) (gu : Good tu) (hl : L.length < 3518437208780) :
    Calls Try.prog 11 #[.pointer (some ⟨b, 0, none⟩), sv ⟨5, on, leave, t, tu, upto⟩] w (StpR w b 0 q F L lo x y u v) := by
  obtain ⟨s, es⟩ : ∃ s : Sp, s = ⟨5, on, leave, t, tu, upto⟩ := ⟨_, rfl⟩
  have hB := heap_alloc_last w (.cells (sc ⟨5, on, leave, t, tu, upto⟩) 41)
  have tA : Calm w (w.alloc (.cells (sc ⟨5, on, leave, t, tu, upto⟩) 41)) := (Touch.refl _ _).alloc _
  have HVL := hide h.len
  have HW := hide h
  have HLT : Hid (¬ F w.heap.size) := hide (fun e => by have := h.tq.lt _ e; omega)
  have edt : ∀ z, decide (z ∈ V) = decide (z ∈ L) := fun z => decide_eq_decide.2 (h.mem z)
  have HL9 := hide hl
  have HTA := hide tA
  have HHB := hide hB
  have hlv : V.length < 3518437208790 := by have := h.len; omega
  have DU := hide (due_any q F V upto _ (h.tq.calm tA) hlv)
  obtain ⟨n, hn⟩ : ∃ n, L.length = n := ⟨_, rfl⟩
  have HN := hide hn
  obtain ⟨d0, d1, d2, ⟨d3, d4, d5, d6⟩, ⟨d7, d8, d9, d10⟩, d11⟩ := cells12 hB
  obtain ⟨e0, e1, e2, e3, e4, e5⟩ := cells6 (show (w.alloc (.cells (sc ⟨5, on, leave, t, tu, upto⟩) 41)).heap[b]? = some (.cells #[.pointer (some ⟨q, 0, none⟩), x, .slice lo n lc, y, u, v] 31 (0, 0)) from by have h9 := tA.at h.own; rw [hn] at h9; exact h9)
  have HGT := hide gt
  have HGU := hide gu
  unfold kOf at hk
  simp only at d0 d1 d2 d3 d4 d5 d6 d7 d8 d9 d10 d11
  clear h hB tA hl hlv gt gu hn es s
  go_enter Try.func11, Try.ntmps11
  go_wp2_with fail
  refine DU.out.mono ?_
  rintro e w1 ⟨D, V1, aoD, capD, rfl, owD, tq1, srtD, md, m1, t1⟩
  obtain ⟨eD, sD, mD⟩ := due_front HW.out.srt HW.out.mem srtD md m1
  obtain ⟨d, ed⟩ : ∃ d, dueT upto L = d := ⟨_, rfl⟩
  have hdL : d ≤ L.length := by rw [← ed]; exact tw_le _ _
  rw [ed] at eD sD mD
  have eDl : D.length = d := by rw [eD, List.length_take]; omega
  have T1 : Hid (Touch F w w1) := hide ((HTA.out.mono (S' := F) (fun _ _ h => h.elim)).trans t1 (fun _ _ h => h))
  have HS1 : Hid (w1.heap[w.heap.size]? = some (.cells (sc ⟨5, on, leave, t, tu, upto⟩) 41 (0, 0))) := hide (t1.heap HHB.out HLT.out)
  have R1 := hide (HW.out.rl.touch T1.out (fun a ha hn => (HW.out.row a ha hn).1))
  have OW1 : Hid (w1.heap[b]? = some (.cells #[.pointer (some ⟨q, 0, none⟩), x, .slice lo n lc, y, u, v] 31 (0, 0))) := hide (by have h9 := T1.out.heap HW.out.own HW.out.fb; rw [HN.out] at h9; exact h9)
  have RD := hide (rdue_any lo lc L upto w1 R1.out.tms (by have := HL9.out; omega))
  rw [HN.out, ed] at RD
  have hdl2 : d < 4611686018427387904 := by have := HL9.out; omega
  have hst : Tms w1 lo (L.take d) := R1.out.tms.take d
  rw [← eD] at hst
  have SM := hide (same_any aoD lo capD lc D w1 (OwnT.prs owD).2.1 hst (by rw [eDl]; exact hdl2))
  rw [eDl] at SM
  have hsl := tslice_to (ao := lo) (cap := lc) (k := d) (n := n) R1.out.spot (Nat.le_trans hdL R1.out.cap.1) w1
  obtain ⟨so, sc', hsf, hts, hsn⟩ := tslice_from R1.out (k := d) hdL
  rw [HN.out] at hsf hdL
  have TQ1 := hide tq1
  have HSD := hide sD
  have HMD := hide mD
  have OWD := hide owD
  have HED := hide eDl
  have HSF := hide hsf
  have HTS := hide hts
  have HSN := hide hsn
  have HDN := hide hdL
  rw [eDl]
  clear tq1 sD mD owD eDl hsf hts hsn srtD md m1 t1 eD hst hdl2 DU edt ed d0 d1 d2 d3 d4 d5 d6 d7 d8 d9 d10 d11 e0 e1 e2 e3 e4 e5 hdL
  obtain ⟨-, -, -, -, -, d11⟩ := cells12 HS1.out
  simp only at d11
  obtain ⟨B, eB⟩ : ∃ B, B = w.heap.size := ⟨_, rfl⟩
  rw [← eB] at HS1 d11 ⊢
  clear eB
  go_wp2_with fail
  refine RD.out.mono ?_
  rintro e w' ⟨rfl, hq⟩
  obtain rfl := hq.symm
  clear hq d11 RD
  go_wp2_with fail
  refine SM.out.mono ?_
  rintro e w2 ⟨rfl, t2⟩
  have T2 := hide t2
  have OW2 := hide (t2.at OW1.out)
  clear t2 SM hsl
  go_wp2_with fail
  refine wp_only ?_
  refine wp_region_z 9 (Calm w2) (by kernel_rfl) ?_
  have ty0 : Calm w2 { w2 with drawn := w2.drawn + 1 } := (Touch.refl (fun _ => False) w2).drew
  refine wpAnyZ_yield 0 190 (.pointer (some ⟨b, 0, none⟩)) [6,7,8,9] rfl rfl (by kernel_rfl) (by kernel_rfl) (by kernel_rfl) (by kernel_rfl) (by kernel_rfl) (fun _ _ _ h => h) (by kernel_rfl) (fun W hW => by kernel_rfl) (by assumption) rfl rfl ?_
  simp only [Act.put, List.setIfInBounds_toArray, List.set_cons_zero, List.set_cons_succ]
  refine wpAnyZ_yield 1 191 (.int .i64 0) [8,9] rfl rfl (by kernel_rfl) (by kernel_rfl) (by kernel_rfl) (by kernel_rfl) (by kernel_rfl) (fun _ _ _ h => h) (by kernel_rfl) (fun W hW => by kernel_rfl) (by assumption) rfl rfl ?_
  simp only [Act.put, List.setIfInBounds_toArray, List.set_cons_zero, List.set_cons_succ]
  refine wpAnyZ_yield 2 192 (.slice lo n lc) [4,5,9] rfl rfl (by kernel_rfl) (by kernel_rfl) (by kernel_rfl) (by kernel_rfl) (by kernel_rfl) (fun _ _ _ h => h) (by kernel_rfl) (fun W hW => by kernel_rfl) (by assumption) rfl rfl ?_
  simp only [Act.put, List.setIfInBounds_toArray, List.set_cons_zero, List.set_cons_succ]
  refine wpAnyZ_yield 3 193 (.int .i64 (d : Int)) [4,5,9] rfl rfl (by kernel_rfl) (by kernel_rfl) (by kernel_rfl) (by kernel_rfl) (by kernel_rfl) (fun _ _ _ h => h) (by kernel_rfl) (fun W hW => by kernel_rfl) (by assumption) rfl rfl ?_
  simp only [Act.put, List.setIfInBounds_toArray, List.set_cons_zero, List.set_cons_succ]
  refine wpAnyZ_yield 4 194 (.slice so (n - d) sc') [5,9] rfl rfl (by kernel_rfl) (by kernel_rfl) (by kernel_rfl) (by kernel_rfl) (by kernel_rfl) (fun _ _ _ h => h) (by kernel_rfl) (fun W hW => by have hx := HSF.out W; go_simp) (by assumption) rfl rfl ?_
  simp only [Act.put, List.setIfInBounds_toArray, List.set_cons_zero, List.set_cons_succ]
  refine wpAnyZ_yield 6 196 (.pointer (some ⟨b, 0, none⟩)) [7,8,9] rfl rfl (by kernel_rfl) (by kernel_rfl) (by kernel_rfl) (by kernel_rfl) (by kernel_rfl) (fun _ _ _ h => h) (by kernel_rfl) (fun W hW => by go_simp) (by assumption) rfl rfl ?_
  simp only [Act.put, List.setIfInBounds_toArray, List.set_cons_zero, List.set_cons_succ]
  refine wpAnyZ_yield 7 197 (.pointer (some ⟨b, 2, none⟩)) [8,9] rfl rfl (by kernel_rfl) (by kernel_rfl) (by kernel_rfl) (by kernel_rfl) (by kernel_rfl) (fun _ _ _ h => h) (by kernel_rfl) (fun W hW => by go_simp) (by assumption) rfl rfl ?_
  simp only [Act.put, List.setIfInBounds_toArray, List.set_cons_zero, List.set_cons_succ]
  have hlr : (L.drop d).length = n - d := by rw [List.length_drop, HN.out]
  obtain ⟨ao3, cap3, w3, hr3, ow3, t3, -⟩ := run_tapp { w2 with drawn := w2.drawn + 1 } ({ w2 with drawn := w2.drawn + 1 } : World).heap.size 22 (.slice none 0 0) [] (World.ownsRow_nil _ _ _ _) so sc' (L.drop d) ((HTS.out.calm T2.out).calm ty0) HSN.out (by have := HL9.out; have := HN.out; rw [hlr]; simp; omega) (Nat.le_refl _)
  have ow3L : OwnT w3 ({ w2 with drawn := w2.drawn + 1 } : World).heap.size (.slice ao3 (L.drop d).length cap3) (L.drop d) := ow3
  rw [List.nil_append, hlr] at hr3
  have ty3 : Calm w2 w3 := ty0.tr (t3.mono (fun g _ h => by cases h))
  refine wpAnyZ_value 5 195 (.slice ao3 (n - d) cap3) (w' := w3) rfl rfl (by decide) (by kernel_rfl) (by kernel_rfl) (exec_tapp rfl hr3) ty3 ?_
  simp only [Act.put, List.setIfInBounds_toArray, List.set_cons_zero, List.set_cons_succ]
  refine wpAnyZ_yield 8 198 (.pointer (some ⟨b, 2, none⟩)) [9] rfl rfl (by kernel_rfl) (by kernel_rfl) (by kernel_rfl) (by kernel_rfl) (by kernel_rfl) (fun _ _ _ h => h) (by kernel_rfl) (fun W hW => by go_simp) (by assumption) rfl rfl ?_
  simp only [Act.put, List.setIfInBounds_toArray, List.set_cons_zero, List.set_cons_succ]
  have WL := HW.out.lay (k := 0) (by decide) T1.out TQ1.out (T2.out.tr ty3) HSD.out HMD.out ow3L.rl.1 (fun a ha => Nat.le_trans (T2.out.tr ty0).size (ow3L.rl.2 a ha))
  rw [hlr] at WL
  obtain ⟨wl, tl⟩ := WL
  have HA3 : Hid (∀ a, ao3 = some a → w1.heap.size ≤ a.block) := hide (fun a ha => Nat.le_trans (T2.out.tr ty0).size (ow3L.rl.2 a ha))
  have HAD : Hid (∀ a, aoD = some a → w.heap.size < a.block ∧ a.block < w1.heap.size) := hide (fun a ha => by
    obtain ⟨_, _, h3, cs, h4⟩ := (OwnT.prs OWD.out).2.2.1 a ha
    have h5 := lt_of_heap h4
    simp at h3
    exact ⟨by omega, h5⟩)
  have HBW : Hid (b < w.heap.size) := hide (lt_of_heap HW.out.own)
  have OD4 : Hid (∃ D' : List Tm, D'.length = d ∧ OwnT (w3.setCell ⟨b, 2, none⟩ (.slice ao3 (n - d) cap3)) 0 (.slice aoD d capD) D') := hide ⟨D, HED.out, by
    have h1 : OwnT w1 0 (.slice aoD d capD) D := by have h2 := OWD.out.low; rw [HED.out] at h2; exact h2
    refine (h1.calm (T2.out.tr ty3)).touch ((Touch.refl (fun g => g = b) w3).setCell (p := ⟨b, 2, none⟩) (fun _ => rfl) _) (fun g hg e => ?_)
    cases aoD with
    | none => cases hg
    | some a =>
      have h3 := (HAD.out a rfl).1
      have h4 : a.block = g := by simpa [Value.ownBlock] using hg
      have h5 := HBW.out
      omega⟩
  have WL4 := hide wl
  have TL4 := hide tl
  have HDN2 : Hid (d < 3518437208790) := hide (by have := HDN.out; have := HN.out; have := HL9.out; omega)
  clear wl tl hr3 ow3 ow3L t3 hlr
  refine wpAnyZ_end rfl (by kernel_rfl) (by kernel_rfl) (by kernel_rfl) ?_
  have OW3 := ty3.at OW2.out
  obtain ⟨e0, e1, e2, e3, e4, e5⟩ := cells6 OW3
  have fz : w3.frozen? ⟨b, 2, none⟩ = false := by simp [World.frozen?, OW3]
  unfold Oper.wp
  go_simp
  rw [onlyN_normal]
  clear OW3 ty0 ty3 e0 e1 e2 e3 e4 e5 fz
  go_wp2_with fail
  generalize w3.setCell ⟨b, 2, none⟩ (.slice ao3 (n - d) cap3) = w4 at *
  go_loopw [21] (fun i wr => ∃ j : Nat, i = .int .i64 (j : Int) ∧ j ≤ d ∧ Wd wr b 0 q F V1 (L.drop d) ao3 cap3 x y u v ∧ (∃ D' : List Tm, D'.length = d ∧ OwnT wr 0 (.slice aoD d capD) D') ∧ Touch (fun g => F g ∨ g = b) w wr) (fun i _ => d - (intOf i).toNat)
  case atStart => exact ⟨0, rfl, Nat.zero_le _, WL4.out, OD4.out, TL4.out⟩
  case round =>
    obtain ⟨j, rfl, hj, wd, ⟨D', hD', od⟩, tt⟩ := hrel
    by_cases hlt : j < d
    · have hlt' : (j : Int) < (d : Int) := by omega
      have hjD : j < D'.length := by omega
      obtain ⟨g, off, rfl, -⟩ := od.prs.2.1 j hjD
      obtain ⟨_, s2, _, cs, hcs⟩ := od.prs.2.2.1 _ rfl
      simp only at s2 hcs
      subst s2
      obtain ⟨g', off', e', c0, c1, c2, c3⟩ := od.prs.2.1 j hjD
      injection e' with e'
      injection e' with e1' e2'
      subst e1' e2'
      rw [Nat.zero_add] at c0 c1 c2 c3
      have f0 : ∀ o, wr.frozen? ⟨g, o, none⟩ = false := fun o => by simp [World.frozen?, hcs]
      have z0 := f0 (j * 4)
      have z1 := f0 (j * 4 + 1)
      have z2 := f0 (j * 4 + 2)
      have z3 := f0 (j * 4 + 3)
      obtain ⟨ow, ts⟩ := OwnT.set od hjD ⟨-99, { data := #[] }, 0, 0⟩ rfl
      simp only at ow ts
      obtain ⟨hg1, hg2⟩ := HAD.out _ rfl
      simp only at hg1 hg2
      have WD' := hide (wd.turn ts (fun z hz e => by rw [hz] at e; have := HW.out.tq.lt _ e; omega) (fun e => by have := HBW.out; omega) (fun a ha _ e => by have := HA3.out a ha; omega))
      have OD' : Hid (∃ D2 : List Tm, D2.length = d ∧ OwnT _ 0 (.slice (some ⟨g, 0, none⟩) d capD) D2) := hide ⟨_, by rw [List.length_set]; exact hD', ow⟩
      have TT' := hide (tt.trans ts (fun z hz e => by omega))
      have SW := hide (succ_k hlt HDN2.out)
      clear ow ts wd od tt f0 hcs cs hg1 hg2
      go_wp2_with fail
      go_roundw
      case rel => exact ⟨j + 1, by rw [SW.out], hlt, WD'.out, OD'.out, TT'.out⟩
      case measure => rw [SW.out]; simp [intOf]; omega
    · have hnl : ¬ (j : Int) < (d : Int) := by omega
      have RES : Hid (StpR w b 0 q F L lo x y u v (.returned (.bool true)) wr) := hide ⟨rfl, F, V1, L.drop d, ao3, cap3, wd, by rw [List.length_drop]; omega, fun _ h => .inl h, fun a ha => .inr (Nat.le_trans T1.out.size (HA3.out a ha)), tt⟩
      clear wd od tt
      go_wp2_with fail
      go_ret
      exact RES.out

set_option maxRecDepth 100000 in
set_option maxHeartbeats 2000000 in
theorem step5_1 (b q : Nat) (F : Nat → Prop) (V L : List Tm) (lo : Option Addr) (lc : Nat) (x y u v : Value) (on leave : Int) (t tu : Tm) (upto : Int) (w : World) (h : Wd w b 1 q F V L lo lc x y u v) (hk : kOf on = 1) (gt : Good t) (gu : Good tu) (hl : L.length < 3518437208780) :
    Calls Try.prog 11 #[.pointer (some ⟨b, 0, none⟩), sv ⟨5, on, leave, t, tu, upto⟩] w (StpR w b 1 q F L lo x y u v) := by
  obtain ⟨s, es⟩ : ∃ s : Sp, s = ⟨5, on, leave, t, tu, upto⟩ := ⟨_, rfl⟩
  have hB := heap_alloc_last w (.cells (sc ⟨5, on, leave, t, tu, upto⟩) 41)
  have tA : Calm w (w.alloc (.cells (sc ⟨5, on, leave, t, tu, upto⟩) 41)) := (Touch.refl _ _).alloc _
  have HVL := hide h.len
  have HW := hide h
  have HLT : Hid (¬ F w.heap.size) := hide (fun e => by have := h.tq.lt _ e; omega)
  have edt : ∀ z, decide (z ∈ V) = decide (z ∈ L) := fun z => decide_eq_decide.2 (h.mem z)
  have HL9 := hide hl
  have HTA := hide tA
  have HHB := hide hB
  have hlv : V.length < 3518437208790 := by have := h.len; omega
  have DU := hide (due_any q F V upto _ (h.tq.calm tA) hlv)
  obtain ⟨n, hn⟩ : ∃ n, L.length = n := ⟨_, rfl⟩
  have HN := hide hn
  obtain ⟨d0, d1, d2, ⟨d3, d4, d5, d6⟩, ⟨d7, d8, d9, d10⟩, d11⟩ := cells12 hB
  obtain ⟨e0, e1, e2, e3, e4, e5⟩ := cells6 (show (w.alloc (.cells (sc ⟨5, on, leave, t, tu, upto⟩) 41)).heap[b]? = some (.cells #[x, .pointer (some ⟨q, 0, none⟩), y, .slice lo n lc, u, v] 31 (0, 0)) from by have h9 := tA.at h.own; rw [hn] at h9; exact h9)
  have HGT := hide gt
  have HGU := hide gu
  unfold kOf at hk
  simp only at d0 d1 d2 d3 d4 d5 d6 d7 d8 d9 d10 d11
  clear h hB tA hl hlv gt gu hn es s
  go_enter Try.func11, Try.ntmps11
  go_wp2_with fail
  refine DU.out.mono ?_
  rintro e w1 ⟨D, V1, aoD, capD, rfl, owD, tq1, srtD, md, m1, t1⟩
  obtain ⟨eD, sD, mD⟩ := due_front HW.out.srt HW.out.mem srtD md m1
  obtain ⟨d, ed⟩ : ∃ d, dueT upto L = d := ⟨_, rfl⟩
  have hdL : d ≤ L.length := by rw [← ed]; exact tw_le _ _
  rw [ed] at eD sD mD
  have eDl : D.length = d := by rw [eD, List.length_take]; omega
  have T1 : Hid (Touch F w w1) := hide ((HTA.out.mono (S' := F) (fun _ _ h => h.elim)).trans t1 (fun _ _ h => h))
  have HS1 : Hid (w1.heap[w.heap.size]? = some (.cells (sc ⟨5, on, leave, t, tu, upto⟩) 41 (0, 0))) := hide (t1.heap HHB.out HLT.out)
  have R1 := hide (HW.out.rl.touch T1.out (fun a ha hn => (HW.out.row a ha hn).1))
  have OW1 : Hid (w1.heap[b]? = some (.cells #[x, .pointer (some ⟨q, 0, none⟩), y, .slice lo n lc, u, v] 31 (0, 0))) := hide (by have h9 := T1.out.heap HW.out.own HW.out.fb; rw [HN.out] at h9; exact h9)
  have RD := hide (rdue_any lo lc L upto w1 R1.out.tms (by have := HL9.out; omega))
  rw [HN.out, ed] at RD
  have hdl2 : d < 4611686018427387904 := by have := HL9.out; omega
  have hst : Tms w1 lo (L.take d) := R1.out.tms.take d
  rw [← eD] at hst
  have SM := hide (same_any aoD lo capD lc D w1 (OwnT.prs owD).2.1 hst (by rw [eDl]; exact hdl2))
  rw [eDl] at SM
  have hsl := tslice_to (ao := lo) (cap := lc) (k := d) (n := n) R1.out.spot (Nat.le_trans hdL R1.out.cap.1) w1
  obtain ⟨so, sc', hsf, hts, hsn⟩ := tslice_from R1.out (k := d) hdL
  rw [HN.out] at hsf hdL
  have TQ1 := hide tq1
  have HSD := hide sD
  have HMD := hide mD
  have OWD := hide owD
  have HED := hide eDl
  have HSF := hide hsf
  have HTS := hide hts
  have HSN := hide hsn
  have HDN := hide hdL
  rw [eDl]
  clear tq1 sD mD owD eDl hsf hts hsn srtD md m1 t1 eD hst hdl2 DU edt ed d0 d1 d2 d3 d4 d5 d6 d7 d8 d9 d10 d11 e0 e1 e2 e3 e4 e5 hdL
  obtain ⟨-, -, -, -, -, d11⟩ := cells12 HS1.out
  simp only at d11
  obtain ⟨B, eB⟩ : ∃ B, B = w.heap.size := ⟨_, rfl⟩
  rw [← eB] at HS1 d11 ⊢
  clear eB
  go_wp2_with fail
  refine RD.out.mono ?_
  rintro e w' ⟨rfl, hq⟩
  obtain rfl := hq.symm
  clear hq d11 RD
  go_wp2_with fail
  refine SM.out.mono ?_
  rintro e w2 ⟨rfl, t2⟩
  have T2 := hide t2
  have OW2 := hide (t2.at OW1.out)
  clear t2 SM hsl
  go_wp2_with fail
  refine wp_only ?_
  refine wp_region_z 9 (Calm w2) (by kernel_rfl) ?_
  have ty0 : Calm w2 { w2 with drawn := w2.drawn + 1 } := (Touch.refl (fun _ => False) w2).drew
  refine wpAnyZ_yield 0 190 (.pointer (some ⟨b, 0, none⟩)) [6,7,8,9] rfl rfl (by kernel_rfl) (by kernel_rfl) (by kernel_rfl) (by kernel_rfl) (by kernel_rfl) (fun _ _ _ h => h) (by kernel_rfl) (fun W hW => by kernel_rfl) (by assumption) rfl rfl ?_
  simp only [Act.put, List.setIfInBounds_toArray, List.set_cons_zero, List.set_cons_succ]
  refine wpAnyZ_yield 1 191 (.int .i64 1) [8,9] rfl rfl (by kernel_rfl) (by kernel_rfl) (by kernel_rfl) (by kernel_rfl) (by kernel_rfl) (fun _ _ _ h => h) (by kernel_rfl) (fun W hW => by kernel_rfl) (by assumption) rfl rfl ?_
  simp only [Act.put, List.setIfInBounds_toArray, List.set_cons_zero, List.set_cons_succ]
  refine wpAnyZ_yield 2 192 (.slice lo n lc) [4,5,9] rfl rfl (by kernel_rfl) (by kernel_rfl) (by kernel_rfl) (by kernel_rfl) (by kernel_rfl) (fun _ _ _ h => h) (by kernel_rfl) (fun W hW => by kernel_rfl) (by assumption) rfl rfl ?_
  simp only [Act.put, List.setIfInBounds_toArray, List.set_cons_zero, List.set_cons_succ]
  refine wpAnyZ_yield 3 193 (.int .i64 (d : Int)) [4,5,9] rfl rfl (by kernel_rfl) (by kernel_rfl) (by kernel_rfl) (by kernel_rfl) (by kernel_rfl) (fun _ _ _ h => h) (by kernel_rfl) (fun W hW => by kernel_rfl) (by assumption) rfl rfl ?_
  simp only [Act.put, List.setIfInBounds_toArray, List.set_cons_zero, List.set_cons_succ]
  refine wpAnyZ_yield 4 194 (.slice so (n - d) sc') [5,9] rfl rfl (by kernel_rfl) (by kernel_rfl) (by kernel_rfl) (by kernel_rfl) (by kernel_rfl) (fun _ _ _ h => h) (by kernel_rfl) (fun W hW => by have hx := HSF.out W; go_simp) (by assumption) rfl rfl ?_
  simp only [Act.put, List.setIfInBounds_toArray, List.set_cons_zero, List.set_cons_succ]
  refine wpAnyZ_yield 6 196 (.pointer (some ⟨b, 0, none⟩)) [7,8,9] rfl rfl (by kernel_rfl) (by kernel_rfl) (by kernel_rfl) (by kernel_rfl) (by kernel_rfl) (fun _ _ _ h => h) (by kernel_rfl) (fun W hW => by go_simp) (by assumption) rfl rfl ?_
  simp only [Act.put, List.setIfInBounds_toArray, List.set_cons_zero, List.set_cons_succ]
  refine wpAnyZ_yield 7 197 (.pointer (some ⟨b, 2, none⟩)) [8,9] rfl rfl (by kernel_rfl) (by kernel_rfl) (by kernel_rfl) (by kernel_rfl) (by kernel_rfl) (fun _ _ _ h => h) (by kernel_rfl) (fun W hW => by go_simp) (by assumption) rfl rfl ?_
  simp only [Act.put, List.setIfInBounds_toArray, List.set_cons_zero, List.set_cons_succ]
  have hlr : (L.drop d).length = n - d := by rw [List.length_drop, HN.out]
  obtain ⟨ao3, cap3, w3, hr3, ow3, t3, -⟩ := run_tapp { w2 with drawn := w2.drawn + 1 } ({ w2 with drawn := w2.drawn + 1 } : World).heap.size 22 (.slice none 0 0) [] (World.ownsRow_nil _ _ _ _) so sc' (L.drop d) ((HTS.out.calm T2.out).calm ty0) HSN.out (by have := HL9.out; have := HN.out; rw [hlr]; simp; omega) (Nat.le_refl _)
  have ow3L : OwnT w3 ({ w2 with drawn := w2.drawn + 1 } : World).heap.size (.slice ao3 (L.drop d).length cap3) (L.drop d) := ow3
  rw [List.nil_append, hlr] at hr3
  have ty3 : Calm w2 w3 := ty0.tr (t3.mono (fun g _ h => by cases h))
  refine wpAnyZ_value 5 195 (.slice ao3 (n - d) cap3) (w' := w3) rfl rfl (by decide) (by kernel_rfl) (by kernel_rfl) (exec_tapp rfl hr3) ty3 ?_
  simp only [Act.put, List.setIfInBounds_toArray, List.set_cons_zero, List.set_cons_succ]
  refine wpAnyZ_yield 8 198 (.pointer (some ⟨b, 3, none⟩)) [9] rfl rfl (by kernel_rfl) (by kernel_rfl) (by kernel_rfl) (by kernel_rfl) (by kernel_rfl) (fun _ _ _ h => h) (by kernel_rfl) (fun W hW => by go_simp) (by assumption) rfl rfl ?_
  simp only [Act.put, List.setIfInBounds_toArray, List.set_cons_zero, List.set_cons_succ]
  have WL := HW.out.lay (k := 1) (by decide) T1.out TQ1.out (T2.out.tr ty3) HSD.out HMD.out ow3L.rl.1 (fun a ha => Nat.le_trans (T2.out.tr ty0).size (ow3L.rl.2 a ha))
  rw [hlr] at WL
  obtain ⟨wl, tl⟩ := WL
  have HA3 : Hid (∀ a, ao3 = some a → w1.heap.size ≤ a.block) := hide (fun a ha => Nat.le_trans (T2.out.tr ty0).size (ow3L.rl.2 a ha))
  have HAD : Hid (∀ a, aoD = some a → w.heap.size < a.block ∧ a.block < w1.heap.size) := hide (fun a ha => by
    obtain ⟨_, _, h3, cs, h4⟩ := (OwnT.prs OWD.out).2.2.1 a ha
    have h5 := lt_of_heap h4
    simp at h3
    exact ⟨by omega, h5⟩)
  have HBW : Hid (b < w.heap.size) := hide (lt_of_heap HW.out.own)
  have OD4 : Hid (∃ D' : List Tm, D'.length = d ∧ OwnT (w3.setCell ⟨b, 3, none⟩ (.slice ao3 (n - d) cap3)) 0 (.slice aoD d capD) D') := hide ⟨D, HED.out, by
    have h1 : OwnT w1 0 (.slice aoD d capD) D := by have h2 := OWD.out.low; rw [HED.out] at h2; exact h2
    refine (h1.calm (T2.out.tr ty3)).touch ((Touch.refl (fun g => g = b) w3).setCell (p := ⟨b, 3, none⟩) (fun _ => rfl) _) (fun g hg e => ?_)
    cases aoD with
    | none => cases hg
    | some a =>
      have h3 := (HAD.out a rfl).1
      have h4 : a.block = g := by simpa [Value.ownBlock] using hg
      have h5 := HBW.out
      omega⟩
  have WL4 := hide wl
  have TL4 := hide tl
  have HDN2 : Hid (d < 3518437208790) := hide (by have := HDN.out; have := HN.out; have := HL9.out; omega)
  clear wl tl hr3 ow3 ow3L t3 hlr
  refine wpAnyZ_end rfl (by kernel_rfl) (by kernel_rfl) (by kernel_rfl) ?_
  have OW3 := ty3.at OW2.out
  obtain ⟨e0, e1, e2, e3, e4, e5⟩ := cells6 OW3
  have fz : w3.frozen? ⟨b, 3, none⟩ = false := by simp [World.frozen?, OW3]
  unfold Oper.wp
  go_simp
  rw [onlyN_normal]
  clear OW3 ty0 ty3 e0 e1 e2 e3 e4 e5 fz
  go_wp2_with fail
  generalize w3.setCell ⟨b, 3, none⟩ (.slice ao3 (n - d) cap3) = w4 at *
  go_loopw [21] (fun i wr => ∃ j : Nat, i = .int .i64 (j : Int) ∧ j ≤ d ∧ Wd wr b 1 q F V1 (L.drop d) ao3 cap3 x y u v ∧ (∃ D' : List Tm, D'.length = d ∧ OwnT wr 0 (.slice aoD d capD) D') ∧ Touch (fun g => F g ∨ g = b) w wr) (fun i _ => d - (intOf i).toNat)
  case atStart => exact ⟨0, rfl, Nat.zero_le _, WL4.out, OD4.out, TL4.out⟩
  case round =>
    obtain ⟨j, rfl, hj, wd, ⟨D', hD', od⟩, tt⟩ := hrel
    by_cases hlt : j < d
    · have hlt' : (j : Int) < (d : Int) := by omega
      have hjD : j < D'.length := by omega
      obtain ⟨g, off, rfl, -⟩ := od.prs.2.1 j hjD
      obtain ⟨_, s2, _, cs, hcs⟩ := od.prs.2.2.1 _ rfl
      simp only at s2 hcs
      subst s2
      obtain ⟨g', off', e', c0, c1, c2, c3⟩ := od.prs.2.1 j hjD
      injection e' with e'
      injection e' with e1' e2'
      subst e1' e2'
      rw [Nat.zero_add] at c0 c1 c2 c3
      have f0 : ∀ o, wr.frozen? ⟨g, o, none⟩ = false := fun o => by simp [World.frozen?, hcs]
      have z0 := f0 (j * 4)
      have z1 := f0 (j * 4 + 1)
      have z2 := f0 (j * 4 + 2)
      have z3 := f0 (j * 4 + 3)
      obtain ⟨ow, ts⟩ := OwnT.set od hjD ⟨-99, { data := #[] }, 0, 0⟩ rfl
      simp only at ow ts
      obtain ⟨hg1, hg2⟩ := HAD.out _ rfl
      simp only at hg1 hg2
      have WD' := hide (wd.turn ts (fun z hz e => by rw [hz] at e; have := HW.out.tq.lt _ e; omega) (fun e => by have := HBW.out; omega) (fun a ha _ e => by have := HA3.out a ha; omega))
      have OD' : Hid (∃ D2 : List Tm, D2.length = d ∧ OwnT _ 0 (.slice (some ⟨g, 0, none⟩) d capD) D2) := hide ⟨_, by rw [List.length_set]; exact hD', ow⟩
      have TT' := hide (tt.trans ts (fun z hz e => by omega))
      have SW := hide (succ_k hlt HDN2.out)
      clear ow ts wd od tt f0 hcs cs hg1 hg2
      go_wp2_with fail
      go_roundw
      case rel => exact ⟨j + 1, by rw [SW.out], hlt, WD'.out, OD'.out, TT'.out⟩
      case measure => rw [SW.out]; simp [intOf]; omega
    · have hnl : ¬ (j : Int) < (d : Int) := by omega
      have RES : Hid (StpR w b 1 q F L lo x y u v (.returned (.bool true)) wr) := hide ⟨rfl, F, V1, L.drop d, ao3, cap3, wd, by rw [List.length_drop]; omega, fun _ h => .inl h, fun a ha => .inr (Nat.le_trans T1.out.size (HA3.out a ha)), tt⟩
      clear wd od tt
      go_wp2_with fail
      go_ret
      exact RES.out

end Go.Proofs.Ytlnblhajcbmmkaa
