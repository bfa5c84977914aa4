/- The document's clock: Free, Hold. -/
import Derived.Test.YtcmigkemhoecfaaKF
namespace Go.Proofs.Ytcmigkemhoecfaa
open Go.RowKit

theorem hd_notC {w : World} {base D : Nat} {v : Value} {L : List Hd} {cs : Array Value} (h : encH.Own 57 w base v L) (hD : w.heap[D]? = some (.cells cs 55 (0, 0))) : ¬ v.ownBlock = some D := fun hv => by
  obtain ⟨-, cur, hc⟩ := Rc.own_block h hv
  rw [hD] at hc
  injection hc with hc
  injection hc with _ e
  cases e

/-- The holds put anew. -/
theorem rk_newH {w W : World} {q : Nat} {F : Nat → Prop} {L : List Int} {H H' : List Hd} (h : Rk w q F L H) (hc : Calm w W) {a2 : Option Addr} {n p2 : Nat} (ow : encH.Own 57 W w.heap.size (.slice a2 n p2) H') :
    Rk (W.setCell ⟨q, 1, none⟩ (.slice a2 n p2)) q (fun g => F g ∨ (w.heap.size ≤ g ∧ g < W.heap.size)) L H' ∧ Touch F w (W.setCell ⟨q, 1, none⟩ (.slice a2 n p2)) := by
  obtain ⟨lo, lc, ho, hcp, cq, o1, o2, f1, f2⟩ := h.ex
  have hn : n = H'.length := (Rc.Own.mem ow).1
  subst hn
  have tS : Touch (fun k => k = q) W (W.setCell ⟨q, 1, none⟩ (.slice a2 H'.length p2)) := (Touch.refl (fun k => k = q) W).setCell (p := ⟨q, 1, none⟩) (fun _ => rfl) _
  have hq := h.lt q h.at_
  refine ⟨⟨⟨lo, lc, a2, p2, rk_put (i := 1) (hc.at cq) _, ?_, ?_, fun g hg => .inl (f1 g hg), fun g hg => .inr (own_lt ow hg)⟩, .inl h.at_, ?_, h.ne⟩, ?_⟩
  · exact Rc.Own.touch (Rc.Own.calm o1 hc) tS fun g hg e => jn_notC o1 cq (e ▸ hg)
  · exact Rc.Own.base (Rc.Own.touch ow tS fun g hg e => by have := own_lt ow hg; omega) (Nat.zero_le _)
  · rintro g (hg | ⟨-, hg⟩)
    · have := h.lt g hg
      have := hc.size
      have := tS.size
      omega
    · have := tS.size
      omega
  · exact (hc.mono fun _ _ h => h.elim).trans (tS.mono fun g _ e => by rw [e]; exact h.at_) (fun _ _ h => h)

/-- Some of the first and some of the last. -/
theorem hd_two {w : World} {ho : Option Addr} {hc : Nat} {H : List Hd} (hs : encH.Sl w ho hc H) (n k : Nat) (hn : n ≤ H.length) (hk : k ≤ H.length) (hnk : n ≤ k) (hl : H.length ≤ 4700000000000) :
    ∃ s1 c1 s2 c2, (∀ W, (Instr.slice 53 (.slice ho H.length hc) none (some (.int .i64 (n : Nat))) none).run Try.prog W = .ok (.slice s1 n c1) W) ∧ (∀ W, (Instr.slice 53 (.slice ho H.length hc) (some (.int .i64 (k : Nat))) none none).run Try.prog W = .ok (.slice s2 (H.length - k) c2) W) ∧
      ∀ W, Calm w W → ∃ a1 p1 w1 a2 p2 w2, (Builtin.append_ #[53, 53] 53 #[.slice none 0 0, .slice s1 n c1]).run Try.prog W = .ok (.slice a1 n p1) w1 ∧ Calm W w1 ∧
        (Builtin.append_ #[53, 53] 53 #[.slice a1 n p1, .slice s2 (H.length - k) c2]).run Try.prog w1 = .ok (.slice a2 (H.take n ++ H.drop k).length p2) w2 ∧ Calm W w2 ∧ encH.Own 57 w2 W.heap.size (.slice a2 (H.take n ++ H.drop k).length p2) (H.take n ++ H.drop k) := by
  obtain ⟨i0, hi, hz, hsz, hby⟩ := Rc.info_parts infoHd
  obtain ⟨s1, c1, r1, m1, n1⟩ := Rc.Sl.to (P := Try.prog) (t := 53) Try.underlying53 elemHd hi hs hn
  obtain ⟨s2, c2, r2, m2, n2⟩ := Rc.Sl.from (P := Try.prog) (t := 53) Try.underlying53 elemHd hi hsz hs hk
  have l1 : (H.take n).length = n := by rw [List.length_take]; omega
  have l2 : (H.drop k).length = H.length - k := List.length_drop
  refine ⟨s1, c1, s2, c2, r1, r2, fun W hW => ?_⟩
  obtain ⟨a1, p1, w1, hr1, ow1, t1, -⟩ := Rc.Own.appw (E := encH) (ty := 53) Try.underlying53 hi hz hsz hby rfl (Rc.Own.nil 57 W W.heap.size) s1 c1 (H.take n) (Rc.Mem.calm m1 hW) n1 (by simp; unfold maxLen; omega) (by simp; omega) (by omega) (Nat.le_refl _)
  rw [List.nil_append, l1] at hr1 ow1
  have T1 : Calm W w1 := t1.mono fun _ _ h => by simp [Value.ownBlock] at h
  obtain ⟨a2, p2, w2, hr2, ow2, t2, -⟩ := Rc.Own.appw (E := encH) (ty := 53) Try.underlying53 hi hz hsz hby rfl ow1 s2 c2 (H.drop k) (Rc.Mem.calm m2 (hW.tr T1)) n2 (by rw [l1, l2]; unfold maxLen; omega) (by rw [l1, l2]; omega) (by omega) T1.size
  rw [l2] at hr2
  exact ⟨a1, p1, w1, a2, p2, w2, hr1, T1, hr2, Rc.Own.fresh ow1 t2 (fun _ h => h) T1 (Nat.le_refl _), ow2⟩

/-- Some of the first, one, and the others. -/
theorem hd_three {w : World} {ho : Option Addr} {hc : Nat} {H : List Hd} (hs : encH.Sl w ho hc H) (n : Nat) (x : Hd) (hn : n ≤ H.length) (hl : H.length ≤ 4700000000000) :
    ∃ s1 c1 s2 c2 a1 p1 w1 a2 p2 w2 a3 p3 w3, (∀ W, (Instr.slice 53 (.slice ho H.length hc) none (some (.int .i64 (n : Nat))) none).run Try.prog W = .ok (.slice s1 n c1) W) ∧ (∀ W, (Instr.slice 53 (.slice ho H.length hc) (some (.int .i64 (n : Nat))) none none).run Try.prog W = .ok (.slice s2 (H.length - n) c2) W) ∧
      (Builtin.append_ #[53, 53] 53 #[.slice none 0 0, .slice s1 n c1]).run Try.prog w = .ok (.slice a1 n p1) w1 ∧
      (Builtin.append_ #[53, 53] 53 #[.slice a1 n p1, .slice (some ⟨w1.heap.size, 0, none⟩) 1 1]).run Try.prog (w1.alloc (.cells (hdc x) 57)) = .ok (.slice a2 (n + 1) p2) w2 ∧ Calm w w2 ∧
      (Builtin.append_ #[53, 53] 53 #[.slice a2 (n + 1) p2, .slice s2 (H.length - n) c2]).run Try.prog w2 = .ok (.slice a3 (H.take n ++ [x] ++ H.drop n).length p3) w3 ∧ Calm w w3 ∧ encH.Own 57 w3 w.heap.size (.slice a3 (H.take n ++ [x] ++ H.drop n).length p3) (H.take n ++ [x] ++ H.drop n) := by
  obtain ⟨i0, hi, hz, hsz, hby⟩ := Rc.info_parts infoHd
  obtain ⟨s1, c1, r1, m1, n1⟩ := Rc.Sl.to (P := Try.prog) (t := 53) Try.underlying53 elemHd hi hs hn
  obtain ⟨s2, c2, r2, m2, n2⟩ := Rc.Sl.from (P := Try.prog) (t := 53) Try.underlying53 elemHd hi hsz hs hn
  have l1 : (H.take n).length = n := by rw [List.length_take]; omega
  have l2 : (H.drop n).length = H.length - n := List.length_drop
  have l3 : (H.take n ++ [x]).length = n + 1 := by rw [List.length_append, l1]; rfl
  obtain ⟨a1, p1, w1, hr1, ow1, t1, -⟩ := Rc.Own.appw (E := encH) (ty := 53) Try.underlying53 hi hz hsz hby rfl (Rc.Own.nil 57 w w.heap.size) s1 c1 (H.take n) m1 n1 (by simp; unfold maxLen; omega) (by simp; omega) (by omega) (Nat.le_refl _)
  rw [List.nil_append, l1] at hr1 ow1
  have T1 : Calm w w1 := t1.mono fun _ _ h => by simp [Value.ownBlock] at h
  have own := Rc.Own.calm ow1 ((Touch.refl (fun _ => False) w1).alloc (.cells (hdc x) 57))
  have hs1 := al_size w1 (.cells (hdc x) 57)
  have hsT := T1.size
  obtain ⟨a2, p2, w2, hr2, ow2, t2, -⟩ := Rc.Own.appw (E := encH) (ty := 53) Try.underlying53 hi hz hsz hby rfl own (some ⟨w1.heap.size, 0, none⟩) 1 [x] (Rc.Mem.new w1 [x] 57) (fun h => (nomatch h)) (by rw [l1]; simp; unfold maxLen; omega) (by rw [l1]; simp; omega) (by omega) (by omega)
  rw [l3] at hr2 ow2
  have T2 : Calm w w2 := Rc.Own.fresh own t2 (fun _ h => h) (T1.alloc _) (Nat.le_refl _)
  obtain ⟨a3, p3, w3, hr3, ow3, t3, -⟩ := Rc.Own.appw (E := encH) (ty := 53) Try.underlying53 hi hz hsz hby rfl ow2 s2 c2 (H.drop n) (Rc.Mem.calm m2 T2) n2 (by rw [l3, l2]; unfold maxLen; omega) (by rw [l3, l2]; omega) (by omega) T2.size
  rw [l2] at hr3
  exact ⟨s1, c1, s2, c2, a1, p1, w1, a2, p2, w2, a3, p3, w3, r1, r2, hr1, hr2, T2, hr3, Rc.Own.fresh ow2 t3 (fun _ h => h) T2 (Nat.le_refl _), ow3⟩

theorem rfree_nil (x : ByteArray) (w : World) : Calls Try.prog 39 #[.pointer none, .string x] w fun e w' => e = .returned (.bool false) ∧ w' = w := by
  go_enter Try.func39, Try.ntmps39
  go_wp2_with fail
  go_ret
  exact ⟨rfl, rfl⟩

set_option maxRecDepth 100000 in
set_option maxHeartbeats 1000000 in
theorem rfree_any (q : Nat) (F : Nat → Prop) (L : List Int) (H : List Hd) (x : ByteArray) (w : World) (h : Rk w q F L H) (hl : H.length ≤ 4700000000000) : Calls Try.prog 39 #[.pointer (some ⟨q, 0, none⟩), .string x] w fun e w' => e = .returned (.bool (hasH H x)) ∧ Touch F w w' ∧ ∃ F', Rk w' q F' L (freeH H x) ∧ ∀ g, F' g → F g ∨ w.heap.size ≤ g := by
  have CP := hide (rplace_any q F L H x w h (by omega))
  cases hb : hasH H x with
  | false =>
    rw [hb] at CP
    have e : freeH H x = H := by unfold freeH; rw [hb]; rfl
    rw [e]
    have HK : Hid (∀ W, Calm w W → Touch F w W ∧ ∃ F', Rk W q F' L H ∧ ∀ g, F' g → F g ∨ w.heap.size ≤ g) := hide fun W hW => ⟨hW.mono fun _ _ h => h.elim, F, h.calm hW, fun g hg => .inl hg⟩
    clear h e hb
    generalize plN H x = p at *
    go_enter Try.func39, Try.ntmps39
    go_wp2_with fail
    refine CP.out.mono ?_
    rintro e w1 ⟨rfl, T1⟩
    have HF := hide (HK.out w1 T1)
    clear HK T1
    go_wp2_with fail
    go_ret
    exact ⟨rfl, HF.out⟩
  | true =>
    rw [hb] at CP
    have hp : plN H x < H.length := by
      unfold hasH at hb
      rw [Bool.and_eq_true, decide_eq_true_eq] at hb
      exact hb.1
    have e : freeH H x = H.take (plN H x) ++ H.drop (plN H x + 1) := by unfold freeH; rw [hb]; rfl
    rw [e]
    obtain ⟨lo, lc, ho, hc, cq, o1, o2, f1, f2⟩ := h.ex
    obtain ⟨s1, c1, s2, c2, r1, r2, app⟩ := hd_two (Rc.Own.sl o2) (plN H x) (plN H x + 1) (by omega) (by omega) (by omega) hl
    have APP : Hid (∀ W, Calm w W → ∃ a1 p1 w1 a2 p2 w2, (Builtin.append_ #[53, 53] 53 #[.slice none 0 0, .slice s1 (plN H x) c1]).run Try.prog W = .ok (.slice a1 (plN H x) p1) w1 ∧ Calm W w1 ∧
        (Builtin.append_ #[53, 53] 53 #[.slice a1 (plN H x) p1, .slice s2 (H.length - (plN H x + 1)) c2]).run Try.prog w1 = .ok (.slice a2 (H.take (plN H x) ++ H.drop (plN H x + 1)).length p2) w2 ∧ Calm W w2 ∧ Touch F w (w2.setCell ⟨q, 1, none⟩ (.slice a2 (H.take (plN H x) ++ H.drop (plN H x + 1)).length p2)) ∧ ∃ F', Rk (w2.setCell ⟨q, 1, none⟩ (.slice a2 (H.take (plN H x) ++ H.drop (plN H x + 1)).length p2)) q F' L (H.take (plN H x) ++ H.drop (plN H x + 1)) ∧ ∀ g, F' g → F g ∨ w.heap.size ≤ g) := hide fun W hW => by
      obtain ⟨a1, p1, w1, a2, p2, w2, q1, q2, q3, q4, q5⟩ := app W hW
      have n1 := rk_newH h (hW.tr q4) (Rc.Own.base q5 hW.size)
      exact ⟨a1, p1, w1, a2, p2, w2, q1, q2, q3, q4, n1.2, _, n1.1, fun g hg => hg.imp id And.left⟩
    have KQ : Hid (∀ W, Calm w W → W.cell? ⟨q, 1, none⟩ = some (.slice ho H.length hc) ∧ W.frozen? ⟨q, 1, none⟩ = false) := hide fun W hW => ⟨(rk_cells (hW.at cq)).2, hd_frozen (hW.at cq) 1⟩
    have R1 := hide r1
    have R2 : Hid (∀ W, (Instr.slice 53 (.slice ho H.length hc) (some (.int .i64 ((plN H x : Int) + 1))) none none).run Try.prog W = .ok (.slice s2 (H.length - (plN H x + 1)) c2) W) := hide fun W => r2 W
    clear h cq o1 o2 f1 f2 app r1 r2 e hb
    generalize H.take (plN H x) ++ H.drop (plN H x + 1) = H' at *
    generalize plN H x = p at *
    generalize hn : H.length = n at *
    go_enter Try.func39, Try.ntmps39
    go_wp2_with fail
    refine CP.out.mono ?_
    rintro e w1 ⟨rfl, T1⟩
    have HT1 := hide T1
    clear CP T1
    go_wp2_with fail
    refine wp_region_z 18 (Calm w) (by kernel_rfl) ?_
    have hT0 : Calm w { w1 with drawn := w1.drawn + 1 } := HT1.out.drew
    have hw1 : IntKind.i64.wrap ((p : Int) + 1) = (p : Int) + 1 := by rw [IntKind.wrap_i64]; omega
    refine wpAnyZ_yield 0 16 (.pointer (some ⟨q, 0, none⟩)) [18] rfl rfl (by kernel_rfl) (by kernel_rfl) (by kernel_rfl) (by kernel_rfl) (by kernel_rfl) (fun _ _ _ h => h) (by kernel_rfl) (fun W hW => by kernel_rfl) (by assumption) rfl rfl ?_
    simp only [Act.put, List.setIfInBounds_toArray, List.set_cons_zero, List.set_cons_succ]
    refine wpAnyZ_yield 1 17 (.pointer (some ⟨q, 0, none⟩)) [18] rfl rfl (by kernel_rfl) (by kernel_rfl) (by kernel_rfl) (by kernel_rfl) (by kernel_rfl) (fun _ _ _ h => h) (by kernel_rfl) (fun W hW => by kernel_rfl) (by assumption) rfl rfl ?_
    simp only [Act.put, List.setIfInBounds_toArray, List.set_cons_zero, List.set_cons_succ]
    refine wpAnyZ_yield 2 18 (.pointer (some ⟨q, 0, none⟩)) [18] rfl rfl (by kernel_rfl) (by kernel_rfl) (by kernel_rfl) (by kernel_rfl) (by kernel_rfl) (fun _ _ _ h => h) (by kernel_rfl) (fun W hW => by go_simp) (by assumption) rfl rfl ?_
    simp only [Act.put, List.setIfInBounds_toArray, List.set_cons_zero, List.set_cons_succ]
    refine wpAnyZ_yield 3 19 (.pointer (some ⟨q, 1, none⟩)) [18] rfl rfl (by kernel_rfl) (by kernel_rfl) (by kernel_rfl) (by kernel_rfl) (by kernel_rfl) (fun _ _ _ h => h) (by kernel_rfl) (fun W hW => by go_simp) (by assumption) rfl rfl ?_
    simp only [Act.put, List.setIfInBounds_toArray, List.set_cons_zero, List.set_cons_succ]
    refine wpAnyZ_yield 4 20 (.slice ho n hc) [18] rfl rfl (by kernel_rfl) (by kernel_rfl) (by kernel_rfl) (by kernel_rfl) (by kernel_rfl) (fun _ _ _ h => h) (by kernel_rfl) (fun W hW => by obtain ⟨k0, -⟩ := KQ.out W hW; go_simp) (by assumption) rfl rfl ?_
    simp only [Act.put, List.setIfInBounds_toArray, List.set_cons_zero, List.set_cons_succ]
    refine wpAnyZ_yield 5 21 (.int .i64 (p : Int)) [18] rfl rfl (by kernel_rfl) (by kernel_rfl) (by kernel_rfl) (by kernel_rfl) (by kernel_rfl) (fun _ _ _ h => h) (by kernel_rfl) (fun W hW => by kernel_rfl) (by assumption) rfl rfl ?_
    simp only [Act.put, List.setIfInBounds_toArray, List.set_cons_zero, List.set_cons_succ]
    refine wpAnyZ_yield 6 22 (.slice s1 p c1) [18] rfl rfl (by kernel_rfl) (by kernel_rfl) (by kernel_rfl) (by kernel_rfl) (by kernel_rfl) (fun _ _ _ h => h) (by kernel_rfl) (fun W hW => by have r := R1.out W; go_simp) (by assumption) rfl rfl ?_
    simp only [Act.put, List.setIfInBounds_toArray, List.set_cons_zero, List.set_cons_succ]
    refine wpAnyZ_yield 8 24 (.pointer (some ⟨q, 0, none⟩)) [18] rfl rfl (by kernel_rfl) (by kernel_rfl) (by kernel_rfl) (by kernel_rfl) (by kernel_rfl) (fun _ _ _ h => h) (by kernel_rfl) (fun W hW => by kernel_rfl) (by assumption) rfl rfl ?_
    simp only [Act.put, List.setIfInBounds_toArray, List.set_cons_zero, List.set_cons_succ]
    refine wpAnyZ_yield 9 25 (.pointer (some ⟨q, 0, none⟩)) [18] rfl rfl (by kernel_rfl) (by kernel_rfl) (by kernel_rfl) (by kernel_rfl) (by kernel_rfl) (fun _ _ _ h => h) (by kernel_rfl) (fun W hW => by go_simp) (by assumption) rfl rfl ?_
    simp only [Act.put, List.setIfInBounds_toArray, List.set_cons_zero, List.set_cons_succ]
    refine wpAnyZ_yield 10 26 (.pointer (some ⟨q, 1, none⟩)) [18] rfl rfl (by kernel_rfl) (by kernel_rfl) (by kernel_rfl) (by kernel_rfl) (by kernel_rfl) (fun _ _ _ h => h) (by kernel_rfl) (fun W hW => by go_simp) (by assumption) rfl rfl ?_
    simp only [Act.put, List.setIfInBounds_toArray, List.set_cons_zero, List.set_cons_succ]
    refine wpAnyZ_yield 11 27 (.slice ho n hc) [18] rfl rfl (by kernel_rfl) (by kernel_rfl) (by kernel_rfl) (by kernel_rfl) (by kernel_rfl) (fun _ _ _ h => h) (by kernel_rfl) (fun W hW => by obtain ⟨k0, -⟩ := KQ.out W hW; go_simp) (by assumption) rfl rfl ?_
    simp only [Act.put, List.setIfInBounds_toArray, List.set_cons_zero, List.set_cons_succ]
    refine wpAnyZ_yield 12 28 (.int .i64 (p : Int)) [18] rfl rfl (by kernel_rfl) (by kernel_rfl) (by kernel_rfl) (by kernel_rfl) (by kernel_rfl) (fun _ _ _ h => h) (by kernel_rfl) (fun W hW => by kernel_rfl) (by assumption) rfl rfl ?_
    simp only [Act.put, List.setIfInBounds_toArray, List.set_cons_zero, List.set_cons_succ]
    refine wpAnyZ_yield 13 29 (.int .i64 ((p : Int) + 1)) [18] rfl rfl (by kernel_rfl) (by kernel_rfl) (by kernel_rfl) (by kernel_rfl) (by kernel_rfl) (fun _ _ _ h => h) (by kernel_rfl) (fun W hW => by go_simp) (by assumption) rfl rfl ?_
    simp only [Act.put, List.setIfInBounds_toArray, List.set_cons_zero, List.set_cons_succ]
    refine wpAnyZ_yield 14 30 (.slice s2 (n - (p + 1)) c2) [18] rfl rfl (by kernel_rfl) (by kernel_rfl) (by kernel_rfl) (by kernel_rfl) (by kernel_rfl) (fun _ _ _ h => h) (by kernel_rfl) (fun W hW => by have r := R2.out W; go_simp) (by assumption) rfl rfl ?_
    simp only [Act.put, List.setIfInBounds_toArray, List.set_cons_zero, List.set_cons_succ]
    obtain ⟨a1, p1, w3, a2, p2, w4, hr1, T3, hr2, T4, TF, F', RF, GF⟩ := APP.out _ hT0
    have h3 := hT0.tr T3
    have h4 := hT0.tr T4
    refine wpAnyZ_value 7 23 (.slice a1 p p1) (w' := w3) rfl rfl (by decide) (by kernel_rfl) (by kernel_rfl) (exec_apk (.const (.slice none 0 0)) (.tmp 22) 53 53 rfl _ _ _ rfl rfl hr1) h3 ?_
    simp only [Act.put, List.setIfInBounds_toArray, List.set_cons_zero, List.set_cons_succ]
    refine wpAnyZ_value 15 31 (.slice a2 H'.length p2) (w' := w4) rfl rfl (by decide) (by kernel_rfl) (by kernel_rfl) (exec_apk (.tmp 23) (.tmp 30) 53 53 rfl _ _ _ rfl rfl hr2) h4 ?_
    simp only [Act.put, List.setIfInBounds_toArray, List.set_cons_zero, List.set_cons_succ]
    refine wpAnyZ_yield 16 32 (.pointer (some ⟨q, 0, none⟩)) [17, 18] rfl rfl (by kernel_rfl) (by kernel_rfl) (by kernel_rfl) (by kernel_rfl) (by kernel_rfl) (fun _ _ _ h => h) (by kernel_rfl) (fun W hW => by go_simp) (by assumption) rfl rfl ?_
    simp only [Act.put, List.setIfInBounds_toArray, List.set_cons_zero, List.set_cons_succ]
    refine wpAnyZ_yield 17 33 (.pointer (some ⟨q, 1, none⟩)) [18] rfl rfl (by kernel_rfl) (by kernel_rfl) (by kernel_rfl) (by kernel_rfl) (by kernel_rfl) (fun _ _ _ h => h) (by kernel_rfl) (fun W hW => by go_simp) (by assumption) rfl rfl ?_
    simp only [Act.put, List.setIfInBounds_toArray, List.set_cons_zero, List.set_cons_succ]
    refine wpAnyZ_end rfl (by kernel_rfl) (by kernel_rfl) (by kernel_rfl) ?_
    obtain ⟨k1, k2⟩ := KQ.out _ h4
    have HF : Hid (Touch F w (w4.setCell ⟨q, 1, none⟩ (.slice a2 H'.length p2)) ∧ ∃ F', Rk (w4.setCell ⟨q, 1, none⟩ (.slice a2 H'.length p2)) q F' L H' ∧ ∀ g, F' g → F g ∨ w.heap.size ≤ g) := hide ⟨TF, F', RF, GF⟩
    clear hT0 hr1 hr2 T3 T4 TF RF GF h3 h4 APP KQ R1 R2 HT1
    unfold Oper.wp
    go_simp
    go_wp2_with fail
    go_ret
    exact ⟨rfl, HF.out⟩

end Go.Proofs.Ytcmigkemhoecfaa
