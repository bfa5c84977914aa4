/- The document's clock: Hold. -/
import Derived.Test.YtcmigkemhoecfaaKG
namespace Go.Proofs.Ytcmigkemhoecfaa
open Go.RowKit

theorem rhold_nil (x : ByteArray) (t : Int) (w : World) : Calls Try.prog 22 #[.pointer none, .string x, .int .i64 t] w fun e w' => e = .returned (.int .i64 1) ∧ w' = w := by
  go_enter Try.func22, Try.ntmps22
  go_wp2_with fail
  go_ret
  exact ⟨rfl, rfl⟩
theorem rhold_bad (q : Nat) (x : ByteArray) (t : Int) (ht : timC t = false) (w : World) : Calls Try.prog 22 #[.pointer (some ⟨q, 0, none⟩), .string x, .int .i64 t] w fun e w' => e = .returned (.int .i64 2) ∧ w' = w := by
  have CT := hide (rtime13_any t)
  rw [ht] at CT
  go_enter Try.func22, Try.ntmps22
  go_wp2_with fail
  refine (CT.out _).mono ?_
  rintro e w1 ⟨rfl, rfl⟩
  go_wp2_with fail
  go_ret
  exact ⟨rfl, rfl⟩

set_option maxRecDepth 100000 in
set_option maxHeartbeats 1000000 in
theorem rhold_ok (q : Nat) (F : Nat → Prop) (L : List Int) (H : List Hd) (x : ByteArray) (t : Int) (w : World) (h : Rk w q F L H) (ht : timC t = true) (hl : H.length ≤ 4700000000000) : Calls Try.prog 22 #[.pointer (some ⟨q, 0, none⟩), .string x, .int .i64 t] w fun e w' => e = .returned (.int .i64 0) ∧ Touch F w w' ∧ ∃ F', Rk w' q F' L (holdH H x t) ∧ ∀ g, F' g → F g ∨ w.heap.size ≤ g := by
  have CT := hide (rtime13_any t)
  rw [ht] at CT
  have CF := hide (rfree_any q F L H x w h hl)
  have hl1 : (freeH H x).length ≤ 4700000000000 := Nat.le_trans (free_len H x) hl
  have CP : Hid (∀ F1 W, Rk W q F1 L (freeH H x) → Calls Try.prog 49 #[.pointer (some ⟨q, 0, none⟩), .string x] W fun e w' => e = .returned (.tuple #[.int .i64 (plN (freeH H x) x : Int), .bool (hasH (freeH H x) x)]) ∧ Calm W w') := hide fun F1 W hW => rplace_any q F1 L _ x W hW (by omega)
  have APP : Hid (∀ F1 W, Rk W q F1 L (freeH H x) → ∃ ho hc s1 c1 s2 c2 a1 p1 w1 a2 p2 w2 a3 p3 w3, (∀ V, Calm W V → V.cell? ⟨q, 1, none⟩ = some (.slice ho (freeH H x).length hc) ∧ V.frozen? ⟨q, 1, none⟩ = false) ∧ (∀ W, (Instr.slice 53 (.slice ho (freeH H x).length hc) none (some (.int .i64 (plN (freeH H x) x : Nat))) none).run Try.prog W = .ok (.slice s1 (plN (freeH H x) x) c1) W) ∧ (∀ W, (Instr.slice 53 (.slice ho (freeH H x).length hc) (some (.int .i64 (plN (freeH H x) x : Nat))) none none).run Try.prog W = .ok (.slice s2 ((freeH H x).length - plN (freeH H x) x) c2) W) ∧
      (Builtin.append_ #[53, 53] 53 #[.slice none 0 0, .slice s1 (plN (freeH H x) x) c1]).run Try.prog W = .ok (.slice a1 (plN (freeH H x) x) p1) w1 ∧
      (Builtin.append_ #[53, 53] 53 #[.slice a1 (plN (freeH H x) x) p1, .slice (some ⟨w1.heap.size, 0, none⟩) 1 1]).run Try.prog (w1.alloc (.cells (hdc ⟨x, t⟩) 57)) = .ok (.slice a2 (plN (freeH H x) x + 1) p2) w2 ∧ Calm W w2 ∧
      (Builtin.append_ #[53, 53] 53 #[.slice a2 (plN (freeH H x) x + 1) p2, .slice s2 ((freeH H x).length - plN (freeH H x) x) c2]).run Try.prog w2 = .ok (.slice a3 (holdH H x t).length p3) w3 ∧ Calm W w3 ∧ Touch F1 W (w3.setCell ⟨q, 1, none⟩ (.slice a3 (holdH H x t).length p3)) ∧ Rk (w3.setCell ⟨q, 1, none⟩ (.slice a3 (holdH H x t).length p3)) q (fun g => F1 g ∨ (W.heap.size ≤ g ∧ g < w3.heap.size)) L (holdH H x t)) := hide fun F1 W hW => by
    obtain ⟨lo, lc, ho, hc, cq, o1, o2, f1, f2⟩ := hW.ex
    obtain ⟨s1, c1, s2, c2, a1, p1, w1, a2, p2, w2, a3, p3, w3, q1, q2, q3, q4, q5, q6, q7, q8⟩ := hd_three (Rc.Own.sl o2) (plN (freeH H x) x) ⟨x, t⟩ (plN_le _ _) hl1
    have n1 := rk_newH hW q7 q8
    exact ⟨ho, hc, s1, c1, s2, c2, a1, p1, w1, a2, p2, w2, a3, p3, w3, fun V hV => ⟨(rk_cells (hV.at cq)).2, hd_frozen (hV.at cq) 1⟩, q1, q2, q3, q4, q5, q6, q7, n1.2, n1.1⟩
  have GF : Hid (∀ (w1 W w3 : World) (F1 : Nat → Prop) (v : Value), Touch F w w1 → (∀ g, F1 g → F g ∨ w.heap.size ≤ g) → Calm w1 W → Touch F1 W (w3.setCell ⟨q, 1, none⟩ v) → Rk (w3.setCell ⟨q, 1, none⟩ v) q (fun g => F1 g ∨ (W.heap.size ≤ g ∧ g < w3.heap.size)) L (holdH H x t) → Touch F w (w3.setCell ⟨q, 1, none⟩ v) ∧ ∃ F', Rk (w3.setCell ⟨q, 1, none⟩ v) q F' L (holdH H x t) ∧ ∀ g, F' g → F g ∨ w.heap.size ≤ g) := hide fun w1 W w3 F1 v t1 g1 t2 t3 r3 => by
    have s1 := t1.size
    have s2 := t2.size
    refine ⟨?_, _, r3, fun g hg => ?_⟩
    · have t12 : Touch F w W := t1.trans (t2.mono fun _ _ h => h.elim) (fun _ _ h => h)
      exact t12.trans t3 (fun g hg hf => (g1 g hf).resolve_right (by omega))
    · rcases hg with hg | ⟨hg, -⟩
      · exact g1 g hg
      · exact .inr (by omega)
  clear h ht hl hl1
  generalize holdH H x t = H' at *
  generalize hasH (freeH H x) x = hb at *
  generalize plN (freeH H x) x = p at *
  generalize hn : (freeH H x).length = n at *
  go_enter Try.func22, Try.ntmps22
  go_wp2_with fail
  refine (CT.out _).mono ?_
  rintro e w1 ⟨rfl, rfl⟩
  go_wp2_with fail
  refine CF.out.mono ?_
  rintro e w2 ⟨rfl, t2, F1, R1, g1⟩
  have HT2 := hide t2
  have HG1 := hide g1
  have HR1 := hide R1
  clear CT CF t2 g1 R1
  go_wp2_with fail
  refine (CP.out F1 _ HR1.out).mono ?_
  rintro e w3 ⟨rfl, t3⟩
  have HR3 := HR1.out.calm t3
  obtain ⟨ho, hc, s1, c1, s2, c2, a1, p1, w4, a2, p2, w5, a3, p3, w6, q0, q1, q2, q3, q4, q5, q6, q7, q8, q9⟩ := APP.out F1 w3 HR3
  obtain ⟨k0, -⟩ := q0 w3 (Touch.refl _ _)
  obtain ⟨k1, -⟩ := q0 w5 q5
  obtain ⟨k2, k3⟩ := q0 w6 q7
  have HF := hide (GF.out _ _ _ F1 _ HT2.out HG1.out t3 q8 q9)
  have Q3 := hide q3
  have Q4 := hide q4
  have Q6 := hide q6
  clear CP APP GF HT2 HG1 HR1 HR3 t3 q0 q3 q4 q5 q6 q7 q8 q9
  go_wp2_with (at_builtin; first | refine Rc.wpList_appR rfl (.const (.slice none 0 0)) (.tmp 29) 53 53 rfl _ _ _ rfl rfl Q3.out ?_ | refine Rc.wpList_appR rfl (.tmp 31) (.tmp 35) 53 53 rfl _ _ _ rfl rfl Q4.out ?_ | refine Rc.wpList_appR rfl (.tmp 38) (.tmp 44) 53 53 rfl _ _ _ rfl rfl Q6.out ?_)
  go_ret
  exact ⟨rfl, HF.out⟩

end Go.Proofs.Ytcmigkemhoecfaa
