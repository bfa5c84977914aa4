/- The program's router: From, New, Copy. The program's router: From, New. The program's router: From and New, all of it. The zero router's cells (of the landed type). The program's router meets what the laws' walks ask; one that is not there, or a zero one, too. -/
import Derived.Test.YtapnjofplilefaaGreatR3
import Derived.Test.YtapnjofplilefaaGreatJ4
import Derived.Test.YtapnjofplilefaaGreatJX
import Derived.Test.YtapnjofplilefaaGreatZG0
import Derived.Deep.QuietTactic
import Derived.Test.YtapnjofplilefaaGreatSBase
namespace Go.Proofs.YtapnjofplilefaaGreat
open Go.RowKit

theorem checkR_any (c : Cf) (w : World) : Calls Tryz.prog 9 #[cfv c] w fun e w' => e = .returned (.int .i64 (if jobB c = false then 4 else 0)) ∧ Calm w w' := by
  have := check_any c w
  rw [ch_job] at this
  refine this.mono fun e w' h => ⟨?_, h.2⟩
  rw [h.1]
  cases hj : jobB c with
  | false => rw [if_neg (wrong_no hj), if_pos rfl]
  | true => rw [if_pos (wrong_job0 hj), if_neg (by simp)]

set_option maxRecDepth 100000 in
set_option maxHeartbeats 2000000 in
/-- Another one that stands where this one does. -/
theorem againR_any {w : World} {k : Nat} {G : Nat → Prop} {c : Cf} {p : Nat} {L : List Int} {s : Int} (h : Kno w k G c p L s) : Calls Tryz.prog 39 #[cp k] w fun e w' => ∃ k', e = .returned (cp k') ∧ Kno w' k' (fun g => w.heap.size ≤ g ∧ g < w'.heap.size) c p L s ∧ Calm w w' := by
  obtain ⟨qc, Gc, hk, hc, -⟩ := h.ex
  have CC : Hid (∀ W, Calm w W → Calls Tryz.prog 59 #[cp qc] W fun e w' => ∃ q', e = .returned (cp q') ∧ Clk w' q' (fun g => W.heap.size ≤ g ∧ g < w'.heap.size) L [] ∧ Calm W w') := hide fun W hW => copy_any (hc.calm hW) (by simp) h.ok (fun y hy => (nomatch hy))
  have HOK := hide h.ok
  obtain ⟨⟨k0, k1, k2, k3, k4, k5, k6, k7, k8, k9⟩, k10, k11, k12⟩ := rr_cells hk
  have A0 := hide (al_new w (.cells (rrc c (p : Int) (cp qc) s) 89))
  have T0 := hide ((Touch.refl (fun _ => False) w).alloc (.cells (rrc c (p : Int) (cp qc) s) 89))
  have S0 := hide (al_size w (.cells (rrc c (p : Int) (cp qc) s) 89))
  have k11' := (rr_cells (T0.out.at hk)).2.2.1
  clear h hk hc
  go_enter Tryz.func39, Tryz.ntmps39
  go_upto_region 2 with fail
  generalize w.alloc (.cells (rrc c (p : Int) (cp qc) s) 89) = w1 at *
  generalize hD : w.heap.size = D at *
  have HD := hide hD
  clear hD k0 k1 k2 k3 k4 k5 k6 k7 k8 k9 k10 k11 k12
  go_wp2_with fail
  refine (CC.out w1 T0.out).mono ?_
  rintro e w2 ⟨q', rfl, C2, t2⟩
  have A2 := t2.at A0.out
  have Dq : D < w1.heap.size := lt_of_heap A0.out
  obtain ⟨-, -, j11, -⟩ := rr_cells A2
  have j11f : w2.frozen? ⟨D, 11, none⟩ = false := by simp [World.frozen?, A2]
  have A3 : (w2.setCell ⟨D, 11, none⟩ (cp q')).heap[D]? = some (.cells (rrc c (p : Int) (cp q') s) 89 (0, 0)) := by
    have := heap_setCell_row (i := 11) A2 (cp q')
    simpa using this
  have T3 := (Touch.refl (fun g => g = D) w2).setCell (p := ⟨D, 11, none⟩) (fun _ => rfl) (cp q')
  have SZ : w1.heap.size ≤ w2.heap.size := t2.size
  have K3 : Hid (Kno (w2.setCell ⟨D, 11, none⟩ (cp q')) D (fun g => w.heap.size ≤ g ∧ g < (w2.setCell ⟨D, 11, none⟩ (cp q')).heap.size) c p L s ∧ Calm w (w2.setCell ⟨D, 11, none⟩ (cp q'))) := hide (by
    have S3 : (w2.setCell ⟨D, 11, none⟩ (cp q')).heap.size = w2.heap.size := by simp
    refine ⟨⟨⟨q', _, A3, C2.touch T3 (fun g hg e => by have : w1.heap.size ≤ g := hg.1; omega), fun g hg => ?_⟩, HOK.out, ⟨by have := HD.out; omega, by omega⟩, fun g hg => hg.2⟩, (T0.out.tr t2).trans T3 fun g hg e => by have := HD.out; omega⟩
    have h1 : w1.heap.size ≤ g := hg.1
    have h2 : g < w2.heap.size := hg.2
    have h3 := T0.out.size
    exact ⟨⟨by omega, by omega⟩, by omega⟩)
  clear CC HOK A0 T0 S0 k11' C2 t2 A2 A3 T3 SZ
  go_wp2_with fail
  go_ret
  exact ⟨D, rfl, K3.out⟩

set_option maxRecDepth 100000 in
set_option maxHeartbeats 1000000 in
theorem copyR_any {w : World} {q : Nat} {G : Nat → Prop} {c : Cf} {p : Nat} {L : List Int} {s : Int} (h : Pr w q G c p L s) : Calls Tryz.prog 25 #[cp q] w fun e w' => ∃ q', e = .returned (cp q') ∧ Pr w' q' (fun g => w.heap.size ≤ g ∧ g < w'.heap.size) c p L s ∧ Calm w w' := by
  obtain ⟨k, Gk, hq, hk, -⟩ := h.ex
  have c0 := (one_cell hq).1
  have CT := hide (thereR_at q k w c0)
  have CA := hide (againR_any hk)
  have HJ := hide h.job
  clear h hq hk
  go_enter Tryz.func25, Tryz.ntmps25
  go_wp2_with fail
  refine CT.out.mono ?_
  rintro e w9 ⟨rfl, rfl⟩
  clear CT
  go_wp2_with fail
  refine CA.out.mono ?_
  rintro e w2 ⟨k', rfl, K2, t2⟩
  have A3 := al_new w2 (.cells #[cp k'] 91)
  have T3 := (Touch.refl (fun _ => False) w2).alloc (.cells #[cp k'] 91)
  have S3 := al_size w2 (.cells #[cp k'] 91)
  have P3 : Hid (Pr (w2.alloc (.cells #[cp k'] 91)) w2.heap.size (fun g => w9.heap.size ≤ g ∧ g < (w2.alloc (.cells #[cp k'] 91)).heap.size) c p L s ∧ Calm w9 (w2.alloc (.cells #[cp k'] 91))) := hide (by
    have := t2.size
    refine ⟨⟨⟨k', _, A3, K2.calm T3, fun g hg => ?_⟩, HJ.out, ⟨this, by omega⟩, fun g hg => hg.2⟩, t2.tr T3⟩
    have h1 : w9.heap.size ≤ g := hg.1
    have h2 : g < w2.heap.size := hg.2
    exact ⟨⟨h1, by omega⟩, by omega⟩)
  clear K2 t2 A3 T3 S3 CA c0
  go_wp2_with fail
  go_ret
  exact ⟨_, rfl, P3.out⟩

end Go.Proofs.YtapnjofplilefaaGreat

namespace Go.Proofs.YtapnjofplilefaaGreat
open Go.RowKit

theorem tim_c : timC = timZ := rfl

set_option maxRecDepth 100000 in
set_option maxHeartbeats 2000000 in
theorem fromR_job (c : Cf) (wk : Int) (M : List Int) (mo : Option Addr) (mc : Nat) (s : Int) (w : World) (hj : jobB c = false) : Calls Tryz.prog 10 #[cfv c, .int .i64 wk, .slice mo M.length mc, .int .i64 s] w fun e w' => e = .returned (.tuple #[.pointer none, .int .i64 4]) ∧ Calm w w' := by
  have CK := fun w => hide (checkR_any c w)
  rw [if_pos hj] at CK
  have T0 := hide ((Touch.refl (fun _ => False) w).alloc (.cells (cfc c) 24))
  obtain ⟨⟨k0, k1, k2, k3, k4, k5, k6⟩, k7, k8, k9⟩ := cf_cells (al_new w (.cells (cfc c) 24))
  clear hj
  generalize M.length = n at *
  go_enter Tryz.func10, Tryz.ntmps10
  go_wp2_with fail
  refine (CK _).out.mono ?_
  rintro e w1 ⟨rfl, T1⟩
  have HT := hide (T0.out.tr T1)
  clear T0 T1 CK k0 k1 k2 k3 k4 k5 k6 k7 k8 k9
  go_wp2_with fail
  go_ret2
  exact ⟨rfl, HT.out⟩

set_option maxRecDepth 100000 in
set_option maxHeartbeats 4000000 in
theorem fromR_arg (c : Cf) (wk : Int) (M : List Int) (mo : Option Addr) (mc : Nat) (s : Int) (w : World) (hj : jobB c = true) (hb : wk < 1 ∨ c.gr < wk ∨ (M.length : Int) ≠ c.so ∨ s < 0 ∨ 4611686018427387904 < s) : Calls Tryz.prog 10 #[cfv c, .int .i64 wk, .slice mo M.length mc, .int .i64 s] w fun e w' => e = .returned (.tuple #[.pointer none, .int .i64 2]) ∧ Calm w w' := by
  have CK := fun w => hide (checkR_any c w)
  rw [if_neg (by rw [hj]; simp)] at CK
  have T0 := hide ((Touch.refl (fun _ => False) w).alloc (.cells (cfc c) 24))
  have A0 := hide (al_new w (.cells (cfc c) 24))
  obtain ⟨⟨k0, k1, k2, k3, k4, k5, k6⟩, k7, k8, k9⟩ := cf_cells A0.out
  clear hj
  generalize hn : M.length = n at *
  have HB := hide hb
  clear hb
  go_enter Tryz.func10, Tryz.ntmps10
  go_wp2_with fail
  generalize w.alloc (.cells (cfc c) 24) = w0 at *
  refine (CK _).out.mono ?_
  rintro e w1 ⟨rfl, T1⟩
  have HT := hide (T0.out.tr T1)
  obtain ⟨⟨g0, g1, -⟩, -⟩ := cf_cells (T1.at A0.out)
  clear T0 T1 CK A0 k0 k1 k2 k3 k4 k5 k6 k7 k8 k9
  by_cases h1 : wk < 1
  · clear g0 g1
    go_wp2_with fail
    go_ret2
    exact ⟨rfl, HT.out⟩
  by_cases h2 : c.gr < wk
  · clear g1
    go_wp2_with fail
    go_ret2
    exact ⟨rfl, HT.out⟩
  by_cases h3 : (n : Int) = c.so
  · by_cases h4 : s < 0
    · rw [← h3] at g1
      clear h3
      go_wp2_with fail
      go_ret2
      exact ⟨rfl, HT.out⟩
    · have h5 : 4611686018427387904 < s := by have := HB.out; omega
      rw [← h3] at g1
      clear h3
      go_wp2_with fail
      go_ret2
      exact ⟨rfl, HT.out⟩
  · go_wp2_with fail
    go_ret2
    exact ⟨rfl, HT.out⟩

set_option maxRecDepth 100000 in
set_option maxHeartbeats 4000000 in
theorem fromR_run (c : Cf) (p : Nat) (M : List Int) (mo : Option Addr) (mc : Nat) (s : Int) (w : World) (hj : jobB c = true) (h1 : ¬ (p : Int) < 1) (h2 : ¬ c.gr < (p : Int)) (h3 : (M.length : Int) = c.so) (h4 : ¬ s < 0) (h5 : ¬ 4611686018427387904 < s) (hM : encJ.Sl w mo mc M) (hl : M.length ≤ 10000000) : Calls Tryz.prog 10 #[cfv c, .int .i64 (p : Int), .slice mo M.length mc, .int .i64 s] w fun e w' => (ofB M = false ∧ e = .returned (.tuple #[.pointer none, .int .i64 2]) ∧ Calm w w') ∨ (ofB M = true ∧ ∃ q, e = .returned (.tuple #[cp q, .int .i64 0]) ∧ Pr w' q (fun g => w.heap.size ≤ g ∧ g < w'.heap.size) c p M s ∧ Calm w w') := by
  have CK := fun w => hide (checkR_any c w)
  rw [if_neg (by rw [hj]; simp)] at CK
  have T0 := hide ((Touch.refl (fun _ => False) w).alloc (.cells (cfc c) 24))
  have A0 := hide (al_new w (.cells (cfc c) 24))
  have CO : Hid (∀ W, Calm w W → Calls Tryz.prog 29 #[.slice mo M.length mc] W fun e w' => (ofB M = false ∧ e = .returned (.tuple #[.pointer none, .int .i64 2]) ∧ Calm W w') ∨ (ofB M = true ∧ ∃ q, e = .returned (.tuple #[cp q, .int .i64 0]) ∧ Clk w' q (fun g => W.heap.size ≤ g ∧ g < w'.heap.size) M [] ∧ Calm W w')) := hide fun W hW => of_any M mo mc W (Rc.Sl.calm hM hW) (by omega)
  have HJ := hide hj
  obtain ⟨⟨k0, k1, k2, k3, k4, k5, k6⟩, k7, k8, k9⟩ := cf_cells A0.out
  clear hj hM
  have H3 := hide h3
  generalize hB : ofB M = B at *
  have HB := hide hB
  clear hB
  generalize hn : M.length = n at *
  clear h3 hn hl
  go_enter Tryz.func10, Tryz.ntmps10
  go_wp2_with fail
  generalize w.alloc (.cells (cfc c) 24) = w0 at *
  refine (CK _).out.mono ?_
  rintro e w1 ⟨rfl, T1⟩
  have HT := hide (T0.out.tr T1)
  have A1 := hide (T1.at A0.out)
  obtain ⟨⟨g0, g1, -⟩, -⟩ := cf_cells A1.out
  rw [← H3.out] at g1
  clear T0 T1 CK A0 k0 k1 k2 k3 k4 k5 k6 k7 k8 k9
  go_wp2_with fail
  refine (CO.out _ HT.out).mono ?_
  rintro e w2 (⟨e1, rfl, t2⟩ | ⟨e1, qc, rfl, C2, t2⟩)
  · have HT2 := hide (HT.out.tr t2)
    have HE := hide e1
    clear e1 t2 CO HT A1 g0 g1
    go_wp2_with fail
    go_ret2
    exact .inl ⟨HE.out, rfl, HT2.out⟩
  · have HT2 := hide (HT.out.tr t2)
    have HE := hide e1
    obtain ⟨⟨k0, k1, k2, k3, k4, k5, k6⟩, k7, k8, k9⟩ := cf_cells (t2.at A1.out)
    have FIN : Hid (∀ w3 w4, w2.alloc (.cells (rrc c (p : Int) (cp qc) s) 89) = w3 → w3.alloc (.cells #[cp w2.heap.size] 91) = w4 → Pr w4 (w2.heap.size + 1) (fun g => w.heap.size ≤ g ∧ g < w4.heap.size) c p M s ∧ Calm w w4) := hide fun w3 w4 e3 e4 => by
      have A3 := al_new w2 (.cells (rrc c (p : Int) (cp qc) s) 89)
      have T3 := (Touch.refl (fun _ => False) w2).alloc (.cells (rrc c (p : Int) (cp qc) s) 89)
      have S3 := al_size w2 (.cells (rrc c (p : Int) (cp qc) s) 89)
      rw [e3] at A3 T3 S3
      have A4 := al_new w3 (.cells #[cp w2.heap.size] 91)
      have T4 := (Touch.refl (fun _ => False) w3).alloc (.cells #[cp w2.heap.size] 91)
      have S4 := al_size w3 (.cells #[cp w2.heap.size] 91)
      rw [e4] at A4 T4 S4
      rw [S3] at A4
      have s1 := HT.out.size
      have s2 := t2.size
      refine ⟨⟨⟨w2.heap.size, fun g => w.heap.size ≤ g ∧ g ≤ w2.heap.size, A4, ⟨⟨qc, _, T4.at A3, C2.calm (T3.tr T4), fun g hg => ?_⟩, by rw [HB.out]; exact HE.out, ⟨by omega, Nat.le_refl _⟩, fun g hg => by have := hg.2; omega⟩, fun g hg => ⟨⟨hg.1, by have := hg.2; omega⟩, by have := hg.2; omega⟩⟩, HJ.out, ⟨by omega, by omega⟩, fun g hg => hg.2⟩, HT2.out.tr (T3.tr T4)⟩
      have h1 : w1.heap.size ≤ g := hg.1
      have h2 : g < w2.heap.size := hg.2
      exact ⟨⟨by omega, by omega⟩, by omega⟩
    clear e1 t2 CO HT A1 g0 g1 C2
    go_wp2_with fail
    go_ret2
    exact .inr ⟨HE.out, _, rfl, FIN.out _ _ rfl rfl⟩

end Go.Proofs.YtapnjofplilefaaGreat

namespace Go.Proofs.YtapnjofplilefaaGreat
open Go.RowKit

/-- What From answers. -/
def RetR (c : Cf) (wk : Int) (M : List Int) (s : Int) (w : World) (e : Ending) (w' : World) : Prop := (fromE c wk M s ≠ 0 ∧ e = .returned (.tuple #[.pointer none, .int .i64 (fromE c wk M s : Nat)]) ∧ Calm w w') ∨ (fromE c wk M s = 0 ∧ ∃ q, e = .returned (.tuple #[cp q, .int .i64 0]) ∧ Pr w' q (fun g => w.heap.size ≤ g ∧ g < w'.heap.size) c wk.toNat M s ∧ Calm w w')

theorem ofB_all {M : List Int} (h1 : 1 ≤ M.length) (h2 : M.length ≤ 64) : ofB M = (List.range M.length).all fun i => timZ (M.getD i 0) := by
  unfold ofB
  rw [decide_eq_true h1, decide_eq_true h2]
  rfl
theorem fromR_any (c : Cf) (wk : Int) (M : List Int) (mo : Option Addr) (mc : Nat) (s : Int) (w : World) (hM : encJ.Sl w mo mc M) (hl : M.length ≤ 10000000) : Calls Tryz.prog 10 #[cfv c, .int .i64 wk, .slice mo M.length mc, .int .i64 s] w (RetR c wk M s w) := by
  unfold RetR
  rcases newE_cases c wk with ⟨e, hj⟩ | ⟨e, hj, hb⟩ | ⟨e, hj, h1, h2⟩
  · have e1 : fromE c wk M s = 4 := by unfold fromE; rw [if_pos (by rw [e]; decide), e]
    rw [e1]
    exact (fromR_job c wk M mo mc s w hj).mono fun _ _ h => .inl ⟨by decide, h⟩
  · have e1 : fromE c wk M s = 2 := by unfold fromE; rw [if_pos (by rw [e]; decide), e]
    rw [e1]
    exact (fromR_arg c wk M mo mc s w hj (by rcases hb with h | h; exact .inl h; exact .inr (.inl h))).mono fun _ _ h => .inl ⟨by decide, h⟩
  · have e0 : fromE c wk M s = if ((M.length : Int) ≠ c.so ∨ s < 0 ∨ 4611686018427387904 < s) ∨ ((List.range M.length).all fun i => timZ (M.getD i 0)) = false then 2 else 0 := by
      unfold fromE; rw [if_neg (by rw [e]; simp)]
    by_cases ha : (M.length : Int) ≠ c.so ∨ s < 0 ∨ 4611686018427387904 < s
    · have e1 : fromE c wk M s = 2 := by rw [e0, if_pos (.inl ha)]
      rw [e1]
      exact (fromR_arg c wk M mo mc s w hj (.inr (.inr ha))).mono fun _ _ h => .inl ⟨by decide, h⟩
    · obtain ⟨p, rfl⟩ : ∃ p : Nat, wk = (p : Int) := ⟨wk.toNat, by omega⟩
      have hs : (M.length : Int) = c.so := Decidable.byContradiction fun h => ha (.inl h)
      have hjj : jobP c := of_decide_eq_true hj
      have hof := ofB_all (M := M) (by unfold jobP at hjj; omega) (by unfold jobP at hjj; omega)
      refine (fromR_run c p M mo mc s w hj (by omega) (by omega) hs (fun h => ha (.inr (.inl h))) (fun h => ha (.inr (.inr h))) hM hl).mono fun e w' h => ?_
      rcases h with ⟨b, h1, h2⟩ | ⟨b, q, h1, h2, h3⟩
      · rw [hof] at b
        have e1 : fromE c (p : Int) M s = 2 := by rw [e0, if_pos (.inr b)]
        rw [e1]
        exact .inl ⟨by decide, h1, h2⟩
      · rw [hof] at b
        have e1 : fromE c (p : Int) M s = 0 := by rw [e0, if_neg (by rintro (h | h); exact ha h; rw [b] at h; cases h)]
        rw [e1]
        exact .inr ⟨rfl, q, h1, h2, h3⟩
theorem from_rep (c : Cf) (wk : Int) (hj : jobB c = true) : fromE c wk (List.replicate c.so.toNat minT) 0 = newE c wk := by
  have hjj : jobP c := of_decide_eq_true hj
  unfold jobP at hjj
  unfold fromE
  by_cases h : newE c wk = 0
  · rw [if_neg (by rw [h]; simp), if_neg, h]
    rintro ((h | h | h) | h)
    · rw [List.length_replicate] at h; omega
    · omega
    · omega
    · have : ((List.range (List.replicate c.so.toNat minT).length).all fun i => timZ ((List.replicate c.so.toNat minT).getD i 0)) = true := by
        rw [List.all_eq_true]
        intro i hi
        rw [List.mem_range, List.length_replicate] at hi
        rw [List.getD_eq_getElem?_getD, List.getElem?_replicate, if_pos hi]
        rfl
      rw [this] at h; cases h
  · rw [if_pos h]

set_option maxRecDepth 100000 in
set_option maxHeartbeats 1000000 in
theorem newR_job (c : Cf) (wk : Int) (w : World) (hj : jobB c = false) : Calls Tryz.prog 4 #[cfv c, .int .i64 wk] w fun e w' => e = .returned (.tuple #[.pointer none, .int .i64 4]) ∧ Calm w w' := by
  have CK := fun w => hide (checkR_any c w)
  rw [if_pos hj] at CK
  have T0 := hide ((Touch.refl (fun _ => False) w).alloc (.cells (cfc c) 24))
  obtain ⟨⟨k0, k1, k2, k3, k4, k5, k6⟩, k7, k8, k9⟩ := cf_cells (al_new w (.cells (cfc c) 24))
  clear hj
  go_enter Tryz.func4, Tryz.ntmps4
  go_wp2_with fail
  refine (CK _).out.mono ?_
  rintro e w1 ⟨rfl, T1⟩
  have HT := hide (T0.out.tr T1)
  clear T0 T1 CK k0 k1 k2 k3 k4 k5 k6 k7 k8 k9
  go_wp2_with fail
  go_ret2
  exact ⟨rfl, HT.out⟩

set_option maxRecDepth 100000 in
set_option maxHeartbeats 2000000 in
theorem newR_run (c : Cf) (wk : Int) (w : World) (hj : jobB c = true) : Calls Tryz.prog 4 #[cfv c, .int .i64 wk] w (RetR c wk (List.replicate c.so.toNat minT) 0 w) := by
  have CK := fun w => hide (checkR_any c w)
  rw [if_neg (by rw [hj]; simp)] at CK
  have T0 := hide ((Touch.refl (fun _ => False) w).alloc (.cells (cfc c) 24))
  have A0 := hide (al_new w (.cells (cfc c) 24))
  obtain ⟨n, hn, hn1, hn2⟩ : ∃ n : Nat, c.so = (n : Int) ∧ 1 ≤ n ∧ n ≤ 64 := by
    have hjj : jobP c := of_decide_eq_true hj
    unfold jobP at hjj
    exact ⟨c.so.toNat, by omega, by omega, by omega⟩
  have HR : Hid (∀ W a, W.heap[a]? = some (.cells #[mV] 2 (0, 0)) → Calls Tryz.prog 11 #[.slice (some ⟨a, 0, none⟩) 1 1, .int .i64 (n : Int)] W fun e w' => ∃ g, e = .returned (.slice (some ⟨g, 0, none⟩) n n) ∧ encJ.Sl w' (some ⟨g, 0, none⟩) n (List.replicate n minT) ∧ Calm W w') := hide fun W a ha => repeat_any n a W hn1 hn2 ha
  have HF : Hid (∀ W g, encJ.Sl W (some ⟨g, 0, none⟩) n (List.replicate n minT) → Calls Tryz.prog 10 #[cfv c, .int .i64 wk, .slice (some ⟨g, 0, none⟩) n n, .int .i64 0] W (RetR c wk (List.replicate n minT) 0 W)) := hide fun W g h => by
    have := fromR_any c wk (List.replicate n minT) (some ⟨g, 0, none⟩) n 0 W h (by rw [List.length_replicate]; omega)
    rw [List.length_replicate] at this
    exact this
  have en : c.so.toNat = n := by omega
  rw [en]
  obtain ⟨⟨k0, k1, k2, k3, k4, k5, k6⟩, k7, k8, k9⟩ := cf_cells A0.out
  have HN := hide hn
  clear hj en hn1 hn2 hn
  go_enter Tryz.func4, Tryz.ntmps4
  go_wp2_with fail
  generalize w.alloc (.cells (cfc c) 24) = w0 at *
  refine (CK _).out.mono ?_
  rintro e w1 ⟨rfl, T1⟩
  have HT := hide (T0.out.tr T1)
  have A1 := hide (T1.at A0.out)
  clear T0 T1 CK A0 k0 k1 k2 k3 k4 k5 k6 k7 k8 k9
  generalize hD : w.heap.size = D at *
  have HD := hide hD
  clear hD
  go_wp2_with fail
  refine wp_region_held (S := Calm w1) (by kernel_rfl) ?_
  have hT0 : Calm w1 { w1 with drawn := w1.drawn + 1 } := (Touch.refl _ w1).drew
  refine wpAnyH_yield 0 12 (cfv c) rfl rfl (by kernel_rfl) (by kernel_rfl) (by kernel_rfl) (fun _ _ _ h => h) (by kernel_rfl) (fun W hW => by obtain ⟨⟨k0, k1, k2, k3, k4, k5, k6⟩, k7, k8, k9⟩ := cf_cells (hW.at A1.out); go_simp) (by assumption) rfl rfl ?_
  simp only [Act.put, List.setIfInBounds_toArray, List.set_cons_zero, List.set_cons_succ]
  refine wpAnyH_yield 1 13 (.int .i64 wk) rfl rfl (by kernel_rfl) (by kernel_rfl) (by kernel_rfl) (fun _ _ _ h => h) (by kernel_rfl) (fun W hW => by kernel_rfl) (by assumption) rfl rfl ?_
  simp only [Act.put, List.setIfInBounds_toArray, List.set_cons_zero, List.set_cons_succ]
  refine wpAnyH_yield 3 15 (.pointer (some ⟨D, 1, none⟩)) rfl rfl (by kernel_rfl) (by kernel_rfl) (by kernel_rfl) (fun _ _ _ h => h) (by kernel_rfl) (fun W hW => by kernel_rfl) (by assumption) rfl rfl ?_
  simp only [Act.put, List.setIfInBounds_toArray, List.set_cons_zero, List.set_cons_succ]
  refine wpAnyH_yield 4 16 (.int .i64 (n : Int)) rfl rfl (by kernel_rfl) (by kernel_rfl) (by kernel_rfl) (fun _ _ _ h => h) (by kernel_rfl) (fun W hW => by obtain ⟨⟨-, k1, -⟩, -⟩ := cf_cells (hW.at A1.out); rw [HN.out] at k1; go_simp) (by assumption) rfl rfl ?_
  simp only [Act.put, List.setIfInBounds_toArray, List.set_cons_zero, List.set_cons_succ]
  generalize ({ w1 with drawn := w1.drawn + 1 } : World) = wD at *
  have hTE : Calm w1 (wD.alloc (.cells #[mV] 2)) := hT0.alloc _
  refine wpAnyH_value 2 14 (.slice (some ⟨wD.heap.size, 0, none⟩) 1 1) (w' := wD.alloc (.cells #[mV] 2)) rfl rfl (by kernel_rfl) (by kernel_rfl) (by go_simp) hTE ?_
  simp only [Act.put, List.setIfInBounds_toArray, List.set_cons_zero, List.set_cons_succ]
  refine wpAnyH_enter 5 17 11 #[.slice (some ⟨wD.heap.size, 0, none⟩) 1 1, .int .i64 (n : Int)] rfl rfl (by kernel_rfl) (by kernel_rfl) (by kernel_rfl) ?_
  refine (HR.out _ _ (al_new _ _)).mono ?_
  rintro r w5 ⟨g, rfl, sl, t5⟩
  have h5 := hTE.tr t5
  refine ⟨_, rfl, h5, ?_⟩
  simp only [Act.put, List.setIfInBounds_toArray, List.set_cons_zero, List.set_cons_succ]
  refine wpAnyH_enter 6 18 10 #[cfv c, .int .i64 wk, .slice (some ⟨g, 0, none⟩) n n, .int .i64 0] rfl rfl (by kernel_rfl) (by kernel_rfl) (by kernel_rfl) ?_
  refine (HF.out _ g sl).mono ?_
  rintro r w6 hr
  have CW : Hid (∀ w', Calm w5 w' → Calm w w') := hide fun w' h => (HT.out.tr h5).tr h
  rcases hr with ⟨h1, rfl, t6⟩ | ⟨h1, q, rfl, P6, t6⟩
  · have h6 := h5.tr t6
    have FIN : Hid (RetR c wk (List.replicate n minT) 0 w (.returned (.tuple #[.pointer none, .int .i64 (fromE c wk (List.replicate n minT) 0 : Nat)])) w6) := hide (.inl ⟨h1, rfl, CW.out _ t6⟩)
    generalize fromE c wk (List.replicate n minT) 0 = E at *
    generalize List.replicate n minT = M at *
    refine ⟨_, rfl, h6, ?_⟩
    simp only [Act.put, List.setIfInBounds_toArray, List.set_cons_zero, List.set_cons_succ]
    refine wpAnyH_yield 7 19 (.pointer none) rfl rfl (by kernel_rfl) (by kernel_rfl) (by kernel_rfl) (fun _ _ _ h => h) (by kernel_rfl) (fun W hW => by kernel_rfl) (by assumption) rfl rfl ?_
    simp only [Act.put, List.setIfInBounds_toArray, List.set_cons_zero, List.set_cons_succ]
    refine wpAnyH_yield 8 20 (.int .i64 (E : Int)) rfl rfl (by kernel_rfl) (by kernel_rfl) (by kernel_rfl) (fun _ _ _ h => h) (by kernel_rfl) (fun W hW => by kernel_rfl) (by assumption) rfl rfl ?_
    simp only [Act.put, List.setIfInBounds_toArray, List.set_cons_zero, List.set_cons_succ]
    refine wpAnyH_yield 9 4 (.pointer none) rfl rfl (by kernel_rfl) (by kernel_rfl) (by kernel_rfl) (fun _ _ _ h => h) (by kernel_rfl) (fun W hW => by kernel_rfl) (by assumption) rfl rfl ?_
    simp only [Act.put, List.setIfInBounds_toArray, List.set_cons_zero, List.set_cons_succ]
    refine wpAnyH_yield 10 5 (.int .i64 (E : Int)) rfl rfl (by kernel_rfl) (by kernel_rfl) (by kernel_rfl) (fun _ _ _ h => h) (by kernel_rfl) (fun W hW => by kernel_rfl) (by assumption) rfl rfl ?_
    simp only [Act.put, List.setIfInBounds_toArray, List.set_cons_zero, List.set_cons_succ]
    refine wpAnyH_done (by kernel_rfl) ?_ _
    clear h1 t6 h6 CW h5 t5 sl hTE hT0 HR HF HT A1
    go_wp2_with fail
    go_ret2
    exact FIN.out
  · have h6 := h5.tr t6
    have FIN : Hid (RetR c wk (List.replicate n minT) 0 w (.returned (.tuple #[cp q, .int .i64 0])) w6) := hide (.inr ⟨h1, q, rfl, ⟨P6.ex.imp fun k ⟨Gk, a, b, d⟩ => ⟨Gk, a, b, fun g hg => ⟨⟨Nat.le_trans (HT.out.tr h5).size (d g hg).1.1, (d g hg).1.2⟩, (d g hg).2⟩⟩, P6.job, ⟨Nat.le_trans (HT.out.tr h5).size P6.at_.1, P6.at_.2⟩, fun g hg => hg.2⟩, CW.out _ t6⟩)
    generalize List.replicate n minT = M at *
    refine ⟨_, rfl, h6, ?_⟩
    simp only [Act.put, List.setIfInBounds_toArray, List.set_cons_zero, List.set_cons_succ]
    refine wpAnyH_yield 7 19 (cp q) rfl rfl (by kernel_rfl) (by kernel_rfl) (by kernel_rfl) (fun _ _ _ h => h) (by kernel_rfl) (fun W hW => by kernel_rfl) (by assumption) rfl rfl ?_
    simp only [Act.put, List.setIfInBounds_toArray, List.set_cons_zero, List.set_cons_succ]
    refine wpAnyH_yield 8 20 (.int .i64 0) rfl rfl (by kernel_rfl) (by kernel_rfl) (by kernel_rfl) (fun _ _ _ h => h) (by kernel_rfl) (fun W hW => by kernel_rfl) (by assumption) rfl rfl ?_
    simp only [Act.put, List.setIfInBounds_toArray, List.set_cons_zero, List.set_cons_succ]
    refine wpAnyH_yield 9 4 (cp q) rfl rfl (by kernel_rfl) (by kernel_rfl) (by kernel_rfl) (fun _ _ _ h => h) (by kernel_rfl) (fun W hW => by kernel_rfl) (by assumption) rfl rfl ?_
    simp only [Act.put, List.setIfInBounds_toArray, List.set_cons_zero, List.set_cons_succ]
    refine wpAnyH_yield 10 5 (.int .i64 0) rfl rfl (by kernel_rfl) (by kernel_rfl) (by kernel_rfl) (fun _ _ _ h => h) (by kernel_rfl) (fun W hW => by kernel_rfl) (by assumption) rfl rfl ?_
    simp only [Act.put, List.setIfInBounds_toArray, List.set_cons_zero, List.set_cons_succ]
    refine wpAnyH_done (by kernel_rfl) ?_ _
    clear h1 t6 h6 CW h5 t5 sl hTE hT0 HR HF HT A1 P6
    go_wp2_with fail
    go_ret2
    exact FIN.out

end Go.Proofs.YtapnjofplilefaaGreat

namespace Go.Proofs.YtapnjofplilefaaGreat
open Go.RowKit

abbrev zC15 : Array Value := #[.pointer none]

end Go.Proofs.YtapnjofplilefaaGreat

namespace Go.Proofs.YtapnjofplilefaaGreat
open Go.RowKit

/-- No router stands there. -/
def NonR (w0 : World) (o : Option Addr) : Prop := ∀ w, Calm w0 w → Calls Tryz.prog 31 #[.pointer o] w fun e w' => e = .returned (.bool false) ∧ w' = w

theorem noR_Marks {w0 : World} {o : Option Addr} (h : NonR w0 o)  (w : World) (hw : Calm w0 w) : Calls Tryz.prog 23 #[.pointer o] w fun e w' => e = .returned (.slice none 0 0) ∧ w' = w := by
  have C := hide (h w hw)
  clear h hw
  go_enter Tryz.func23, Tryz.ntmps23
  go_wp2_with fail
  refine C.out.mono ?_
  rintro e w9 ⟨rfl, rfl⟩
  clear C
  go_wp2_with fail
  go_ret
  exact ⟨rfl, rfl⟩

theorem noR_Watermark {w0 : World} {o : Option Addr} (h : NonR w0 o)  (w : World) (hw : Calm w0 w) : Calls Tryz.prog 15 #[.pointer o] w fun e w' => e = .returned (.int .i64 0) ∧ w' = w := by
  have C := hide (h w hw)
  clear h hw
  go_enter Tryz.func15, Tryz.ntmps15
  go_wp2_with fail
  refine C.out.mono ?_
  rintro e w9 ⟨rfl, rfl⟩
  clear C
  go_wp2_with fail
  go_ret
  exact ⟨rfl, rfl⟩

theorem noR_Seq {w0 : World} {o : Option Addr} (h : NonR w0 o)  (w : World) (hw : Calm w0 w) : Calls Tryz.prog 16 #[.pointer o] w fun e w' => e = .returned (.int .i64 0) ∧ w' = w := by
  have C := hide (h w hw)
  clear h hw
  go_enter Tryz.func16, Tryz.ntmps16
  go_wp2_with fail
  refine C.out.mono ?_
  rintro e w9 ⟨rfl, rfl⟩
  clear C
  go_wp2_with fail
  go_ret
  exact ⟨rfl, rfl⟩

theorem noR_Copy {w0 : World} {o : Option Addr} (h : NonR w0 o)  (w : World) (hw : Calm w0 w) : Calls Tryz.prog 25 #[.pointer o] w fun e w' => e = .returned (.pointer none) ∧ w' = w := by
  have C := hide (h w hw)
  clear h hw
  go_enter Tryz.func25, Tryz.ntmps25
  go_wp2_with fail
  refine C.out.mono ?_
  rintro e w9 ⟨rfl, rfl⟩
  clear C
  go_wp2_with fail
  go_ret
  exact ⟨rfl, rfl⟩

theorem noR_Worker {w0 : World} {o : Option Addr} (h : NonR w0 o) (x : ByteArray) (w : World) (hw : Calm w0 w) : Calls Tryz.prog 21 #[.pointer o, .string x] w fun e w' => e = .returned (.tuple #[.int .i64 0, .int .i64 1]) ∧ w' = w := by
  have C := hide (h w hw)
  clear h hw
  go_enter Tryz.func21, Tryz.ntmps21
  go_wp2_with fail
  refine C.out.mono ?_
  rintro e w9 ⟨rfl, rfl⟩
  clear C
  go_wp2_with fail
  go_ret2
  exact ⟨rfl, rfl⟩

theorem noR_Items {w0 : World} {o : Option Addr} (h : NonR w0 o) (mo : Option Addr) (n mc : Nat) (w : World) (hw : Calm w0 w) : Calls Tryz.prog 19 #[.pointer o, .slice mo n mc] w fun e w' => e = .returned (.tuple #[.slice none 0 0, .int .i64 0, .int .i64 1]) ∧ w' = w := by
  have C := hide (h w hw)
  clear h hw
  go_enter Tryz.func19, Tryz.ntmps19
  go_wp2_with fail
  refine C.out.mono ?_
  rintro e w9 ⟨rfl, rfl⟩
  clear C
  go_wp2_with fail
  go_ret3
  exact ⟨rfl, rfl⟩

set_option maxRecDepth 100000 in
theorem noR_Item {w0 : World} {o : Option Addr} (h : NonR w0 o) (x : It) (w : World) (hw : Calm w0 w) : Calls Tryz.prog 14 #[.pointer o, itv x] w fun e w' => e = .returned (.tuple #[.slice none 0 0, .int .i64 1]) ∧ Calm w w' := by
  have C : Hid (∀ mo n mc W, Calm w W → Calls Tryz.prog 19 #[.pointer o, .slice mo n mc] W fun e w' => e = .returned (.tuple #[.slice none 0 0, .int .i64 0, .int .i64 1]) ∧ w' = W) := hide fun mo n mc W hW => noR_Items h mo n mc W (hw.tr hW)
  have A0 := al_new w (.cells (itc x) 60)
  have T1 : Hid (∀ o, Calm w ((w.alloc (.cells (itc x) 60)).alloc o)) := hide fun o => ((Touch.refl (fun _ => False) w).alloc _).alloc o
  clear h hw
  obtain ⟨ki, ke, tm, va, sr⟩ := x
  obtain ⟨i0, i1, i2, i3, i4⟩ := it_cells A0
  clear A0
  go_enter Tryz.func14, Tryz.ntmps14
  go_wp2_with fail
  refine (C.out _ 1 1 _ (T1.out _)).mono ?_
  rintro e w9 ⟨rfl, rfl⟩
  clear i0 i1 i2 i3 i4 C
  go_wp2_with fail
  go_ret2
  exact ⟨rfl, T1.out _⟩

theorem calm_eq {w w' : World} (h : w' = w) : Calm w w' := by rw [h]; exact Touch.refl _ _
theorem NonR.rpn {w0 : World} {o : Option Addr} (h : NonR w0 o) : Rpn (.pointer o) w0 where
  item x w hw := (noR_Item h x w hw).mono fun _ _ hh => ⟨none, 0, hh.1, hh.2⟩
  items M mo mc w hw _ _ := (noR_Items h mo M.length mc w hw).mono fun _ _ hh => ⟨none, 0, hh.1, calm_eq hh.2⟩
  worker x w hw _ := (noR_Worker h x w hw).mono fun _ _ hh => ⟨hh.1, calm_eq hh.2⟩
  marks w hw := (noR_Marks h w hw).mono fun _ _ hh => ⟨none, 0, hh.1, calm_eq hh.2⟩
  water w hw := (noR_Watermark h w hw).mono fun _ _ hh => ⟨hh.1, calm_eq hh.2⟩
  seq w hw := (noR_Seq h w hw).mono fun _ _ hh => ⟨hh.1, calm_eq hh.2⟩
  copy w hw := (noR_Copy h w hw).mono fun _ _ hh => ⟨hh.1, calm_eq hh.2⟩
theorem router_nil (w0 : World) : Rpn (.pointer none) w0 := NonR.rpn fun w _ => thereR_nil w
theorem router_zero (w : World) : Rpn (cp w.heap.size) (w.alloc (.cells zC15 91)) :=
  NonR.rpn fun W hW => thereR_zero _ W (one_cell (hW.at (al_new w (.cells zC15 91)))).1

theorem router_all : Rpi Pr where
  touch h ht hS := h.touch ht hS
  lt h := h.lt
  item_no x h hS hz := itemR_no x h hS hz
  item_yes x h hS hz := (itemR_yes x h hS hz).mono fun _ _ ⟨a, k, h1, h2, h3, h4⟩ => ⟨a, k, h1, h2, h3, _, h4, fun _ hg => .inl hg⟩
  items M mo mc h hS hM hF hl := (itemsR_any M mo mc h hS hM hF hl).mono fun _ _ ⟨a, k, h1, h2, h3, h4, _⟩ => ⟨a, k, h1, h2, h3, _, h4, fun _ hg => .inl hg⟩
  worker x h hS hx := workR_any x h hS hx
  marks h := marksR_any h
  water h := waterR_any h
  seq h := seqR_any h
  copy h := copyR_any h
  new_no c wk w h := by
    cases hj : jobB c with
    | false =>
      have e : newE c wk = 4 := by unfold newE; rw [if_pos hj]
      rw [e]
      exact newR_job c wk w hj
    | true =>
      refine (newR_run c wk w hj).mono fun e w' hr => ?_
      unfold RetR at hr
      rw [from_rep c wk hj] at hr
      rcases hr with ⟨_, h1, h2⟩ | ⟨h0, _⟩
      · exact ⟨h1, h2⟩
      · exact absurd h0 h
  new_yes c p w h := by
    have hj : jobB c = true := by
      rcases newE_cases c p with ⟨e, -⟩ | ⟨e, -⟩ | ⟨-, h1, -, -⟩
      · rw [e] at h; cases h
      · rw [e] at h; cases h
      · exact h1
    refine (newR_run c p w hj).mono fun e w' hr => ?_
    unfold RetR at hr
    rw [from_rep c p hj] at hr
    rcases hr with ⟨h0, _⟩ | ⟨_, q, h1, h2, h3⟩
    · exact absurd h h0
    · exact ⟨q, h1, h2, h3⟩
  from_no c wk M mo mc s w hM hl h := (fromR_any c wk M mo mc s w hM hl).mono fun e w' hr => by
    rcases hr with ⟨_, h1, h2⟩ | ⟨h0, _⟩
    · exact ⟨h1, h2⟩
    · exact absurd h0 h
  from_yes c p M mo mc s w hM hl h := (fromR_any c p M mo mc s w hM hl).mono fun e w' hr => by
    rcases hr with ⟨h0, _⟩ | ⟨_, q, h1, h2, h3⟩
    · exact absurd h h0
    · exact ⟨q, h1, h2, h3⟩

end Go.Proofs.YtapnjofplilefaaGreat
