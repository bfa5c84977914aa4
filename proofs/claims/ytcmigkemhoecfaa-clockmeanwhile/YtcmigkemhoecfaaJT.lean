/- The program's clock: New. -/
import Derived.Test.YtcmigkemhoecfaaJS
namespace Go.Proofs.Ytcmigkemhoecfaa
open Go.RowKit

abbrev mV : Value := .int .i64 (-4611686018427387904)
/-- The first k of n cells are the least time. -/
def Rp (g n k : Nat) (w0 wr : World) : Prop := ∃ cur : Array Value, wr.heap[g]? = some (.cells cur 2 (0, 0)) ∧ cur.size = n ∧ (∀ j, j < k → cur[j]? = some mV) ∧ Calm w0 wr

set_option maxRecDepth 100000 in
theorem Rp.copy {g n k m : Nat} {w0 wr : World} (h : Rp g n k w0 wr) (hg : w0.heap.size ≤ g) (hk : k < n) (hm : m = min k (n - k)) : ∃ w', (Builtin.copy_ #[22, 22] 3 #[.slice (some ⟨g, k, none⟩) (n - k) (n - k), .slice (some ⟨g, 0, none⟩) k n]).run Try.prog wr = .ok (.int .i64 (m : Int)) w' ∧ Rp g n (k + m) w0 w' := by
  obtain ⟨cur, h1, h2, h3, h4⟩ := h
  obtain ⟨i0, hi, hz, hsz, hby⟩ := Rc.info_parts infoJ
  have hs : (Try.prog.info? 2).map (·.size) = some 1 := by rw [hi]; simp [hsz]
  have hr := run_copy_row Try.prog wr 22 22 3 2 g k (n - k) (n - k) ⟨g, 0, none⟩ k n cur 2 (List.replicate m mV) Try.underlying22 hs h1 (by rw [List.length_replicate, hm]) (fun j v hv => by
    rw [List.getElem?_replicate] at hv
    split at hv
    · rename_i hj
      injection hv with hv
      subst hv
      have e : (⟨g, 0, none⟩ : Addr).add j = ⟨g, j, none⟩ := by unfold Addr.add; split <;> simp_all
      rw [e]
      have := h3 j (by omega)
      simp [World.cell?, h1, this]
    · cases hv) (by rw [List.length_replicate, h2]; omega) (fun v hv => by
    have := List.eq_of_mem_replicate hv
    rw [this]; rfl)
  rw [List.length_replicate] at hr
  refine ⟨_, hr, _, setRow_heap wr g cur _ 2 (0, 0) h1, ?_, fun j hj => ?_, ?_⟩
  · simp only [List.size_toArray, List.length_append, List.length_take, List.length_replicate, List.length_drop, Array.length_toList, h2]
    omega
  · rw [List.getElem?_toArray, List.getElem?_append, List.getElem?_append]
    simp only [List.length_append, List.length_take, List.length_replicate, Array.length_toList, h2]
    by_cases hjk : j < k
    · rw [if_pos (by omega), if_pos (by omega), List.getElem?_take, if_pos hjk, Array.getElem?_toList]
      exact h3 j hjk
    · rw [if_pos (by omega), if_neg (by omega), List.getElem?_replicate, if_pos (by omega)]
  · have t : Touch (fun d => d = g) wr (wr.setRow g (cur.toList.take k ++ List.replicate m mV ++ cur.toList.drop (k + m)).toArray) := by
      refine ⟨rfl, rfl, rfl, by simp, fun j hj hn => ?_⟩
      exact setRow_other _ _ _ _ (fun e => hn (by omega))
    exact h4.trans t (fun d hd e => by omega)

theorem rpt_own {g n : Nat} {w0 wr : World} (h : Rp g n n w0 wr) (hn : n ≤ 64) : encJ.Sl wr (some ⟨g, 0, none⟩) n (List.replicate n minT) := by
  obtain ⟨cur, h1, h2, h3, h4⟩ := h
  refine Rc.Own.sl (e := 2) (base := 0) (n := n) ⟨by rw [encJ.flat_len], .inr ⟨g, n, cur, by simp, Nat.zero_le _, h1, by simp, by unfold maxLen; omega, ?_, ?_⟩⟩
  · have e : encJ.n = 1 := rfl
    rw [e, h2]; omega
  · have e : encJ.n = 1 := rfl
    have ef : ∀ L : List Int, encJ.flat L = L.map (Value.int .i64) := fun L => by
      induction L with
      | nil => rfl
      | cons x L ih => show [Value.int .i64 x] ++ encJ.flat L = _; rw [ih]; rfl
    rw [e, ef, List.length_replicate, Nat.mul_one, List.map_replicate]
    apply List.ext_getElem?
    intro j
    rw [List.getElem?_take, List.getElem?_replicate]
    split
    · rename_i hj
      rw [Array.getElem?_toList]
      exact h3 j hj
    · rfl

set_option maxRecDepth 100000 in
set_option maxHeartbeats 1000000 in
theorem repeat_any (n a : Nat) (w : World) (h1 : 1 ≤ n) (h2 : n ≤ 64) (ha : w.heap[a]? = some (.cells #[mV] 2 (0, 0))) : Calls Try.prog 31 #[.slice (some ⟨a, 0, none⟩) 1 1, .int .i64 (n : Int)] w fun e w' => ∃ g, e = .returned (.slice (some ⟨g, 0, none⟩) n n) ∧ encJ.Sl w' (some ⟨g, 0, none⟩) n (List.replicate n minT) ∧ Calm w w' := by
  have CM := hide (mul_any 1 n (by omega) (by omega) w)
  rw [show ((1 * n / 18446744073709551616 : Nat) : Int) = 0 by omega, show ((1 * n % 18446744073709551616 : Nat) : Int) = (n : Int) by omega] at CM
  obtain ⟨i0, hi, hz0, hz1, hz2⟩ := Rc.info_parts infoJ
  obtain ⟨M, hM, hMs⟩ : ∃ M : Array Value, (∀ W : World, (Instr.makeSlice 22 (.int .i64 (n : Int)) (.int .i64 (n : Int))).run Try.prog W = .ok (.slice (some ⟨W.heap.size, 0, none⟩) n n) (W.alloc (.cells M 2))) ∧ M.size = n :=
    ⟨madeCells (Value.int .i64 0).cells (((n : Nat) : Int).toNat * i0.size), fun W => by
      have h := run_make (P := Try.prog) W 22 2 i0 (.int .i64 0) Try.underlying22 hi hz0 .i64 .i64 (n : Int) (n : Int) (by omega) (by omega) (by rw [hz2]; omega) (by omega)
      simpa using h, by rw [size_madeCells, hz1]; simp⟩
  have hs : (Try.prog.info? 2).map (·.size) = some 1 := by rw [hi]; simp [hz1]
  have T1 := (Touch.refl (fun _ => False) w).alloc (.cells M 2)
  have A1 := al_new w (.cells M 2)
  have ha1 := T1.at ha
  have CP := run_copy_row Try.prog (w.alloc (.cells M 2)) 22 22 3 2 w.heap.size 0 n n ⟨a, 0, none⟩ 1 1 M 2 [mV] Try.underlying22 hs A1 (by simp [Nat.min_def]; omega) (fun j v hv => by
    cases j with
    | zero =>
      simp at hv
      subst hv
      exact (one_cell ha1).1
    | succ j => simp at hv) (by simp; omega) (fun v hv => by simp at hv; subst hv; rfl)
  have R1 : Hid (Rp w.heap.size n 1 w ((w.alloc (.cells M 2)).setRow w.heap.size (M.toList.take 0 ++ [mV] ++ M.toList.drop (0 + [mV].length)).toArray)) := hide (by
    refine ⟨_, setRow_heap _ _ M _ 2 (0, 0) A1, ?_, fun j hj => ?_, ?_⟩
    · simp [hMs]; omega
    · obtain rfl : j = 0 := by omega
      simp
    · have t : Touch (fun d => d = w.heap.size) (w.alloc (.cells M 2)) ((w.alloc (.cells M 2)).setRow w.heap.size (M.toList.take 0 ++ [mV] ++ M.toList.drop (0 + [mV].length)).toArray) := by
        refine ⟨rfl, rfl, rfl, by simp, fun j hj hn => ?_⟩
        exact setRow_other _ _ _ _ (fun e => hn (by omega))
      exact T1.trans t (fun d hd e => by omega))
  change (Builtin.copy_ #[22, 22] 3 #[.slice (some ⟨w.heap.size, 0, none⟩) n n, .slice (some ⟨a, 0, none⟩) 1 1]).run Try.prog (w.alloc (.cells M 2)) = .ok (.int .i64 1) _ at CP
  generalize ((w.alloc (.cells M 2)).setRow w.heap.size (M.toList.take 0 ++ [mV] ++ M.toList.drop (0 + [mV].length)).toArray) = w2 at *
  have z0 : ¬ (n : Int) < 0 := by omega
  have z1 : ¬ 9223372036854775807 < (n : Int) := by omega
  have z2 : IntKind.u64.wrap (n : Int) = (n : Int) := by rw [IntKind.wrap_u64]; omega
  have z3 : IntKind.i64.wrap (n : Int) = (n : Int) := by rw [IntKind.wrap_i64]; omega
  have HG : Hid (∀ wr k m, Rp w.heap.size n k w wr → k < n → m = min k (n - k) → ∃ w', (Builtin.copy_ #[22, 22] 3 #[.slice (some ⟨w.heap.size, k, none⟩) (n - k) (n - k), .slice (some ⟨w.heap.size, 0, none⟩) k n]).run Try.prog wr = .ok (.int .i64 (m : Int)) w' ∧ Rp w.heap.size n (k + m) w w') := hide fun wr k m h hk hm => h.copy (Nat.le_refl _) hk hm
  have HE : Hid (∀ wr, Rp w.heap.size n n w wr → encJ.Sl wr (some ⟨w.heap.size, 0, none⟩) n (List.replicate n minT) ∧ Calm w wr) := hide fun wr h => ⟨rpt_own h h2, by obtain ⟨cur, -, -, -, t⟩ := h; exact t⟩
  have HRp : Hid (∀ k wr wr', Rp w.heap.size n k w wr → Calm wr wr' → Rp w.heap.size n k w wr') := hide fun k wr wr' ⟨cur, a1, a2, a3, a4⟩ t => ⟨cur, t.at a1, a2, a3, a4.tr t⟩
  clear T1 A1 ha1 ha hi hz0 hz1 hz2 hMs hs
  go_enter Try.func31, Try.ntmps31
  go_wp2_with fail
  refine CM.out.mono ?_
  rintro e w9 ⟨rfl, hq⟩
  subst hq
  clear CM
  go_wp2_with fail
  clear CP hM
  generalize w9.heap.size = g at *
  go_loopw [8] (fun s8 wr => ∃ k : Nat, s8 = .int .i64 (k : Int) ∧ 1 ≤ k ∧ k ≤ n ∧ Hid (Rp g n k w9 wr)) (fun s8 _ => n - (intOf s8).toNat)
  case atStart => exact ⟨1, rfl, by omega, by omega, R1⟩
  case round =>
    obtain ⟨k, rfl, hk1, hk, HA⟩ := hrel
    clear R1
    by_cases hlt : k < n
    · have hltz : (k : Int) < (n : Int) := by omega
      have hlez : (k : Int) ≤ (n : Int) := by omega
      have hne : ¬ n = k := by omega
      have hk0 : ¬ (k : Int) < 0 := by omega
      have hle2 : k ≤ n := by omega
      obtain ⟨m, hm⟩ : ∃ m, m = min k (n - k) := ⟨_, rfl⟩
      have zw : IntKind.i64.wrap ((k : Int) + (m : Int)) = ((k + m : Nat) : Int) := by rw [IntKind.wrap_i64]; omega
      have HM := hide hm
      clear hm
      go_wp2_with fail
      refine wp_region_held (S := fun _ => True) (by kernel_rfl) ?_
      have hT0 : Calm wr { wr with drawn := wr.drawn + 1 } := (Touch.refl _ wr).drew
      have hTr : True := trivial
      refine wpAnyH_yield 0 38 (.int .i64 (k : Int)) rfl rfl (by kernel_rfl) (by kernel_rfl) (by kernel_rfl) (fun _ _ _ h => h) (by kernel_rfl) (fun W hW => by kernel_rfl) (by assumption) rfl rfl ?_
      simp only [Act.put, List.setIfInBounds_toArray, List.set_cons_zero, List.set_cons_succ]
      refine wpAnyH_yield 1 39 (.slice (some ⟨g, 0, none⟩) n n) rfl rfl (by kernel_rfl) (by kernel_rfl) (by kernel_rfl) (fun _ _ _ h => h) (by kernel_rfl) (fun W hW => by kernel_rfl) (by assumption) rfl rfl ?_
      simp only [Act.put, List.setIfInBounds_toArray, List.set_cons_zero, List.set_cons_succ]
      refine wpAnyH_yield 2 40 (.int .i64 (k : Int)) rfl rfl (by kernel_rfl) (by kernel_rfl) (by kernel_rfl) (fun _ _ _ h => h) (by kernel_rfl) (fun W hW => by kernel_rfl) (by assumption) rfl rfl ?_
      simp only [Act.put, List.setIfInBounds_toArray, List.set_cons_zero, List.set_cons_succ]
      refine wpAnyH_yield 3 41 (.slice (some ⟨g, k, none⟩) (n - k) (n - k)) rfl rfl (by kernel_rfl) (by kernel_rfl) (by kernel_rfl) (fun _ _ _ h => h) (by kernel_rfl) (fun W hW => by go_simp) (by assumption) rfl rfl ?_
      simp only [Act.put, List.setIfInBounds_toArray, List.set_cons_zero, List.set_cons_succ]
      refine wpAnyH_yield 4 42 (.slice (some ⟨g, 0, none⟩) n n) rfl rfl (by kernel_rfl) (by kernel_rfl) (by kernel_rfl) (fun _ _ _ h => h) (by kernel_rfl) (fun W hW => by kernel_rfl) (by assumption) rfl rfl ?_
      simp only [Act.put, List.setIfInBounds_toArray, List.set_cons_zero, List.set_cons_succ]
      refine wpAnyH_yield 5 43 (.int .i64 (k : Int)) rfl rfl (by kernel_rfl) (by kernel_rfl) (by kernel_rfl) (fun _ _ _ h => h) (by kernel_rfl) (fun W hW => by kernel_rfl) (by assumption) rfl rfl ?_
      simp only [Act.put, List.setIfInBounds_toArray, List.set_cons_zero, List.set_cons_succ]
      refine wpAnyH_yield 6 44 (.slice (some ⟨g, 0, none⟩) k n) rfl rfl (by kernel_rfl) (by kernel_rfl) (by kernel_rfl) (fun _ _ _ h => h) (by kernel_rfl) (fun W hW => by go_simp) (by assumption) rfl rfl ?_
      simp only [Act.put, List.setIfInBounds_toArray, List.set_cons_zero, List.set_cons_succ]
      generalize ({ wr with drawn := wr.drawn + 1 } : World) = wD at *
      obtain ⟨w', hr, R2⟩ := HG.out wD k m (HRp.out k _ _ HA.out hT0) hlt HM.out
      have HR2 := hide R2
      refine wpAnyH_value 7 45 (.int .i64 (m : Int)) (w' := w') rfl rfl (by kernel_rfl) (by kernel_rfl) (by go_simp) trivial ?_
      clear hr R2 hT0
      simp only [Act.put, List.setIfInBounds_toArray, List.set_cons_zero, List.set_cons_succ]
      refine wpAnyH_yield 8 46 (.int .i64 ((k + m : Nat) : Int)) rfl rfl (by kernel_rfl) (by kernel_rfl) (by kernel_rfl) (fun _ _ _ h => h) (by kernel_rfl) (fun W hW => by go_simp) (by assumption) rfl rfl ?_
      simp only [Act.put, List.setIfInBounds_toArray, List.set_cons_zero, List.set_cons_succ]
      refine wpAnyH_yield 9 8 (.int .i64 ((k + m : Nat) : Int)) rfl rfl (by kernel_rfl) (by kernel_rfl) (by kernel_rfl) (fun _ _ _ h => h) (by kernel_rfl) (fun W hW => by kernel_rfl) (by assumption) rfl rfl ?_
      simp only [Act.put, List.setIfInBounds_toArray, List.set_cons_zero, List.set_cons_succ]
      refine wpAnyH_done (by kernel_rfl) ?_ _
      clear HG HRp HA HE hTr
      go_wp2_with fail
      go_roundw
      case rel => exact ⟨k + m, by first | rfl | go_num, by omega, by have := HM.out; omega, HR2⟩
      case measure => simp [intOf]; have := HM.out; omega
    · have hltz : ¬ (k : Int) < (n : Int) := by omega
      obtain rfl : k = n := by omega
      have E := hide (HE.out wr HA.out)
      clear HE HG HRp HA
      go_wp2_with fail
      go_ret
      exact ⟨g, rfl, E.out⟩

theorem ofB_min (n : Nat) (h1 : 1 ≤ n) (h2 : n ≤ 64) : ofB (List.replicate n minT) = true := by
  unfold ofB
  rw [List.length_replicate, decide_eq_true h1, decide_eq_true h2]
  simp only [Bool.true_and, List.all_eq_true, List.mem_range]
  intro i hi
  rw [List.getD_eq_getElem?_getD, List.getElem?_replicate, if_pos hi]
  rfl

theorem new_bad (n : Int) (w : World) (h : n < 1 ∨ 64 < n) : Calls Try.prog 8 #[.int .i64 n] w fun e w' => e = .returned (.tuple #[.pointer none, .int .i64 2]) ∧ Calm w w' := by
  rcases h with h | h
  · go_enter Try.func8, Try.ntmps8
    go_wp2_with fail
    go_ret2
    exact ⟨rfl, Touch.refl _ _⟩
  · have h1 : ¬ n < 1 := by omega
    go_enter Try.func8, Try.ntmps8
    go_wp2_with fail
    go_ret2
    exact ⟨rfl, Touch.refl _ _⟩

set_option maxRecDepth 100000 in
theorem new_ok (n : Nat) (w : World) (h1 : 1 ≤ n) (h2 : n ≤ 64) : Calls Try.prog 8 #[.int .i64 (n : Int)] w fun e w' => ∃ q, e = .returned (.tuple #[cp q, .int .i64 0]) ∧ Clk w' q (fun g => w.heap.size ≤ g ∧ g < w'.heap.size) (List.replicate n minT) [] ∧ Calm w w' := by
  have z1 : ¬ (n : Int) < 1 := by omega
  have z2 : ¬ 64 < (n : Int) := by omega
  have TA := hide ((Touch.refl (fun _ => False) w).alloc (.cells #[mV] 2))
  have CR := hide (repeat_any n w.heap.size (w.alloc (.cells #[mV] 2)) h1 h2 (al_new w _))
  have CO : Hid (∀ g W, encJ.Sl W (some ⟨g, 0, none⟩) n (List.replicate n minT) → Calm w W → Calls Try.prog 9 #[.slice (some ⟨g, 0, none⟩) n n] W fun e w' => ∃ q, e = .returned (.tuple #[cp q, .int .i64 0]) ∧ Clk w' q (fun g => w.heap.size ≤ g ∧ g < w'.heap.size) (List.replicate n minT) [] ∧ Calm w w') := hide fun g W hs hW => by
    have C := of_any (List.replicate n minT) (some ⟨g, 0, none⟩) n W hs (by simp; omega)
    rw [List.length_replicate] at C
    refine C.mono fun e w' hh => ?_
    rcases hh with ⟨h, -⟩ | ⟨-, q, e1, c, t⟩
    · rw [ofB_min n h1 h2] at h; cases h
    · have sz := hW.size
      refine ⟨q, e1, ?_, hW.tr t⟩
      obtain ⟨V, p, m, f, lo, lc, Gp, c1, c2, c3, c4, cg, c5, c6, c7⟩ := c.ex
      exact ⟨⟨V, p, m, f, lo, lc, Gp, c1, c2, fun g hg => ⟨Nat.le_trans sz (c3 g hg).1, (c3 g hg).2⟩, c4, fun g hg => ⟨⟨Nat.le_trans sz (cg g hg).1.1, (cg g hg).1.2⟩, (cg g hg).2⟩, c5, ⟨Nat.le_trans sz c6.1, c6.2⟩, c7⟩, ⟨Nat.le_trans sz c.at_.1, c.at_.2⟩, fun g hg => hg.2, c.ne, c.len⟩
  clear h1 h2
  go_enter Try.func8, Try.ntmps8
  go_wp2_with fail
  refine CR.out.mono ?_
  rintro e w1 ⟨g, rfl, hs, t1⟩
  have C := hide (CO.out g w1 hs (TA.out.tr t1))
  clear CR CO hs t1 TA
  go_wp2_with fail
  refine C.out.mono ?_
  rintro e w2 ⟨q, rfl, c, t⟩
  have F := hide (And.intro c t)
  clear C c t
  go_wp2_with fail
  go_ret2
  exact ⟨q, rfl, F.out⟩

end Go.Proofs.Ytcmigkemhoecfaa
