/- The program's clock: Of, New. The program's clock: slices.Repeat. -/
import Derived.Test.YtapnjofplilefaaGreatJ3
import Derived.Test.YtapnjofplilefaaGreatJSm
import Derived.Laws.CopyRow
import Derived.Laws.MakeOwn
namespace Go.Proofs.YtapnjofplilefaaGreat
open Go.RowKit

/-- A drawn region with an operation that changes the world and yields a value, and operations behind it. -/
theorem wpAnyZ_valueH {P : Program} {md : Region.Mode} {ops : Array Oper} {Q : Exit → Act → World → Prop} {S : World → Prop} (S2 : World → World → Prop) {z : Nat} {d : Tmp} {v : Value} {oi : Oper} {fuel : Nat} {listed : Array Bool} {a : Act} {w w' : World} (hi : ops[z]? = some oi) (hd : oi.dst = some d)
    (hr : Region.ready md ops listed = [z]) (hw : Region.wanted oi (yielded ops a.tmps) = true) (hrun : (execOp a.eval oi).run P w = .ok (.value v) w')
    (hc : wpAnyH P md ops Q (S2 w') fuel (listed.setIfInBounds z true) (a.put (some d) v) w') : wpAnyZ P md ops Q S z (fuel + 1) listed a w := by
  refine ⟨fun h0 => (by rw [hr] at h0; cases h0), fun j hj => ?_⟩
  rw [hr] at hj
  obtain rfl : j = z := by simpa using hj
  unfold wpOp
  simp only [hi, hw, if_true]
  left
  unfold Oper.wp
  rw [hrun, Oper.upon_value, hd]
  exact wpAny_of_held _ _ _ _ hc

set_option maxRecDepth 100000 in
set_option maxHeartbeats 1000000 in
theorem idxf_any (M : List Int) (mo : Option Addr) (mc : Nat) (w : World) (hm : encJ.Mem w mo M) (hl : M.length ≤ 1000) : Calls Tryz.prog 61 #[.slice mo M.length mc, .func (.func 44) #[] #[]] w fun e w' => (∃ k : Int, e = .returned (.int .i64 k) ∧ ((0 ≤ k ∧ ((List.range M.length).all fun i => timC (M.getD i 0)) = false) ∨ (k = -1 ∧ ((List.range M.length).all fun i => timC (M.getD i 0)) = true))) ∧ w' = w := by
  have CT := hide (fun t => isTime_any t w)
  obtain ⟨x, hx⟩ : ∃ x : Nat → Int, ∀ i, x i = M.getD i 0 := ⟨fun i => M.getD i 0, fun _ => rfl⟩
  have AM : Hid (∀ j, j < M.length → ∃ g off, mo = some ⟨g, off, none⟩ ∧ w.cell? ⟨g, off + j, none⟩ = some (.int .i64 (x j))) := hide fun j hj => by
    obtain ⟨g, off, e, c⟩ := ints_W hm j hj
    exact ⟨g, off, e, by rw [hx]; exact c w (Touch.refl _ _)⟩
  have HO : Hid (((List.range M.length).all fun i => timC (M.getD i 0)) = (List.range M.length).all fun i => timC (x i)) := hide (by rw [show (fun i => timC (x i)) = fun i => timC (M.getD i 0) from funext fun i => by rw [hx]])
  clear hm hx
  generalize ((List.range M.length).all fun i => timC (M.getD i 0)) = R at *
  generalize hn : M.length = n at *
  go_enter Tryz.func61, Tryz.ntmps61
  go_wp2_with fail
  go_loopw [8] (fun s8 wr => ∃ i : Nat, s8 = .int .i64 (i : Int) ∧ i ≤ n ∧ Hid (((List.range i).all fun i => timC (x i)) = true) ∧ wr = w) (fun s8 _ => n - (intOf s8).toNat)
  case atStart => exact ⟨0, rfl, by omega, hide rfl, rfl⟩
  case round =>
    obtain ⟨i, rfl, hi, HA, rfl⟩ := hrel
    by_cases hlt : i < n
    · have hltz : (i : Int) < (n : Int) := by omega
      obtain ⟨g, off, rfl, cm⟩ := AM.out i hlt
      have C1 := hide (CT.out (x i))
      have N1 : Hid (timC (x i) = false → R = false) := hide fun h => by rw [HO.out]; exact rngK_false (f := fun i => timC (x i)) hlt h
      have Y1 : Hid (timC (x i) = true → ((List.range (i + 1)).all fun i => timC (x i)) = true) := hide fun h => by rw [rngK_succ, HA.out, h]; rfl
      generalize x i = t at *
      generalize timC t = tb at *
      clear AM HO HA CT
      go_wp2_with fail
      refine C1.out.mono ?_
      rintro e w2 ⟨rfl, rfl⟩
      cases tb with
      | false =>
        have N2 := hide (N1.out rfl)
        clear N1 Y1
        go_wp2_with fail
        go_ret
        exact ⟨⟨(i : Int), rfl, .inl ⟨by omega, N2.out⟩⟩, rfl⟩
      | true =>
        have Y2 := hide (Y1.out rfl)
        clear N1 Y1
        go_wp2_with fail
        go_roundw
        case rel => exact ⟨i + 1, by go_num, by omega, Y2.out, by first | rfl | trivial⟩
        case measure => simp [intOf]; omega
    · have hltz : ¬ (i : Int) < (n : Int) := by omega
      obtain rfl : i = n := by omega
      have HY : Hid (R = true) := hide (by rw [HO.out, HA.out])
      clear AM HO HA CT
      go_wp2_with fail
      go_ret
      exact ⟨⟨-1, rfl, .inr ⟨rfl, HY.out⟩⟩, rfl⟩

set_option maxRecDepth 100000 in
theorem contf_any (M : List Int) (mo : Option Addr) (mc : Nat) (w : World) (hm : encJ.Mem w mo M) (hl : M.length ≤ 1000) : Calls Tryz.prog 43 #[.slice mo M.length mc, .func (.func 44) #[] #[]] w fun e w' => e = .returned (.bool (!((List.range M.length).all fun i => timC (M.getD i 0)))) ∧ w' = w := by
  have C := hide (idxf_any M mo mc w hm hl)
  clear hm
  generalize ((List.range M.length).all fun i => timC (M.getD i 0)) = R at *
  generalize M.length = n at *
  go_enter Tryz.func43, Tryz.ntmps43
  go_wp2_with fail
  refine C.out.mono ?_
  rintro e w9 ⟨⟨k, rfl, ⟨h1, rfl⟩ | ⟨rfl, rfl⟩⟩, rfl⟩
  · go_wp2_with fail
    go_ret
    exact ⟨rfl, rfl⟩
  · go_wp2_with fail
    go_ret
    exact ⟨rfl, rfl⟩

/-- An empty pile. -/
theorem pl_none {w : World} {p : Nat} (h : w.heap[p]? = some (.cells #[.slice none 0 0] 113 (0, 0))) : Pl w p (fun g => g = p) [] :=
  ⟨⟨none, 0, h, Rc.Own.nil _ _ _, fun g hg => by simp [Value.ownBlock] at hg⟩, ⟨fun i hi => (nomatch hi), fun i j hi => (nomatch hi)⟩, rfl, fun i hi => (nomatch hi)⟩

set_option maxRecDepth 100000 in
set_option maxHeartbeats 1000000 in
theorem of_any (M : List Int) (mo : Option Addr) (mc : Nat) (w : World) (hM : encJ.Sl w mo mc M) (hl : M.length ≤ 17592186043904) : Calls Tryz.prog 29 #[.slice mo M.length mc] w fun e w' => (ofB M = false ∧ e = .returned (.tuple #[.pointer none, .int .i64 2]) ∧ Calm w w') ∨ (ofB M = true ∧ ∃ q, e = .returned (.tuple #[cp q, .int .i64 0]) ∧ Clk w' q (fun g => w.heap.size ≤ g ∧ g < w'.heap.size) M [] ∧ Calm w w') := by
  by_cases h1 : M.length < 1
  · have e : ofB M = false := by unfold ofB; rw [decide_eq_false (by omega)]; rfl
    have z1 : (M.length : Int) < 1 := by omega
    generalize M.length = n at *
    have HE := hide e
    clear hM e
    go_enter Tryz.func29, Tryz.ntmps29
    go_wp2_with fail
    go_ret2
    exact .inl ⟨HE.out, rfl, Touch.refl _ _⟩
  by_cases h2 : 64 < M.length
  · have e : ofB M = false := by unfold ofB; rw [decide_eq_false (p := M.length ≤ 64) (by omega)]; simp
    have z1 : ¬ (M.length : Int) < 1 := by omega
    have z2 : 64 < (M.length : Int) := by omega
    generalize M.length = n at *
    have HE := hide e
    clear hM e
    go_enter Tryz.func29, Tryz.ntmps29
    go_wp2_with fail
    go_ret2
    exact .inl ⟨HE.out, rfl, Touch.refl _ _⟩
  have e0 : ofB M = (List.range M.length).all fun i => timC (M.getD i 0) := by unfold ofB; rw [decide_eq_true (by omega), decide_eq_true (by omega)]; rfl
  have CF := hide (contf_any M mo mc w hM.mem (by omega))
  rw [← e0] at CF
  have hne : M ≠ [] := by intro e; rw [e] at h1; simp at h1
  have CC := hide (sclone_any M mo mc w hM hne (by omega))
  have z1 : ¬ (M.length : Int) < 1 := by omega
  have z2 : ¬ 64 < (M.length : Int) := by omega
  have FIN : Hid (∀ (a : Option Addr) (c : Nat) (w1 : World), encJ.Own 2 w1 w.heap.size (.slice a M.length c) M → Calm w w1 → Clk (((w1.alloc (.cells #[.slice none 0 0] 113)).alloc (.map #[] 0)).alloc (.cells #[.slice a M.length c, cp w1.heap.size, .map (some (w1.heap.size + 1))] 116)) (w1.heap.size + 2) (fun g => w.heap.size ≤ g ∧ g < (((w1.alloc (.cells #[.slice none 0 0] 113)).alloc (.map #[] 0)).alloc (.cells #[.slice a M.length c, cp w1.heap.size, .map (some (w1.heap.size + 1))] 116)).heap.size) M [] ∧ Calm w (((w1.alloc (.cells #[.slice none 0 0] 113)).alloc (.map #[] 0)).alloc (.cells #[.slice a M.length c, cp w1.heap.size, .map (some (w1.heap.size + 1))] 116))) := hide fun a c w1 ow t1 => by
    have sz0 := t1.size
    have A1 := al_new w1 (.cells #[.slice none 0 0] 113)
    have T1 := (Touch.refl (fun _ => False) w1).alloc (.cells #[.slice none 0 0] 113)
    have S1 := al_size w1 (.cells #[.slice none 0 0] 113)
    generalize w1.alloc (.cells #[.slice none 0 0] 113) = w2 at *
    have M2 := Mp.new w2
    have T2 := (Touch.refl (fun _ => False) w2).alloc (.map #[] 0)
    have S2 := al_size w2 (.map #[] 0)
    rw [S1] at M2
    generalize w2.alloc (.map #[] 0) = w3 at *
    have A3 := al_new w3 (.cells #[.slice a M.length c, cp w1.heap.size, .map (some (w1.heap.size + 1))] 116)
    have T3 := (Touch.refl (fun _ => False) w3).alloc (.cells #[.slice a M.length c, cp w1.heap.size, .map (some (w1.heap.size + 1))] 116)
    have S3 := al_size w3 (.cells #[.slice a M.length c, cp w1.heap.size, .map (some (w1.heap.size + 1))] 116)
    generalize w3.alloc (.cells #[.slice a M.length c, cp w1.heap.size, .map (some (w1.heap.size + 1))] 116) = w4 at *
    have e3 : w3.heap.size = w1.heap.size + 2 := by omega
    rw [e3] at A3
    have T14 : Calm w1 w4 := (T1.tr T2).tr T3
    refine ⟨⟨⟨[], w1.heap.size, w1.heap.size + 1, fun _ => none, a, c, fun g => g = w1.heap.size, A3, Rc.Own.base (Rc.Own.calm ow T14) (Nat.zero_le _), fun g hg => ?_, pl_none ((T2.tr T3).at A1), fun g hg => ?_, M2.calm T3, ⟨by omega, by omega⟩, Fm.nil, Lk.nil, fun k a b => (nomatch b), fun v hv => (nomatch hv)⟩, ⟨by omega, by omega⟩, fun g hg => hg.2, hne, by omega⟩, t1.tr T14⟩
    · have := own_lt ow hg
      omega
    · subst hg
      refine ⟨⟨by omega, by omega⟩, by omega, by omega, fun h => ?_⟩
      have := own_lt ow h
      omega
  clear hM hne e0
  by_cases hR : ofB M = false
  · rw [hR] at CF
    have HR := hide hR
    clear hR CC FIN
    generalize ofB M = R at *
    generalize hn : M.length = n at *
    go_enter Tryz.func29, Tryz.ntmps29
    go_wp2_with fail
    refine CF.out.mono ?_
    rintro e w9 ⟨rfl, rfl⟩
    clear CF
    go_wp2_with fail
    go_ret2
    exact .inl ⟨HR.out, rfl, Touch.refl _ _⟩
  · have hR : ofB M = true := by simpa using hR
    rw [hR] at CF
    have HR := hide hR
    clear hR
    generalize ofB M = R at *
    generalize hn : M.length = n at *
    have MM : ∀ W : World, (Instr.makeMap 114 none).run Tryz.prog W = .ok (.map (some W.heap.size)) (W.alloc (.map #[] 0)) := fun W => by kernel_rfl
    go_enter Tryz.func29, Tryz.ntmps29
    go_wp2_with fail
    refine CF.out.mono ?_
    rintro e w9 ⟨rfl, rfl⟩
    clear CF
    go_wp2_with fail
    refine CC.out.mono ?_
    rintro e w1 ⟨a, c, rfl, ow, t1⟩
    have F1 := hide (FIN.out a c w1 ow t1)
    clear ow t1 FIN CC
    go_wp2_with fail
    go_ret2
    exact .inr ⟨HR.out, w1.heap.size + 2, rfl, F1.out⟩

end Go.Proofs.YtapnjofplilefaaGreat

namespace Go.Proofs.YtapnjofplilefaaGreat
open Go.RowKit

abbrev mV : Value := .int .i64 (-4611686018427387904)
/-- The first k of n cells are the least time. -/
def Rp (g n k : Nat) (w0 wr : World) : Prop := ∃ cur : Array Value, wr.heap[g]? = some (.cells cur 2 (0, 0)) ∧ cur.size = n ∧ (∀ j, j < k → cur[j]? = some mV) ∧ Calm w0 wr

set_option maxRecDepth 100000 in
theorem Rp.copy {g n k m : Nat} {w0 wr : World} (h : Rp g n k w0 wr) (hg : w0.heap.size ≤ g) (hk : k < n) (hm : m = min k (n - k)) : ∃ w', (Builtin.copy_ #[49, 49] 3 #[.slice (some ⟨g, k, none⟩) (n - k) (n - k), .slice (some ⟨g, 0, none⟩) k n]).run Tryz.prog wr = .ok (.int .i64 (m : Int)) w' ∧ Rp g n (k + m) w0 w' := by
  obtain ⟨cur, h1, h2, h3, h4⟩ := h
  obtain ⟨i0, hi, hz, hsz, hby⟩ := Rc.info_parts infoJ
  have hs : (Tryz.prog.info? 2).map (·.size) = some 1 := by rw [hi]; simp [hsz]
  have hr := run_copy_row Tryz.prog wr 49 49 3 2 g k (n - k) (n - k) ⟨g, 0, none⟩ k n cur 2 (List.replicate m mV) Tryz.underlying49 hs h1 (by rw [List.length_replicate, hm]) (fun j v hv => by
    rw [List.getElem?_replicate] at hv
    split at hv
    · rename_i hj
      injection hv with hv
      subst hv
      have e : (⟨g, 0, none⟩ : Addr).add j = ⟨g, j, none⟩ := by unfold Addr.add; split <;> simp_all
      rw [e]
      have := h3 j (by omega)
      simp [World.cell?, h1, this]
    · cases hv) (by rw [List.length_replicate, h2]; omega) (fun v hv => by
    have := List.eq_of_mem_replicate hv
    rw [this]; rfl)
  rw [List.length_replicate] at hr
  refine ⟨_, hr, _, setRow_heap wr g cur _ 2 (0, 0) h1, ?_, fun j hj => ?_, ?_⟩
  · simp only [List.size_toArray, List.length_append, List.length_take, List.length_replicate, List.length_drop, Array.length_toList, h2]
    omega
  · rw [List.getElem?_toArray, List.getElem?_append, List.getElem?_append]
    simp only [List.length_append, List.length_take, List.length_replicate, Array.length_toList, h2]
    by_cases hjk : j < k
    · rw [if_pos (by omega), if_pos (by omega), List.getElem?_take, if_pos hjk, Array.getElem?_toList]
      exact h3 j hjk
    · rw [if_pos (by omega), if_neg (by omega), List.getElem?_replicate, if_pos (by omega)]
  · have t : Touch (fun d => d = g) wr (wr.setRow g (cur.toList.take k ++ List.replicate m mV ++ cur.toList.drop (k + m)).toArray) := by
      refine ⟨rfl, rfl, rfl, by simp, fun j hj hn => ?_⟩
      exact setRow_other _ _ _ _ (fun e => hn (by omega))
    exact h4.trans t (fun d hd e => by omega)

theorem rpt_own {g n : Nat} {w0 wr : World} (h : Rp g n n w0 wr) (hn : n ≤ 64) : encJ.Sl wr (some ⟨g, 0, none⟩) n (List.replicate n minT) := by
  obtain ⟨cur, h1, h2, h3, h4⟩ := h
  refine Rc.Own.sl (e := 2) (base := 0) (n := n) ⟨by rw [encJ.flat_len], .inr ⟨g, n, cur, by simp, Nat.zero_le _, h1, by simp, by unfold maxLen; omega, ?_, ?_⟩⟩
  · have e : encJ.n = 1 := rfl
    rw [e, h2]; omega
  · have e : encJ.n = 1 := rfl
    have ef : ∀ L : List Int, encJ.flat L = L.map (Value.int .i64) := fun L => by
      induction L with
      | nil => rfl
      | cons x L ih => show [Value.int .i64 x] ++ encJ.flat L = _; rw [ih]; rfl
    rw [e, ef, List.length_replicate, Nat.mul_one, List.map_replicate]
    apply List.ext_getElem?
    intro j
    rw [List.getElem?_take, List.getElem?_replicate]
    split
    · rename_i hj
      rw [Array.getElem?_toList]
      exact h3 j hj
    · rfl

set_option maxRecDepth 100000 in
set_option maxHeartbeats 1000000 in
theorem repeat_any (n a : Nat) (w : World) (h1 : 1 ≤ n) (h2 : n ≤ 64) (ha : w.heap[a]? = some (.cells #[mV] 2 (0, 0))) : Calls Tryz.prog 11 #[.slice (some ⟨a, 0, none⟩) 1 1, .int .i64 (n : Int)] w fun e w' => ∃ g, e = .returned (.slice (some ⟨g, 0, none⟩) n n) ∧ encJ.Sl w' (some ⟨g, 0, none⟩) n (List.replicate n minT) ∧ Calm w w' := by
  have CM := hide (mul_any 1 n (by omega) (by omega) w)
  rw [show ((1 * n / 18446744073709551616 : Nat) : Int) = 0 by omega, show ((1 * n % 18446744073709551616 : Nat) : Int) = (n : Int) by omega] at CM
  obtain ⟨i0, hi, hz0, hz1, hz2⟩ := Rc.info_parts infoJ
  obtain ⟨M, hM, hMs⟩ : ∃ M : Array Value, (∀ W : World, (Instr.makeSlice 49 (.int .i64 (n : Int)) (.int .i64 (n : Int))).run Tryz.prog W = .ok (.slice (some ⟨W.heap.size, 0, none⟩) n n) (W.alloc (.cells M 2))) ∧ M.size = n :=
    ⟨madeCells (Value.int .i64 0).cells (((n : Nat) : Int).toNat * i0.size), fun W => by
      have h := run_make (P := Tryz.prog) W 49 2 i0 (.int .i64 0) Tryz.underlying49 hi hz0 .i64 .i64 (n : Int) (n : Int) (by omega) (by omega) (by rw [hz2]; omega) (by omega)
      simpa using h, by rw [size_madeCells, hz1]; simp⟩
  have hs : (Tryz.prog.info? 2).map (·.size) = some 1 := by rw [hi]; simp [hz1]
  have T1 := (Touch.refl (fun _ => False) w).alloc (.cells M 2)
  have A1 := al_new w (.cells M 2)
  have ha1 := T1.at ha
  have CP := run_copy_row Tryz.prog (w.alloc (.cells M 2)) 49 49 3 2 w.heap.size 0 n n ⟨a, 0, none⟩ 1 1 M 2 [mV] Tryz.underlying49 hs A1 (by simp [Nat.min_def]; omega) (fun j v hv => by
    cases j with
    | zero =>
      simp at hv
      subst hv
      exact (one_cell ha1).1
    | succ j => simp at hv) (by simp; omega) (fun v hv => by simp at hv; subst hv; rfl)
  have R1 : Hid (Rp w.heap.size n 1 w ((w.alloc (.cells M 2)).setRow w.heap.size (M.toList.take 0 ++ [mV] ++ M.toList.drop (0 + [mV].length)).toArray)) := hide (by
    refine ⟨_, setRow_heap _ _ M _ 2 (0, 0) A1, ?_, fun j hj => ?_, ?_⟩
    · simp [hMs]; omega
    · obtain rfl : j = 0 := by omega
      simp
    · have t : Touch (fun d => d = w.heap.size) (w.alloc (.cells M 2)) ((w.alloc (.cells M 2)).setRow w.heap.size (M.toList.take 0 ++ [mV] ++ M.toList.drop (0 + [mV].length)).toArray) := by
        refine ⟨rfl, rfl, rfl, by simp, fun j hj hn => ?_⟩
        exact setRow_other _ _ _ _ (fun e => hn (by omega))
      exact T1.trans t (fun d hd e => by omega))
  change (Builtin.copy_ #[49, 49] 3 #[.slice (some ⟨w.heap.size, 0, none⟩) n n, .slice (some ⟨a, 0, none⟩) 1 1]).run Tryz.prog (w.alloc (.cells M 2)) = .ok (.int .i64 1) _ at CP
  generalize ((w.alloc (.cells M 2)).setRow w.heap.size (M.toList.take 0 ++ [mV] ++ M.toList.drop (0 + [mV].length)).toArray) = w2 at *
  have z0 : ¬ (n : Int) < 0 := by omega
  have z1 : ¬ 9223372036854775807 < (n : Int) := by omega
  have z2 : IntKind.u64.wrap (n : Int) = (n : Int) := by rw [IntKind.wrap_u64]; omega
  have z3 : IntKind.i64.wrap (n : Int) = (n : Int) := by rw [IntKind.wrap_i64]; omega
  have HG : Hid (∀ wr k m, Rp w.heap.size n k w wr → k < n → m = min k (n - k) → ∃ w', (Builtin.copy_ #[49, 49] 3 #[.slice (some ⟨w.heap.size, k, none⟩) (n - k) (n - k), .slice (some ⟨w.heap.size, 0, none⟩) k n]).run Tryz.prog wr = .ok (.int .i64 (m : Int)) w' ∧ Rp w.heap.size n (k + m) w w') := hide fun wr k m h hk hm => h.copy (Nat.le_refl _) hk hm
  have HE : Hid (∀ wr, Rp w.heap.size n n w wr → encJ.Sl wr (some ⟨w.heap.size, 0, none⟩) n (List.replicate n minT) ∧ Calm w wr) := hide fun wr h => ⟨rpt_own h h2, by obtain ⟨cur, -, -, -, t⟩ := h; exact t⟩
  have HRp : Hid (∀ k wr wr', Rp w.heap.size n k w wr → Calm wr wr' → Rp w.heap.size n k w wr') := hide fun k wr wr' ⟨cur, a1, a2, a3, a4⟩ t => ⟨cur, t.at a1, a2, a3, a4.tr t⟩
  clear T1 A1 ha1 ha hi hz0 hz1 hz2 hMs hs
  go_enter Tryz.func11, Tryz.ntmps11
  go_wp2_with fail
  refine CM.out.mono ?_
  rintro e w9 ⟨rfl, hq⟩
  subst hq
  clear CM
  go_wp2_with fail
  clear CP hM
  generalize w9.heap.size = g at *
  go_loopw [8] (fun s8 wr => ∃ k : Nat, s8 = .int .i64 (k : Int) ∧ 1 ≤ k ∧ k ≤ n ∧ Hid (Rp g n k w9 wr)) (fun s8 _ => n - (intOf s8).toNat)
  case atStart => exact ⟨1, rfl, by omega, by omega, R1⟩
  case round =>
    obtain ⟨k, rfl, hk1, hk, HA⟩ := hrel
    clear R1
    by_cases hlt : k < n
    · have hltz : (k : Int) < (n : Int) := by omega
      have hlez : (k : Int) ≤ (n : Int) := by omega
      have hne : ¬ n = k := by omega
      have hk0 : ¬ (k : Int) < 0 := by omega
      have hle2 : k ≤ n := by omega
      obtain ⟨m, hm⟩ : ∃ m, m = min k (n - k) := ⟨_, rfl⟩
      have zw : IntKind.i64.wrap ((k : Int) + (m : Int)) = ((k + m : Nat) : Int) := by rw [IntKind.wrap_i64]; omega
      have HM := hide hm
      clear hm
      go_wp2_with fail
      refine wp_region_held (S := fun _ => True) (by kernel_rfl) ?_
      have hT0 : Calm wr { wr with drawn := wr.drawn + 1 } := (Touch.refl _ wr).drew
      have hTr : True := trivial
      refine wpAnyH_yield 0 38 (.int .i64 (k : Int)) rfl rfl (by kernel_rfl) (by kernel_rfl) (by kernel_rfl) (fun _ _ _ h => h) (by kernel_rfl) (fun W hW => by kernel_rfl) (by assumption) rfl rfl ?_
      simp only [Act.put, List.setIfInBounds_toArray, List.set_cons_zero, List.set_cons_succ]
      refine wpAnyH_yield 1 39 (.slice (some ⟨g, 0, none⟩) n n) rfl rfl (by kernel_rfl) (by kernel_rfl) (by kernel_rfl) (fun _ _ _ h => h) (by kernel_rfl) (fun W hW => by kernel_rfl) (by assumption) rfl rfl ?_
      simp only [Act.put, List.setIfInBounds_toArray, List.set_cons_zero, List.set_cons_succ]
      refine wpAnyH_yield 2 40 (.int .i64 (k : Int)) rfl rfl (by kernel_rfl) (by kernel_rfl) (by kernel_rfl) (fun _ _ _ h => h) (by kernel_rfl) (fun W hW => by kernel_rfl) (by assumption) rfl rfl ?_
      simp only [Act.put, List.setIfInBounds_toArray, List.set_cons_zero, List.set_cons_succ]
      refine wpAnyH_yield 3 41 (.slice (some ⟨g, k, none⟩) (n - k) (n - k)) rfl rfl (by kernel_rfl) (by kernel_rfl) (by kernel_rfl) (fun _ _ _ h => h) (by kernel_rfl) (fun W hW => by go_simp) (by assumption) rfl rfl ?_
      simp only [Act.put, List.setIfInBounds_toArray, List.set_cons_zero, List.set_cons_succ]
      refine wpAnyH_yield 4 42 (.slice (some ⟨g, 0, none⟩) n n) rfl rfl (by kernel_rfl) (by kernel_rfl) (by kernel_rfl) (fun _ _ _ h => h) (by kernel_rfl) (fun W hW => by kernel_rfl) (by assumption) rfl rfl ?_
      simp only [Act.put, List.setIfInBounds_toArray, List.set_cons_zero, List.set_cons_succ]
      refine wpAnyH_yield 5 43 (.int .i64 (k : Int)) rfl rfl (by kernel_rfl) (by kernel_rfl) (by kernel_rfl) (fun _ _ _ h => h) (by kernel_rfl) (fun W hW => by kernel_rfl) (by assumption) rfl rfl ?_
      simp only [Act.put, List.setIfInBounds_toArray, List.set_cons_zero, List.set_cons_succ]
      refine wpAnyH_yield 6 44 (.slice (some ⟨g, 0, none⟩) k n) rfl rfl (by kernel_rfl) (by kernel_rfl) (by kernel_rfl) (fun _ _ _ h => h) (by kernel_rfl) (fun W hW => by go_simp) (by assumption) rfl rfl ?_
      simp only [Act.put, List.setIfInBounds_toArray, List.set_cons_zero, List.set_cons_succ]
      generalize ({ wr with drawn := wr.drawn + 1 } : World) = wD at *
      obtain ⟨w', hr, R2⟩ := HG.out wD k m (HRp.out k _ _ HA.out hT0) hlt HM.out
      have HR2 := hide R2
      refine wpAnyH_value 7 45 (.int .i64 (m : Int)) (w' := w') rfl rfl (by kernel_rfl) (by kernel_rfl) (by go_simp) trivial ?_
      clear hr R2 hT0
      simp only [Act.put, List.setIfInBounds_toArray, List.set_cons_zero, List.set_cons_succ]
      refine wpAnyH_yield 8 46 (.int .i64 ((k + m : Nat) : Int)) rfl rfl (by kernel_rfl) (by kernel_rfl) (by kernel_rfl) (fun _ _ _ h => h) (by kernel_rfl) (fun W hW => by go_simp) (by assumption) rfl rfl ?_
      simp only [Act.put, List.setIfInBounds_toArray, List.set_cons_zero, List.set_cons_succ]
      refine wpAnyH_yield 9 8 (.int .i64 ((k + m : Nat) : Int)) rfl rfl (by kernel_rfl) (by kernel_rfl) (by kernel_rfl) (fun _ _ _ h => h) (by kernel_rfl) (fun W hW => by kernel_rfl) (by assumption) rfl rfl ?_
      simp only [Act.put, List.setIfInBounds_toArray, List.set_cons_zero, List.set_cons_succ]
      refine wpAnyH_done (by kernel_rfl) ?_ _
      clear HG HRp HA HE hTr
      go_wp2_with fail
      go_roundw
      case rel => exact ⟨k + m, by first | rfl | go_num, by omega, by have := HM.out; omega, HR2⟩
      case measure => simp [intOf]; have := HM.out; omega
    · have hltz : ¬ (k : Int) < (n : Int) := by omega
      obtain rfl : k = n := by omega
      have E := hide (HE.out wr HA.out)
      clear HE HG HRp HA
      go_wp2_with fail
      go_ret
      exact ⟨g, rfl, E.out⟩

theorem ofB_min (n : Nat) (h1 : 1 ≤ n) (h2 : n ≤ 64) : ofB (List.replicate n minT) = true := by
  unfold ofB
  rw [List.length_replicate, decide_eq_true h1, decide_eq_true h2]
  simp only [Bool.true_and, List.all_eq_true, List.mem_range]
  intro i hi
  rw [List.getD_eq_getElem?_getD, List.getElem?_replicate, if_pos hi]
  rfl

end Go.Proofs.YtapnjofplilefaaGreat
