/- slices.Grow of nothing, slices.Concat of rows of windows. -/
import Derived.Test.YtbhofihikimgeaaRRML
namespace Go.Proofs.YtbhofihikimgeaaRR
open Go.RowKit

/-- 'append(nothing, make([]T, n)...)'. -/
theorem run_noughts {P : Program} (w : World) (t tx ty e : TypeId) (i : TypeInfo) (z : Value) (ht : P.underlying t = some (.slice e)) (hk : P.underlying tx = some (.int .i64)) (hi : P.info? e = some i) (hz : i.zero = some z) (hsize : i.size = 9) (hby : i.bytes = 72) (n : Nat) (h0 : 0 < n) (hn : n ≤ 1000001) :
    (Builtin.append_ #[t, tx] ty #[.slice none 0 0, .int .i64 n]).run P w =
      .ok (.slice (some ⟨w.heap.size, 0, none⟩) n (grownCap w n 0 e)) (w.drew.alloc (.cells (Builtin.zeroCells z.cells n ++ Builtin.zeroCells z.cells (grownCap w n 0 e - n)) e)) := by
  have e1 : IntKind.i64.wrap (n : Int) = (n : Int) := by rw [IntKind.wrap_i64]; omega
  have e2 : ¬ ((n : Int) < 0) := by omega
  have e3 : ¬ (281474976710656 < (n : Int) * 72) := by omega
  have e5 : ¬ (9223372036854775807 < (n : Int)) := by omega
  have e6 : Builtin.nextslicecap n 0 * 72 ≤ 281474976710656 := growslice_fits (by omega) (by omega)
  have e7 : ¬ (281474976710656 < Builtin.nextslicecap n 0 * 72) := by omega
  have e8 : ¬ n = 0 := by omega
  have hold : (Builtin.firstCells 9 0 (.slice none 0 0)).run P w.drew = .ok #[] w.drew := run_firstCells_none w.drew 9 0 0 0
  have ha : (asInt (.int .i64 (n : Int))).run P w = .ok (n : Int) w := rfl
  simp [Builtin.append_, run_underlying ht, run_underlying hk, sizeOf, typeInfo, zeroValue, hi, hz, hsize, hby, ha, e1, e2, e3, e7, e8, e5, Question.forced, hold, newRow, grownCap]
  intro h
  exact absurd h (by omega)

theorem wpList_noughts {P : Program} (w : World) {ops : Array Oper} {rest : List Oper} {o : Oper} {a : Act} {Q : Exit → Act → World → Prop} (hgd : o.guard = none) (s x : Operand) (t tx : TypeId)
    (ho : o.op = .call { callee := .builtin .append, args := #[s, x], argTypes := #[t, tx] })
    (e : TypeId) (i : TypeInfo) (z : Value) (ht : P.underlying t = some (.slice e)) (hk : P.underlying tx = some (.int .i64)) (hi : P.info? e = some i) (hz : i.zero = some z) (hzs : z.cells.size = 9)
    (hsize : i.size = 9) (hby : i.bytes = 72) (n : Nat) (hv : a.eval s = .slice none 0 0) (hy : a.eval x = .int .i64 n) (h0 : 0 < n) (hn : n ≤ 1000001)
    (h : ∀ c w', n ≤ c → encW.Own e w' w.heap.size (.slice (some ⟨w.heap.size, 0, none⟩) 0 c) [] → Calm w w' → wpList P ops Q rest (a.put o.dst (.slice (some ⟨w.heap.size, 0, none⟩) n c)) w') : wpList P ops Q (o :: rest) a w :=
  wpList_plain hgd fun K hK => by
    have hr := run_noughts (P := P) w t tx o.type e i z ht hk hi hz hsize hby n h0 hn
    have hge := grownCap_ge w n 0 e
    have hle := grownCap_le_maxLen w n 0 e (by unfold maxLen; omega)
    unfold Oper.wp execOp
    simp only [ho, resolve, invoke, builtin, Sem.run_bind, Sem.run_pure, Result.andThen_ok, List.map_toArray, List.map_cons, List.map_nil, hv, hy, hr]
    refine hK _ _ (h _ _ hge ?_ (((Touch.refl _ w).drew).alloc _))
    refine ⟨by simp [Rc.Enc.flat], .inr ⟨w.heap.size, grownCap w n 0 e, _, rfl, Nat.le_refl _, heap_alloc_new w.drew _, Nat.zero_le _, hle, ?_, by simp [Rc.Enc.flat]⟩⟩
    simp only [Array.size_append, size_zeroCells, hzs]
    show _ = _ * 9
    omega

set_option maxRecDepth 100000 in
theorem grow_any (n : Nat) (w : World) (h0 : 0 < n) (hn : n ≤ 1000001) :
    Calls Try.prog 30 #[.slice none 0 0, .int .i64 n] w fun e w' => ∃ ao c, e = .returned (.slice ao 0 c) ∧ encW.Own 43 w' w.heap.size (.slice ao 0 c) [] ∧ Calm w w' := by
  obtain ⟨i0, hi, hz0, hz1, hz2⟩ := Rc.info_parts infoWin
  have h1 : ¬ (n : Int) < 0 := by omega
  have h2 : (0 : Int) < (n : Int) := by omega
  go_enter Try.func30, Try.ntmps30
  go_wp2_with (at_builtin; refine wpList_noughts _ rfl (.tmp 20) (.tmp 21) 22 3 rfl 43 i0 _ Try.underlying22 Try.underlying3 hi hz0 rfl hz1 hz2 n rfl rfl h0 hn ?nx)
  case nx =>
    intro c w1 hc R1 T1
    have HR := hide R1
    have HT := hide T1
    have hcut := fun W => cut_to (g := w.heap.size) (n := n) (cap := c) (k := 0) Try.underlying22 elemWin hi (Nat.zero_le _) W
    clear R1 T1
    go_wp2_with fail
    go_ret
    exact ⟨_, c, rfl, HR.out, HT.out⟩

/-- A slice of windows. -/
structure Ws where
  ao : Option Addr
  L : List Wn
  cap : Nat
/-- It as a value. -/
def Ws.val (t : Ws) : Value := .slice t.ao t.L.length t.cap
/-- All of them. -/
def allW (ts : List Ws) : List Wn := ts.flatMap Ws.L

theorem allW_next (ts : List Ws) (i : Nat) (hi : i < ts.length) : allW (ts.take (i + 1)) = allW (ts.take i) ++ ts[i].L := by
  unfold allW; rw [List.take_succ_eq_append_getElem hi, List.flatMap_append]; simp
theorem allW_le (ts : List Ws) (i : Nat) : (allW (ts.take i)).length ≤ (allW ts).length := by
  have h : allW ts = allW (ts.take i) ++ allW (ts.drop i) := by
    unfold allW; rw [← List.flatMap_append, List.take_append_drop]
  rw [h, List.length_append]; omega

set_option maxRecDepth 100000 in
set_option maxHeartbeats 2000000 in
theorem concat_any (g cap : Nat) (ts : List Ws) (w : World) (hs : ∀ W, Calm w W → ∀ k (hk : k < ts.length), W.cell? ⟨g, k, none⟩ = some ts[k].val) (hm : ∀ t ∈ ts, encW.Mem w t.ao t.L ∧ (t.ao = none → t.cap = 0)) (hb : ts.length ≤ 1000) (h0 : 0 < (allW ts).length) (h1 : (allW ts).length ≤ 1000001) :
    Calls Try.prog 21 #[.slice (some ⟨g, 0, none⟩) ts.length cap] w fun e w' => ∃ ao c, e = .returned (.slice ao (allW ts).length c) ∧ encW.Own 43 w' w.heap.size (.slice ao (allW ts).length c) (allW ts) ∧ Calm w w' := by
  obtain ⟨i0, hi, hz, hsz, hby⟩ := Rc.info_parts infoWin
  have HS := hide hs
  have HM := hide hm
  have HX := hide (allW_next ts)
  have HL := hide (allW_le ts)
  have HI := hide (And.intro hi (And.intro hz (And.intro hsz hby)))
  have HZ : Hid (allW (ts.take 0) = []) := hide rfl
  have GR := hide (grow_any (allW ts).length w h0 h1)
  clear hs hm hi hz hsz hby
  obtain ⟨n, hN⟩ : ∃ n, n = ts.length := ⟨_, rfl⟩
  have HE : Hid (allW (ts.take n) = allW ts) := hide (by rw [hN, List.take_length])
  rw [← hN] at hb ⊢
  have HN := hide hN
  clear hN
  go_enter Try.func21, Try.ntmps21
  go_wp2_with fail
  go_loop [3, 11] (fun s i => ∃ k : Nat, i = .int .i64 k ∧ k ≤ n ∧ s = .int .i64 (((allW (ts.take k)).length : Nat) : Int)) (fun _ i => n - (intOf i).toNat)
  case atStart => exact ⟨0, rfl, Nat.zero_le _, rfl⟩
  case round =>
    obtain ⟨k, rfl, hk, rfl⟩ := hrel
    by_cases hlt : k < n
    · have hk' : k < ts.length := by have := HN.out; omega
      have hc : w.cell? ⟨g, k, none⟩ = some (.slice (ts[k]'hk').ao (ts[k]'hk').L.length (ts[k]'hk').cap) := HS.out w (Touch.refl _ _) k hk'
      have hl := congrArg List.length (HX.out k hk')
      rw [List.length_append] at hl
      have hle := HL.out (k + 1)
      have HE2 := hide (show (((allW (ts.take (k + 1))).length : Nat) : Int) = ((allW (ts.take k)).length : Int) + ((ts[k]'hk').L.length : Int) by omega)
      have h3 : ((allW (ts.take k)).length : Int) + ((ts[k]'hk').L.length : Int) ≤ 1000001 := by omega
      generalize (ts[k]'hk').ao = xa at *
      generalize (ts[k]'hk').L.length = xl at *
      generalize (ts[k]'hk').cap = xc at *
      generalize (allW (ts.take k)).length = m at *
      have h4 : ¬ ((m : Int) + (xl : Int) < 0) := by omega
      clear hl hle HS HM HX HL HI HE HZ GR
      go_wp2_with fail
      go_round
      case rel => exact ⟨k + 1, by go_num, by omega, by rw [HE2.out]⟩
      case measure => simp [intOf]; omega
    · have e : k = n := by omega
      subst e
      rw [HE.out]
      have h0' : (0 : Int) < ((allW ts).length : Int) := by omega
      go_wp2_with fail
      refine GR.out.mono ?_
      rintro e w1 ⟨ro, rc, rfl, N1, T1⟩
      have HN1 := hide N1
      have HT1 := hide T1
      clear GR N1 T1
      go_wp2_with fail
      go_loopw [6, 27] (fun r i wr => ∃ (j : Nat) (ro : Option Addr) (rc : Nat), i = .int .i64 j ∧ j ≤ k ∧ r = .slice ro (allW (ts.take j)).length rc ∧ encW.Own 43 wr w.heap.size (.slice ro (allW (ts.take j)).length rc) (allW (ts.take j)) ∧ Calm w wr) (fun _ i _ => k - (intOf i).toNat)
      case atStart => exact ⟨0, _, _, rfl, Nat.zero_le _, rfl, HN1.out, HT1.out⟩
      case round =>
        obtain ⟨j, so, sc, rfl, hj, rfl, ow, T0⟩ := hrel
        clear HN1 HT1
        by_cases hlt : j < k
        · have hj' : j < ts.length := by have := HN.out; omega
          have hc : wr.cell? ⟨g, j, none⟩ = some (.slice (ts[j]'hj').ao (ts[j]'hj').L.length (ts[j]'hj').cap) := HS.out wr T0 j hj'
          have hx := HX.out j hj'
          have hl := congrArg List.length hx
          rw [List.length_append] at hl
          have hle := HL.out (j + 1)
          obtain ⟨hm1, hm2⟩ := HM.out _ (List.getElem_mem hj')
          obtain ⟨hi, hz, hsz, hby⟩ := HI.out
          have hsz0 := T0.size
          obtain ⟨a2, p2, w2, hr, ow2, t2, -⟩ := Rc.Own.app (E := encW) (ty := 22) Try.underlying22 hi hz hsz hby rfl ow (ts[j]'hj').ao (ts[j]'hj').cap (ts[j]'hj').L (Rc.Mem.calm hm1 T0) hm2 (by unfold maxLen; omega) (by omega) hsz0
          have C2 : Calm w w2 := Rc.Own.fresh ow t2 (fun _ h => h) T0 (Nat.le_refl _)
          rw [← hx] at hr ow2
          have HO := hide ow2
          have HC := hide C2
          generalize (ts[j]'hj').ao = xa at *
          generalize (ts[j]'hj').L.length = xl at *
          generalize (ts[j]'hj').cap = xc at *
          clear hl hle HS HM HX HL HI HE HZ ow T0 ow2 C2 t2 hm1 hm2 hx hi hz hsz hby hsz0
          go_wp2_with (at_builtin; refine Rc.wpList_appR rfl (.tmp 31) (.tmp 32) 22 22 rfl _ _ _ rfl rfl hr ?_)
          go_roundw
          case rel => exact ⟨j + 1, _, _, by go_num, by omega, rfl, HO.out, HC.out⟩
          case measure => simp [intOf]; omega
        · have e : j = k := by omega
          subst e
          rw [HE.out] at ow ⊢
          have HO := hide ow
          have HC := hide T0
          clear ow T0
          go_wp2_with fail
          go_ret
          exact ⟨so, sc, rfl, HO.out, HC.out⟩

end Go.Proofs.YtbhofihikimgeaaRR
