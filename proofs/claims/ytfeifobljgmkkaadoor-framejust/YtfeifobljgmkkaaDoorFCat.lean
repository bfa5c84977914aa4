/- slices.Grow of nothing, slices.Concat of short texts. -/
import Derived.Test.YtfeifobljgmkkaaDoorFPut
namespace Go.Proofs.YtfeifobljgmkkaaDoor
open Go.RowKit Crcx

/-- 'append(nothing, make([]byte, n)...)'. -/
theorem run_append_noughts {P : Program} (w : World) (t tx ty e : TypeId) (i : TypeInfo) (z : Value) (ht : P.underlying t = some (.slice e)) (hk : P.underlying tx = some (.int .i64)) (hi : P.info? e = some i) (hz : i.zero = some z) (hsize : i.size = 1) (hby : i.bytes = 1) (n : Nat) (h0 : 0 < n) (hn : n ≤ 1000) :
    (Builtin.append_ #[t, tx] ty #[.slice none 0 0, .int .i64 n]).run P w =
      .ok (.slice (some ⟨w.heap.size, 0, none⟩) n (grownCap w n 0 e)) (w.drew.alloc (.cells (Builtin.zeroCells z.cells n ++ Builtin.zeroCells z.cells (grownCap w n 0 e - n)) e)) := by
  have e1 : IntKind.i64.wrap (n : Int) = (n : Int) := by rw [IntKind.wrap_i64]; omega
  have e2 : ¬ ((n : Int) < 0) := by omega
  have e3 : ¬ (281474976710656 < (n : Int) * 1) := by omega
  have e4 : ¬ (n ≤ 0) := by omega
  have e5 : ¬ (9223372036854775807 < (n : Int)) := by omega
  have e6 : Builtin.nextslicecap n 0 * 1 ≤ 281474976710656 := growslice_fits (by omega) (by omega)
  have e7 : ¬ (281474976710656 < Builtin.nextslicecap n 0) := by omega
  have e8 : ¬ n = 0 := by omega
  have hold : (Builtin.firstCells 1 0 (.slice none 0 0)).run P w.drew = .ok #[] w.drew := run_firstCells_none w.drew 1 0 0 0
  have ha : (asInt (.int .i64 (n : Int))).run P w = .ok (n : Int) w := rfl
  have e9 : ¬ ((n : Int) ≤ 0) := by omega
  have e10 : ¬ (281474976710656 < (n : Int)) := by omega
  simp [Builtin.append_, run_underlying ht, run_underlying hk, sizeOf, typeInfo, zeroValue, hi, hz, hsize, hby, ha, e1, e2, e7, e8, e10, e5, Question.forced, hold, newRow, grownCap]

theorem wpList_append_noughts {P : Program} (w : World) {ops : Array Oper} {rest : List Oper} {o : Oper} {a : Act} {Q : Exit → Act → World → Prop} (hgd : o.guard = none) (s x : Operand) (t tx : TypeId)
    (ho : o.op = .call { callee := .builtin .append, args := #[s, x], argTypes := #[t, tx] })
    (e : TypeId) (i : TypeInfo) (ht : P.underlying t = some (.slice e)) (hk : P.underlying tx = some (.int .i64)) (hi : P.info? e = some i) (hz : i.zero = some (.int .u8 0))
    (hsize : i.size = 1) (hby : i.bytes = 1) (n : Nat) (hv : a.eval s = .slice none 0 0) (hy : a.eval x = .int .i64 n) (h0 : 0 < n) (hn : n ≤ 1000)
    (h : ∀ c w', n ≤ c → Row w' e .u8 (.slice (some ⟨w.heap.size, 0, none⟩) 0 c) [] → Touch (fun _ => False) w w' → wpList P ops Q rest (a.put o.dst (.slice (some ⟨w.heap.size, 0, none⟩) n c)) w') : wpList P ops Q (o :: rest) a w :=
  wpList_plain hgd fun K hK => by
    have hr := run_append_noughts (P := P) w t tx o.type e i _ ht hk hi hz hsize hby n h0 hn
    have hge := grownCap_ge w n 0 e
    have hle := grownCap_le_maxLen w n 0 e (by unfold maxLen; omega)
    unfold Oper.wp execOp
    simp only [ho, resolve, invoke, builtin, Sem.run_bind, Sem.run_pure, Result.andThen_ok, List.map_toArray, List.map_cons, List.map_nil, hv, hy, hr]
    refine hK _ _ (h _ _ hge ?_ (((Touch.refl _ w).drew).alloc _))
    refine Row.mk (xs := []) (heap_alloc_new w.drew _) (by simp) hle ?_ (by simp)
    simp only [Array.size_append, size_zeroCells]
    simp [Value.cells]
    omega

set_option maxRecDepth 100000 in
theorem grow_any (n : Nat) (w : World) (h0 : 0 < n) (hn : n ≤ 1000) :
    Calls Tryd.prog 61 #[.slice none 0 0, .int .i64 n] w fun e w' => ∃ ao m c, e = .returned (.slice ao m c) ∧ New w w' (.slice ao m c) [] := by
  obtain ⟨i0, hi, hz0, hz1, hz2⟩ := info_parts Tryd.info5
  have h1 : ¬ (n : Int) < 0 := by omega
  have h2 : (0 : Int) < (n : Int) := by omega
  go_enter Tryd.func61, Tryd.ntmps61
  go_wp2_with (at_builtin; refine wpList_append_noughts _ rfl (.tmp 20) (.tmp 21) 22 3 rfl 5 i0 Tryd.underlying22 Tryd.underlying3 hi hz0 hz1 hz2 n rfl rfl h0 hn ?nx)
  case nx =>
    intro c w1 hc R1 T1
    have N1 : New w w1 (.slice (some ⟨w.heap.size, 0, none⟩) 0 c) [] := ⟨R1, fun g hg => by simp [Value.ownBlock] at hg; omega, T1⟩
    generalize w.heap.size = g at *
    clear R1 T1
    go_wp2_with fail
    go_ret
    exact ⟨_, _, c, rfl, N1⟩

theorem alls_len (ts : List Txt) (i : Nat) (hi : i < ts.length) : (alls (ts.take (i + 1))).length = (alls (ts.take i)).length + ts[i].xs.length := by
  have := congrArg List.length (alls_take ts i hi)
  simpa [nats] using this

theorem alls_le (ts : List Txt) (i : Nat) : (alls (ts.take i)).length ≤ (alls ts).length := by
  have h : alls ts = alls (ts.take i) ++ alls (ts.drop i) := by
    unfold alls; rw [← List.flatMap_append, List.take_append_drop]
  rw [h, List.length_append]; omega

theorem alls_next (ts : List Txt) (i : Nat) (hi : i < ts.length) : alls (ts.take (i + 1)) = alls (ts.take i) ++ ts[i].xs := by
  unfold alls; rw [List.take_succ_eq_append_getElem hi, List.flatMap_append]; simp

theorem SegV.touch {w w' : World} {ao : Option Addr} {vs : List Value} (h : SegV w ao vs) (ht : Touch (fun _ => False) w w') : SegV w' ao vs := by
  refine ⟨h.none, h.spot, fun a ha j hj => ?_⟩
  have hc := h.cell a ha j hj
  obtain ⟨b, off, e⟩ := h.addr (Nat.lt_of_le_of_lt (Nat.zero_le _) hj)
  rw [ha] at e; injection e with e; subst e
  rw [Addr.add_lit] at hc ⊢
  exact (ht.cell (p := ⟨b, off + j, .none⟩) (lt_of_cell hc) (fun h => h)).trans hc

set_option maxRecDepth 100000 in
set_option maxHeartbeats 1000000 in
theorem concat_any (ao : Option Addr) (ts : List Txt) (cap : Nat) (w : World) (hs : SegV w ao (ts.map Txt.val)) (hts : ∀ t ∈ ts, t.Ok w) (hb : ts.length ≤ 1000) (h0 : 0 < (alls ts).length) (h1 : (alls ts).length ≤ 1000) :
    Calls Tryd.prog 59 #[.slice ao ts.length cap] w fun e w' => ∃ bo n c, e = .returned (.slice bo n c) ∧ New w w' (.slice bo n c) (alls ts) := by
  obtain ⟨i0, hi, hz0, hz1, hz2⟩ := info_parts Tryd.info5
  have hcell : ∀ W, Touch (fun _ => False) w W → ∀ k (hk : k < ts.length), ∃ b off, ao = some ⟨b, off, none⟩ ∧ W.cell? ⟨b, off + k, none⟩ = some (.slice ts[k].ao ts[k].xs.length ts[k].cap) := fun W hW k hk => by
    obtain ⟨b, off, rfl⟩ := hs.addr (by simp; omega)
    refine ⟨b, off, rfl, ?_⟩
    have := (hs.touch hW).at k (by simpa using hk)
    rw [this, List.getElem_map]; rfl
  go_enter Tryd.func59, Tryd.ntmps59
  go_wp2_with fail
  go_loop [3, 11] (fun s i => ∃ k : Nat, i = .int .i64 k ∧ k ≤ ts.length ∧ s = .int .i64 (((alls (ts.take k)).length : Nat) : Int)) (fun _ i => ts.length - (intOf i).toNat)
  case atStart => exact ⟨0, rfl, Nat.zero_le _, rfl⟩
  case round =>
    obtain ⟨k, rfl, hk, rfl⟩ := hrel
    by_cases hlt : k < ts.length
    · obtain ⟨b, off, rfl, hc⟩ := hcell w (Touch.refl _ _) k hlt
      have hl := alls_len ts k hlt
      have hle := alls_le ts (k + 1)
      have HE := hide (show (((alls (ts.take (k + 1))).length : Nat) : Int) = ((alls (ts.take k)).length : Int) + (ts[k].xs.length : Int) by omega)
      have h3 : ((alls (ts.take k)).length : Int) + (ts[k].xs.length : Int) ≤ 1000 := by omega
      generalize ts[k].ao = xa at *
      generalize ts[k].xs.length = xl at *
      generalize ts[k].cap = xc at *
      generalize (alls (ts.take k)).length = m at *
      have h4 : ¬ ((m : Int) + (xl : Int) < 0) := by omega
      clear hl hle hs hts hcell
      go_wp2_with fail
      go_round
      case rel => exact ⟨k + 1, by go_num, by omega, by rw [HE.out]⟩
      case measure => simp [intOf]; omega
    · have e : k = ts.length := by omega
      subst e
      rw [List.take_length]
      have GR := hide (grow_any (alls ts).length w h0 h1)
      have h0' : (0 : Int) < ((alls ts).length : Int) := by omega
      go_wp2_with fail
      refine GR.out.mono ?_
      rintro e w1 ⟨ro, rn, rc, rfl, N1⟩
      clear GR
      go_wp2_with fail
      go_loopw [6, 27] (fun r i wr => ∃ (k : Nat) (ro : Option Addr) (rn rc : Nat), i = .int .i64 k ∧ k ≤ ts.length ∧ r = .slice ro rn rc ∧ New w wr (.slice ro rn rc) (alls (ts.take k))) (fun _ i _ => ts.length - (intOf i).toNat)
      case atStart => exact ⟨0, _, _, _, rfl, Nat.zero_le _, rfl, N1⟩
      case round =>
        obtain ⟨k, ro, rn, rc, rfl, hk, rfl, hN⟩ := hrel
        clear N1
        by_cases hlt : k < ts.length
        · obtain ⟨b, off, rfl, hc⟩ := hcell wr hN.touch k hlt
          have hok := (hts _ (List.getElem_mem hlt)).touch hN.touch
          have hl := alls_len ts k hlt
          have hle := alls_le ts (k + 1)
          have HX := hide (alls_next ts k hlt)
          have hsrc := hok.seg
          have hb2 : (alls (ts.take k)).length + ts[k].xs.length ≤ 1000 := by omega
          generalize ts[k].ao = xa at *
          generalize ts[k].xs = xs at *
          generalize ts[k].cap = xc at *
          generalize alls (ts.take k) = m at *
          clear hl hle hs hts hcell hok
          go_wp2_with (at_builtin; refine wpList_append_row _ rfl (.tmp 31) (.tmp 32) 22 22 rfl 5 i0 (.int .u8 0) .u8 1 Tryd.underlying22 hi hz0 hz1 hz2 rfl _ m rfl hN.row _ xs rfl (hsrc.src Tryd.underlying22 _) ?b1 ?b2 ?nx)
          case b1 => unfold maxLen; omega
          case b2 => omega
          case nx =>
            intro ao2 n2 c2 w2 R2 G2
            have N2 := hN.of_grew R2 G2
            clear hN R2 G2 hsrc hc
            go_wp2_with fail
            go_roundw
            case rel => exact ⟨k + 1, _, _, _, by go_num, by omega, rfl, by rw [HX.out]; exact N2⟩
            case measure => simp [intOf]; omega
        · have e : k = ts.length := by omega
          subst e
          rw [List.take_length] at hN
          clear hs hts hcell
          go_wp2_with fail
          go_ret
          exact ⟨_, _, _, rfl, hN⟩

end Go.Proofs.YtfeifobljgmkkaaDoor
