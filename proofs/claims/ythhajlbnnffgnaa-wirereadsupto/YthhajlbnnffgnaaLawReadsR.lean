/- For every text of bytes and every script of questions, of together at most 1048576 values and letters, the Go law WireReads returns true and leaves its arguments and all memory that was there as it was: wire's reader answers each question, and stands behind it, as the document's. Condition: the bound on the size of the arguments. -/
import Derived.Test.YthhajlbnnffgnaaLawReads
namespace Go.Proofs.Ythhajlbnnffgnaa
open Go.ChangeShapes Go.WideShapes Go.ChangeAt Go.RowKit

theorem bulk_pos {H : Type} (d : DataW H) : 1 ≤ Rows.uptoBulk d := by
  cases d with
  | lit l => cases l <;> simp [Rows.uptoBulk]
  | nil => simp [Rows.uptoBulk]
  | ptr d => simp [Rows.uptoBulk]
  | slice e s => simp [Rows.uptoBulk]
  | agg p => simp [Rows.uptoBulk]
  | iface t d => simp [Rows.uptoBulk]
  | map e => simp [Rows.uptoBulk]
  | held h => simp [Rows.uptoBulk]

theorem bulk_len {H : Type} : ∀ (l : List (DataW H)), l.length ≤ Rows.uptoBulkAll l
  | [] => Nat.zero_le _
  | d :: r => by
    have a := bulk_pos d
    have b := bulk_len r
    simp only [Rows.uptoBulkAll, List.length_cons]; omega

/-- What the bound says of two arguments that are slices. -/
theorem small_two {H : Type} {e0 s0 : List (DataW H)} {d1 : DataW H} (hk : Rows.uptoSmall H [.slice e0 s0, d1] = true) : e0.length ≤ 1048576 := by
  have h : Rows.uptoBulkAll [DataW.slice e0 s0, d1] ≤ 1048576 := of_decide_eq_true hk
  simp only [Rows.uptoBulkAll, Rows.uptoBulk] at h
  have := bulk_len e0
  omega

theorem small_snd {H : Type} {e1 s1 : List (DataW H)} {d0 : DataW H} (hk : Rows.uptoSmall H [d0, .slice e1 s1] = true) : e1.length ≤ 1048576 := by
  have h : Rows.uptoBulkAll [d0, DataW.slice e1 s1] ≤ 1048576 := of_decide_eq_true hk
  simp only [Rows.uptoBulkAll, Rows.uptoBulk] at h
  have := bulk_len e1
  omega

theorem Try.ownReads : ownKnob Try.prog.godebug = none := by kernel_rfl
theorem Try.laidReads : laidOutB Try.prog = true := by kernel_rfl

/-- A slice of bytes that came in, as a segment. -/
theorem seg_came {W : World} {x : Addr} {len : Nat} {zs : List Int} (hcell : ∀ i, i < zs.length → W.cell? (x.add i) = some (.int .u8 (zs.getD i 0))) :
    Seg W .u8 (some x) (zs.take len) := by
  refine ⟨fun e => (nomatch e), fun y hy hne => ?_, fun y hy j hj => ?_⟩
  · injection hy with hy
    subst hy
    have hz : 0 < zs.length := by
      rcases Nat.eq_zero_or_pos zs.length with h | h
      · exact absurd (by rw [List.eq_nil_of_length_eq_zero h]; simp) hne
      · exact h
    obtain ⟨b, off, rfl, _⟩ := ints_at hcell hz
    rfl
  · injection hy with hy
    subst hy
    have hj' : j < len ∧ j < zs.length := by simpa [List.length_take, Nat.lt_min] using hj
    rw [hcell j hj'.2, List.getD_eq_getElem?_getD, List.getElem?_eq_getElem hj'.2]
    simp [List.getElem_take]

set_option maxRecDepth 100000 in
theorem reads_contract (H : Type) (enc : TypeId × Value → H) (W : World) (base : Nat) (args : Array Value) (ds gs : List (DataW H)) (before : List MemPlace)
    (hval : ∀ (j : Nat) t v, Try.f4.params[j]? = some t → args[j]? = some v → Value.okWide Try.prog W .any base t v)
    (hW : DataW.Whole enc Try.prog Try.f4.params.toList Rows.wireReadsSpec.vars false W args.toList ds gs before) (hk : Rows.uptoSmall H (ds ++ gs) = true) :
    Calls Try.prog 4 args W fun e W' => ∃ v, e = .returned v ∧ Rows.wireReadsSpec.post enc Try.prog Try.f4 false true false false W args v W' := by
  have hW' := hW
  obtain ⟨p, q, hA0, hV, rfl, hfz, hnd⟩ := hW
  have hA : DataW.TrodAll enc Try.prog W 0 (fun _ => true) true Try.f4.params.toList args.toList ds p := hA0
  rw [Try.params4] at hA hval
  obtain ⟨v0, vs0, d0, ds0, p0, q0, hargs, rfl, rfl, h0, r0⟩ := trodAll_cons hA
  obtain ⟨v1, vs1, d1, ds1, p1, q1, rfl, rfl, rfl, h1, r1⟩ := trodAll_cons r0
  obtain ⟨rfl, rfl, rfl⟩ := trodAll_nil r1
  obtain rfl : args = #[v0, v1] := by cases args; simp_all
  obtain ⟨rfl, rfl⟩ := trodVars_none hV
  obtain ⟨a0, len0, cap0, rfl⟩ := okWide_slice Try.underlying25 (hval 0 25 v0 rfl rfl)
  obtain ⟨a1, len1, cap1, rfl⟩ := okWide_slice Try.underlying42 (hval 1 42 v1 rfl rfl)
  have k0 := h0
  have k1 := h1
  have lt0 : ∀ x ∈ p0, x.block < W.heap.size := by obtain ⟨m, hm⟩ := k0; exact DataW.trod_lt m _ _ _ hm
  have lt1 : ∀ x ∈ p1, x.block < W.heap.size := by obtain ⟨m, hm⟩ := k1; exact DataW.trod_lt m _ _ _ hm
  simp only [List.append_nil] at hk
  obtain ⟨bs, hs, h8, hlen, hbl, hcp⟩ : ∃ bs, Seg W .u8 a0 bs ∧ In8 bs ∧ bs.length = len0 ∧ bs.length ≤ 1048576 ∧ bs.length ≤ cap0 := by
    obtain ⟨fuel, hf⟩ := h0
    rcases open_ints Try.underlying25 Try.underlying5 (by kernel_rfl) hf with ⟨hcs, _⟩ | ⟨x, l, c, zs, hcs, _, hl, hm, hz, hx, hcell, hwz⟩
    · simp [Value.cells] at hcs
      obtain ⟨rfl, rfl, rfl⟩ := hcs
      exact ⟨[], ⟨fun _ => rfl, fun _ h => (nomatch h), fun _ h => (nomatch h)⟩, fun _ h => (nomatch h), rfl, by simp, by simp⟩
    · simp [Value.cells] at hcs
      obtain ⟨rfl, rfl, rfl⟩ := hcs
      have hd : d0 = _ := congrArg Prod.fst hx
      simp only at hd
      subst hd
      have hw := small_two hk
      simp only [lits, List.length_map, List.length_take] at hw
      have hzl : len0 ≤ zs.length := by rw [hz]; split <;> omega
      exact ⟨zs.take len0, seg_came hcell, fun y hy => bounds_u8 (hwz y (List.mem_of_mem_take hy)), by simp; omega, by simp; omega, by simp; omega⟩
  obtain ⟨K, N, hsa, hsl⟩ : ∃ K N, SegA W a1 len1 K N ∧ len1 ≤ 1048576 := by
    obtain ⟨fuel, hf⟩ := h1
    rcases Go.Deep.open_slice_pairs Try.underlying42 Try.underlying51 (by kernel_rfl) rfl rfl (by kernel_rfl) (by kernel_rfl) hf with ⟨hcs, _⟩ | ⟨x, l, c, m, n, V0, V1, D0, D1, P0, P1, hcs, _, hl, hm, hmm, hx, hall⟩
    · simp [Value.cells] at hcs
      obtain ⟨rfl, rfl, rfl⟩ := hcs
      exact ⟨fun _ => 0, fun _ => 0, ⟨fun h => absurd h (by omega), fun b off h => (nomatch h), fun i hi => absurd hi (by omega)⟩, by omega⟩
    · simp [Value.cells] at hcs
      obtain ⟨rfl, rfl, rfl⟩ := hcs
      have hd : d1 = _ := congrArg Prod.fst hx
      simp only at hd
      subst hd
      have hw := small_snd hk
      simp only [List.length_map, List.length_range] at hw
      have hml : len1 ≤ m := by rw [hmm]; split <;> omega
      have hv : ∀ i, i < m → ∃ y z, V0 i = .int .i64 y ∧ V1 i = .int .i64 z ∧ z ≤ 9223372036854775807 := by
        intro i hi
        obtain ⟨_, _, t0, t1⟩ := hall i hi
        obtain ⟨y, e0, _, _⟩ := DataW.trod_int Try.underlying3 t0
        obtain ⟨z, e1, _, wz⟩ := DataW.trod_int Try.underlying3 t1
        simp at e0 e1
        exact ⟨y, z, e0, e1, (bounds_i64 wz).2⟩
      refine ⟨fun i => intOf (V0 i), fun i => intOf (V1 i), ⟨fun h => ?_, fun b off hb i hi => ?_, fun i hi => ?_⟩, hw⟩
      · obtain ⟨c0, _⟩ := hall 0 (by omega)
        obtain ⟨b, off, spot⟩ := x
        have hspot : spot = none := by simpa [Addr.add] using World.cell?_spot c0
        subst hspot
        exact ⟨b, off, rfl⟩
      · injection hb with hb
        subst hb
        obtain ⟨c0, c1, _, _⟩ := hall i (by omega)
        obtain ⟨y, z, e0, e1, _⟩ := hv i (by omega)
        rw [Addr.add_lit] at c0 c1
        rw [c0, Nat.add_assoc, c1, e0, e1]
        exact ⟨rfl, rfl⟩
      · obtain ⟨y, z, _, e1, hz⟩ := hv i (by omega)
        rw [e1]; exact hz
  clear hA0
  subst hlen
  refine (reads_walk a0 a1 bs cap0 len1 cap1 K N W hs h8 hbl hcp hsa hsl).mono fun e W' ⟨he, bel⟩ => ?_
  subst he
  exact ⟨_, rfl, _, _, _, [], _, [], hW', trodAll_mk1 (shut_bool Try.underlying4 _), (trodAll_cons_mk (Below.trod Try.laidReads (by kernel_rfl) (of_decide_eq_true (by kernel_rfl)) k0 bel lt0) (trodAll_cons_mk (Below.trod Try.laidReads (by kernel_rfl) (of_decide_eq_true (by kernel_rfl)) k1 bel lt1) trodAll_mk0)), rfl, bel.frame _, fun h => by cases h⟩

set_option maxRecDepth 100000 in
theorem reads_lifted (os : Os) (started : os.Started) (H : Type) (enc : TypeId × Value → H) (F : Stop.Interp) :
    ReturnsInHanded {} Try.checked os 4 .any ((Rows.OpenSpec.upto Rows.wireReadsSpec).pre6 enc Try.prog Try.f4 Rows.wireReadsUptoRow.domain false) (((Rows.OpenSpec.upto Rows.wireReadsSpec).at F).post enc Try.prog Try.f4 false true false false) := by
  refine returnsInHanded_of_cond (C := Try.checked) (s := Rows.OpenSpec.upto Rows.wireReadsSpec) (k := Rows.uptoSmall) rfl Try.ownReads started (by kernel_rfl) Try.func4
    (OpenSpec.witness (enc := enc) (C := Try.checked) (s := Rows.OpenSpec.upto Rows.wireReadsSpec) (k := Rows.uptoSmall) rfl false ⟨#[], #[.slice none 0 0, .slice none 0 0], []⟩ 8 (by kernel_rfl) (by kernel_rfl) (by kernel_rfl)
      (x := ([.nil, .nil], [], [])) (by kernel_rfl) rfl (by kernel_rfl)) ?_
  intro W base args ds gs before hval hW _ hk _
  exact reads_contract H enc W base args ds gs before hval hW hk

theorem wireReads_holds : Rows.WireReadsUptoSaid :=
  OpenClaim.holds_of_cond 4 Try.f4 rfl rfl rfl rfl rfl rfl rfl ⟨rfl, rfl, rfl, rfl, rfl⟩ rfl rfl rfl rfl rfl (by kernel_rfl) Try.func4 (by kernel_rfl)
    (of_decide_eq_true (by kernel_rfl)) (by unfold Func.isWrapper; first | (rw [if_pos (by decide +kernel)]; kernel_rfl) | (rw [if_neg (by decide +kernel)]; exact ⟨rfl, rfl⟩))
    (fun os started H enc _ F => reads_lifted os started H enc F)

#print axioms wireReads_holds
end Go.Proofs.Ythhajlbnnffgnaa
