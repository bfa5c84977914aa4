/- A job out of bytes (the program's Read). -/
import Derived.Test.YtdcpmpbfnfjncaaGreatDoorEE
import Derived.Test.YtdcpmpbfnfjncaaGreatDoorCD0
import Derived.Test.YtdcpmpbfnfjncaaGreatDoorYS
namespace Go.Proofs.YtdcpmpbfnfjncaaGreatDoor
open Go.RowKit

/-- What the program's Read answers. -/
def pgJ (b : List Int) : Cf × Int × Bool :=
  match pgS (b.take 100) 10 with
  | none => (cfz, 0, false)
  | some (f, p) => if wrongN (ofF f) = 0 ∧ inB (f 9) 0 1 = true then (ofF f, (p : Int), true) else (cfz, 0, false)
theorem job_f0 : jobF f0 = cfz := by
  rw [job_link, if_neg]
  intro h
  exact absurd h.1 (by decide)
theorem gr_pos {c : Cf} (h : wrongN c = 0) : 1 ≤ c.gr := by
  have e : wrongN c = if fieldB c 1 then wrongF c 2 8 else 1 := rfl
  rw [e] at h
  cases h1 : fieldB c 1 with
  | false => rw [h1] at h; cases h
  | true =>
    have : inB c.gr 1 32768 = true := h1
    unfold inB at this
    simp at this
    exact this.1
/-- What is known behind readNumbers. -/
theorem ret_numbers {w : World} {rb : Nat} {ao : Option Addr} {cap : Nat} {b : List Int} {e : Ending} {w' : World} (h : RetN w rb ao cap (b.take 100) e w') :
    ∃ f, e = .returned (.agg (f10c f)) ∧ Touch (fun k => k = rb) w w' ∧ ((jobF f = cfz ∧ pgJ b = (cfz, 0, false)) ∨ (∃ p : Nat, 1 ≤ (jobF f).gr ∧ Rd w' rb ao cap (b.take 100) p ∧ pgJ b = (jobF f, (p : Int), true))) := by
  rcases h with ⟨f, p, hS, he, hR, hT⟩ | ⟨hS, he, hT⟩
  · refine ⟨f, he, hT, ?_⟩
    by_cases hw : wrongN (ofF f) = 0 ∧ inB (f 9) 0 1 = true
    · have ej : jobF f = ofF f := by rw [job_link, if_pos hw]
      exact .inr ⟨p, by rw [ej]; exact gr_pos hw.1, hR, by unfold pgJ; rw [hS, ej]; exact if_pos hw⟩
    · have ej : jobF f = cfz := by rw [job_link, if_neg hw]
      exact .inl ⟨ej, by unfold pgJ; rw [hS]; exact if_neg hw⟩
  · exact ⟨f0, he, hT, .inl ⟨job_f0, by unfold pgJ; rw [hS]⟩⟩

theorem results_cell_slotsE {P : Program} {fn : Func} {p u u2 : Tmp} {ty : TypeId} (h : fn.results = #[.cell p ty, .tmp u, .tmp u2]) (tmps : Array Value) (w : World) (g : Nat) (t : TypeId) (cs : Array Value) (fr : Nat × Nat) (d : TypeDesc)
    (hp : tmps.getD p undef = .pointer (some ⟨g, 0, none⟩)) (hg : w.heap[g]? = some (.cells cs t fr)) (hu : P.underlying ty = some d) (hd : (match d with | .struct _ | .array _ _ => true | _ => false) = true) (hi : (P.info? ty).map (·.size) = some cs.size)
    (v v2 : Value) (hv : tmps.getD u undef = v) (hv2 : tmps.getD u2 undef = v2) :
    (results fn tmps).run P w = .ok (.tuple #[.agg cs, v, v2]) w := by
  have hp' : tmps[p]?.getD undef = .pointer (some ⟨g, 0, none⟩) := by simpa using hp
  have hv' : tmps[u]?.getD undef = v := by simpa using hv
  have hv2' : tmps[u2]?.getD undef = v2 := by simpa using hv2
  simp [results, h, hp', hv', hv2', asAddr, run_loadVar_row w g t ty cs fr d hg hu hd hi]

theorem wpList_builtAt {P : Program} {ops : Array Oper} {rest : List Oper} {o : Oper} {a : Act} {w : World} {Q : Exit → Act → World → Prop} (hg : o.guard = none) (d : Tmp) (_ : o.dst = some d) (t : TypeId) (parts : Array (Nat × Operand)) (ho : o.op = .build t parts) (cells : Array Value)
    (hf : P.built t (parts.map fun (i, x) => (i, a.eval x)).toList = some cells) (h : wpList P ops Q rest (a.put o.dst (.agg cells)) w) : wpList P ops Q (o :: rest) a w := wpList_built hg t parts ho cells hf h

abbrev zc : Array Value := #[.int .i64 0, .int .i64 0, .int .i64 0, .int .i64 0, .int .i64 0, .int .i64 0, .int .i64 0, .int .i64 0, .int .i64 0, .bool false]

set_option maxRecDepth 100000 in
set_option maxHeartbeats 2000000 in
theorem read_any (b : List Int) (ao : Option Addr) (cap : Nat) (w : World) (hs : encB.Sl w ao cap b) (h8 : Cg.In8 b) :
    Calls Tryz.prog 13 #[.slice ao b.length cap] w fun e w' => e = .returned (.tuple #[cfv (pgJ b).1, .int .i64 (pgJ b).2.1, .int .i64 (if (pgJ b).2.2 then 0 else 210)]) ∧ Calm w w' := by
  obtain ⟨i0, hi, hz, hsz, hby⟩ := Rc.info_parts infoByte
  obtain ⟨k, hk⟩ : ∃ k, k = min b.length 100 := ⟨_, rfl⟩
  obtain ⟨so, sc, hsl, hm, hsn⟩ := Rc.Sl.to (P := Tryz.prog) (t := 25) Tryz.underlying25 elemByte hi hs (k := k) (by omega)
  have htk : b.take k = b.take 100 := by
    rw [hk]
    rcases Nat.le_total b.length 100 with h | h
    · rw [Nat.min_eq_left h, List.take_of_length_le (Nat.le_refl _), List.take_of_length_le h]
    · rw [Nat.min_eq_right h]
  have hln : (b.take 100).length = k := by rw [List.length_take]; omega
  rw [htk] at hm
  have A0 := hide (al_new w (.cells zc 24))
  have T0 := hide ((Touch.refl (fun _ => False) w).alloc (.cells zc 24))
  have CR : Hid (Calls Tryz.prog 30 #[.slice so k sc] (w.alloc (.cells zc 24)) fun e w' => ∃ rb c, e = .returned (.pointer (some ⟨rb, 0, none⟩)) ∧ (w.alloc (.cells zc 24)).heap.size < rb ∧ Rd w' rb (some ⟨(w.alloc (.cells zc 24)).heap.size, 0, none⟩) c (b.take 100) 0 ∧ Touch (fun _ => False) (w.alloc (.cells zc 24)) w') := hide (by
    have := newReader_any so (b.take 100) sc (w.alloc (.cells zc 24)) (Cg.seg_mem (Rc.Mem.calm hm T0.out)) (by rw [hln]; omega)
    rw [hln] at this
    exact this)
  have mn : min ((b.length : Nat) : Int) 100 = (k : Int) := by rw [hk]; omega
  have H8 : Hid (In8 (b.take 100)) := hide fun x hx => h8 x (List.mem_of_mem_take hx)
  have HL : Hid ((b.take 100).length ≤ 140737488351232) := hide (by rw [hln]; omega)
  have HRN : Hid (∀ (w : World) (rb : Nat) (ao : Option Addr) (cap : Nat) (e : Ending) (w' : World), RetN w rb ao cap (b.take 100) e w' → ∃ f, e = .returned (.agg (f10c f)) ∧ Touch (fun k => k = rb) w w' ∧ ((jobF f = cfz ∧ pgJ b = (cfz, 0, false)) ∨ (∃ p : Nat, 1 ≤ (jobF f).gr ∧ Rd w' rb ao cap (b.take 100) p ∧ pgJ b = (jobF f, (p : Int), true)))) := hide fun _ _ _ _ _ _ h => ret_numbers h
  have hbl : Hid (b.length = b.length) := hide rfl
  generalize b.take 100 = bs at *
  generalize pgJ b = J at *
  generalize b.length = bn at *
  clear hs h8 hk hm hsn htk hln hi hz hsz hby
  go_enter Tryz.func13, Tryz.ntmps13
  go_wp2_with fail
  generalize hA : w.heap.size = A at *
  refine CR.out.mono ?_
  rintro e w1 ⟨rb, c, rfl, hrb, R1, T1⟩
  have B1 := hide (T1.at A0.out)
  have TT1 := hide (T0.out.tr T1)
  have hrA : A < rb := by rw [al_size] at hrb; omega
  generalize (w.alloc (.cells zc 24)).heap.size = rd at *
  have CN := hide (readNumbers_any rb _ c bs w1 R1 H8.out HL.out)
  clear R1 T1 CR A0 T0 hrb hsl mn
  go_wp2_with fail
  refine CN.out.mono ?_
  intro e w2 hret
  obtain ⟨f, rfl, T2, hcase⟩ := HRN.out _ _ _ _ _ _ hret
  have B2 := hide ((T2.block A (lt_of_heap B1.out) (by omega)).trans B1.out)
  have TT2 : Hid (Calm w w2) := hide (TT1.out.trans T2 fun k hk e => by omega)
  have HC := hide hcase
  have CJ := fun w => hide (job_any f w)
  clear hret T2 hcase CN HRN B1 TT1
  generalize jobF f = g at *
  go_wp2_with fail
  refine (CJ _).out.mono ?_
  rintro e w3 ⟨rfl, T3⟩
  have hAl := lt_of_heap (T3.at B2.out)
  have B3 := hide (al_old (T3.at B2.out) (.cells (cfc g) 24))
  have TT3 := hide ((TT2.out.tr T3).alloc (.cells (cfc g) 24))
  have HC3 : Hid ((g = cfz ∧ J = (cfz, 0, false)) ∨ (∃ p : Nat, 1 ≤ g.gr ∧ Rd (w3.alloc (.cells (cfc g) 24)) rb (some ⟨rd, 0, none⟩) c bs p ∧ J = (g, (p : Int), true))) := hide (by
    rcases HC.out with h | ⟨p, h1, h2, h3⟩
    · exact .inl h
    · exact .inr ⟨p, h1, h2.touch (T3.alloc _) (fun h => h) (fun _ _ h => h), h3⟩)
  have A3 := hide (al_new w3 (.cells (cfc g) 24))
  clear T3 B2 TT2 HC CJ
  obtain ⟨Z, hZ⟩ : ∃ Z : Array Value, Z = zc := ⟨_, rfl⟩
  have zs : Hid (zc.size = Z.size) := hide (by rw [hZ])
  have za : Hid (Z.all (·.oneCell') = true) := hide (by rw [hZ]; kernel_rfl)
  have zi : Hid ((Tryz.prog.info? 24).map (·.size) = some Z.size) := hide (by rw [hZ]; kernel_rfl)
  have HZ := hide hZ
  clear hZ
  rcases HC3.out with ⟨hg, hJ⟩ | ⟨p, hg, hR, hJ⟩
  · clear HC3
    subst hg hJ
    have HF : Hid (Calm w ((w3.alloc (.cells zc 24)).setRow A Z)) := hide (row_touch TT3.out (by omega) Z)
    have HB3 : Hid ((w3.alloc (.cells zc 24)).heap[A]? = some (.cells zc 24 (0, 0))) := hide B3.out
    clear TT3 A3 B3
    simp only [cfz]
    go_wp2_with (first | refine wpList_builtAt rfl 19 rfl 24 _ rfl Z (by rw [HZ.out]; kernel_rfl) ?_ | (refine wpList_store_whole rfl rfl 24 (.tmp 2) (.tmp 19) rfl A Z ?_ ?_ 24 zc ?_ zi.out zs.out za.out ?_; rfl; rfl; exact HB3.out))
    have HE : Hid (Ending.returned (.tuple #[.agg Z, .int .i64 0, .int .i64 210]) = .returned (.tuple #[cfv cfz, .int .i64 0, .int .i64 210])) := hide (by rw [HZ.out]; rfl)
    refine bodyPost_ret (results_cell_slotsE rfl _ _ _ _ _ _ _ rfl (setRow_heap _ _ _ _ _ _ HB3.out) Tryz.underlying24 rfl zi.out _ _ rfl rfl) rfl ?_
    exact ⟨HE.out, HF.out⟩
  · clear HC3
    subst hJ
    have dg : (g.gr == 0) = false := by simp; omega
    have ng : ¬ g.gr = 0 := by omega
    clear hg
    have CP : Hid (∀ W, Touch (fun k => k = A) (w3.alloc (.cells (cfc g) 24)) W → Calls Tryz.prog 33 #[.pointer (some ⟨rb, 0, none⟩)] W fun e w' => e = .returned (.int .i64 p) ∧ w' = W) := hide fun W hW => place_any rb _ c bs p W (hR.touch hW (by omega) (fun g hg e => by
      obtain ⟨cur, hc⟩ := hR.row.block hg
      subst e
      rw [B3.out] at hc
      injection hc with hc
      injection hc with _ hc
      exact absurd hc (by decide)))
    clear hR
    go_wp2_with fail
    have hAD : ¬ w3.heap.size = A := by omega
    clear hAl dg ng hrA
    generalize w3.alloc (.cells (cfc g) 24) = w4 at *
    generalize w3.heap.size = D at *
    obtain ⟨X, hX⟩ : ∃ X : Array Value, X = cfc g := ⟨_, rfl⟩
    have xs : zc.size = X.size := by rw [hX]; rfl
    have xa : X.all (·.oneCell') = true := by rw [hX]; kernel_rfl
    have xi : (Tryz.prog.info? 24).map (·.size) = some X.size := by rw [hX]; kernel_rfl
    have AD : Hid (∀ W, Touch (fun k => k = A) w4 W → W.heap[D]? = some (.cells (cfc g) 24 (0, 0))) := hide fun W hW => (hW.block D (lt_of_heap A3.out) hAD).trans A3.out
    have HE : Hid (Ending.returned (.tuple #[.agg X, .int .i64 (p : Int), .int .i64 0]) = .returned (.tuple #[cfv g, .int .i64 (p : Int), .int .i64 0])) := hide (by rw [hX])
    refine wp_region_held (S := Touch (fun k => k = A) w4) (by kernel_rfl) ?_
    have hT0 : Touch (fun k => k = A) w4 { w4 with drawn := w4.drawn + 1 } := (Touch.refl _ w4).drew
    refine wpAnyH_yield 0 20 (.agg X) rfl rfl (by kernel_rfl) (by kernel_rfl) (by kernel_rfl) (fun _ _ _ h => h) (by kernel_rfl) (fun W hW => by have q := AD.out W hW; rw [hX]; obtain ⟨⟨g0, g1, g2, g3, g4, g5, g6⟩, g7, g8, g9⟩ := cf_cells q; go_simp) (by assumption) rfl rfl ?_
    simp only [Act.put, List.setIfInBounds_toArray, List.set_cons_zero, List.set_cons_succ]
    refine wpAnyH_yield 1 21 (.pointer (some ⟨rb, 0, none⟩)) rfl rfl (by kernel_rfl) (by kernel_rfl) (by kernel_rfl) (fun _ _ _ h => h) (by kernel_rfl) (fun W hW => by kernel_rfl) (by assumption) rfl rfl ?_
    simp only [Act.put, List.setIfInBounds_toArray, List.set_cons_zero, List.set_cons_succ]
    refine wpAnyH_enter 2 22 33 #[.pointer (some ⟨rb, 0, none⟩)] rfl rfl (by kernel_rfl) (by kernel_rfl) (by kernel_rfl) ?_
    refine (CP.out _ hT0).mono ?_
    rintro rr w5 ⟨rfl, rfl⟩
    refine ⟨_, rfl, hT0, ?_⟩
    simp only [Act.put, List.setIfInBounds_toArray, List.set_cons_zero, List.set_cons_succ]
    have B5 : ({ w4 with drawn := w4.drawn + 1 } : World).heap[A]? = some (.cells zc 24 (0, 0)) := B3.out
    have hT5 : Calm w { w4 with drawn := w4.drawn + 1 } := TT3.out.drew
    generalize ({ w4 with drawn := w4.drawn + 1 } : World) = w5 at *
    refine wpAnyH_do 3 (w5.setRow A X) rfl (by kernel_rfl) (by kernel_rfl) (fun K hK => wp_store_row 24 (.tmp 2) (.tmp 20) rfl A X rfl rfl 24 _ B5 xi xs xa hK) (row_touch hT0 (fun _ => rfl) X) ?_
    have hT6 := row_touch hT0 (fun _ => rfl) X
    refine wpAnyH_yield 4 3 (.int .i64 (p : Int)) rfl rfl (by kernel_rfl) (by kernel_rfl) (by kernel_rfl) (fun _ _ _ h => h) (by kernel_rfl) (fun W hW => by kernel_rfl) (by assumption) rfl rfl ?_
    simp only [Act.put, List.setIfInBounds_toArray, List.set_cons_zero, List.set_cons_succ]
    refine wpAnyH_yield 5 4 (.int .i64 0) rfl rfl (by kernel_rfl) (by kernel_rfl) (by kernel_rfl) (fun _ _ _ h => h) (by kernel_rfl) (fun W hW => by kernel_rfl) (by assumption) rfl rfl ?_
    simp only [Act.put, List.setIfInBounds_toArray, List.set_cons_zero, List.set_cons_succ]
    refine wpAnyH_done (by kernel_rfl) ?_ _
    have HB5 := hide B5
    have HT5 : Hid (Calm w (w5.setRow A X)) := hide (row_touch hT5 (by omega) X)
    clear B5 hT5 hT0 hT6 AD CP A3 TT3 B3 hX xs xa zs za zi HZ
    go_wp2_with fail
    refine bodyPost_ret (results_cell_slotsE rfl _ _ _ _ _ _ _ rfl (setRow_heap _ _ _ _ _ _ HB5.out) Tryz.underlying24 rfl xi _ _ rfl rfl) rfl ?_
    exact ⟨HE.out, HT5.out⟩

end Go.Proofs.YtdcpmpbfnfjncaaGreatDoor
