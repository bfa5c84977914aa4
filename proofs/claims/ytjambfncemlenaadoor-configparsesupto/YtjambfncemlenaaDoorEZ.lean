/- A job out of a text (the program's Parse). -/
import Derived.Test.YtjambfncemlenaaDoorEY
import Derived.Test.YtjambfncemlenaaDoorEF
namespace Go.Proofs.YtjambfncemlenaaDoor
open Go.RowKit

/-- What the program's Parse answers. -/
def ppJ (s : ByteArray) : Cf × Bool := if wrongN (ofF (ppF s)) = 0 ∧ inB (ppF s 9) 0 1 = true then (ofF (ppF s), true) else (cfz, false)
theorem job_pp (s : ByteArray) : (jobF (ppF s) = cfz ∧ ppJ s = (cfz, false)) ∨ (1 ≤ (jobF (ppF s)).gr ∧ ppJ s = (jobF (ppF s), true)) := by
  unfold ppJ
  rw [job_link]
  by_cases h : wrongN (ofF (ppF s)) = 0 ∧ inB (ppF s 9) 0 1 = true
  · rw [if_pos h, if_pos h]
    exact .inr ⟨gr_pos h.1, rfl⟩
  · rw [if_neg h, if_neg h]
    exact .inl ⟨rfl, rfl⟩

theorem results_cell_oneE {P : Program} {fn : Func} {p u : Tmp} {ty : TypeId} (h : fn.results = #[.cell p ty, .tmp u]) (tmps : Array Value) (w : World) (g : Nat) (t : TypeId) (cs : Array Value) (fr : Nat × Nat) (d : TypeDesc)
    (hp : tmps.getD p undef = .pointer (some ⟨g, 0, none⟩)) (hg : w.heap[g]? = some (.cells cs t fr)) (hu : P.underlying ty = some d) (hd : (match d with | .struct _ | .array _ _ => true | _ => false) = true) (hi : (P.info? ty).map (·.size) = some cs.size)
    (v : Value) (hv : tmps.getD u undef = v) :
    (results fn tmps).run P w = .ok (.tuple #[.agg cs, v]) w := by
  have hp' : tmps[p]?.getD undef = .pointer (some ⟨g, 0, none⟩) := by simpa using hp
  have hv' : tmps[u]?.getD undef = v := by simpa using hv
  simp [results, h, hp', hv', asAddr, run_loadVar_row w g t ty cs fr d hg hu hd hi]

theorem wpList_load_rowAt {P : Program} {ops : Array Oper} {rest : List Oper} {o : Oper} {a : Act} {w : World} {Q : Exit → Act → World → Prop} (hgd : o.guard = none) (d' : Tmp) (_ : o.dst = some d') (ty : TypeId) (x : Operand) (ho : o.op = .load ty x)
    (g : Nat) (hx : a.eval x = .pointer (some ⟨g, 0, none⟩)) (t : TypeId) (cs : Array Value) (fr : Nat × Nat) (d : TypeDesc) (hg : w.heap[g]? = some (.cells cs t fr))
    (hu : P.underlying ty = some d) (hd : (match d with | .struct _ | .array _ _ => true | _ => false) = true) (hi : (P.info? ty).map (·.size) = some cs.size)
    (h : wpList P ops Q rest (a.put o.dst (.agg cs)) w) : wpList P ops Q (o :: rest) a w := wpList_load_row hgd ty x ho g hx t cs fr d hg hu hd hi h

set_option maxRecDepth 100000 in
set_option maxHeartbeats 2000000 in
theorem parse_any (s : ByteArray) (hs : s.size < 4294967281) (w : World) (ht : Tab w) (he : Errs w) (hw : Words w gW) :
    Calls Tryd.prog 17 #[.string s] w fun e w' => e = .returned (.tuple #[cfv (ppJ s).1, .int .i64 (if (ppJ s).2 then 0 else 211)]) ∧ Calm w w' := by
  have CN : Hid (∀ W, Calm w W → Calls Tryd.prog 39 #[.string s] W fun e w' => e = .returned (.agg (f10c (ppF s))) ∧ Calm W w') := hide fun W hW => parseNumbers_any s hs W (ht.calm hW) (he.calm hW) (hw.calm hW)
  have CJ := fun W => hide (job_any (ppF s) W)
  have HC := hide (job_pp s)
  have A0 := hide (al_new w (.cells zc 24))
  have T0 := hide ((Touch.refl (fun _ => False) w).alloc (.cells zc 24))
  clear hs ht he hw
  generalize jobF (ppF s) = g at *
  generalize ppJ s = J at *
  generalize ppF s = f at *
  obtain ⟨Z, hZ⟩ : ∃ Z : Array Value, Z = zc := ⟨_, rfl⟩
  have zs : Hid (zc.size = Z.size) := hide (by rw [hZ])
  have za : Hid (Z.all (·.oneCell') = true) := hide (by rw [hZ]; kernel_rfl)
  have zi : Hid ((Tryd.prog.info? 24).map (·.size) = some Z.size) := hide (by rw [hZ]; kernel_rfl)
  have HZ := hide hZ
  clear hZ
  go_enter Tryd.func17, Tryd.ntmps17
  go_wp2_with fail
  generalize w.alloc (.cells zc 24) = w0 at *
  generalize hA : w.heap.size = A at *
  refine (CN.out _ T0.out).mono ?_
  rintro e w1 ⟨rfl, T1⟩
  have B1 := hide (T1.at A0.out)
  have TT1 := hide (T0.out.tr T1)
  clear T1 CN A0 T0
  go_wp2_with fail
  refine (CJ _).out.mono ?_
  rintro e w3 ⟨rfl, T3⟩
  have hAl := lt_of_heap (T3.at B1.out)
  have B3 := hide (al_old (T3.at B1.out) (.cells (cfc g) 24))
  have TT3 := hide ((TT1.out.tr T3).alloc (.cells (cfc g) 24))
  have A3 := hide (al_new w3 (.cells (cfc g) 24))
  clear T3 B1 TT1 CJ
  rcases HC.out with ⟨hg, hJ⟩ | ⟨hg, hJ⟩
  · clear HC
    subst hg hJ
    have HF : Hid (Calm w ((w3.alloc (.cells zc 24)).setRow A Z)) := hide (row_touch TT3.out (by omega) Z)
    have HB3 : Hid ((w3.alloc (.cells zc 24)).heap[A]? = some (.cells zc 24 (0, 0))) := hide B3.out
    clear TT3 A3 B3
    simp only [cfz]
    go_wp2_with (first | refine wpList_builtAt rfl 11 rfl 24 _ rfl Z (by rw [HZ.out]; kernel_rfl) ?_ | (refine wpList_store_whole rfl rfl 24 (.tmp 2) (.tmp 11) rfl A Z ?_ ?_ 24 zc ?_ zi.out zs.out za.out ?_; rfl; rfl; exact HB3.out))
    have HE : Hid (Ending.returned (.tuple #[.agg Z, .int .i64 211]) = .returned (.tuple #[cfv cfz, .int .i64 211])) := hide (by rw [HZ.out]; rfl)
    refine bodyPost_ret (results_cell_oneE rfl _ _ _ _ _ _ _ rfl (setRow_heap _ _ _ _ _ _ HB3.out) Tryd.underlying24 rfl zi.out _ rfl) rfl ?_
    exact ⟨HE.out, HF.out⟩
  · clear HC
    subst hJ
    have dg : (g.gr == 0) = false := by simp; omega
    have ng : ¬ g.gr = 0 := by omega
    clear hg
    obtain ⟨X, hX⟩ : ∃ X : Array Value, X = cfc g := ⟨_, rfl⟩
    have xs : Hid (zc.size = X.size) := hide (by rw [hX]; rfl)
    have xa : Hid (X.all (·.oneCell') = true) := hide (by rw [hX]; kernel_rfl)
    have xi : Hid ((Tryd.prog.info? 24).map (·.size) = some X.size) := hide (by rw [hX]; kernel_rfl)
    have HE : Hid (Ending.returned (.tuple #[.agg X, .int .i64 0]) = .returned (.tuple #[cfv g, .int .i64 0])) := hide (by rw [hX])
    have HA3 : Hid ((w3.alloc (.cells (cfc g) 24)).heap[w3.heap.size]? = some (.cells X 24 (0, 0))) := hide (by rw [hX]; exact A3.out)
    have HF : Hid (Calm w ((w3.alloc (.cells (cfc g) 24)).setRow A X)) := hide (row_touch TT3.out (by omega) X)
    clear hX A3 TT3
    go_wp2_with (first | (refine wpList_load_rowAt rfl 12 rfl 24 (.tmp 4) rfl w3.heap.size ?_ 24 X (0, 0) _ ?_ Tryd.underlying24 rfl xi.out ?_; rfl; exact HA3.out) | (refine wpList_store_whole rfl rfl 24 (.tmp 2) (.tmp 12) rfl A X ?_ ?_ 24 zc ?_ xi.out xs.out xa.out ?_; rfl; rfl; exact B3.out))
    refine bodyPost_ret (results_cell_oneE rfl _ _ _ _ _ _ _ rfl (setRow_heap _ _ _ _ _ _ B3.out) Tryd.underlying24 rfl xi.out _ rfl) rfl ?_
    exact ⟨HE.out, HF.out⟩

end Go.Proofs.YtjambfncemlenaaDoor
