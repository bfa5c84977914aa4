/- The document's router: New. -/
import Derived.Test.YtapnjofplilefaaGreatZB
import Derived.Test.YtapnjofplilefaaGreatZA
namespace Go.Proofs.YtapnjofplilefaaGreat
open Go.RowKit

/-- The refusal of New. -/
def newE (c : Cf) (wk : Int) : Nat := if jobB c = false then 4 else if wk < 1 ∨ c.gr < wk then 2 else 0
theorem rr_put {w : World} {g : Nat} {c : Cf} {wk s : Int} {m : Value} {t : TypeId} (h : w.heap[g]? = some (.cells (rrc c wk m s) t (0, 0))) (m' : Value) : (w.setCell ⟨g, 11, none⟩ m').heap[g]? = some (.cells (rrc c wk m' s) t (0, 0)) := by
  have := rk_put (i := 11) h m'
  simpa using this
theorem rr_putS {w : World} {g : Nat} {c : Cf} {wk s : Int} {m : Value} {t : TypeId} (h : w.heap[g]? = some (.cells (rrc c wk m s) t (0, 0))) (s' : Int) : (w.setCell ⟨g, 12, none⟩ (.int .i64 s')).heap[g]? = some (.cells (rrc c wk m s') t (0, 0)) := by
  have := rk_put (i := 12) h (.int .i64 s')
  simpa using this
theorem jn_notR {w : World} {base D : Nat} {v : Value} {L : List Int} {cs : Array Value} (h : encJ.Own 2 w base v L) (hD : w.heap[D]? = some (.cells cs 53 (0, 0))) : ¬ v.ownBlock = some D := fun hv => by
  obtain ⟨-, cur, hc⟩ := Rc.own_block h hv
  rw [hD] at hc
  injection hc with hc
  injection hc with _ e
  cases e

set_option maxRecDepth 100000 in
theorem rnewZ_job (c : Cf) (wk : Int) (w : World) (hj : jobB c = false) : Calls Tryz.prog 5 #[cfv c, .int .i64 wk] w fun e w' => e = .returned (.tuple #[.pointer none, .int .i64 4]) ∧ Calm w w' := by
  have CJ := fun w => hide (rjob_any c w)
  rw [hj] at CJ
  have T0 := hide ((Touch.refl (fun _ => False) w).alloc (.cells (cfc c) 24))
  have A0 := al_new w (.cells (cfc c) 24)
  obtain ⟨⟨c0, c1, c2, c3, c4, c5, c6⟩, c7, c8, c9⟩ := cf_cells A0
  clear A0 hj
  go_enter Tryz.func5, Tryz.ntmps5
  go_wp2_with fail
  refine (CJ _).out.mono ?_
  rintro e w1 ⟨rfl, T1⟩
  have HT := hide (T0.out.tr T1)
  clear CJ T0 T1 c0 c1 c2 c3 c4 c5 c6 c7 c8 c9
  go_wp2_with fail
  go_ret2
  exact ⟨rfl, HT.out⟩

set_option maxRecDepth 100000 in
theorem rnewZ_arg (c : Cf) (wk : Int) (w : World) (hj : jobB c = true) (hw : wk < 1 ∨ c.gr < wk) : Calls Tryz.prog 5 #[cfv c, .int .i64 wk] w fun e w' => e = .returned (.tuple #[.pointer none, .int .i64 2]) ∧ Calm w w' := by
  have CJ := fun w => hide (rjob_any c w)
  rw [hj] at CJ
  have T0 := hide ((Touch.refl (fun _ => False) w).alloc (.cells (cfc c) 24))
  have A0 := al_new w (.cells (cfc c) 24)
  have HA := hide A0
  obtain ⟨⟨c0, c1, c2, c3, c4, c5, c6⟩, c7, c8, c9⟩ := cf_cells A0
  clear A0 hj
  by_cases h1 : wk < 1
  · go_enter Tryz.func5, Tryz.ntmps5
    go_wp2_with fail
    refine (CJ _).out.mono ?_
    rintro e w1 ⟨rfl, T1⟩
    have HT := hide (T0.out.tr T1)
    clear CJ T0 T1 c0 c1 c2 c3 c4 c5 c6 c7 c8 c9
    go_wp2_with fail
    go_ret2
    exact ⟨rfl, HT.out⟩
  · have h2 : c.gr < wk := by omega
    go_enter Tryz.func5, Tryz.ntmps5
    go_wp2_with fail
    refine (CJ _).out.mono ?_
    rintro e w1 ⟨rfl, T1⟩
    have HT := hide (T0.out.tr T1)
    have A1 := T1.at HA.out
    clear CJ T0 T1 c0 c1 c2 c3 c4 c5 c6 c7 c8 c9
    obtain ⟨⟨c0, -⟩, -⟩ := cf_cells A1
    clear A1
    go_wp2_with fail
    go_ret2
    exact ⟨rfl, HT.out⟩

set_option maxRecDepth 100000 in
set_option maxHeartbeats 2000000 in
theorem rnewZ_ok (c : Cf) (wk : Int) (w : World) (hj : jobB c = true) (h1 : 1 ≤ wk) (h2 : wk ≤ c.gr) : Calls Tryz.prog 5 #[cfv c, .int .i64 wk] w fun e w' => ∃ q, e = .returned (.tuple #[rp q, .int .i64 0]) ∧ w.heap.size ≤ q ∧ Rr w' q (fun g => w.heap.size ≤ g ∧ g < w'.heap.size) c wk (List.replicate c.so.toNat minT) 0 ∧ Calm w w' := by
  have CJ := fun w => hide (rjob_any c w)
  rw [hj] at CJ
  have hjp : jobP c := of_decide_eq_true hj
  obtain ⟨n, hn, hn1, hn2⟩ : ∃ n : Nat, c.so = (n : Int) ∧ 1 ≤ n ∧ n ≤ 64 := ⟨c.so.toNat, by unfold jobP at hjp; omega, by unfold jobP at hjp; omega, by unfold jobP at hjp; omega⟩
  have hto : c.so.toNat = n := by omega
  rw [hto]
  have T0 := hide ((Touch.refl (fun _ => False) w).alloc (.cells (cfc c) 24))
  have A0 := al_new w (.cells (cfc c) 24)
  have HA := hide A0
  have HN := hide hn
  obtain ⟨⟨c0, c1, c2, c3, c4, c5, c6⟩, c7, c8, c9⟩ := cf_cells A0
  clear A0 hj hjp hto hn
  have z1 : ¬ wk < 1 := by omega
  have z2 : ¬ c.gr < wk := by omega
  go_enter Tryz.func5, Tryz.ntmps5
  go_wp2_with fail
  refine (CJ _).out.mono ?_
  rintro e w1 ⟨rfl, T1⟩
  have HT := hide (T0.out.tr T1)
  have A1 := T1.at HA.out
  have HA1 := hide A1
  have HS : Hid (w.heap.size < w1.heap.size) := hide (lt_of_heap A1)
  clear CJ T0 T1 c0 c1 c2 c3 c4 c5 c6 c7 c8 c9 HA
  obtain ⟨⟨c0, c1, c2, c3, c4, c5, c6⟩, c7, c8, c9⟩ := cf_cells A1
  clear A1
  have AD := hide (al_new w1 (.cells (rrc c wk (.slice none 0 0) 0) 53))
  have TD := hide ((Touch.refl (fun _ => False) w1).alloc (.cells (rrc c wk (.slice none 0 0) 0) 53))
  have AC := hide (al_old HA1.out (.cells (rrc c wk (.slice none 0 0) 0) 53))
  go_wp2_with fail
  clear c0 c1 c2 c3 c4 c5 c6 c7 c8 c9 HA1
  generalize w1.alloc (.cells (rrc c wk (.slice none 0 0) 0) 53) = w2 at *
  generalize hD : w1.heap.size = D at *
  have HDs := hide hD
  clear hD
  go_loopw [8] (fun s8 wr => ∃ (i : Nat) (a : Option Addr) (k : Nat), s8 = .int .i64 (i : Int) ∧ i ≤ n ∧ wr.heap[D]? = some (.cells (rrc c wk (.slice a i k) 0) 53 (0, 0)) ∧ encJ.Own 2 wr (D + 1) (.slice a i k) (List.replicate i minT) ∧ Calm w1 wr ∧ wr.heap[w.heap.size]? = some (.cells (cfc c) 24 (0, 0))) (fun s8 _ => n - (intOf s8).toNat)
  case atStart => exact ⟨0, none, 0, rfl, by omega, AD.out, Rc.Own.nil _ _ _, TD.out, AC.out⟩
  case round =>
    obtain ⟨i, a, k, rfl, hi, AE, OE, TE, AC⟩ := hrel
    have ca := (cf_cells AC).1.2.1
    rw [HN.out] at ca
    by_cases hlt : i < n
    · have hltz : (i : Int) < (n : Int) := by omega
      have nD := jn_notR OE AE
      have hDl := lt_of_heap AE
      have OE1 : encJ.Own 2 wr (D + 1) (.slice a (List.replicate i minT).length k) (List.replicate i minT) := by rw [List.length_replicate]; exact OE
      obtain ⟨a4, p4, w4, hr, ow, t2⟩ := jn_app1 minT OE1 (by omega) (by simp; omega)
      have e0 : (List.replicate i minT).length = i := by simp
      have e1 : List.replicate i minT ++ [minT] = List.replicate (i + 1) minT := by rw [List.replicate_succ']
      rw [e1, show (List.replicate (i + 1) minT).length = i + 1 by simp] at ow
      rw [e0] at hr t2
      have A6 := t2.heap AE nD
      have C6 := t2.heap AC (by intro h; have := own_lt OE h; have := HS.out; omega)
      have cD0 : wr.cell? ⟨D, 11, none⟩ = some (.slice a i k) := (rr_cells AE).2.2.1
      have cD : w4.cell? ⟨D, 11, none⟩ = some (.slice a i k) := (rr_cells A6).2.2.1
      have fD : w4.frozen? ⟨D, 11, none⟩ = false := hd_frozen A6 11
      have A7 : Hid ((w4.setCell ⟨D, 11, none⟩ (.slice a4 (i + 1) p4)).heap[D]? = some (.cells (rrc c wk (.slice a4 (i + 1) p4) 0) 53 (0, 0))) := hide (rr_put A6 (.slice a4 (i + 1) p4))
      have nD6 := jn_notR ow A6
      have tS : Touch (fun d => d = D) w4 (w4.setCell ⟨D, 11, none⟩ (.slice a4 (i + 1) p4)) := (Touch.refl (fun k => k = D) w4).setCell (p := ⟨D, 11, none⟩) (fun _ => rfl) _
      have O7 := hide (Rc.Own.touch ow tS fun g hg e => nD6 (e ▸ hg))
      have T6 : Calm w1 w4 := Rc.Own.fresh (w0 := w1) OE t2 (fun _ h => h) TE (by have := HDs.out; omega)
      have T7 := hide (T6.trans tS (fun g hg e => by have := HDs.out; omega))
      have C7 := hide (tS.heap C6 (by have := HS.out; omega))
      have HR := hide hr
      clear AE OE OE1 TE nD hr ow t2 A6 nD6 tS T6 e0 e1 AC C6
      go_wp2_with (at_builtin; refine Rc.wpList_appR rfl (.tmp 35) (.tmp 36) 49 49 rfl _ _ _ rfl rfl HR.out ?_)
      go_roundw
      case rel => exact ⟨i + 1, a4, p4, by go_num, by omega, A7.out, O7.out, T7.out, C7.out⟩
      case measure => simp [intOf]; omega
    · have hltz : ¬ (i : Int) < (n : Int) := by omega
      obtain rfl : i = n := by omega
      have hDl := lt_of_heap AE
      have RK : Rr wr D (fun g => w.heap.size ≤ g ∧ g < wr.heap.size) c wk (List.replicate i minT) 0 := ⟨⟨a, k, by simpa using AE, by simpa using Rc.Own.base OE (Nat.zero_le _), fun g hg => by
        have hg' : (Value.slice a i k).ownBlock = some g := by simpa using hg
        have := own_lt OE hg'; have := HT.out.size; have := HDs.out; omega⟩, ⟨by have := HT.out.size; have := HDs.out; omega, hDl⟩, fun g hg => hg.2, by intro e; have := congrArg List.length e; simp at this; omega, by simp; omega⟩
      have HR := hide RK
      have HT2 := hide (HT.out.tr TE)
      have HDD : Hid (w.heap.size ≤ D) := hide (by have := HT.out.size; have := HDs.out; omega)
      clear AE OE TE RK AC
      go_wp2_with fail
      go_ret2
      exact ⟨D, rfl, HDD.out, HR.out, HT2.out⟩

end Go.Proofs.YtapnjofplilefaaGreat
