/- The document's Item: may an item be for a job? -/
import Derived.Test.YtapnjofplilefaaGreatZA
import Derived.Test.YtapnjofplilefaaGreatC1
import Derived.Laws.StructEq
import Derived.RegionTactic
import Derived.BigRegion
namespace Go.Proofs.YtapnjofplilefaaGreat
open Go.RowKit

/-- May the item be for the job? -/
def itemZ (c : Cf) (x : It) : Bool :=
  if x.ki = 1 then x.sr == 0 && (decide (x.ke.size ≤ 256) && timZ x.tm)
  else if x.ki = 2 then (x.ke.toList == [] && x.va == 0) && (decide (0 ≤ x.sr) && (decide (x.sr < c.so) && timZ x.tm))
  else if x.ki = 3 then x.ke.toList == [] && (x.tm == 0 && (x.va == 0 && x.sr == 0))
  else false

theorem it_set1 {w : World} {b : Nat} {x : It} {ty : TypeId} (k : ByteArray) (t v : Int) (h : w.heap[b]? = some (.cells (itc x) ty (0, 0))) :
    (((w.setCell ⟨b, 1, none⟩ (.string k)).setCell ⟨b, 2, none⟩ (.int .i64 t)).setCell ⟨b, 3, none⟩ (.int .i64 v)).heap[b]? = some (.cells (itc ⟨x.ki, k, t, v, x.sr⟩) ty (0, 0)) ∧
    Touch (fun k => k = b) w (((w.setCell ⟨b, 1, none⟩ (.string k)).setCell ⟨b, 2, none⟩ (.int .i64 t)).setCell ⟨b, 3, none⟩ (.int .i64 v)) := by
  have k1 := heap_setCell_row (i := 1) h (.string k)
  have k2 := heap_setCell_row (i := 2) k1 (.int .i64 t)
  have k3 := heap_setCell_row (i := 3) k2 (.int .i64 v)
  exact ⟨by simpa using k3, (((Touch.refl (fun k => k = b) w).setCell (p := ⟨b, 1, none⟩) (fun _ => rfl) _).setCell (p := ⟨b, 2, none⟩) (fun _ => rfl) _).setCell (p := ⟨b, 3, none⟩) (fun _ => rfl) _⟩
theorem it_set2 {w : World} {b : Nat} {x : It} {ty : TypeId} (s t : Int) (h : w.heap[b]? = some (.cells (itc x) ty (0, 0))) :
    ((w.setCell ⟨b, 4, none⟩ (.int .i64 s)).setCell ⟨b, 2, none⟩ (.int .i64 t)).heap[b]? = some (.cells (itc ⟨x.ki, x.ke, t, x.va, s⟩) ty (0, 0)) ∧
    Touch (fun k => k = b) w ((w.setCell ⟨b, 4, none⟩ (.int .i64 s)).setCell ⟨b, 2, none⟩ (.int .i64 t)) := by
  have k1 := heap_setCell_row (i := 4) h (.int .i64 s)
  have k2 := heap_setCell_row (i := 2) k1 (.int .i64 t)
  exact ⟨by simpa using k2, ((Touch.refl (fun k => k = b) w).setCell (p := ⟨b, 4, none⟩) (fun _ => rfl) _).setCell (p := ⟨b, 2, none⟩) (fun _ => rfl) _⟩
theorem it_frozen {w : World} {b : Nat} {c : Array Value} {ty : TypeId} (h : w.heap[b]? = some (.cells c ty (0, 0))) (i : Nat) : w.frozen? ⟨b, i, none⟩ = false := by simp [World.frozen?, h]

set_option maxRecDepth 100000 in
set_option maxHeartbeats 4000000 in
theorem ritemZ_1 (c : Cf) (x : It) (hk : x.ki = 1) (w : World) : Calls Tryz.prog 33 #[cfv c, itv x] w fun e w' => e = .returned (.bool (x.sr == 0 && (decide (x.ke.size ≤ 256) && timZ x.tm))) ∧ Calm w w' := by
  obtain ⟨ki, ke, tm, va, sr⟩ := x
  simp only at hk
  subst hk
  obtain ⟨R, hR⟩ : ∃ R : Bool, R = (sr == 0 && (decide (ke.size ≤ 256) && timZ tm)) := ⟨_, rfl⟩
  have HR := hide hR
  simp only [← hR]
  clear hR
  have CT := fun w => hide (rtimeZ_any tm w)
  generalize timZ tm = tb at *
  have T0 := hide ((((Touch.refl (fun _ => False) w).alloc (.cells (cfc c) 24)).alloc (.cells (itc ⟨1, ke, tm, va, sr⟩) 60)).alloc (.cells (itc ⟨1, ⟨#[]⟩, 0, 0, 0⟩) 60))
  obtain ⟨-, a1, a2⟩ := al3 w (.cells (cfc c) 24) (.cells (itc ⟨1, ke, tm, va, sr⟩) 60) (.cells (itc ⟨1, ⟨#[]⟩, 0, 0, 0⟩) 60)
  have A1 := hide a1
  have A2 := hide a2
  clear a1 a2
  go_enter Tryz.func33, Tryz.ntmps33
  go_wp2_with fail
  generalize ((w.alloc (.cells (cfc c) 24)).alloc (.cells (itc ⟨1, ke, tm, va, sr⟩) 60)).alloc (.cells (itc ⟨1, ⟨#[]⟩, 0, 0, 0⟩) 60) = w1 at *
  generalize hD : w.heap.size = D at *
  have HD := hide hD
  clear hD
  obtain ⟨-, c1, c2, c3, -⟩ := it_cells A1.out
  obtain ⟨-, d1, d2, d3, -⟩ := it_cells A2.out
  have f1 := it_frozen A2.out 1
  have f2 := it_frozen A2.out 2
  have f3 := it_frozen A2.out 3
  obtain ⟨S2, TS⟩ := it_set1 ke tm va A2.out
  have S1 := hide (TS.heap A1.out (by omega))
  have S2 := hide S2
  have TS := hide (T0.out.trans TS (fun k hk e => by have := HD.out; omega))
  clear A1 A2 T0
  go_region
  have S1 : ((((w1.setCell ⟨D + 1 + 1, 1, none⟩ (.string ke)).setCell ⟨D + 1 + 1, 2, none⟩ (.int .i64 tm)).setCell ⟨D + 1 + 1, 3, none⟩ (.int .i64 va)).drew).heap[D + 1]? = some (.cells (itc ⟨1, ke, tm, va, sr⟩) 60 (0, 0)) := S1.out
  have S2 : ((((w1.setCell ⟨D + 1 + 1, 1, none⟩ (.string ke)).setCell ⟨D + 1 + 1, 2, none⟩ (.int .i64 tm)).setCell ⟨D + 1 + 1, 3, none⟩ (.int .i64 va)).drew).heap[D + 1 + 1]? = some (.cells (itc ⟨1, ke, tm, va, 0⟩) 60 (0, 0)) := S2.out
  have TS := hide TS.out.drew
  generalize (((w1.setCell ⟨D + 1 + 1, 1, none⟩ (.string ke)).setCell ⟨D + 1 + 1, 2, none⟩ (.int .i64 tm)).setCell ⟨D + 1 + 1, 3, none⟩ (.int .i64 va)).drew = w2 at *
  clear c1 c2 c3 d1 d2 d3 f1 f2 f3
  obtain ⟨c0, c1, c2, c3, c4⟩ := it_cells S1
  obtain ⟨d0, d1, d2, d3, d4⟩ := it_cells S2
  clear S1 S2
  by_cases hs : sr = 0
  · have hsb : (sr == 0) = true := by simp [hs]
    by_cases h1 : (ke.size : Int) ≤ 256
    · have HF : Hid (R = tb) := hide (by rw [HR.out, hsb, decide_eq_true (by omega)]; simp)
      clear HR
      go_wp2_with fail
      refine (CT _).out.mono ?_
      rintro e w3 ⟨rfl, rfl⟩
      go_wp2_with fail
      go_ret
      exact ⟨by rw [HF.out]; rfl, TS.out⟩
    · have HF : Hid (R = false) := hide (by rw [HR.out, decide_eq_false (p := ke.size ≤ 256) (by omega)]; simp)
      clear HR
      go_wp2_with fail
      go_ret
      exact ⟨by rw [HF.out]; rfl, TS.out⟩
  · have hsb : (sr == 0) = false := by simp [hs]
    have HF : Hid (R = false) := hide (by rw [HR.out, hsb]; simp)
    clear HR
    go_wp2_with fail
    go_ret
    exact ⟨by rw [HF.out]; rfl, TS.out⟩

set_option maxRecDepth 100000 in
set_option maxHeartbeats 4000000 in
theorem ritemZ_2 (c : Cf) (x : It) (hk : x.ki = 2) (w : World) : Calls Tryz.prog 33 #[cfv c, itv x] w fun e w' => e = .returned (.bool ((x.ke.toList == [] && x.va == 0) && (decide (0 ≤ x.sr) && (decide (x.sr < c.so) && timZ x.tm)))) ∧ Calm w w' := by
  obtain ⟨ki, ke, tm, va, sr⟩ := x
  simp only at hk
  subst hk
  obtain ⟨R, hR⟩ : ∃ R : Bool, R = ((ke.toList == [] && va == 0) && (decide (0 ≤ sr) && (decide (sr < c.so) && timZ tm))) := ⟨_, rfl⟩
  have HR := hide hR
  simp only [← hR]
  clear hR
  have CT := fun w => hide (rtimeZ_any tm w)
  generalize timZ tm = tb at *
  have T0 := hide ((((Touch.refl (fun _ => False) w).alloc (.cells (cfc c) 24)).alloc (.cells (itc ⟨2, ke, tm, va, sr⟩) 60)).alloc (.cells (itc ⟨2, ⟨#[]⟩, 0, 0, 0⟩) 60))
  obtain ⟨a0, a1, a2⟩ := al3 w (.cells (cfc c) 24) (.cells (itc ⟨2, ke, tm, va, sr⟩) 60) (.cells (itc ⟨2, ⟨#[]⟩, 0, 0, 0⟩) 60)
  have A0 := hide a0
  have A1 := hide a1
  have A2 := hide a2
  clear a0 a1 a2
  go_enter Tryz.func33, Tryz.ntmps33
  go_wp2_with fail
  generalize ((w.alloc (.cells (cfc c) 24)).alloc (.cells (itc ⟨2, ke, tm, va, sr⟩) 60)).alloc (.cells (itc ⟨2, ⟨#[]⟩, 0, 0, 0⟩) 60) = w1 at *
  generalize hD : w.heap.size = D at *
  have HD := hide hD
  clear hD
  obtain ⟨-, -, c2, -, c4⟩ := it_cells A1.out
  obtain ⟨-, -, d2, -, d4⟩ := it_cells A2.out
  have f2 := it_frozen A2.out 2
  have f4 := it_frozen A2.out 4
  obtain ⟨S2, TS⟩ := it_set2 sr tm A2.out
  have S0 := hide (TS.heap A0.out (by omega))
  have S1 := hide (TS.heap A1.out (by omega))
  have S2 := hide S2
  have TS := hide (T0.out.trans TS (fun k hk e => by have := HD.out; omega))
  clear A0 A1 A2 T0
  go_region
  have S0 : (((w1.setCell ⟨D + 1 + 1, 4, none⟩ (.int .i64 sr)).setCell ⟨D + 1 + 1, 2, none⟩ (.int .i64 tm)).drew).heap[D]? = some (.cells (cfc c) 24 (0, 0)) := S0.out
  have S1 : (((w1.setCell ⟨D + 1 + 1, 4, none⟩ (.int .i64 sr)).setCell ⟨D + 1 + 1, 2, none⟩ (.int .i64 tm)).drew).heap[D + 1]? = some (.cells (itc ⟨2, ke, tm, va, sr⟩) 60 (0, 0)) := S1.out
  have S2 : (((w1.setCell ⟨D + 1 + 1, 4, none⟩ (.int .i64 sr)).setCell ⟨D + 1 + 1, 2, none⟩ (.int .i64 tm)).drew).heap[D + 1 + 1]? = some (.cells (itc ⟨2, ⟨#[]⟩, tm, 0, sr⟩) 60 (0, 0)) := S2.out
  have TS := hide TS.out.drew
  generalize ((w1.setCell ⟨D + 1 + 1, 4, none⟩ (.int .i64 sr)).setCell ⟨D + 1 + 1, 2, none⟩ (.int .i64 tm)).drew = w2 at *
  clear c2 c4 d2 d4 f2 f4
  obtain ⟨⟨-, b1, -⟩, -⟩ := cf_cells S0
  obtain ⟨c0, c1, c2, c3, c4⟩ := it_cells S1
  obtain ⟨d0, d1, d2, d3, d4⟩ := it_cells S2
  clear S0 S1 S2
  by_cases hs : ke.toList = []
  · have hsb : (ke.toList == []) = true := by simp [hs]
    by_cases hv : va = 0
    · have hvb : (va == 0) = true := by simp [hv]
      by_cases h1 : 0 ≤ sr
      · have h1d : decide (0 ≤ sr) = true := decide_eq_true h1
        by_cases h2 : sr < c.so
        · have h2d : decide (sr < c.so) = true := decide_eq_true h2
          have HF : Hid (R = tb) := hide (by rw [HR.out, hsb, hvb, h1d, h2d]; simp)
          clear HR
          go_wp2_with fail
          refine (CT _).out.mono ?_
          rintro e w3 ⟨rfl, rfl⟩
          go_wp2_with fail
          go_ret
          exact ⟨by rw [HF.out]; rfl, TS.out⟩
        · have h2d : decide (sr < c.so) = false := decide_eq_false h2
          have HF : Hid (R = false) := hide (by rw [HR.out, h2d]; simp)
          clear HR
          go_wp2_with fail
          go_ret
          exact ⟨by rw [HF.out]; rfl, TS.out⟩
      · have h1d : decide (0 ≤ sr) = false := decide_eq_false h1
        have HF : Hid (R = false) := hide (by rw [HR.out, h1d]; simp)
        clear HR
        go_wp2_with fail
        go_ret
        exact ⟨by rw [HF.out]; rfl, TS.out⟩
    · have hvb : (va == 0) = false := by simp [hv]
      have HF : Hid (R = false) := hide (by rw [HR.out, hvb]; simp)
      clear HR
      go_wp2_with fail
      go_ret
      exact ⟨by rw [HF.out]; rfl, TS.out⟩
  · have hsb : (ke.toList == []) = false := by simp [hs]
    have HF : Hid (R = false) := hide (by rw [HR.out, hsb]; simp)
    clear HR
    go_wp2_with fail
    go_ret
    exact ⟨by rw [HF.out]; rfl, TS.out⟩

set_option maxRecDepth 100000 in
set_option maxHeartbeats 4000000 in
theorem ritemZ_3 (c : Cf) (x : It) (hk : x.ki = 3) (w : World) : Calls Tryz.prog 33 #[cfv c, itv x] w fun e w' => e = .returned (.bool (x.ke.toList == [] && (x.tm == 0 && (x.va == 0 && x.sr == 0)))) ∧ Calm w w' := by
  obtain ⟨ki, ke, tm, va, sr⟩ := x
  simp only at hk
  subst hk
  obtain ⟨R, hR⟩ : ∃ R : Bool, R = (ke.toList == [] && (tm == 0 && (va == 0 && sr == 0))) := ⟨_, rfl⟩
  have HR := hide hR
  simp only [← hR]
  clear hR
  obtain ⟨-, a1, a2⟩ := al3 w (.cells (cfc c) 24) (.cells (itc ⟨3, ke, tm, va, sr⟩) 60) (.cells (itc ⟨3, ⟨#[]⟩, 0, 0, 0⟩) 60)
  obtain ⟨c0, c1, c2, c3, c4⟩ := it_cells a1
  obtain ⟨d0, d1, d2, d3, d4⟩ := it_cells a2
  clear a1 a2
  go_enter Tryz.func33, Tryz.ntmps33
  go_wp2_with fail
  all_goals
    go_ret
    refine ⟨?_, (((Touch.refl (fun _ => False) w).alloc _).alloc _).alloc _⟩
    have hR := HR.out
    simp_all

set_option maxRecDepth 100000 in
set_option maxHeartbeats 4000000 in
theorem ritemZ_o (c : Cf) (x : It) (h1 : x.ki ≠ 1) (h2 : x.ki ≠ 2) (h3 : x.ki ≠ 3) (w : World) : Calls Tryz.prog 33 #[cfv c, itv x] w fun e w' => e = .returned (.bool false) ∧ Calm w w' := by
  obtain ⟨ki, ke, tm, va, sr⟩ := x
  simp only at h1 h2 h3
  have T0 := hide ((((Touch.refl (fun _ => False) w).alloc (.cells (cfc c) 24)).alloc (.cells (itc ⟨ki, ke, tm, va, sr⟩) 60)).alloc (.cells (itc ⟨ki, ⟨#[]⟩, 0, 0, 0⟩) 60))
  obtain ⟨-, a1, -⟩ := al3 w (.cells (cfc c) 24) (.cells (itc ⟨ki, ke, tm, va, sr⟩) 60) (.cells (itc ⟨ki, ⟨#[]⟩, 0, 0, 0⟩) 60)
  obtain ⟨c0, c1, c2, c3, c4⟩ := it_cells a1
  clear a1
  go_enter Tryz.func33, Tryz.ntmps33
  go_wp2_with fail
  go_ret
  exact ⟨rfl, T0.out⟩

theorem ritemZ_any (c : Cf) (x : It) (w : World) : Calls Tryz.prog 33 #[cfv c, itv x] w fun e w' => e = .returned (.bool (itemZ c x)) ∧ Calm w w' := by
  unfold itemZ
  by_cases h1 : x.ki = 1
  · rw [if_pos h1]; exact ritemZ_1 c x h1 w
  · rw [if_neg h1]
    by_cases h2 : x.ki = 2
    · rw [if_pos h2]; exact ritemZ_2 c x h2 w
    · rw [if_neg h2]
      by_cases h3 : x.ki = 3
      · rw [if_pos h3]; exact ritemZ_3 c x h3 w
      · rw [if_neg h3]; exact ritemZ_o c x h1 h2 h3 w

end Go.Proofs.YtapnjofplilefaaGreat
