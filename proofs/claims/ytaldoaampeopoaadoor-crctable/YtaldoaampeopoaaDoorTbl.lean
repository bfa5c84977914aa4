/- The program's Table. -/
import Derived.Test.YtaldoaampeopoaaDoorMov2
namespace Go.Proofs.YtaldoaampeopoaaDoor
open Go.RowKit Crcx

/-- The table's array. -/
structure Tb (c : Array Value) : Prop where
  size : c.size = 256
  at_ : ∀ i, i < 256 → c[i]? = some (.int .u32 ((stps 8 i : Nat) : Int))

theorem Tb.info {c : Array Value} (h : Tb c) : (Tryd.prog.info? 33).map (·.size) = some c.size := by
  rw [h.size]; kernel_rfl

/-- The zero array. -/
theorem zero256 : ∃ c0 : Array Value, (∀ w, (zeroValue 33).run Tryd.prog w = .ok (.agg c0) w) ∧ c0 = Array.replicate 256 (.int .u32 0) :=
  ⟨_, (zero_of_info (n := 256) (v := .agg (Array.replicate 256 (.int .u32 0))) (by kernel_rfl)).1, rfl⟩

set_option maxRecDepth 100000 in
theorem table_any (w : World) (ht : Tab w) :
    Calls Tryd.prog 16 #[] w fun e w' => ∃ c, e = .returned (.agg c) ∧ Tb c ∧ Touch (fun _ => False) w w' := by
  obtain ⟨c0, hz, hc0⟩ := zero256
  have HC0 := hide hc0
  clear hc0
  go_enter Tryd.func16, Tryd.ntmps16
  go_wp2_with fail
  go_loopw [3] (fun i wr => ∃ n : Nat, i = .int .i64 n ∧ n ≤ 256 ∧ Fill wr (w.heap.size + 1) 33 256 n (fun i => stps 8 i) ∧ Fill wr w.heap.size 33 256 0 (fun _ => 0) ∧ Touch (fun _ => False) w wr) (fun i _ => 256 - (intOf i).toNat)
  case atStart => exact ⟨0, rfl, Nat.zero_le _, Fill.zero _ _ _ _ _ _ (by simp) HC0.out, (Fill.zero w _ _ _ _ _ rfl HC0.out).touch ((Touch.refl (fun _ => False) _).alloc _) (fun h => h), ((Touch.refl _ _).alloc _).alloc _⟩
  case round =>
    obtain ⟨n, rfl, hn, hf, hf0, htw⟩ := hrel
    by_cases hlast : n < 256
    · have hT := ht.touch htw (fun h => h)
      obtain ⟨v, hv⟩ := hf.cell n hlast
      have hfz := hf.frozen n
      have OB := hide (fun W h => overByte_any n (by omega) W h)
      have hput := hide (hf.put hlast)
      have hput0 := hide (hf0.touch ((Touch.refl (fun k => k = w.heap.size + 1) wr).setCell (p := ⟨w.heap.size + 1, n, none⟩) (fun _ => rfl) (.int .u32 ((stps 8 n : Nat) : Int))) (by omega))
      have htw1 := hide (htw.setCell (p := ⟨w.heap.size + 1, n, none⟩) (fun h => absurd h (by simp)) (.int .u32 ((stps 8 n : Nat) : Int)))
      have hpw : (n : Int) % 4294967296 = (n : Int) := by omega
      generalize stps 8 n = y at *
      clear hf hf0 htw
      go_wp2_with fail
      refine (OB.out _ hT).mono ?_
      rintro e w' ⟨rfl, rfl⟩
      go_wp2_with fail
      go_roundw
      case rel => exact ⟨n + 1, by go_num, by omega, hput.out, hput0.out, htw1.out⟩
      case measure => simp [intOf]; omega
    · have e : n = 256 := by omega
      subst e
      obtain ⟨c, h1, h2, h4, h3⟩ := hf.block
      obtain ⟨c1, g1, g2, g4, g3⟩ := hf0.block
      have ha : Tb c := ⟨h2, h3⟩
      have hi := ha.info
      have hone := all_one h2 h4
      have hset := setRow_heap wr w.heap.size c1 c 33 (0, 0) g1
      have htw1 : Touch (fun _ => False) w (wr.setRow w.heap.size c) := htw.trans (S' := fun k => k = w.heap.size) ⟨rfl, rfl, rfl, by simp, fun j _ hj => setRow_other wr _ j _ hj⟩ (fun k hk h => by omega)
      have hsz : c1.size = c.size := by omega
      clear h4 h3 g4 g3 hf hf0 htw h2 g2 hz
      go_wp2_with (first | refine wpList_load_row rfl 33 (.tmp 1) rfl _ rfl 33 c (0, 0) _ h1 Tryd.underlying33 rfl hi ?_ | refine wpList_store_row rfl 33 (.tmp 0) (.tmp 12) rfl _ c rfl rfl 33 c1 g1 hi hsz hone ?_)
      refine bodyPost_ret (results_cell_row rfl _ _ _ _ _ _ _ rfl hset Tryd.underlying33 rfl hi) rfl ?_
      exact ⟨c, rfl, ha, htw1⟩

end Go.Proofs.YtaldoaampeopoaaDoor
