/- The kit's: a key's state in new memory (CopyKey). -/
import Derived.Test.YtjambfncemlenaaDoorCH
import Derived.Test.YtjambfncemlenaaDoorCB
import Derived.Test.YtjambfncemlenaaDoorYS
import Derived.Laws.Tables
import Derived.Test.YtjambfncemlenaaDoorCJ0
namespace Go.Proofs.YtjambfncemlenaaDoor
open Go.RowKit

set_option maxRecDepth 100000 in
set_option maxHeartbeats 2000000 in
theorem copyKey_any (k : Ks) (wo : Option Addr) (cap : Nat) (w : World) (hs : encW.Sl w wo cap k.wi) (hn : k.wi.length ≤ 1954687338300) :
    Calls Tryd.prog 46 #[.agg (ksc k wo cap)] w fun e w' => ∃ ao c, e = .returned (.agg (ksc k ao c)) ∧ encW.Own 92 w' w.heap.size (.slice ao k.wi.length c) k.wi ∧ Calm w w' := by
  have A0 := al_new w (.cells (ksc k wo cap) 55)
  have hi3 : (Tryd.prog.info? 55).map (·.size) = some 3 := by kernel_rfl
  obtain ⟨i0, hi, hz, hsz, hby⟩ := Rc.info_parts infoWin
  have T0 := (Touch.refl (fun _ => False) w).alloc (.cells (ksc k wo cap) 55)
  have HSz := al_size w (.cells (ksc k wo cap) 55)
  generalize hwA : w.alloc (.cells (ksc k wo cap) 55) = wA at *
  have hE := hide hwA
  have A1 := al_new wA (.cells (ksc ⟨⟨#[]⟩, 0, []⟩ none 0) 55)
  have T1 := (Touch.refl (fun _ => False) wA).alloc (.cells (ksc ⟨⟨#[]⟩, 0, []⟩ none 0) 55)
  have HSz1 := al_size wA (.cells (ksc ⟨⟨#[]⟩, 0, []⟩ none 0) 55)
  have KA : Hid (∀ W, Calm wA W → W.cell? ⟨w.heap.size, 0, none⟩ = some (.string k.ke) ∧ W.cell? ⟨w.heap.size, 1, none⟩ = some (.int .i64 k.dr) ∧ W.cell? ⟨w.heap.size, 2, none⟩ = some (.slice wo k.wi.length cap)) := hide fun W hW => ks_cells (hW.at A0)
  go_enter Tryd.func46, Tryd.ntmps46
  go_wp2_with fail
  generalize hB : w.heap.size = B at *
  generalize hw0 : wA.alloc (.cells (ksc ⟨⟨#[]⟩, 0, []⟩ none 0) 55) = w0 at *
  refine wp_region_held (S := Calm wA) (by kernel_rfl) ?_
  have hT0 : Calm wA { w0 with drawn := w0.drawn + 1 } := T1.drew
  refine wpAnyH_yield 0 3 (.pointer (some ⟨B, 0, none⟩)) rfl rfl (by kernel_rfl) (by kernel_rfl) (by kernel_rfl) (fun _ _ _ h => h) (by kernel_rfl) (fun W hW => by go_simp) (by assumption) rfl rfl ?_
  simp only [Act.put, List.setIfInBounds_toArray, List.set_cons_zero, List.set_cons_succ]
  refine wpAnyH_yield 1 4 (.string k.ke) rfl rfl (by kernel_rfl) (by kernel_rfl) (by kernel_rfl) (fun _ _ _ h => h) (by kernel_rfl) (fun W hW => by obtain ⟨c0, -⟩ := KA.out W hW; go_simp) (by assumption) rfl rfl ?_
  simp only [Act.put, List.setIfInBounds_toArray, List.set_cons_zero, List.set_cons_succ]
  refine wpAnyH_yield 2 5 (.pointer (some ⟨B, 1, none⟩)) rfl rfl (by kernel_rfl) (by kernel_rfl) (by kernel_rfl) (fun _ _ _ h => h) (by kernel_rfl) (fun W hW => by go_simp) (by assumption) rfl rfl ?_
  simp only [Act.put, List.setIfInBounds_toArray, List.set_cons_zero, List.set_cons_succ]
  refine wpAnyH_yield 3 6 (.int .i64 k.dr) rfl rfl (by kernel_rfl) (by kernel_rfl) (by kernel_rfl) (fun _ _ _ h => h) (by kernel_rfl) (fun W hW => by obtain ⟨-, c1, -⟩ := KA.out W hW; go_simp) (by assumption) rfl rfl ?_
  simp only [Act.put, List.setIfInBounds_toArray, List.set_cons_zero, List.set_cons_succ]
  refine wpAnyH_yield 5 8 (.pointer (some ⟨B, 2, none⟩)) rfl rfl (by kernel_rfl) (by kernel_rfl) (by kernel_rfl) (fun _ _ _ h => h) (by kernel_rfl) (fun W hW => by go_simp) (by assumption) rfl rfl ?_
  simp only [Act.put, List.setIfInBounds_toArray, List.set_cons_zero, List.set_cons_succ]
  refine wpAnyH_yield 6 9 (.slice wo k.wi.length cap) rfl rfl (by kernel_rfl) (by kernel_rfl) (by kernel_rfl) (fun _ _ _ h => h) (by kernel_rfl) (fun W hW => by obtain ⟨-, -, c2⟩ := KA.out W hW; go_simp) (by assumption) rfl rfl ?_
  simp only [Act.put, List.setIfInBounds_toArray, List.set_cons_zero, List.set_cons_succ]
  have AD : ({ w0 with drawn := w0.drawn + 1 } : World).heap[B + 1]? = some (.cells (ksc ⟨⟨#[]⟩, 0, []⟩ none 0) 55 (0, 0)) := by rw [HSz] at A1; exact A1
  have SD : ({ w0 with drawn := w0.drawn + 1 } : World).heap.size = B + 1 + 1 := by rw [HSz] at HSz1; exact HSz1
  generalize ({ w0 with drawn := w0.drawn + 1 } : World) = wD at *
  have hTE : Calm wA (wD.alloc (.cells #[] 92)) := hT0.alloc _
  have own : encW.Own 92 (wD.alloc (.cells #[] 92)) (B + 1 + 1) (.slice (some ⟨wD.heap.size, 0, none⟩) 0 0) [] := World.ownsRow_lit wD #[] 0 (by omega) (by unfold maxLen; omega) (by simp)
  obtain ⟨a1, p1, w3, hr, ow, t1, -⟩ := Rc.Own.appw (E := encW) (ty := 53) Tryd.underlying53 hi hz hsz hby rfl own wo cap k.wi (Rc.Mem.calm hs.mem (T0.tr hTE)) hs.nil (by simp; unfold maxLen; omega) (by simp; omega) (by omega) (by rw [al_size]; omega)
  rw [List.nil_append] at hr ow
  have hT3 : Calm wA w3 := own_calm own t1 hTE (by omega)
  have A3 : w3.heap[B + 1]? = some (.cells (ksc ⟨⟨#[]⟩, 0, []⟩ none 0) 55 (0, 0)) := t1.heap (al_old AD _) (fun h => by simp [Value.ownBlock] at h; omega)
  have h1c : (ksc k a1 p1).all (·.oneCell') = true := by simp [Value.oneCell']
  have A4 := setRow_heap _ _ _ (ksc k a1 p1) _ _ A3
  have tS : Touch (fun g => g = B + 1) w3 (w3.setRow (B + 1) (ksc k a1 p1)) := ⟨rfl, rfl, rfl, by simp, fun j _ hj => setRow_other _ _ j _ hj⟩
  have hT4 : Calm wA (w3.setRow (B + 1) (ksc k a1 p1)) := hT3.trans tS (fun g hg e => by omega)
  have ow4 : encW.Own 92 (w3.setRow (B + 1) (ksc k a1 p1)) B (.slice a1 k.wi.length p1) k.wi := Rc.Own.base (Rc.Own.touch ow tS fun g hg e => by have := (Rc.own_block ow hg).1; omega) (by omega)
  have HR : Hid (∃ ao c, Ending.returned (.agg (ksc k a1 p1)) = .returned (.agg (ksc k ao c)) ∧ encW.Own 92 (w3.setRow (B + 1) (ksc k a1 p1)) B (.slice ao k.wi.length c) k.wi ∧ Calm w (w3.setRow (B + 1) (ksc k a1 p1))) := hide ⟨a1, p1, rfl, ow4, T0.tr hT4⟩
  refine wpAnyH_value 4 7 (.slice (some ⟨wD.heap.size, 0, none⟩) 0 0) (w' := wD.alloc (.cells #[] 92)) rfl rfl (by kernel_rfl) (by kernel_rfl) (by go_simp) hTE ?_
  simp only [Act.put, List.setIfInBounds_toArray, List.set_cons_zero, List.set_cons_succ]
  refine wpAnyH_value 7 10 (.slice a1 k.wi.length p1) (w' := w3) rfl rfl (by kernel_rfl) (by kernel_rfl) (exec_apk (.tmp 7) (.tmp 9) 53 53 rfl _ _ _ rfl rfl hr) hT3 ?_
  simp only [Act.put, List.setIfInBounds_toArray, List.set_cons_zero, List.set_cons_succ]
  refine wpAnyH_yield 8 11 (.agg (ksc k a1 p1)) rfl rfl (by kernel_rfl) (by kernel_rfl) (by kernel_rfl) (fun _ _ _ h => h) (by kernel_rfl) (fun W hW => by go_simp) (by assumption) rfl rfl ?_
  simp only [Act.put, List.setIfInBounds_toArray, List.set_cons_zero, List.set_cons_succ]
  refine wpAnyH_do 9 (w3.setRow (B + 1) (ksc k a1 p1)) rfl (by kernel_rfl) (by kernel_rfl) (fun K hK => wp_store_row 55 (.tmp 2) (.tmp 11) rfl (B + 1) (ksc k a1 p1) rfl rfl 55 _ A3 hi3 rfl h1c hK) hT4 ?_
  refine wpAnyH_done (by kernel_rfl) ?_ _
  have HA4 := hide A4
  clear A0 A1 T0 T1 HSz HSz1 hT0 AD SD hTE own ow t1 hr hT3 A3 h1c A4 tS hT4 ow4 KA hs hi hz hsz hby
  go_wp2_with fail
  refine bodyPost_ret (results_cell_row rfl _ _ _ _ _ _ _ rfl HA4.out Tryd.underlying55 rfl (by kernel_rfl)) rfl ?_
  rw [hB]
  exact HR.out

end Go.Proofs.YtjambfncemlenaaDoor
