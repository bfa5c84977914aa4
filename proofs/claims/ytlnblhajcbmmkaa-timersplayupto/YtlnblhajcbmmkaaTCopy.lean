/- Other timers like these. -/
import Derived.Test.YtlnblhajcbmmkaaTClone
import Derived.Test.YtlnblhajcbmmkaaTApi
import Derived.Shelf.SlMaps.Clone
namespace Go.Proofs.Ytlnblhajcbmmkaa
open Go.RowKit Go.Shelf Go.Maps

set_option maxRecDepth 100000 in
shelf_lay_g SlLaysW.n5 Slmc 5 at Try 40 as Try.mapsT

theorem mclone_any (mb n : Nat) (f : Tm → Option Nat) (w : World) (h : Mp w mb n f) :
    Calls Try.prog 40 #[.map (some mb)] w fun e w' => ∃ mb', e = .returned (.map (some mb')) ∧ w.heap.size ≤ mb' ∧ Mp w' mb' n f ∧ Calm w w' := by
  obtain ⟨D, ⟨es, clock, h1, h2⟩, h3⟩ := h.ex
  refine (AnyW.maps_Clone Try.mapsT mb es clock w h1).mono fun e w' ⟨he, hw⟩ => ?_
  subst hw
  exact ⟨w.heap.size, he, Nat.le_refl _, ⟨D, ⟨es, clock, (MapKept.heap_alloc w _).1, h2⟩, h3⟩, (Touch.refl _ _).alloc _⟩

theorem OwnT.low {w : World} {base : Nat} {v : Value} {L : List Tm} (h : OwnT w base v L) : OwnT w 0 v L := by
  obtain ⟨h1, h2 | ⟨g, cap, cur, e, hb, h3⟩⟩ := h
  · exact ⟨h1, .inl h2⟩
  · exact ⟨h1, .inr ⟨g, cap, cur, e, Nat.zero_le _, h3⟩⟩

/-- A copy has been made. -/
def CopyR (w : World) (V : List Tm) (e : Ending) (w' : World) : Prop :=
  ∃ q' F', e = .returned (.pointer (some ⟨q', 0, none⟩)) ∧ Tq w' q' F' V ∧ (∀ g, F' g → w.heap.size ≤ g) ∧ Calm w w'

theorem copied {w w2 : World} {V : List Tm} {f : Tm → Option Nat} {ao : Option Addr} {cap mb : Nat} (hg : ∀ t ∈ V, Good t) (hh : Heap V f) (ow : OwnT w2 0 (.slice ao V.length cap) V) (lo : ∀ a, ao = some a → w.heap.size ≤ a.block) (mp : Mp w2 mb V.length f) (lm : w.heap.size ≤ mb) (ht : Calm w w2) :
    CopyR w V (.returned (.pointer (some ⟨w2.heap.size, 0, none⟩))) (w2.alloc (.cells #[.slice ao V.length cap, .map (some mb)] 59)) := by
  have tA : Calm w2 (w2.alloc (.cells #[.slice ao V.length cap, .map (some mb)] 59)) := (Touch.refl _ _).alloc _
  refine ⟨w2.heap.size, fun g => w.heap.size ≤ g ∧ g < w2.heap.size + 1, rfl, ⟨⟨ao, cap, mb, f, ⟨heap_alloc_last w2 _, ow.calm tA, mp.calm tA, hg⟩, hh, ⟨ht.size, by omega⟩, ⟨lm, by have := mp.lt; omega⟩, fun a ha => ?_⟩, fun g hg => by simpa using hg.2⟩, fun g hg => hg.1, ht.tr tA⟩
  obtain ⟨_, _, _, cs, hc⟩ := ow.prs.2.2.1 a ha
  exact ⟨lo a ha, by have := lt_of_heap hc; omega⟩

set_option maxRecDepth 100000 in
set_option maxHeartbeats 1000000 in
theorem copy_any (q : Nat) (F : Nat → Prop) (V : List Tm) (w : World) (h : Tq w q F V) (hb : V.length < 3518437208790) :
    Calls Try.prog 29 #[.pointer (some ⟨q, 0, none⟩)] w (CopyR w V) := by
  have IT := hide (isThere_any q F V w h)
  have GD := hide h.good
  obtain ⟨ao, cap, mb, f, qm, hh, -⟩ := h.ex
  have HH := hide hh
  have QM := hide qm
  have HB := hide hb
  obtain ⟨c0, c1⟩ := qm.cells
  have CL := hide (fun W (hW : Calm w W) => tclone_any ao cap V W (qm.calm hW).row.rl.1 hb)
  have MC := hide (fun W (hW : Calm w W) => mclone_any mb V.length f W (qm.calm hW).map)
  have OWN := hide qm.own
  obtain ⟨L, hL⟩ : ∃ L, V.length = L := ⟨_, rfl⟩
  have HL := hide hL
  rw [hL] at OWN CL MC
  clear h hh qm hb hL c0 c1 QM HB
  go_enter Try.func29, Try.ntmps29
  go_wp2_with fail
  refine IT.out.mono ?_
  rintro e w1 ⟨rfl, hq⟩
  subst hq
  clear IT
  go_wp2_with fail
  refine wp_only ?_
  refine wp_region_held (S := Calm w1) (by kernel_rfl) ?_
  have ty0 : Calm w1 { w1 with drawn := w1.drawn + 1 } := (Touch.refl (fun _ => False) w1).drew
  refine wpAnyH_yield 0 6 (.pointer (some ⟨q, 0, none⟩)) rfl rfl (by kernel_rfl) (by kernel_rfl) (by kernel_rfl) (fun _ _ _ h => h) (by kernel_rfl) (fun W hW => by kernel_rfl) (by assumption) rfl rfl ?_
  simp only [Act.put, List.setIfInBounds_toArray, List.set_cons_zero, List.set_cons_succ]
  refine wpAnyH_yield 1 7 (.pointer (some ⟨q, 0, none⟩)) rfl rfl (by kernel_rfl) (by kernel_rfl) (by kernel_rfl) (fun _ _ _ h => h) (by kernel_rfl) (fun W hW => by go_simp) (by assumption) rfl rfl ?_
  simp only [Act.put, List.setIfInBounds_toArray, List.set_cons_zero, List.set_cons_succ]
  refine wpAnyH_yield 2 8 (.pointer (some ⟨q, 0, none⟩)) rfl rfl (by kernel_rfl) (by kernel_rfl) (by kernel_rfl) (fun _ _ _ h => h) (by kernel_rfl) (fun W hW => by go_simp) (by assumption) rfl rfl ?_
  simp only [Act.put, List.setIfInBounds_toArray, List.set_cons_zero, List.set_cons_succ]
  refine wpAnyH_yield 3 9 (.slice ao L cap) rfl rfl (by kernel_rfl) (by kernel_rfl) (by kernel_rfl) (fun _ _ _ h => h) (by kernel_rfl) (fun W hW => by have c0 := (cells2 (hW.at OWN.out)).1; go_simp) (by assumption) rfl rfl ?_
  simp only [Act.put, List.setIfInBounds_toArray, List.set_cons_zero, List.set_cons_succ]
  refine wpAnyH_yield 5 11 (.pointer (some ⟨q, 0, none⟩)) rfl rfl (by kernel_rfl) (by kernel_rfl) (by kernel_rfl) (fun _ _ _ h => h) (by kernel_rfl) (fun W hW => by kernel_rfl) (by assumption) rfl rfl ?_
  simp only [Act.put, List.setIfInBounds_toArray, List.set_cons_zero, List.set_cons_succ]
  refine wpAnyH_yield 6 12 (.pointer (some ⟨q, 0, none⟩)) rfl rfl (by kernel_rfl) (by kernel_rfl) (by kernel_rfl) (fun _ _ _ h => h) (by kernel_rfl) (fun W hW => by go_simp) (by assumption) rfl rfl ?_
  simp only [Act.put, List.setIfInBounds_toArray, List.set_cons_zero, List.set_cons_succ]
  refine wpAnyH_yield 7 13 (.pointer (some ⟨q, 1, none⟩)) rfl rfl (by kernel_rfl) (by kernel_rfl) (by kernel_rfl) (fun _ _ _ h => h) (by kernel_rfl) (fun W hW => by go_simp) (by assumption) rfl rfl ?_
  simp only [Act.put, List.setIfInBounds_toArray, List.set_cons_zero, List.set_cons_succ]
  refine wpAnyH_yield 8 14 (.map (some mb)) rfl rfl (by kernel_rfl) (by kernel_rfl) (by kernel_rfl) (fun _ _ _ h => h) (by kernel_rfl) (fun W hW => by have c1 := (cells2 (hW.at OWN.out)).2; go_simp) (by assumption) rfl rfl ?_
  simp only [Act.put, List.setIfInBounds_toArray, List.set_cons_zero, List.set_cons_succ]
  refine wpAnyH_enter 4 10 32 #[.slice ao L cap] rfl rfl (by kernel_rfl) (by kernel_rfl) (by kernel_rfl) ?_
  refine (CL.out _ ty0).mono ?_
  rintro e y1 ⟨ao1, cap1, rfl, ow1, t1⟩
  have ty1 : Calm w1 y1 := ty0.tr t1
  refine ⟨_, rfl, ty1, ?_⟩
  simp only [Act.put, List.setIfInBounds_toArray, List.set_cons_zero, List.set_cons_succ]
  refine wpAnyH_enter 9 15 40 #[.map (some mb)] rfl rfl (by kernel_rfl) (by kernel_rfl) (by kernel_rfl) ?_
  refine (MC.out _ ty1).mono ?_
  rintro e y2 ⟨mb2, rfl, lm, mp, t2⟩
  have ty2 : Calm w1 y2 := ty1.tr t2
  refine ⟨_, rfl, ty2, ?_⟩
  simp only [Act.put, List.setIfInBounds_toArray, List.set_cons_zero, List.set_cons_succ]
  refine wpAnyH_yield 10 16 (.agg #[.slice ao1 L cap1, .map (some mb2)]) rfl rfl (by kernel_rfl) (by kernel_rfl) (by kernel_rfl) (fun _ _ _ h => h) (by kernel_rfl) (fun W hW => by go_simp) (by assumption) rfl rfl ?_
  simp only [Act.put, List.setIfInBounds_toArray, List.set_cons_zero, List.set_cons_succ]
  have ty3 : Calm w1 (y2.alloc (.cells #[.slice ao1 L cap1, .map (some mb2)] 59)) := ty2.alloc _
  refine wpAnyH_value 11 17 (.pointer (some ⟨y2.heap.size, 0, none⟩)) rfl rfl (by kernel_rfl) (by kernel_rfl) (by go_simp) ty3 ?_
  simp only [Act.put, List.setIfInBounds_toArray, List.set_cons_zero, List.set_cons_succ]
  refine wpAnyH_yield 12 2 (.pointer (some ⟨y2.heap.size, 0, none⟩)) rfl rfl (by kernel_rfl) (by kernel_rfl) (by kernel_rfl) (fun _ _ _ h => h) (by kernel_rfl) (fun W hW => by kernel_rfl) (by assumption) rfl rfl ?_
  simp only [Act.put, List.setIfInBounds_toArray, List.set_cons_zero, List.set_cons_succ]
  refine wpAnyH_done (by kernel_rfl) ?_ _
  rw [onlyN_normal]
  have RES : Hid (CopyR w1 V (.returned (.pointer (some ⟨y2.heap.size, 0, none⟩))) (y2.alloc (.cells #[.slice ao1 L cap1, .map (some mb2)] 59))) := hide (by
    have h1 := OwnT.prs ow1
    have h2 : w1.heap.size ≤ ({ w1 with drawn := w1.drawn + 1 } : World).heap.size := ty0.size
    have h3 := copied (w := w1) (cap := cap1) GD.out HH.out (by rw [HL.out]; exact (ow1.calm t2).low) (fun a ha => Nat.le_trans h2 (h1.2.2.1 a ha).2.2.1) (by rw [HL.out]; exact mp) (Nat.le_trans ty1.size lm) ty2
    rw [HL.out] at h3
    exact h3)
  clear ty0 ty1 ty2 ty3 t1 t2 mp ow1 lm
  go_wp2_with fail
  go_ret
  exact RES.out

end Go.Proofs.Ytlnblhajcbmmkaa
