/- The document's clock: Copy. -/
import Derived.Test.YtcmigkemhoecfaaKG
namespace Go.Proofs.Ytcmigkemhoecfaa
open Go.RowKit

theorem rcopy_nil (w : World) : Calls Try.prog 16 #[.pointer none] w fun e w' => e = .returned (.pointer none) ∧ w' = w := by
  go_enter Try.func16, Try.ntmps16
  go_wp2_with fail
  go_ret
  exact ⟨rfl, rfl⟩

theorem hd_copy {w : World} {mo : Option Addr} {mc : Nat} {M : List Hd} (hM : encH.Sl w mo mc M) (hl : M.length ≤ 4700000000000) :
    ∃ a1 p1 w1, (Builtin.append_ #[53, 53] 53 #[.slice none 0 0, .slice mo M.length mc]).run Try.prog w = .ok (.slice a1 M.length p1) w1 ∧ encH.Own 57 w1 w.heap.size (.slice a1 M.length p1) M ∧ Calm w w1 := by
  obtain ⟨i0, hi, hz, hsz, hby⟩ := Rc.info_parts infoHd
  obtain ⟨a1, p1, w1, hr, ow, t1, -⟩ := Rc.Own.appw (E := encH) (ty := 53) Try.underlying53 hi hz hsz hby rfl (Rc.Own.nil 57 w w.heap.size) mo mc M hM.mem hM.nil (by simp; unfold maxLen; omega) (by simp; omega) (by omega) (Nat.le_refl _)
  rw [List.nil_append] at hr ow
  exact ⟨a1, p1, w1, hr, ow, t1.mono fun _ _ h => by simp [Value.ownBlock] at h⟩

set_option maxRecDepth 100000 in
set_option maxHeartbeats 1000000 in
theorem rcopy_any (q : Nat) (F : Nat → Prop) (L : List Int) (H : List Hd) (w : World) (h : Rk w q F L H) (hm : L.length ≤ 10000000000000) (hl : H.length ≤ 4700000000000) : Calls Try.prog 16 #[.pointer (some ⟨q, 0, none⟩)] w fun e w' => ∃ q', e = .returned (.pointer (some ⟨q', 0, none⟩)) ∧ w.heap.size ≤ q' ∧ Rk w' q' (fun g => w.heap.size ≤ g ∧ g < w'.heap.size) L H ∧ Calm w w' := by
  obtain ⟨lo, lc, ho, hc, s1, s2, see⟩ := h.see
  have SE := hide see
  have C1 : Hid (∀ W, Calm w W → ∃ a1 p1 w1, (Builtin.append_ #[22, 22] 22 #[.slice none 0 0, .slice lo L.length lc]).run Try.prog W = .ok (.slice a1 L.length p1) w1 ∧ encJ.Own 2 w1 W.heap.size (.slice a1 L.length p1) L ∧ Calm W w1) := hide fun W hW => jn_copy (Rc.Sl.calm s1 hW) hm
  have C2 : Hid (∀ W, Calm w W → ∃ a1 p1 w1, (Builtin.append_ #[53, 53] 53 #[.slice none 0 0, .slice ho H.length hc]).run Try.prog W = .ok (.slice a1 H.length p1) w1 ∧ encH.Own 57 w1 W.heap.size (.slice a1 H.length p1) H ∧ Calm W w1) := hide fun W hW => hd_copy (Rc.Sl.calm s2 hW) hl
  have FIN : Hid (∀ W a1 p1 a2 p2, Calm w W → encJ.Own 2 W w.heap.size (.slice a1 L.length p1) L → encH.Own 57 W w.heap.size (.slice a2 H.length p2) H → w.heap.size ≤ W.heap.size ∧ Rk (W.alloc (.cells #[.slice a1 L.length p1, .slice a2 H.length p2] 55)) W.heap.size (fun g => w.heap.size ≤ g ∧ g < (W.alloc (.cells #[.slice a1 L.length p1, .slice a2 H.length p2] 55)).heap.size) L H ∧ Calm w (W.alloc (.cells #[.slice a1 L.length p1, .slice a2 H.length p2] 55))) := hide fun W a1 p1 a2 p2 hW o1 o2 => by
    have T := (Touch.refl (fun _ => False) W).alloc (.cells #[.slice a1 L.length p1, .slice a2 H.length p2] 55)
    have sz := al_size W (.cells #[.slice a1 L.length p1, .slice a2 H.length p2] 55)
    have hs := hW.size
    refine ⟨hs, ⟨⟨a1, p1, a2, p2, al_new _ _, Rc.Own.base (Rc.Own.calm o1 T) (Nat.zero_le _), Rc.Own.base (Rc.Own.calm o2 T) (Nat.zero_le _), fun g hg => ?_, fun g hg => ?_⟩, ⟨hs, by omega⟩, fun g hg => hg.2, h.ne⟩, hW.tr T⟩
    · have := own_lt o1 hg; exact ⟨this.1, by omega⟩
    · have := own_lt o2 hg; exact ⟨this.1, by omega⟩
  clear h s1 s2 see
  generalize L.length = n at *
  generalize H.length = k at *
  go_enter Try.func16, Try.ntmps16
  go_wp2_with fail
  refine wp_region_held (S := Calm w) (by kernel_rfl) ?_
  have hT0 : Calm w { w with drawn := w.drawn + 1 } := (Touch.refl _ w).drew
  refine wpAnyH_yield 0 5 (.pointer (some ⟨q, 0, none⟩)) rfl rfl (by kernel_rfl) (by kernel_rfl) (by kernel_rfl) (fun _ _ _ h => h) (by kernel_rfl) (fun W hW => by kernel_rfl) (by assumption) rfl rfl ?_
  simp only [Act.put, List.setIfInBounds_toArray, List.set_cons_zero, List.set_cons_succ]
  refine wpAnyH_yield 1 6 (.pointer (some ⟨q, 0, none⟩)) rfl rfl (by kernel_rfl) (by kernel_rfl) (by kernel_rfl) (fun _ _ _ h => h) (by kernel_rfl) (fun W hW => by go_simp) (by assumption) rfl rfl ?_
  simp only [Act.put, List.setIfInBounds_toArray, List.set_cons_zero, List.set_cons_succ]
  refine wpAnyH_yield 2 7 (.pointer (some ⟨q, 0, none⟩)) rfl rfl (by kernel_rfl) (by kernel_rfl) (by kernel_rfl) (fun _ _ _ h => h) (by kernel_rfl) (fun W hW => by go_simp) (by assumption) rfl rfl ?_
  simp only [Act.put, List.setIfInBounds_toArray, List.set_cons_zero, List.set_cons_succ]
  refine wpAnyH_yield 3 8 (.slice lo n lc) rfl rfl (by kernel_rfl) (by kernel_rfl) (by kernel_rfl) (fun _ _ _ h => h) (by kernel_rfl) (fun W hW => by obtain ⟨k0, -⟩ := SE.out W hW; go_simp) (by assumption) rfl rfl ?_
  simp only [Act.put, List.setIfInBounds_toArray, List.set_cons_zero, List.set_cons_succ]
  refine wpAnyH_yield 5 10 (.pointer (some ⟨q, 0, none⟩)) rfl rfl (by kernel_rfl) (by kernel_rfl) (by kernel_rfl) (fun _ _ _ h => h) (by kernel_rfl) (fun W hW => by kernel_rfl) (by assumption) rfl rfl ?_
  simp only [Act.put, List.setIfInBounds_toArray, List.set_cons_zero, List.set_cons_succ]
  refine wpAnyH_yield 6 11 (.pointer (some ⟨q, 0, none⟩)) rfl rfl (by kernel_rfl) (by kernel_rfl) (by kernel_rfl) (fun _ _ _ h => h) (by kernel_rfl) (fun W hW => by go_simp) (by assumption) rfl rfl ?_
  simp only [Act.put, List.setIfInBounds_toArray, List.set_cons_zero, List.set_cons_succ]
  refine wpAnyH_yield 7 12 (.pointer (some ⟨q, 1, none⟩)) rfl rfl (by kernel_rfl) (by kernel_rfl) (by kernel_rfl) (fun _ _ _ h => h) (by kernel_rfl) (fun W hW => by go_simp) (by assumption) rfl rfl ?_
  simp only [Act.put, List.setIfInBounds_toArray, List.set_cons_zero, List.set_cons_succ]
  refine wpAnyH_yield 8 13 (.slice ho k hc) rfl rfl (by kernel_rfl) (by kernel_rfl) (by kernel_rfl) (fun _ _ _ h => h) (by kernel_rfl) (fun W hW => by obtain ⟨-, k1⟩ := SE.out W hW; go_simp) (by assumption) rfl rfl ?_
  simp only [Act.put, List.setIfInBounds_toArray, List.set_cons_zero, List.set_cons_succ]
  obtain ⟨a1, p1, w1, hr1, o1, t1⟩ := C1.out _ hT0
  have h1 := hT0.tr t1
  refine wpAnyH_value 4 9 (.slice a1 n p1) (w' := w1) rfl rfl (by kernel_rfl) (by kernel_rfl) (exec_apk (.const (.slice none 0 0)) (.tmp 8) 22 22 rfl _ _ _ rfl rfl hr1) h1 ?_
  simp only [Act.put, List.setIfInBounds_toArray, List.set_cons_zero, List.set_cons_succ]
  obtain ⟨a2, p2, w2, hr2, o2, t2⟩ := C2.out _ h1
  have h2 := h1.tr t2
  refine wpAnyH_value 9 14 (.slice a2 k p2) (w' := w2) rfl rfl (by kernel_rfl) (by kernel_rfl) (exec_apk (.const (.slice none 0 0)) (.tmp 13) 53 53 rfl _ _ _ rfl rfl hr2) h2 ?_
  simp only [Act.put, List.setIfInBounds_toArray, List.set_cons_zero, List.set_cons_succ]
  refine wpAnyH_yield 10 15 (.agg #[.slice a1 n p1, .slice a2 k p2]) rfl rfl (by kernel_rfl) (by kernel_rfl) (by kernel_rfl) (fun _ _ _ h => h) (by kernel_rfl) (fun W hW => by go_simp) (by assumption) rfl rfl ?_
  simp only [Act.put, List.setIfInBounds_toArray, List.set_cons_zero, List.set_cons_succ]
  have HF := hide (FIN.out w2 a1 p1 a2 p2 h2 (Rc.Own.base (Rc.Own.calm o1 t2) (Nat.le_refl _)) (Rc.Own.base o2 h1.size))
  refine wpAnyH_value 11 16 (.pointer (some ⟨w2.heap.size, 0, none⟩)) (w' := w2.alloc (.cells #[.slice a1 n p1, .slice a2 k p2] 55)) rfl rfl (by kernel_rfl) (by kernel_rfl) (by go_simp) (h2.alloc _) ?_
  simp only [Act.put, List.setIfInBounds_toArray, List.set_cons_zero, List.set_cons_succ]
  have h3 : Calm w (w2.alloc (.cells #[.slice a1 n p1, .slice a2 k p2] 55)) := h2.alloc _
  refine wpAnyH_yield 12 2 (.pointer (some ⟨w2.heap.size, 0, none⟩)) rfl rfl (by kernel_rfl) (by kernel_rfl) (by kernel_rfl) (fun _ _ _ h => h) (by kernel_rfl) (fun W hW => by kernel_rfl) (by assumption) rfl rfl ?_
  simp only [Act.put, List.setIfInBounds_toArray, List.set_cons_zero, List.set_cons_succ]
  refine wpAnyH_done (by kernel_rfl) ?_ _
  clear hT0 hr1 hr2 o1 o2 t1 t2 h1 h2 h3 C1 C2 FIN SE
  go_wp2_with fail
  go_ret
  exact ⟨w2.heap.size, rfl, HF.out⟩

end Go.Proofs.Ytcmigkemhoecfaa
