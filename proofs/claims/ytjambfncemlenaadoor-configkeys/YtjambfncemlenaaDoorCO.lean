/- The kit's: a key's state lent (LendKey). -/
import Derived.Test.YtjambfncemlenaaDoorCJ
import Derived.Great.BuildSlice
namespace Go.Proofs.YtjambfncemlenaaDoor
open Go.RowKit

theorem Cg2.heap_put {w : World} {g i : Nat} {c : Array Value} {t : TypeId} {fr : Nat × Nat} (h : w.heap[g]? = some (.cells c t fr)) (v : Value) : (w.setCell ⟨g, i, none⟩ v).heap[g]? = some (.cells (c.setIfInBounds i v) t fr) := by
  obtain ⟨hg, hv⟩ := Array.getElem?_eq_some_iff.1 h
  simp [World.setCell, hg, Array.getElem_modify, hv]
/-- One window more. -/
theorem wn_app1 {w : World} {base : Nat} {ao : Option Addr} {cap : Nat} {A : List Wn} (x : Wn) (h : encW.Own 92 w base (.slice ao A.length cap) A) (hs : base ≤ w.heap.size) (hn : A.length ≤ 1954687338310) :
    ∃ a2 p2 w4, (Builtin.append_ #[53, 53] 53 #[.slice ao A.length cap, .slice (some ⟨w.heap.size, 0, none⟩) 1 1]).run Tryd.prog (w.alloc (.cells (wnc x) 92)) = .ok (.slice a2 (A.length + 1) p2) w4 ∧
      encW.Own 92 w4 base (.slice a2 (A ++ [x]).length p2) (A ++ [x]) ∧ Touch (fun d => (Value.slice ao A.length cap).ownBlock = some d) w w4 := by
  obtain ⟨i0, hi, hz, hsz, hby⟩ := Rc.info_parts infoWin
  have own := Rc.Own.calm h ((Touch.refl (fun _ => False) w).alloc (.cells (wnc x) 92))
  have hs1 := al_size w (.cells (wnc x) 92)
  obtain ⟨a2, p2, w4, hr, ow, t2, -⟩ := Rc.Own.appw (E := encW) (ty := 53) Tryd.underlying53 hi hz hsz hby rfl own (some ⟨w.heap.size, 0, none⟩) 1 [x] (Rc.Mem.new w [x] 92) (fun h => (nomatch h)) (by simp; unfold maxLen; omega) (by simp; omega) (by omega) (by omega)
  have e3 : (A ++ [x]).length = A.length + 1 := by simp
  refine ⟨a2, p2, w4, by rw [← e3]; exact hr, ow, ?_⟩
  exact Touch.trans (((Touch.refl (fun _ => False) w).alloc _).mono fun _ _ h => h.elim) t2 fun _ _ h => h
theorem mks_next {i : Nat} (h : i < 3) : mks.take (i + 1) = mks.take i ++ [mkW i] := by
  rcases (by omega : i = 0 ∨ i = 1 ∨ i = 2) with rfl | rfl | rfl <;> rfl
/-- A row of windows is no key's state. -/
theorem own_notK {w : World} {base D : Nat} {v : Value} {L : List Wn} {cs : Array Value} (h : encW.Own 92 w base v L) (hD : w.heap[D]? = some (.cells cs 55 (0, 0))) : ¬ v.ownBlock = some D := fun hv => by
  obtain ⟨-, cur, hc⟩ := Rc.own_block h hv
  rw [hD] at hc
  injection hc with hc
  injection hc with _ e
  cases e

set_option maxRecDepth 100000 in
set_option maxHeartbeats 4000000 in
theorem lendKey_any (k : Ks) (wo : Option Addr) (cap : Nat) (w : World) (hs : encW.Sl w wo cap k.wi) (hn : k.wi.length ≤ 1954687338300) :
    Calls Tryd.prog 21 #[.agg (ksc k wo cap)] w fun e w' => ∃ g c, e = .returned (.agg (ksc k (some ⟨g, 0, none⟩) c)) ∧ LentK w' w.heap.size g c k.wi ∧ Calm w w' := by
  have CC : Hid (∀ W, Calm w W → Calls Tryd.prog 46 #[.agg (ksc k wo cap)] W fun e w' => ∃ ao c, e = .returned (.agg (ksc k ao c)) ∧ encW.Own 92 w' W.heap.size (.slice ao k.wi.length c) k.wi ∧ Calm W w') := hide fun W hW => copyKey_any k wo cap W (Rc.Sl.calm hs hW) hn
  have CM : Hid (∀ i W, Calls Tryd.prog 47 #[.int .i64 ((i : Nat) : Int)] W fun e w' => e = .returned (wnv (mkW i)) ∧ Calm W w') := hide mark_any
  obtain ⟨B0, T0, A0⟩ : Hid ((w.alloc (.cells (ksc k wo cap) 55)).heap[w.heap.size]? = some (.cells (ksc k wo cap) 55 (0, 0))) ∧ Hid (Calm w (w.alloc (.cells (ksc k wo cap) 55))) ∧ Hid ((w.alloc (.cells (ksc k wo cap) 55)).heap.size = w.heap.size + 1) := ⟨hide (al_new _ _), hide ((Touch.refl _ w).alloc _), hide (al_size _ _)⟩
  clear hs
  go_enter Tryd.func21, Tryd.ntmps21
  go_wp2_with fail
  have AB : Hid (((w.alloc (.cells (ksc k wo cap) 55)).alloc (.cells (ksc ⟨⟨#[]⟩, 0, []⟩ none 0) 55)).heap[w.heap.size]? = some (.cells (ksc k wo cap) 55 (0, 0))) := hide (al_old B0.out _)
  have AZ : Hid (((w.alloc (.cells (ksc k wo cap) 55)).alloc (.cells (ksc ⟨⟨#[]⟩, 0, []⟩ none 0) 55)).heap[w.heap.size + 1]? = some (.cells (ksc ⟨⟨#[]⟩, 0, []⟩ none 0) 55 (0, 0))) := hide (by
    have := al_new (w.alloc (.cells (ksc k wo cap) 55)) (.cells (ksc ⟨⟨#[]⟩, 0, []⟩ none 0) 55)
    rwa [A0.out] at this)
  have TB : Hid (Calm w ((w.alloc (.cells (ksc k wo cap) 55)).alloc (.cells (ksc ⟨⟨#[]⟩, 0, []⟩ none 0) 55))) := hide (T0.out.alloc _)
  have SB : Hid (((w.alloc (.cells (ksc k wo cap) 55)).alloc (.cells (ksc ⟨⟨#[]⟩, 0, []⟩ none 0) 55)).heap.size = w.heap.size + 1 + 1) := hide (by rw [al_size, A0.out])
  clear B0 T0 A0
  refine (CC.out _ TB.out).mono ?_
  generalize hB : w.heap.size = B at *
  generalize hwB : (w.alloc (.cells (ksc k wo cap) 55)).alloc (.cells (ksc ⟨⟨#[]⟩, 0, []⟩ none 0) 55) = wB at *
  rintro e w2 ⟨ao, c, rfl, ow, T2⟩
  clear CC hwB
  rw [SB.out] at ow
  have AD := hide (al_new w2 (.cells (ksc k ao c) 55))
  have OW := hide (Rc.Own.calm ow ((Touch.refl (fun _ => False) w2).alloc (.cells (ksc k ao c) 55)))
  have TD := hide (T2.alloc (.cells (ksc k ao c) 55))
  have hBD : Hid (B + 1 + 1 ≤ w2.heap.size) := hide (by rw [← SB.out]; exact T2.size)
  clear ow T2
  go_wp2_with fail
  generalize w2.alloc (.cells (ksc k ao c) 55) = w3 at *
  generalize w2.heap.size = D at *
  generalize hL : k.wi = L at *
  go_loopw [4] (fun s4 wr => ∃ (i n : Nat) (a1 : Option Addr) (c1 : Nat), s4 = .int .i64 (i : Int) ∧ i ≤ 3 ∧ n = (L ++ mks.take i).length ∧ wr.heap[D]? = some (.cells #[.string k.ke, .int .i64 k.dr, .slice a1 n c1] 55 (0, 0)) ∧ encW.Own 92 wr (B + 1 + 1) (.slice a1 n c1) (L ++ mks.take i) ∧ Calm wB wr) (fun s4 _ => 3 - (intOf s4).toNat)
  case atStart => exact ⟨0, L.length, ao, c, rfl, by omega, by simp, by rw [← hL]; exact AD.out, by simpa using OW.out, TD.out⟩
  case round =>
    obtain ⟨i, n, a1, c1, rfl, hi, hn1, AE, OE, TE⟩ := hrel
    clear AD OW TD
    by_cases hlt : i < 3
    · have hltz : (i : Int) < 3 := by omega
      have C1 := hide (CM.out i)
      have nD := own_notK OE AE
      have hlen : (L ++ mks.take i).length ≤ L.length + 3 := by rw [List.length_append, List.length_take]; simp; omega
      have KD : Hid (∀ W, Touch (fun d => (Value.slice a1 n c1).ownBlock = some d) wr W → W.cell? ⟨D, 2, none⟩ = some (.slice a1 n c1)) := hide fun W hW => by
        have := hW.heap AE nD
        simp [World.cell?, this]
      have HAE := hide AE
      have HOE := hide OE
      have HTE := hide TE
      have Hn := hide hn1
      have HnD := hide nD
      clear AE OE TE hn1 nD CM
      go_wp2_with fail
      refine wp_region_z 7 (Touch (fun d => (Value.slice a1 n c1).ownBlock = some d) wr) (by kernel_rfl) ?_
      have hT0 : Touch (fun d => (Value.slice a1 n c1).ownBlock = some d) wr { wr with drawn := wr.drawn + 1 } := (Touch.refl _ wr).drew
      refine wpAnyZ_yield 0 11 (.pointer (some ⟨D, 2, none⟩)) [7] rfl rfl (by kernel_rfl) (by kernel_rfl) (by kernel_rfl) (by kernel_rfl) (by kernel_rfl) (fun _ _ _ h => h) (by kernel_rfl) (fun W hW => by go_simp) (by assumption) rfl rfl ?_
      simp only [Act.put, List.setIfInBounds_toArray, List.set_cons_zero, List.set_cons_succ]
      refine wpAnyZ_yield 1 12 (.slice a1 n c1) [7] rfl rfl (by kernel_rfl) (by kernel_rfl) (by kernel_rfl) (by kernel_rfl) (by kernel_rfl) (fun _ _ _ h => h) (by kernel_rfl) (fun W hW => by have q := KD.out W hW; go_simp) (by assumption) rfl rfl ?_
      simp only [Act.put, List.setIfInBounds_toArray, List.set_cons_zero, List.set_cons_succ]
      refine wpAnyZ_yield 2 13 (.int .i64 (i : Int)) [7] rfl rfl (by kernel_rfl) (by kernel_rfl) (by kernel_rfl) (by kernel_rfl) (by kernel_rfl) (fun _ _ _ h => h) (by kernel_rfl) (fun W hW => by kernel_rfl) (by assumption) rfl rfl ?_
      simp only [Act.put, List.setIfInBounds_toArray, List.set_cons_zero, List.set_cons_succ]
      refine wpAnyZ_enter 3 14 47 #[.int .i64 (i : Int)] rfl rfl (by decide) (by kernel_rfl) (by kernel_rfl) (by kernel_rfl) ?_
      refine (C1.out _).mono ?_
      rintro r w5 ⟨rfl, T5⟩
      have TW : Calm wr w5 := ((Touch.refl (fun _ => False) wr).drew).tr T5
      have h5 : Touch (fun d => (Value.slice a1 n c1).ownBlock = some d) wr w5 := TW.mono fun _ _ h => h.elim
      refine ⟨_, rfl, h5, ?_⟩
      simp only [Act.put, List.setIfInBounds_toArray, List.set_cons_zero, List.set_cons_succ]
      have O5 := Rc.Own.calm HOE.out TW
      rw [Hn.out] at O5
      obtain ⟨a2, p2, w6, hr, ow, t2⟩ := wn_app1 (mkW i) O5 (by have := TW.size; have := lt_of_heap HAE.out; have := hBD.out; omega) (by omega)
      rw [List.append_assoc, ← mks_next hlt] at ow
      rw [← Hn.out] at hr t2
      have h6 : Touch (fun d => (Value.slice a1 n c1).ownBlock = some d) wr w6 := h5.trans t2 (fun _ _ h => h)
      refine wpAnyZ_value 4 15 (.slice (some ⟨w5.heap.size, 0, none⟩) 1 1) (w' := w5.alloc (.cells (wnc (mkW i)) 92)) rfl rfl (by decide) (by kernel_rfl) (by kernel_rfl) (by go_simp) (h5.alloc _) ?_
      simp only [Act.put, List.setIfInBounds_toArray, List.set_cons_zero, List.set_cons_succ]
      refine wpAnyZ_value 5 16 (.slice a2 (n + 1) p2) (w' := w6) rfl rfl (by decide) (by kernel_rfl) (by kernel_rfl) (exec_apk (.tmp 12) (.tmp 15) 53 53 rfl _ _ _ rfl rfl hr) h6 ?_
      simp only [Act.put, List.setIfInBounds_toArray, List.set_cons_zero, List.set_cons_succ]
      refine wpAnyZ_yield 6 17 (.pointer (some ⟨D, 2, none⟩)) [7] rfl rfl (by kernel_rfl) (by kernel_rfl) (by kernel_rfl) (by kernel_rfl) (by kernel_rfl) (fun _ _ _ h => h) (by kernel_rfl) (fun W hW => by go_simp) (by assumption) rfl rfl ?_
      simp only [Act.put, List.setIfInBounds_toArray, List.set_cons_zero, List.set_cons_succ]
      refine wpAnyZ_end rfl (by kernel_rfl) (by kernel_rfl) (by kernel_rfl) ?_
      have A6 := h6.heap HAE.out HnD.out
      have cD : w6.cell? ⟨D, 2, none⟩ = some (.slice a1 n c1) := by simp [World.cell?, A6]
      have fD : w6.frozen? ⟨D, 2, none⟩ = false := by simp [World.frozen?, A6]
      have A7 : Hid ((w6.setCell ⟨D, 2, none⟩ (.slice a2 (n + 1) p2)).heap[D]? = some (.cells #[.string k.ke, .int .i64 k.dr, .slice a2 (n + 1) p2] 55 (0, 0))) := hide (Cg2.heap_put (i := 2) A6 (.slice a2 (n + 1) p2))
      have e1 : (L ++ mks.take (i + 1)).length = n + 1 := by rw [mks_next hlt, ← List.append_assoc, List.length_append, ← Hn.out]; rfl
      rw [e1] at ow
      have nD6 := own_notK ow A6
      have tS : Touch (fun d => d = D) w6 (w6.setCell ⟨D, 2, none⟩ (.slice a2 (n + 1) p2)) := (Touch.refl (fun k => k = D) w6).setCell (p := ⟨D, 2, none⟩) (fun _ => rfl) _
      have O7 := hide (Rc.Own.touch ow tS fun g hg e => nD6 (e ▸ hg))
      have T6 : Calm wB w6 := Rc.Own.fresh (w0 := wB) HOE.out h6 (fun _ h => h) HTE.out (by rw [SB.out]; exact Nat.le_refl _)
      have T7 := hide (T6.trans tS (fun g hg e => by have := hBD.out; have := SB.out; omega))
      have E1 := hide e1
      clear hT0 T5 TW h5 O5 hr ow t2 h6 A6 nD6 tS T6 e1 C1 KD HAE HOE HTE Hn HnD
      unfold Oper.wp
      go_simp
      go_wp2_with fail
      go_roundw
      case rel => exact ⟨i + 1, n + 1, a2, p2, by go_num, by omega, E1.out.symm, A7.out, O7.out, T7.out⟩
      case measure => simp [intOf]; omega
    · have hltz : ¬ (i : Int) < 3 := by omega
      obtain rfl : i = 3 := by omega
      have e3 : mks.take 3 = mks := rfl
      rw [e3] at hn1 OE
      obtain ⟨i0, hi0, -, -, -⟩ := Rc.info_parts infoWin
      have hg : ∃ g, a1 = some ⟨g, 0, none⟩ := by
        obtain ⟨-, h2, -, -, -, h6⟩ := Rc.Own.mem OE
        obtain ⟨b, off, e, -⟩ := Rc.Mem.at h2 L.length (by simp)
        have := (h6 _ e).2.1
        simp only at this
        subst this
        exact ⟨b, e⟩
      obtain ⟨g, rfl⟩ := hg
      have hc1 : n ≤ c1 := by have := (Rc.Own.mem OE).2.2.1; rw [hn1]; exact this
      have hln : L.length ≤ n := by rw [hn1, List.length_append]; omega
      have hcut := fun W => cut_to (g := g) (n := n) (cap := c1) (k := L.length) Tryd.underlying53 elemWin hi0 (by omega) W
      obtain ⟨-, -, b2⟩ := ks_cells (TE.at AB.out)
      rw [hL] at b2
      have cD0 : wr.cell? ⟨D, 0, none⟩ = some (.string k.ke) := by simp [World.cell?, AE]
      have cD1 : wr.cell? ⟨D, 1, none⟩ = some (.int .i64 k.dr) := by simp [World.cell?, AE]
      have cD2 : wr.cell? ⟨D, 2, none⟩ = some (.slice (some ⟨g, 0, none⟩) n c1) := by simp [World.cell?, AE]
      have fD : wr.frozen? ⟨D, 2, none⟩ = false := by simp [World.frozen?, AE]
      have nD := own_notK OE AE
      have tS : Touch (fun d => d = D) wr (wr.setCell ⟨D, 2, none⟩ (.slice (some ⟨g, 0, none⟩) L.length c1)) := (Touch.refl (fun k => k = D) wr).setCell (p := ⟨D, 2, none⟩) (fun _ => rfl) _
      have O7 := Rc.Own.touch OE tS fun g hg e => nD (e ▸ hg)
      have T7 : Calm wB (wr.setCell ⟨D, 2, none⟩ (.slice (some ⟨g, 0, none⟩) L.length c1)) := TE.trans tS (fun g hg e => by have := hBD.out; have := SB.out; omega)
      have AZ7 := hide (T7.at AZ.out)
      have A8 := hide (setRow_heap _ _ _ (ksc k (some ⟨g, 0, none⟩) c1) _ _ AZ7.out)
      have tR : Touch (fun d => d = B + 1) (wr.setCell ⟨D, 2, none⟩ (.slice (some ⟨g, 0, none⟩) L.length c1)) ((wr.setCell ⟨D, 2, none⟩ (.slice (some ⟨g, 0, none⟩) L.length c1)).setRow (B + 1) (ksc k (some ⟨g, 0, none⟩) c1)) := ⟨rfl, rfl, rfl, by simp, fun j _ hj => setRow_other _ _ j _ hj⟩
      have O8 := Rc.Own.touch O7 tR fun g hg e => by have := (Rc.own_block O7 hg).1; omega
      rw [hn1] at O8
      have T8 : Calm w ((wr.setCell ⟨D, 2, none⟩ (.slice (some ⟨g, 0, none⟩) L.length c1)).setRow (B + 1) (ksc k (some ⟨g, 0, none⟩) c1)) := (TB.out.tr T7).trans tR (fun g hg e => by omega)
      have HR : Hid (∃ g' c', Ending.returned (.agg (ksc k (some ⟨g, 0, none⟩) c1)) = .returned (.agg (ksc k (some ⟨g', 0, none⟩) c')) ∧ LentK ((wr.setCell ⟨D, 2, none⟩ (.slice (some ⟨g, 0, none⟩) L.length c1)).setRow (B + 1) (ksc k (some ⟨g, 0, none⟩) c1)) B g' c' L ∧ Calm w ((wr.setCell ⟨D, 2, none⟩ (.slice (some ⟨g, 0, none⟩) L.length c1)).setRow (B + 1) (ksc k (some ⟨g, 0, none⟩) c1))) := hide ⟨g, c1, rfl, Rc.Own.base O8 (by omega), T8⟩
      have hi3 : (Tryd.prog.info? 55).map (·.size) = some 3 := by kernel_rfl
      have h1c : Hid ((ksc k (some ⟨g, 0, none⟩) c1).all (·.oneCell') = true) := hide (by simp [Value.oneCell'])
      have eK : ksc k (some ⟨g, 0, none⟩) c1 = #[.string k.ke, .int .i64 k.dr, .slice (some ⟨g, 0, none⟩) L.length c1] := by rw [← hL]
      clear nD tS O7 T7 tR O8 T8 OE TE AE hn1 CM AB AZ TB SB hBD
      go_wp2_with (refine wpList_store_rowTo rfl 55 (.tmp 2) (.tmp 25) rfl rfl (B + 1) (ksc k (some ⟨g, 0, none⟩) c1) rfl (by rw [eK]; rfl) 55 _ AZ7.out hi3 rfl h1c.out ?_)
      rw [eK] at A8 HR
      refine bodyPost_ret (results_cell_row rfl _ _ _ _ _ _ _ rfl A8.out Tryd.underlying55 rfl (by kernel_rfl)) rfl ?_
      exact HR.out

end Go.Proofs.YtjambfncemlenaaDoor
