/- The walk of ConfigKeys. -/
import Derived.Test.YtjambfncemlenaaDoorEI
import Derived.Test.YtjambfncemlenaaDoorEQ
import Derived.Test.YtjambfncemlenaaDoorCO
namespace Go.Proofs.YtjambfncemlenaaDoor
open Go.RowKit

set_option maxRecDepth 100000 in
set_option maxHeartbeats 2000000 in
theorem keys_walk (c : Cf) (k : Ks) (wo : Option Addr) (cap : Nat) (w : World) (hs : encW.Sl w wo cap k.wi) (hl : k.wi.length ≤ 1954687338300) (ht : Tab w) (hw : Words w gW) : Calls Tryd.prog 7 #[cfv c, .agg (ksc k wo cap)] w fun e w' => e = .returned (.bool true) ∧ Calm w w' := by
  have CN := fun x w => hide (num_any x w)
  have CW : Hid (∀ W, Calm w W → Calls Tryd.prog 12 #[] W fun e w' => e = .returned (.bool true) ∧ Calm W w') := hide fun W hW => works_any W (ht.calm hW) (hw.calm hW)
  have CL : Hid (∀ W, Calm w W → Calls Tryd.prog 21 #[.agg (ksc k wo cap)] W fun e w' => ∃ g c, e = .returned (.agg (ksc k (some ⟨g, 0, none⟩) c)) ∧ LentK w' W.heap.size g c k.wi ∧ Calm W w') := hide fun W hW => lendKey_any k wo cap W (Rc.Sl.calm hs hW) hl
  have CK : Hid (∀ g cc W, encW.Sl W (some ⟨g, 0, none⟩) cc k.wi → Calls Tryd.prog 22 #[cfv c, .agg (ksc k (some ⟨g, 0, none⟩) cc)] W fun e w' => e = .returned (.int .i64 (keyN c k)) ∧ Calm W w') := hide fun g cc W h => key_any c k _ cc W h (by omega)
  have CR := fun w => hide (rwrong_any c w)
  have CD : Hid (∀ W, Calm w W → Calls Tryd.prog 23 #[cfv c, .agg (ksc k wo cap)] W fun e w' => e = .returned (.bool (keyB c k)) ∧ Calm W w') := hide fun W hW => rkey_any c k wo cap W (Rc.Sl.calm hs hW) (by omega)
  have CP : Hid (∀ g cc base W, Calm w W → LentK W base g cc k.wi → Calls Tryd.prog 24 #[.agg (ksc k (some ⟨g, 0, none⟩) cc), .agg (ksc k wo cap)] W fun e w' => e = .returned (.bool true) ∧ Calm W w') := hide fun g cc base W hW h => keptKey_any k base g cc wo cap W h (Rc.Mem.calm hs.mem hW) (by omega)
  have A0 := hide (al_old (al_new w (.cells (cfc c) 24)) (.cells (ksc k wo cap) 55))
  have A1 := al_new (w.alloc (.cells (cfc c) 24)) (.cells (ksc k wo cap) 55)
  rw [al_size] at A1
  replace A1 := hide A1
  have T0 := hide (((Touch.refl (fun _ => False) w).alloc (.cells (cfc c) 24)).alloc (.cells (ksc k wo cap) 55))
  have HK : Hid ((wrongN c = 0 ∧ keyB c k = true ∧ keyN c k = 0) ∨ (wrongN c = 0 ∧ keyB c k = false ∧ keyN c k = 6) ∨ (¬ wrongN c = 0 ∧ keyN c k = 4)) := hide (by
    unfold keyN
    by_cases h : wrongN c = 0
    · rw [if_neg (fun q => q h)]
      cases hb : keyB c k
      · exact .inr (.inl ⟨h, rfl, rfl⟩)
      · exact .inl ⟨h, rfl, rfl⟩
    · exact .inr (.inr ⟨h, if_pos h⟩))
  clear hs hl ht hw
  generalize keyN c k = N at *
  generalize keyB c k = B at *
  generalize wrongN c = U at *
  go_enter Tryd.func7, Tryd.ntmps7
  go_wp2_with fail
  generalize (w.alloc (.cells (cfc c) 24)).alloc (.cells (ksc k wo cap) 55) = w0 at *
  generalize hA : w.heap.size = A at *
  refine (CL.out _ T0.out).mono ?_
  rintro e w1 ⟨g, cc, rfl, L1, T1⟩
  have B0 := T1.at A0.out
  have B1 := T1.at A1.out
  have TT1 := T0.out.tr T1
  have hAl := lt_of_heap B1
  have hAl0 : A < w1.heap.size := by omega
  have hn0 : ¬ w1.heap.size = A := by omega
  have hn1 : ¬ w1.heap.size = A + 1 := by omega
  have L2 := hide (LentK.calm L1 ((Touch.refl (fun _ => False) w1).alloc (.cells (ksc k (some ⟨g, 0, none⟩) cc) 55)))
  have D2 := hide (al_new w1 (.cells (ksc k (some ⟨g, 0, none⟩) cc) 55))
  have E0 := hide (al_old B0 (.cells (ksc k (some ⟨g, 0, none⟩) cc) 55))
  have E1 := hide (al_old B1 (.cells (ksc k (some ⟨g, 0, none⟩) cc) 55))
  have TT2 := hide (TT1.alloc (.cells (ksc k (some ⟨g, 0, none⟩) cc) 55))
  have GC : Hid (∀ W, Calm (w1.alloc (.cells (ksc k (some ⟨g, 0, none⟩) cc) 55)) W → W.heap[A]? = some (.cells (cfc c) 24 (0, 0)) ∧ W.heap[A + 1]? = some (.cells (ksc k wo cap) 55 (0, 0)) ∧ W.heap[w1.heap.size]? = some (.cells (ksc k (some ⟨g, 0, none⟩) cc) 55 (0, 0))) := hide fun W hW => ⟨hW.at E0.out, hW.at E1.out, hW.at D2.out⟩
  obtain ⟨⟨g0, g1, g2, g3, g4, g5, g6⟩, g7, g8, g9⟩ := cf_cells B0
  clear CL A0 A1 T0 T1 L1 B0 B1 TT1 D2 E0 E1
  go_wp2_with fail
  clear g0 g1 g2 g3 g4 g5 g6 g7 g8 g9
  generalize w1.alloc (.cells (ksc k (some ⟨g, 0, none⟩) cc) 55) = w2 at *
  generalize w1.heap.size = D at *
  have SL : encW.Sl w2 (some ⟨g, 0, none⟩) cc k.wi := ⟨(LentK.mem L2.out).1, fun h => (nomatch h), by have := (LentK.mem L2.out).2.1; omega⟩
  refine (CK.out _ cc _ SL).mono ?_
  rintro e w3 ⟨rfl, T3⟩
  have C3 := hide T3
  clear SL CK T3
  obtain ⟨⟨g0, g1, g2, g3, g4, g5, g6⟩, g7, g8, g9⟩ := cf_cells (GC.out w3 C3.out).1
  go_wp2_with fail
  refine (CR _).out.mono ?_
  rintro e w4 ⟨rfl, T4⟩
  have C4 := hide (C3.out.tr T4)
  clear g0 g1 g2 g3 g4 g5 g6 g7 g8 g9 T4 C3 CR
  obtain ⟨⟨g0, g1, g2, g3, g4, g5, g6⟩, g7, g8, g9⟩ := cf_cells (GC.out w4 C4.out).1
  obtain ⟨k0, k1, k2⟩ := ks_cells (GC.out w4 C4.out).2.1
  obtain ⟨l0, l1, l2⟩ := ks_cells (GC.out w4 C4.out).2.2
  rcases HK.out with ⟨rfl, rfl, rfl⟩ | ⟨rfl, rfl, rfl⟩ | ⟨hU, rfl⟩
  · clear HK
    go_wp2_with fail
    refine (CD.out _ (TT2.out.tr C4.out)).mono ?_
    rintro e w5 ⟨rfl, T5⟩
    have C5 := hide (C4.out.tr T5)
    clear g0 g1 g2 g3 g4 g5 g6 g7 g8 g9 k0 k1 k2 l0 l1 l2 T5 C4 CD
    obtain ⟨k0, k1, k2⟩ := ks_cells (GC.out w5 C5.out).2.1
    obtain ⟨l0, l1, l2⟩ := ks_cells (GC.out w5 C5.out).2.2
    go_wp2_with fail
    refine (CN _ _).out.mono ?_
    rintro e w6 ⟨rfl, hw6⟩
    subst hw6
    go_wp2_with fail
    refine (CP.out g cc _ _ (TT2.out.tr C5.out) (LentK.calm L2.out C5.out)).mono ?_
    rintro e w6 ⟨rfl, T6⟩
    have C6 := hide (C5.out.tr T6)
    clear T6 C5 k0 k1 k2 l0 l1 l2
    go_wp2_with fail
    refine (CW.out _ (TT2.out.tr C6.out)).mono ?_
    rintro e w7 ⟨rfl, T7⟩
    have HT := hide ((TT2.out.tr C6.out).tr T7)
    clear T7 C6
    go_wp2_with fail
    go_ret
    exact ⟨rfl, HT.out⟩
  · clear HK
    go_wp2_with fail
    refine (CD.out _ (TT2.out.tr C4.out)).mono ?_
    rintro e w5 ⟨rfl, T5⟩
    have C5 := hide (C4.out.tr T5)
    clear g0 g1 g2 g3 g4 g5 g6 g7 g8 g9 k0 k1 k2 l0 l1 l2 T5 C4 CD
    obtain ⟨k0, k1, k2⟩ := ks_cells (GC.out w5 C5.out).2.1
    obtain ⟨l0, l1, l2⟩ := ks_cells (GC.out w5 C5.out).2.2
    go_wp2_with fail
    refine (CN _ _).out.mono ?_
    rintro e w6 ⟨rfl, hw6⟩
    subst hw6
    go_wp2_with fail
    refine (CP.out g cc _ _ (TT2.out.tr C5.out) (LentK.calm L2.out C5.out)).mono ?_
    rintro e w6 ⟨rfl, T6⟩
    have C6 := hide (C5.out.tr T6)
    clear T6 C5 k0 k1 k2 l0 l1 l2
    go_wp2_with fail
    refine (CW.out _ (TT2.out.tr C6.out)).mono ?_
    rintro e w7 ⟨rfl, T7⟩
    have HT := hide ((TT2.out.tr C6.out).tr T7)
    clear T7 C6
    go_wp2_with fail
    go_ret
    exact ⟨rfl, HT.out⟩
  · have hz : ¬ ((U : Nat) : Int) = 0 := by omega
    clear HK
    go_wp2_with fail
    refine (CN _ _).out.mono ?_
    rintro e w6 ⟨rfl, hw6⟩
    subst hw6
    go_wp2_with fail
    refine (CP.out g cc _ _ (TT2.out.tr C4.out) (LentK.calm L2.out C4.out)).mono ?_
    rintro e w6 ⟨rfl, T6⟩
    have C6 := hide (C4.out.tr T6)
    clear T6 C4 k0 k1 k2 l0 l1 l2 g0 g1 g2 g3 g4 g5 g6 g7 g8 g9
    go_wp2_with fail
    refine (CW.out _ (TT2.out.tr C6.out)).mono ?_
    rintro e w7 ⟨rfl, T7⟩
    have HT := hide ((TT2.out.tr C6.out).tr T7)
    clear T7 C6
    go_wp2_with fail
    go_ret
    exact ⟨rfl, HT.out⟩

end Go.Proofs.YtjambfncemlenaaDoor
