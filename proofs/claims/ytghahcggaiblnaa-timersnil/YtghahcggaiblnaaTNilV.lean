/- TimersNil, walked: the law. -/
import Derived.Test.YtghahcggaiblnaaTNilW
namespace Go.Proofs.Ytghahcggaiblnaa
open Go.RowKit

set_option maxRecDepth 100000 in
set_option maxHeartbeats 1000000 in
theorem nil_any (t : Tm) (upto : Int) (w : World) : Calls Try.prog 7 #[tv t, .int .i64 upto] w fun e w' => e = .returned (.bool true) ∧ Calm w w' := by
  go_enter Try.func7, Try.ntmps7
  go_wp2_with fail
  have HA := hide (heap_alloc_last w (.cells (tc t) 35))
  have T0 : Hid (Calm w (w.alloc (.cells (tc t) 35))) := hide ((Touch.refl _ _).alloc _)
  have NW := new_any none 0 [] (w.alloc (.cells (tc t) 35)) (Tms.nil _ _) (fun _ h => (nomatch h)) (by decide)
  refine NW.mono ?_
  clear NW
  rintro e w1 ⟨q, F, V, rfl, tq, hm, hf, t1⟩
  have eV : V = [] := List.eq_nil_iff_forall_not_mem.2 (fun x hx => by have := (hm x).1 hx; simp at this)
  subst eV
  have LN := hide (len_any q F [] w1 tq)
  simp only [List.length_nil] at LN
  have DU := hide (due_any q F [] upto w1 tq (by decide))
  have T1 := hide (T0.out.tr t1)
  have A1 := hide (t1.at HA.out)
  have HF : Hid (∀ g, F g → w.heap.size < g) := hide (fun g hg => by have := hf g hg; simp at this; omega)
  clear tq hm hf t1 HA
  generalize hA : w.heap.size = A at *
  have HAW := hide hA
  clear hA
  go_wp2_with fail
  refine LN.out.mono ?_
  rintro e w' ⟨rfl, hq⟩
  subst hq
  go_wp2_with fail
  refine DU.out.mono ?_
  rintro e w2 ⟨D, V1, ao, cap, rfl, -, -, -, md, -, t2⟩
  have eD : D = [] := List.eq_nil_iff_forall_not_mem.2 (fun x hx => by have := ((md x).1 hx).1; simp at this)
  subst eD
  have A2 := hide (t2.heap A1.out (fun h => by have := HF.out A h; omega))
  have T2 : Hid (Calm w w2) := hide (T1.out.trans t2 (fun g hg h => by have := HF.out g h; have := HAW.out; omega))
  obtain ⟨⟨a0, a1, a2, a3⟩, -⟩ := cells4 A2.out
  simp only [List.length_nil]
  clear md t2 A1 T1 T0 LN DU HF HAW
  go_wp2_with fail
  refine (nothing_any none t upto w2 (no_nil w2)).mono ?_
  rintro e w3 ⟨rfl, t3⟩
  have T3 := hide (T2.out.tr t3)
  have tB : Calm w3 (w3.alloc (.cells #[.slice none 0 0, .map none] 59)) := (Touch.refl _ _).alloc _
  have A3 := hide (t3.at A2.out)
  obtain ⟨⟨b0, b1, b2, b3⟩, -⟩ := cells4 (tB.at A3.out)
  have hlt := lt_of_heap A3.out
  have NO := hide (no_zero w3.heap.size (w3.alloc (.cells #[.slice none 0 0, .map none] 59)) (heap_alloc_last w3 _))
  have T4 := hide (T3.out.tr tB)
  obtain ⟨⟨d0, d1, d2, d3⟩, -⟩ := cells4 A3.out
  clear a0 a1 a2 a3 t3 tB A2 T2
  go_wp2_with fail
  refine (nothing_any _ t upto _ NO.out).mono ?_
  rintro e w5 ⟨rfl, t5⟩
  have T5 := hide (T4.out.tr t5)
  clear t5 b0 b1 b2 b3 d0 d1 d2 d3 hlt
  go_wp2_with fail
  refine (known_any _).mono ?_
  rintro e w6 ⟨rfl, t6⟩
  have T6 := hide (T5.out.tr t6)
  clear t6
  go_wp2_with fail
  go_ret
  exact ⟨rfl, T6.out⟩

end Go.Proofs.Ytghahcggaiblnaa
