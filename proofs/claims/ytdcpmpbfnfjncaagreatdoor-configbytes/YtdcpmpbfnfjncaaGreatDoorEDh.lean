/- A job's digest, the program's and the document's (Digest). -/
import Derived.Test.YtdcpmpbfnfjncaaGreatDoorEDg
import Derived.Test.YtdcpmpbfnfjncaaGreatDoorCD0
namespace Go.Proofs.YtdcpmpbfnfjncaaGreatDoor
open Go.RowKit

/-- A job's digest. -/
def dgN (c : Cf) : Nat := Crcx.more 0 (Crd.nats (cfB c 10))
theorem cfB_in8 (c : Cf) (i : Nat) : Cg.In8 (cfB c i) := fun x hx => by
  obtain ⟨j, -, hj⟩ := List.mem_flatMap.1 hx
  exact Cg.numb_in8 _ x hj
theorem Crd.Tab.calm {w w' : World} (h : Crd.Tab w) (ht : Calm w w') : Crd.Tab w' := h.touch ht fun h => h

set_option maxRecDepth 100000 in
theorem rdigest_any (c : Cf) (hp : c.Pos) (w : World) : Calls Tryz.prog 11 #[cfv c] w fun e w' => e = .returned (.int .u32 ((dgN c : Nat) : Int)) ∧ Calm w w' := by
  have CB := fun W => hide (rbytes_any c hp W)
  have CS : Hid (∀ ao cap W, encB.Mem W ao (cfB c 10) → Calls Tryz.prog 27 #[.slice ao (cfB c 10).length cap] W fun e w' => e = .returned (.int .u32 ((dgN c : Nat) : Int)) ∧ W = w') := hide fun ao cap W h => Crd.rsum_any ao _ cap W (Cg.seg_mem h) (cfB_in8 c 10) (by have := cfB_len hp 10 (Nat.le_refl _); omega)
  have T0 := hide ((Touch.refl (fun _ => False) w).alloc (.cells (cfc c) 24))
  clear hp
  generalize cfB c 10 = L at *
  generalize dgN c = d at *
  go_enter Tryz.func11, Tryz.ntmps11
  go_wp2_with fail
  refine (CB _).out.mono ?_
  rintro e w1 ⟨ao, cap, rfl, ow, T1⟩
  have HM := hide (Rc.Own.mem ow).2.1
  have TT := hide (T0.out.tr T1)
  clear CB ow T1 T0
  go_wp2_with fail
  refine (CS.out ao cap _ HM.out).mono ?_
  rintro e w2 ⟨rfl, rfl⟩
  go_wp2_with fail
  go_ret
  exact ⟨rfl, TT.out⟩

set_option maxRecDepth 100000 in
theorem digest_any (c : Cf) (hp : wrongN c = 0 → c.Pos) (w : World) (ht : Crd.Tab w) : Calls Tryz.prog 5 #[cfv c] w fun e w' => e = .returned (.tuple #[.int .u32 (if wrongN c = 0 then ((dgN c : Nat) : Int) else 0), .int .i64 (if wrongN c = 0 then 0 else 4)]) ∧ Calm w w' := by
  have CB := fun W => hide (bytes_any c hp W)
  have T0 := hide ((Touch.refl (fun _ => False) w).alloc (.cells (cfc c) 24))
  by_cases hw : wrongN c = 0
  · have CS : Hid (∀ b n cap W, Calm w W → Row W 5 .u8 (.slice (some ⟨b, 0, none⟩) n cap) (cfB c 10) → Calls Tryz.prog 20 #[.slice (some ⟨W.heap.size, 0, none⟩) 1 1] (W.alloc (.cells #[.slice (some ⟨b, 0, none⟩) n cap] 25)) fun e w' => e = .returned (.int .u32 ((dgN c : Nat) : Int)) ∧ W.alloc (.cells #[.slice (some ⟨b, 0, none⟩) n cap] 25) = w') := hide fun b n cap W hW hr => by
      have TA := (Touch.refl (fun _ => False) W).alloc (.cells #[.slice (some ⟨b, 0, none⟩) n cap] 25)
      have hn := hr.len
      subst hn
      exact Crd.sum1_any (some ⟨b, 0, none⟩) (cfB c 10) cap W.heap.size 1 _ ((ht.calm hW).calm TA) (by have := al_new W (.cells #[.slice (some ⟨b, 0, none⟩) (cfB c 10).length cap] 25); simp only [World.cell?]; rw [this]; rfl) ((Seg.of_row hr).touch TA fun _ _ h => h) (cfB_in8 c 10) (by have := cfB_len (hp hw) 10 (Nat.le_refl _); omega)
    simp only [if_pos hw]
    clear hp ht
    generalize dgN c = d at *
    go_enter Tryz.func5, Tryz.ntmps5
    go_wp2_with fail
    refine (CB _).out.mono ?_
    intro e w1 hret
    rcases hret with ⟨h, -⟩ | ⟨-, b, n, cap, rfl, hb, R1, T1⟩
    · exact absurd hw h
    have CS1 := hide (CS.out b n cap w1 (T0.out.tr T1) R1)
    have TT := hide ((T0.out.tr T1).alloc (.cells #[.slice (some ⟨b, 0, none⟩) n cap] 25))
    clear CB CS T0 T1 R1 hb hw
    go_wp2_with fail
    refine CS1.out.mono ?_
    rintro e w2 ⟨rfl, rfl⟩
    go_wp2_with fail
    go_ret2
    exact ⟨rfl, TT.out⟩
  · simp only [if_neg hw]
    clear hp ht
    go_enter Tryz.func5, Tryz.ntmps5
    go_wp2_with fail
    refine (CB _).out.mono ?_
    intro e w1 hret
    rcases hret with ⟨-, rfl, T1⟩ | ⟨h, -⟩
    · have TT := hide (T0.out.tr T1)
      clear CB T0 T1 hw
      go_wp2_with fail
      go_ret2
      exact ⟨rfl, TT.out⟩
    · exact absurd h hw

/-- A byte put in place into a row of one's own. -/
theorem by_set {w : World} {base g n cap : Nat} {L : List Int} (h : encB.Own 5 w base (.slice (some ⟨g, 0, none⟩) n cap) L) (i : Nat) (x : Int) :
    encB.Own 5 (w.setCell ⟨g, i, none⟩ (.int .u8 x)) base (.slice (some ⟨g, 0, none⟩) n cap) (L.set i x) := by
  have hnL : n = L.length := (Rc.Own.mem h).1
  obtain ⟨h1, ⟨hv, h2⟩ | ⟨g', cap', cur, hv, h3, h4, h5, h6, h7, h8⟩⟩ := h
  · cases hv
  · injection hv with e1 e2 e3
    injection e1 with e1
    injection e1 with e1
    subst e1 e3
    have k0 := heap_setCell_row (i := i) h4 (.int .u8 x)
    refine ⟨by rw [encB.flat_len], .inr ⟨g, cap, _, ?_, h3, k0, by rw [List.length_set]; exact h5, h6, by simpa using h7, ?_⟩⟩
    · rw [List.length_set, hnL]
    · rw [List.length_set, encB_flat, List.map_set, ← encB_flat, ← h8]
      simp only [Array.toList_setIfInBounds, List.take_set]

end Go.Proofs.YtdcpmpbfnfjncaaGreatDoor
