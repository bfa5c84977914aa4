/- The walk of ConfigBytes. -/
import Derived.Test.YtdcpmpbfnfjncaaGreatDoorEDh
import Derived.Test.YtdcpmpbfnfjncaaGreatDoorPka
import Derived.Test.YtdcpmpbfnfjncaaGreatDoorCT
import Derived.Test.YtdcpmpbfnfjncaaGreatDoorEI
namespace Go.Proofs.YtdcpmpbfnfjncaaGreatDoor
open Go.RowKit

theorem posJ {c : Cf} (h : wrongN c = 0) : c.Pos := fun j hj => by have := wrong_pos h j hj; omega
theorem own_up {w : World} {B b n cap : Nat} {L : List Int} (h : encB.Own 5 w 0 (.slice (some ⟨b, 0, none⟩) n cap) L) (hb : B ≤ b) : encB.Own 5 w B (.slice (some ⟨b, 0, none⟩) n cap) L := by
  obtain ⟨h1, h2 | ⟨g, cap, cur, hv, h3, h4⟩⟩ := h
  · exact ⟨h1, .inl h2⟩
  · refine ⟨h1, .inr ⟨g, cap, cur, hv, ?_, h4⟩⟩
    injection hv with e
    injection e with e
    injection e with e
    omega
theorem own_is {b n cap d : Nat} (h : (Value.slice (some ⟨b, 0, none⟩) n cap).ownBlock = some d) : d = b := by
  simp [Value.ownBlock] at h; omega
/-- Bytes of their own behind one another, in new memory. -/
theorem by_join {w : World} {ao mo : Option Addr} {ca mc : Nat} {L M : List Int} (hL : encB.Sl w ao ca L) (hM : encB.Sl w mo mc M) (hl : L.length + M.length ≤ 190000000000000) :
    ∃ a1 p1 w1 a2 p2 w2, (Builtin.append_ #[25, 25] 25 #[.slice (some ⟨w.heap.size, 0, none⟩) 0 0, .slice ao L.length ca]).run Tryz.prog (w.alloc (.cells #[] 5)) = .ok (.slice a1 L.length p1) w1 ∧
      (Builtin.append_ #[25, 25] 25 #[.slice a1 L.length p1, .slice mo M.length mc]).run Tryz.prog w1 = .ok (.slice a2 (L ++ M).length p2) w2 ∧ encB.Sl w2 a2 p2 (L ++ M) ∧ Calm w w2 := by
  obtain ⟨i0, hi, hz, hsz, hby⟩ := Rc.info_parts infoByte
  have T0 := (Touch.refl (fun _ => False) w).alloc (.cells #[] 5)
  have own : encB.Own 5 (w.alloc (.cells #[] 5)) w.heap.size (.slice (some ⟨w.heap.size, 0, none⟩) 0 0) [] := World.ownsRow_lit w #[] 0 (by omega) (by unfold maxLen; omega) (by simp)
  obtain ⟨a1, p1, w1, hr, ow, t1, -⟩ := Rc.Own.appw (E := encB) (ty := 25) Tryz.underlying25 hi hz hsz hby rfl own ao ca L (Rc.Mem.calm hL.mem T0) hL.nil (by simp; unfold maxLen; omega) (by simp; omega) (by omega) (by rw [al_size]; omega)
  rw [List.nil_append] at hr ow
  have T1 : Calm w w1 := own_calm own t1 T0 (Nat.le_refl _)
  obtain ⟨a2, p2, w2, hr2, ow2, t2, -⟩ := Rc.Own.appw (E := encB) (ty := 25) Tryz.underlying25 hi hz hsz hby rfl ow mo mc M (Rc.Mem.calm hM.mem T1) hM.nil (by unfold maxLen; omega) (by omega) (by omega) T1.size
  exact ⟨a1, p1, w1, a2, p2, w2, hr, hr2, Rc.Own.sl ow2, own_calm ow t2 T1 (Nat.le_refl _)⟩
/-- Three bytes more. -/
theorem by_app3 {w : World} {base : Nat} {ao : Option Addr} {cap : Nat} {A : List Int} (h : encB.Own 5 w base (.slice ao A.length cap) A) (hs : base ≤ w.heap.size) (hn : A.length ≤ 100000) :
    ∃ a2 p2 w4, (Builtin.append_ #[25, 25] 25 #[.slice ao A.length cap, .slice (some ⟨w.heap.size, 0, none⟩) 3 3]).run Tryz.prog (w.alloc (.cells #[.int .u8 1, .int .u8 2, .int .u8 3] 5)) = .ok (.slice a2 (A.length + 3) p2) w4 ∧ Touch (fun d => (Value.slice ao A.length cap).ownBlock = some d) w w4 := by
  obtain ⟨i0, hi, hz, hsz, hby⟩ := Rc.info_parts infoByte
  have own := Rc.Own.calm h ((Touch.refl (fun _ => False) w).alloc (.cells #[.int .u8 1, .int .u8 2, .int .u8 3] 5))
  have hs1 := al_size w (.cells #[.int .u8 1, .int .u8 2, .int .u8 3] 5)
  obtain ⟨a2, p2, w4, hr, ow, t2, -⟩ := Rc.Own.appw (E := encB) (ty := 25) Tryz.underlying25 hi hz hsz hby rfl own (some ⟨w.heap.size, 0, none⟩) 3 [1, 2, 3] (Rc.Mem.new w [1, 2, 3] 5) (fun h => (nomatch h)) (by simp; unfold maxLen; omega) (by simp; omega) (by omega) (by omega)
  have e3 : (A ++ [1, 2, 3]).length = A.length + 3 := by simp
  refine ⟨a2, p2, w4, by rw [← e3]; exact hr, ?_⟩
  exact Touch.trans (((Touch.refl (fun _ => False) w).alloc _).mono fun _ _ h => h.elim) t2 fun _ _ h => h

set_option maxRecDepth 100000 in
set_option maxHeartbeats 4000000 in
theorem cbytes_bad (c : Cf) (hw : ¬ wrongN c = 0) (mv : Value) (w : World) (ht : Tab w) (hwd : Words w gW) (hq : Crd.Tab w) :
    Calls Tryz.prog 3 #[cfv c, mv] w fun e w' => e = .returned (.bool true) ∧ Calm w w' := by
  have CN := fun x w => hide (num_any x w)
  have CW : Hid (∀ W, Calm w W → Calls Tryz.prog 9 #[] W fun e w' => e = .returned (.bool true) ∧ Calm W w') := hide fun W hW => works_any W (ht.calm hW) (hwd.calm hW)
  have CB : Hid (∀ W, Calls Tryz.prog 4 #[cfv c] W fun e w' => e = .returned (.tuple #[.slice none 0 0, .int .i64 4]) ∧ Calm W w') := hide fun W => (bytes_any c (fun h => absurd h hw) W).mono fun e w' h => by
    rcases h with ⟨-, h1, h2⟩ | ⟨h, -⟩
    · exact ⟨h1, h2⟩
    · exact absurd h hw
  have CG : Hid (∀ W, Calm w W → Calls Tryz.prog 5 #[cfv c] W fun e w' => e = .returned (.tuple #[.int .u32 0, .int .i64 4]) ∧ Calm W w') := hide fun W hW => by
    have := digest_any c (fun h => absurd h hw) W (hq.calm hW)
    rwa [if_neg hw, if_neg hw] at this
  have CT : Hid (∀ W, Calm w W → Calls Tryz.prog 6 #[cfv c] W fun e w' => e = .returned (.tuple #[.string ⟨#[]⟩, .int .i64 4]) ∧ Calm W w') := hide fun W hW => by
    have := text_any c (fun h => absurd h hw) W (ht.calm hW) (hwd.calm hW)
    unfold RetT at this
    rwa [if_neg hw, if_neg hw] at this
  have CR := fun W => hide (rwrong_any c W)
  have hz : ¬ ((wrongN c : Nat) : Int) = 0 := by omega
  generalize wrongN c = U at *
  have A0 := hide (al_new w (.cells (cfc c) 24))
  have T0 := hide ((Touch.refl (fun _ => False) w).alloc (.cells (cfc c) 24))
  clear ht hwd hq
  go_enter Tryz.func3, Tryz.ntmps3
  go_wp2_with fail
  generalize w.alloc (.cells (cfc c) 24) = w0 at *
  generalize w.heap.size = A at *
  refine (CB.out _).mono ?_
  rintro e w1 ⟨rfl, T1⟩
  have TT1 := hide (T0.out.tr T1)
  have A1 := hide (T1.at A0.out)
  obtain ⟨⟨g0, g1, g2, g3, g4, g5, g6⟩, g7, g8, g9⟩ := cf_cells (T1.at A0.out)
  clear T0 T1 A0
  go_wp2_with fail
  clear g0 g1 g2 g3 g4 g5 g6 g7 g8 g9
  refine (CB.out _).mono ?_
  rintro e w2 ⟨rfl, T2⟩
  have TT2 := hide (TT1.out.tr T2)
  have A2 := hide (T2.at A1.out)
  obtain ⟨⟨g0, g1, g2, g3, g4, g5, g6⟩, g7, g8, g9⟩ := cf_cells (T2.at A1.out)
  clear TT1 T2 A1 CB
  go_wp2_with fail
  clear g0 g1 g2 g3 g4 g5 g6 g7 g8 g9
  refine (CG.out _ TT2.out).mono ?_
  rintro e w3 ⟨rfl, T3⟩
  have TT3 := hide (TT2.out.tr T3)
  have A3 := hide (T3.at A2.out)
  obtain ⟨⟨g0, g1, g2, g3, g4, g5, g6⟩, g7, g8, g9⟩ := cf_cells (T3.at A2.out)
  clear TT2 T3 A2 CG
  go_wp2_with fail
  clear g0 g1 g2 g3 g4 g5 g6 g7 g8 g9
  refine (CT.out _ TT3.out).mono ?_
  rintro e w4 ⟨rfl, T4⟩
  have TT4 := hide (TT3.out.tr T4)
  obtain ⟨⟨g0, g1, g2, g3, g4, g5, g6⟩, g7, g8, g9⟩ := cf_cells (T4.at A3.out)
  clear TT3 T4 A3 CT
  go_wp2_with fail
  clear g0 g1 g2 g3 g4 g5 g6 g7 g8 g9
  refine (CR _).out.mono ?_
  rintro e w5 ⟨rfl, T5⟩
  have TT5 := hide (TT4.out.tr T5)
  clear TT4 T5 CR
  go_wp2_with fail
  refine (CN _ _).out.mono ?_
  rintro e w6 ⟨rfl, hw6⟩
  subst hw6
  go_wp2_with fail
  refine (CN _ _).out.mono ?_
  rintro e w6 ⟨rfl, hw6⟩
  subst hw6
  go_wp2_with fail
  refine (CN _ _).out.mono ?_
  rintro e w6 ⟨rfl, hw6⟩
  subst hw6
  go_wp2_with fail
  refine (CW.out _ TT5.out).mono ?_
  rintro e w7 ⟨rfl, T7⟩
  have HT := hide (TT5.out.tr T7)
  clear T7 TT5
  go_wp2_with fail
  go_ret
  exact ⟨rfl, HT.out⟩

end Go.Proofs.YtdcpmpbfnfjncaaGreatDoor
