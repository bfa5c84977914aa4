/- The law's known. -/
import Derived.Test.YtbhofihikimgeaaRRPF
namespace Go.Proofs.YtbhofihikimgeaaRR
open Go.RowKit

/-- What Join answers, refused or not. -/
def ansJ (L : List Wn) (s : Sp) (m h : Int) : List Wn := if badT L s then [] else joinL L s m h

theorem RetJ.all {w : World} {e : Ending} {w' : World} {L : List Wn} {s : Sp} {m h : Int} (r : RetJ w e w' L s m h) :
    ∃ lo lc, e = .returned (.tuple #[.slice lo (ansJ L s m h).length lc, .int .i64 (tch1 L s), .int .i64 (tch3 L s)]) ∧ encW.Own 43 w' w.heap.size (.slice lo (ansJ L s m h).length lc) (ansJ L s m h) ∧ Calm w w' := by
  unfold ansJ tch1 tch3
  cases hb : badT L s with
  | true =>
    obtain ⟨e1, t⟩ := r.1 hb
    exact ⟨none, 0, e1, Rc.Own.nil _ _ _, t⟩
  | false =>
    obtain ⟨ao, cap, e1, o, t⟩ := r.2 hb
    exact ⟨ao, cap, e1, o, t⟩

abbrev kn0 : Wn := ⟨0, 5, 0, ⟨2, 7, 3, 4⟩, 0, 0⟩
abbrev kn1 : Wn := ⟨5, 8, 5, ⟨1, 9, 9, 9⟩, 0, 0⟩
theorem kn_join : ansJ [kn0, kn1] ⟨4, 6⟩ 5 6 = [⟨0, 8, 5, ⟨3, 16, 3, 9⟩, 0, 0⟩] := by kernel_rfl
theorem kn_1 : tch1 [kn0, kn1] ⟨4, 6⟩ = 0 := by kernel_rfl
theorem kn_3 : tch3 [kn0, kn1] ⟨4, 6⟩ = 0 := by kernel_rfl
theorem kn_a : apartR [kn0, kn1] = true := by kernel_rfl

set_option maxRecDepth 100000 in
set_option maxHeartbeats 2000000 in
theorem known9_any (w : World) : Calls Try.prog 5 #[] w fun e w' => e = .returned (.bool true) ∧ Calm w w' := by
  have hm := Rc.Mem.new (E := encW) w [kn0, kn1] 43
  have T0 : Calm w (w.alloc (.cells (encW.flat [kn0, kn1]).toArray 43)) := (Touch.refl _ _).alloc _
  have CJ := join9_any (some ⟨w.heap.size, 0, none⟩) 2 [kn0, kn1] ⟨4, 6⟩ 5 6 _ ⟨hm, fun h => (nomatch h), Nat.le_refl _⟩ (by simp)
  have CJ2 := hide (CJ.mono fun e w' r => r.all)
  rw [kn_join, kn_1, kn_3] at CJ2
  have CA : Hid (∀ W, Calm (w.alloc (.cells (encW.flat [kn0, kn1]).toArray 43)) W → Calls Try.prog 11 #[.slice (some ⟨w.heap.size, 0, none⟩) 2 2] W fun e w' => e = .returned (.bool true) ∧ Calm W w') := hide fun W hW => by
    have := apart_any (some ⟨w.heap.size, 0, none⟩) 2 [kn0, kn1] W (Rc.Mem.calm hm hW) (by simp)
    rw [kn_a] at this
    exact this
  have HT := hide T0
  clear CJ hm T0
  go_enter Try.func5, Try.ntmps5
  go_wp2_with fail
  refine CJ2.out.mono ?_
  rintro e w1 ⟨lo, lc, rfl, ow, T1⟩
  obtain ⟨-, hmm, -⟩ := Rc.Own.mem ow
  obtain ⟨b, off, rfl, ⟨c0, c1, c2⟩, ⟨c3, c4, c5, c6⟩, c7, c8⟩ := wn_at hmm 0 (by simp)
  simp only [List.getD_cons_zero, Nat.zero_mul, Nat.add_zero] at c0 c1 c2 c3 c4 c5 c6 c7 c8
  have CA1 := hide (CA.out w1 T1)
  have HT1 := hide (HT.out.tr T1)
  clear CJ2 CA HT T1 ow hmm
  go_wp2_with fail
  refine CA1.out.mono ?_
  rintro e w2 ⟨rfl, T2⟩
  have HT2 := hide (HT1.out.tr T2)
  clear T2
  go_wp2_with fail
  go_ret
  exact ⟨rfl, HT2.out⟩

end Go.Proofs.YtbhofihikimgeaaRR
