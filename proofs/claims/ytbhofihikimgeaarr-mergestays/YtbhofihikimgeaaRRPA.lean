/- The program's small questions of layer 9: isSpan, isCount, isSession, counts; of layer 7: isWindow, Due. -/
import Derived.Test.YtbhofihikimgeaaRRMB
namespace Go.Proofs.YtbhofihikimgeaaRR
open Go.RowKit

set_option maxRecDepth 100000 in
theorem isSpan_any (s : Sp) (w : World) : Calls Try.prog 16 #[spv s] w fun e w' => e = .returned (.bool (decide (s.a < s.b))) ∧ Calm w w' := by
  go_enter Try.func16, Try.ntmps16
  go_wp2_with fail
  go_ret
  exact ⟨rfl, (Touch.refl (fun _ => False) w).alloc _⟩

set_option maxRecDepth 100000 in
theorem isWindow_any (s : Sp) (w : World) : Calls Try.prog 32 #[spv s] w fun e w' => e = .returned (.bool (decide (s.a < s.b))) ∧ Calm w w' := by
  go_enter Try.func32, Try.ntmps32
  go_wp2_with fail
  go_ret
  exact ⟨rfl, (Touch.refl (fun _ => False) w).alloc _⟩

set_option maxRecDepth 100000 in
theorem due_any (s : Sp) (m : Int) (w : World) : Calls Try.prog 29 #[spv s, .int .i64 m] w fun e w' => e = .returned (.bool (decide (s.b ≤ m))) ∧ Calm w w' := by
  go_enter Try.func29, Try.ntmps29
  go_wp2_with fail
  go_ret
  exact ⟨rfl, (Touch.refl (fun _ => False) w).alloc _⟩

set_option maxRecDepth 100000 in
theorem isCount_any (n : Int) (w : World) : Calls Try.prog 31 #[.int .i64 n] w fun e w' => e = .returned (.bool (inC n)) ∧ w' = w := by
  unfold inC
  generalize h1 : decide (0 ≤ n) = b1
  generalize h2 : decide (n ≤ 9007199254740992) = b2
  cases b1 <;> cases b2
  all_goals
    go_enter Try.func31, Try.ntmps31
    go_wp2_with fail
    go_ret
    exact ⟨by first | rfl | simp, rfl⟩

set_option maxRecDepth 100000 in
theorem mcounts_any (a b : Int) (ha : inC a = true) (hb : inC b = true) (w : World) : Calls Try.prog 28 #[.int .i64 a, .int .i64 b] w fun e w' => e = .returned (.int .i64 (cnt a b)) ∧ w' = w := by
  have h : 0 ≤ a ∧ a ≤ 9007199254740992 ∧ 0 ≤ b ∧ b ≤ 9007199254740992 := by unfold inC at ha hb; simp at ha hb; omega
  have hw : wrap64 (a + b) = a + b := by unfold wrap64; omega
  unfold cnt
  clear h ha hb
  go_enter Try.func28, Try.ntmps28
  go_wp2_with fail
  go_ret
  exact ⟨rfl, rfl⟩

set_option maxRecDepth 100000 in
set_option maxHeartbeats 1000000 in
theorem isSession_any (x : Wn) (w : World) : Calls Try.prog 24 #[wnv x] w fun e w' => e = .returned (.bool (okW x)) ∧ Calm w w' := by
  unfold okW
  have C0 := fun w => hide (isSpan_any x.sp w)
  have C1 := fun w => hide (isCount_any x.t.c w)
  have C2 := fun w => hide (isCount_any x.n w)
  have C3 := fun w => hide (isCount_any x.p w)
  have A0 := al_new w (.cells (wnc x) 43)
  have HT := hide ((Touch.refl (fun _ => False) w).alloc (.cells (wnc x) 43))
  have HA := hide A0
  clear A0
  generalize decide (x.a < x.b) = b0 at *
  generalize inC x.t.c = b1 at *
  generalize inC x.n = b2 at *
  generalize inC x.p = b3 at *
  cases b0 <;> cases b1 <;> cases b2 <;> cases b3
  all_goals
    go_enter Try.func24, Try.ntmps24
    go_wp2_with fail
    refine (C0 _).out.mono ?_
    rintro e w1 ⟨rfl, T1⟩
    obtain ⟨⟨c0, c1, c2⟩, ⟨c3, c4, c5, c6⟩, c7, c8⟩ := wn_cells (T1.at HA.out)
    have HU := hide (HT.out.tr T1)
    clear T1 HA HT
    go_wp2_with fail
    try
      refine (C1 _).out.mono ?_
      rintro e w2 ⟨rfl, hq⟩
      subst hq
      go_wp2_with fail
    try
      refine (C2 _).out.mono ?_
      rintro e w2 ⟨rfl, hq⟩
      subst hq
      go_wp2_with fail
    try
      refine (C3 _).out.mono ?_
      rintro e w2 ⟨rfl, hq⟩
      subst hq
      go_wp2_with fail
    go_ret
    exact ⟨rfl, HU.out⟩

end Go.Proofs.YtbhofihikimgeaaRR
