/- How the program and the document compare timers. -/
import Derived.Test.YtlnblhajcbmmkaaTOrd
namespace Go.Proofs.Ytlnblhajcbmmkaa
open Go.RowKit

/-- A timer's cells. -/
abbrev tc (t : Tm) : Array Value := #[.int .i64 t.at_, .string t.key, .int .i64 t.start, .int .i64 t.stop]

/-- Behind a call that boxes two timers. -/
abbrev two (w : World) (a b : Tm) : World := (w.alloc (.cells (tc a) 35)).alloc (.cells (tc b) 35)

set_option maxRecDepth 100000 in
set_option maxHeartbeats 1000000 in
theorem compareT_any (a b : Tm) (w : World) : Calls Try.prog 16 #[tv a, tv b] w fun e w' => e = .returned (.int .i64 (cmpT a b)) ∧ w' = two w a b := by
  have C1 := hide (cmpI_any a.at_ b.at_ (two w a b))
  have C2 := hide (compareS_any a.key b.key (two w a b))
  have C3 := hide (cmpI_any a.start b.start (two w a b))
  have C4 := hide (cmpI_any a.stop b.stop (two w a b))
  unfold cmpT
  generalize cmpI a.at_ b.at_ = c1 at *
  generalize cmpS a.key b.key = c2 at *
  generalize cmpI a.start b.start = c3 at *
  generalize cmpI a.stop b.stop = c4 at *
  by_cases h1 : c1 = 0
  · subst h1
    by_cases h2 : c2 = 0
    · subst h2
      by_cases h3 : c3 = 0
      · subst h3
        go_enter Try.func16, Try.ntmps16
        go_wp2_with fail
        refine C1.out.mono ?_
        rintro e w' ⟨rfl, hq⟩
        subst hq
        go_wp2_with fail
        refine C2.out.mono ?_
        rintro e w' ⟨rfl, hq⟩
        subst hq
        go_wp2_with fail
        refine C3.out.mono ?_
        rintro e w' ⟨rfl, hq⟩
        subst hq
        go_wp2_with fail
        refine C4.out.mono ?_
        rintro e w' ⟨rfl, hq⟩
        subst hq
        go_wp2_with fail
        go_ret
        exact ⟨by simp [thn], rfl⟩
      · go_enter Try.func16, Try.ntmps16
        go_wp2_with fail
        refine C1.out.mono ?_
        rintro e w' ⟨rfl, hq⟩
        subst hq
        go_wp2_with fail
        refine C2.out.mono ?_
        rintro e w' ⟨rfl, hq⟩
        subst hq
        go_wp2_with fail
        refine C3.out.mono ?_
        rintro e w' ⟨rfl, hq⟩
        subst hq
        go_wp2_with fail
        go_ret
        exact ⟨by simp [thn, h3], rfl⟩
    · go_enter Try.func16, Try.ntmps16
      go_wp2_with fail
      refine C1.out.mono ?_
      rintro e w' ⟨rfl, hq⟩
      subst hq
      go_wp2_with fail
      refine C2.out.mono ?_
      rintro e w' ⟨rfl, hq⟩
      subst hq
      go_wp2_with fail
      go_ret
      exact ⟨by simp [thn, h2], rfl⟩
  · go_enter Try.func16, Try.ntmps16
    go_wp2_with fail
    refine C1.out.mono ?_
    rintro e w' ⟨rfl, hq⟩
    subst hq
    go_wp2_with fail
    go_ret
    exact ⟨by simp [thn, h1], rfl⟩

set_option maxRecDepth 100000 in
theorem number_any (a b : Int) (w : World) : Calls Try.prog 37 #[.int .i64 a, .int .i64 b] w fun e w' => e = .returned (.int .i64 (cmpI a b)) ∧ w' = w := by
  unfold cmpI
  rcases Int.lt_trichotomy a b with h | h | h
  · go_enter Try.func37, Try.ntmps37
    go_wp2_with fail
    go_ret
    exact ⟨by first | rfl | simp, rfl⟩
  · subst h
    go_enter Try.func37, Try.ntmps37
    go_wp2_with fail
    go_ret
    exact ⟨by simp, rfl⟩
  · have h' : ¬ a < b := by omega
    go_enter Try.func37, Try.ntmps37
    go_wp2_with fail
    go_ret
    exact ⟨by first | rfl | simp, rfl⟩

set_option maxRecDepth 100000 in
set_option maxHeartbeats 1000000 in
theorem rcompare_any (a b : Tm) (w : World) : Calls Try.prog 17 #[tv a, tv b] w fun e w' => e = .returned (.int .i64 (cmpT a b)) ∧ w' = two w a b := by
  have C1 := hide (number_any a.at_ b.at_ (two w a b))
  have C3 := hide (number_any a.start b.start (two w a b))
  have C4 := hide (number_any a.stop b.stop (two w a b))
  unfold cmpT
  by_cases h1 : a.at_ = b.at_
  · have e1 : cmpI a.at_ b.at_ = 0 := cmpI_eq.2 h1
    have E1 := hide e1
    clear C1
    have b1 : (a.at_ == b.at_) = true := by rw [beq_iff_eq]; exact h1
    clear h1 e1
    rcases cmpS_val a.key b.key with h2 | h2 | h2
    · have l1 : Op.bytesLess a.key.toList b.key.toList = true := by rw [less_eq]; exact decide_eq_true (cmpS_lt.1 (by omega))
      have E2 := hide h2
      clear h2 C3 C4
      go_enter Try.func17, Try.ntmps17
      go_wp2_with fail
      go_ret
      exact ⟨by rw [E1.out, E2.out]; rfl, rfl⟩
    · have l1 : Op.bytesLess a.key.toList b.key.toList = false := by rw [less_eq]; exact decide_eq_false (fun h => by have := cmpS_lt.2 h; omega)
      have l2 : (a.key.toList == b.key.toList) = true := by rw [beq_iff_eq]; exact cmpS_eq.1 h2
      have E2 := hide h2
      clear h2
      by_cases h3 : a.start = b.start
      · have E3 := hide (cmpI_eq.2 h3)
        have b3 : (a.start == b.start) = true := by rw [beq_iff_eq]; exact h3
        clear h3 C3
        go_enter Try.func17, Try.ntmps17
        go_wp2_with fail
        refine C4.out.mono ?_
        rintro e w' ⟨rfl, hq⟩
        subst hq
        go_wp2_with fail
        go_ret
        exact ⟨by rw [E1.out, E2.out, E3.out]; rfl, rfl⟩
      · have n3 : cmpI a.start b.start ≠ 0 := fun e => h3 (cmpI_eq.1 e)
        have N3 := hide n3
        have b3 : (a.start == b.start) = false := by rw [beq_eq_false_iff_ne]; exact h3
        clear h3 n3 C4
        go_enter Try.func17, Try.ntmps17
        go_wp2_with fail
        refine C3.out.mono ?_
        rintro e w' ⟨rfl, hq⟩
        subst hq
        go_wp2_with fail
        go_ret
        exact ⟨by rw [E1.out, E2.out]; simp [thn, N3.out], rfl⟩
    · have l1 : Op.bytesLess a.key.toList b.key.toList = false := by rw [less_eq]; exact decide_eq_false (fun h => by have := cmpS_lt.2 h; omega)
      have l2 : (a.key.toList == b.key.toList) = false := by rw [beq_eq_false_iff_ne]; intro e; have := cmpS_eq.2 e; omega
      have E2 := hide h2
      clear h2 C3 C4
      go_enter Try.func17, Try.ntmps17
      go_wp2_with fail
      go_ret
      exact ⟨by rw [E1.out, E2.out]; rfl, rfl⟩
  · have n1 : cmpI a.at_ b.at_ ≠ 0 := fun e => h1 (cmpI_eq.1 e)
    have N1 := hide n1
    have b1 : (a.at_ == b.at_) = false := by rw [beq_eq_false_iff_ne]; exact h1
    clear h1 n1 C3 C4
    go_enter Try.func17, Try.ntmps17
    go_wp2_with fail
    refine C1.out.mono ?_
    rintro e w' ⟨rfl, hq⟩
    subst hq
    go_wp2_with fail
    go_ret
    exact ⟨by simp [thn, N1.out], rfl⟩

end Go.Proofs.Ytlnblhajcbmmkaa
