/- The document's Compare; the verifier's made. -/
import Derived.Test.YtegiinnhknfjjaaIOrd
namespace Go.Proofs.Ytegiinnhknfjjaa.IM
open Go.RowKit

set_option maxRecDepth 100000 in
set_option maxHeartbeats 1000000 in
theorem compare_any (which a b : Int) (w : World) : Calls Try.prog 32 #[.int .i64 which, .int .i64 a, .int .i64 b] w fun e w' => e = .returned (.int .i64 (ordv which a b)) ∧ w' = w := by
  unfold ordv
  by_cases h0 : which = 0
  · subst h0
    go_enter Try.func32, Try.ntmps32
    go_wp2_with fail
    refine (plain_any _ _ _).mono ?_
    rintro e w' ⟨rfl, hq⟩
    obtain rfl := hq.symm
    clear hq
    go_wp2_with fail
    go_ret
    exact ⟨rfl, rfl⟩
  by_cases h1 : which = 1
  · subst h1
    go_enter Try.func32, Try.ntmps32
    go_wp2_with fail
    refine (plain_any _ _ _).mono ?_
    rintro e w' ⟨rfl, hq⟩
    obtain rfl := hq.symm
    clear hq
    go_wp2_with fail
    go_ret
    exact ⟨rfl, rfl⟩
  by_cases h2 : which = 2
  · subst h2
    have RA := hide (rest_any a 7 (.inl rfl))
    have RB := hide (rest_any b 7 (.inl rfl))
    generalize rst a 7 = ra at *
    generalize rst b 7 = rb at *
    go_enter Try.func32, Try.ntmps32
    go_wp2_with fail
    refine (RA.out _).mono ?_
    rintro e w' ⟨rfl, hq⟩
    obtain rfl := hq.symm
    clear hq
    go_wp2_with fail
    refine (RB.out _).mono ?_
    rintro e w' ⟨rfl, hq⟩
    obtain rfl := hq.symm
    clear hq
    go_wp2_with fail
    refine (plain_any _ _ _).mono ?_
    rintro e w' ⟨rfl, hq⟩
    obtain rfl := hq.symm
    clear hq
    go_wp2_with fail
    go_ret
    exact ⟨rfl, rfl⟩
  by_cases h3 : which = 3
  · subst h3
    have RA := hide (rest_any a 2 (.inr rfl))
    have RB := hide (rest_any b 2 (.inr rfl))
    generalize rst a 2 = ra at *
    generalize rst b 2 = rb at *
    have hor : (ra = rb) ∨ ¬ (ra = rb) := Classical.em _
    rcases hor with hr | hr
    · subst hr
      go_enter Try.func32, Try.ntmps32
      go_wp2_with fail
      refine (RA.out _).mono ?_
      rintro e w' ⟨rfl, hq⟩
      obtain rfl := hq.symm
      clear hq
      go_wp2_with fail
      refine (RB.out _).mono ?_
      rintro e w' ⟨rfl, hq⟩
      obtain rfl := hq.symm
      clear hq
      go_wp2_with fail
      refine (plain_any _ _ _).mono ?_
      rintro e w' ⟨rfl, hq⟩
      obtain rfl := hq.symm
      clear hq
      go_wp2_with fail
      go_ret
      exact ⟨by simp, rfl⟩
    · go_enter Try.func32, Try.ntmps32
      go_wp2_with fail
      refine (RA.out _).mono ?_
      rintro e w' ⟨rfl, hq⟩
      obtain rfl := hq.symm
      clear hq
      go_wp2_with fail
      refine (RB.out _).mono ?_
      rintro e w' ⟨rfl, hq⟩
      obtain rfl := hq.symm
      clear hq
      go_wp2_with fail
      refine (RA.out _).mono ?_
      rintro e w' ⟨rfl, hq⟩
      obtain rfl := hq.symm
      clear hq
      go_wp2_with fail
      refine (RB.out _).mono ?_
      rintro e w' ⟨rfl, hq⟩
      obtain rfl := hq.symm
      clear hq
      go_wp2_with fail
      refine (plain_any _ _ _).mono ?_
      rintro e w' ⟨rfl, hq⟩
      obtain rfl := hq.symm
      clear hq
      go_wp2_with fail
      go_ret
      exact ⟨by simp, rfl⟩
  · go_enter Try.func32, Try.ntmps32
    go_wp2_with fail
    go_ret
    exact ⟨by simp, rfl⟩

set_option maxRecDepth 100000 in
theorem made1_any (B : Nat) (which a b : Int) (w : World) (h : w.heap[B]? = some (.cells #[.int .i64 which] 3 (0, 0))) : Calls Try.prog 31 #[.int .i64 a, .int .i64 b, .pointer (some ⟨B, 0, none⟩)] w fun e w' => e = .returned (.int .i64 (ord3 which a b)) ∧ w' = w := by
  have CO := hide (compare_any which a b w)
  have hv := ordv_val which a b
  have hw : wrap64 (3 * ordv which a b) = ord3 which a b := by unfold ord3 wrap64; omega
  obtain ⟨c0, -⟩ := one_cell h
  clear h hv
  generalize ordv which a b = o at *
  go_enter Try.func31, Try.ntmps31
  go_wp2_with fail
  refine CO.out.mono ?_
  rintro e w' ⟨rfl, hq⟩
  obtain rfl := hq.symm
  clear hq
  go_wp2_with fail
  go_ret
  exact ⟨by rw [hw]; rfl, rfl⟩

/-- made's function as an order. -/
theorem cmpMade (B : Nat) (which : Int) : Cmp 31 #[.pointer (some ⟨B, 0, none⟩)] (ord3 which) (fun W => W.heap[B]? = some (.cells #[.int .i64 which] 3 (0, 0))) where
  enter := fun args w => by kernel_rfl
  calls := fun a b w h => made1_any B which a b w h
  calm := fun _ _ h ht => ht.at h

set_option maxRecDepth 100000 in
theorem made_any (which : Int) (w : World) : Calls Try.prog 6 #[.int .i64 which] w fun e w' => ∃ m B, e = .returned (.pointer (some ⟨m, 0, none⟩)) ∧ Mt w' m 31 #[.pointer (some ⟨B, 0, none⟩)] [] ∧ w'.heap[B]? = some (.cells #[.int .i64 which] 3 (0, 0)) ∧ w.heap.size ≤ m ∧ w.heap.size ≤ B ∧ Calm w w' := by
  have NW := hide (new_any 31 #[.pointer (some ⟨w.heap.size, 0, none⟩)] (w.alloc (.cells #[.int .i64 which] 3)))
  have T := hide ((Touch.refl (fun _ => False) w).alloc (.cells #[.int .i64 which] 3))
  have HB : Hid ((w.alloc (.cells #[.int .i64 which] 3)).heap[w.heap.size]? = some (.cells #[.int .i64 which] 3 (0, 0))) := hide (heap_alloc_last w _)
  go_enter Try.func6, Try.ntmps6
  go_wp2_with fail
  refine NW.out.mono ?_
  rintro e w2 ⟨m, rfl, h2, hm, t2⟩
  have H2 := hide h2
  have HM := hide (Nat.le_trans T.out.size hm)
  have T2 := hide t2
  clear h2 hm t2 NW
  go_wp2_with fail
  go_ret
  exact ⟨m, w.heap.size, rfl, H2.out, T2.out.at HB.out, HM.out, Nat.le_refl _, T.out.tr T2.out⟩

end Go.Proofs.Ytegiinnhknfjjaa.IM
