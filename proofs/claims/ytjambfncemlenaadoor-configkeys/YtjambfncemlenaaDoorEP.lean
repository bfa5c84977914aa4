/- Keys' states (the program's isSpan, windowInOrder, isBehind). -/
import Derived.Test.YtjambfncemlenaaDoorEK
import Derived.Test.YtjambfncemlenaaDoorCK
namespace Go.Proofs.YtjambfncemlenaaDoor
open Go.RowKit

/-- A span where windows may lie? -/
def spanB (a b : Int) : Bool := decide (a < b) && (decide (-4611687117939015680 ≤ a) && decide (b ≤ 4611687117939015680))

set_option maxRecDepth 100000 in
theorem isSpan_any (s : Sp) (w : World) : Calls Tryd.prog 83 #[spv s] w fun e w' => e = .returned (.bool (spanB s.a s.b)) ∧ Calm w w' := by
  have T0 := hide ((Touch.refl (fun _ => False) w).alloc (.cells (spc s) 88))
  have HB : Hid (spanB s.a s.b = (decide (s.a < s.b) && (decide (-4611687117939015680 ≤ s.a) && decide (s.b ≤ 4611687117939015680)))) := hide rfl
  generalize spanB s.a s.b = R at *
  by_cases h1 : s.a < s.b
  · have d1 : decide (s.a < s.b) = true := decide_eq_true h1
    by_cases h2 : -4611687117939015680 ≤ s.a
    · have d2 : decide (-4611687117939015680 ≤ s.a) = true := decide_eq_true h2
      have HR : Hid (R = decide (s.b ≤ 4611687117939015680)) := hide (by rw [HB.out, d1, d2]; rfl)
      clear HB h1 h2
      go_enter Tryd.func83, Tryd.ntmps83
      go_wp2_with fail
      go_ret
      exact ⟨by rw [HR.out]; rfl, T0.out⟩
    · have d2 : decide (-4611687117939015680 ≤ s.a) = false := decide_eq_false h2
      have HR : Hid (R = false) := hide (by rw [HB.out, d1, d2]; rfl)
      clear HB h1 h2
      go_enter Tryd.func83, Tryd.ntmps83
      go_wp2_with fail
      go_ret
      exact ⟨by rw [HR.out]; rfl, T0.out⟩
  · have d1 : decide (s.a < s.b) = false := decide_eq_false h1
    have HR : Hid (R = false) := hide (by rw [HB.out, d1]; rfl)
    clear HB h1
    go_enter Tryd.func83, Tryd.ntmps83
    go_wp2_with fail
    go_ret
    exact ⟨by rw [HR.out]; rfl, T0.out⟩

theorem win_link (x : Wn) : (spanB x.a x.b && (inB x.t.c 0 9007199254740992 && (inB x.n 0 9007199254740992 && inB x.p 0 9007199254740992))) = winB x := by
  unfold spanB winB
  rw [Bool.eq_iff_iff]
  simp only [Bool.and_eq_true, Bool.not_eq_true', decide_eq_true_eq, decide_eq_false_iff_not]
  constructor
  · rintro ⟨⟨h1, h2, h3⟩, h4⟩; exact ⟨by omega, by omega, by omega, h4⟩
  · rintro ⟨h1, h2, h3, h4⟩; exact ⟨⟨by omega, by omega, by omega⟩, h4⟩

set_option maxRecDepth 100000 in
set_option maxHeartbeats 1000000 in
theorem windowInOrder_any (x : Wn) (w : World) : Calls Tryd.prog 69 #[wnv x] w fun e w' => e = .returned (.bool (winB x)) ∧ Calm w w' := by
  have CS : Hid (∀ W, Calls Tryd.prog 83 #[.agg #[.int .i64 x.a, .int .i64 x.b]] W fun e w' => e = .returned (.bool (spanB x.a x.b)) ∧ Calm W w') := hide fun W => isSpan_any x.sp W
  have C1 := fun W => hide (isCount_any x.t.c W)
  have C2 := fun W => hide (isCount_any x.n W)
  have C3 := fun W => hide (isCount_any x.p W)
  have HB := hide (win_link x).symm
  have A0 := hide (al_new w (.cells (wnc x) 92))
  have T0 := hide ((Touch.refl (fun _ => False) w).alloc (.cells (wnc x) 92))
  generalize winB x = R at *
  generalize spanB x.a x.b = b0 at *
  generalize inB x.t.c 0 9007199254740992 = b1 at *
  generalize inB x.n 0 9007199254740992 = b2 at *
  generalize inB x.p 0 9007199254740992 = b3 at *
  go_enter Tryd.func69, Tryd.ntmps69
  go_wp2_with fail
  refine (CS.out _).mono ?_
  rintro e w1 ⟨rfl, T1⟩
  have TT := hide (T0.out.tr T1)
  obtain ⟨⟨g0, g1, g2⟩, ⟨g3, g4, g5, g6⟩, g7, g8⟩ := wn_cells (T1.at A0.out)
  clear CS T0 T1 A0
  cases b0 with
  | false =>
    have HR : Hid (R = false) := hide (by rw [HB.out]; rfl)
    clear HB
    go_wp2_with fail
    go_ret
    exact ⟨by rw [HR.out]; rfl, TT.out⟩
  | true =>
    go_wp2_with fail
    refine (C1 _).out.mono ?_
    rintro e w2 ⟨rfl, hw2⟩
    subst hw2
    cases b1 with
    | false =>
      have HR : Hid (R = false) := hide (by rw [HB.out]; rfl)
      clear HB
      go_wp2_with fail
      go_ret
      exact ⟨by rw [HR.out]; rfl, TT.out⟩
    | true =>
      go_wp2_with fail
      refine (C2 _).out.mono ?_
      rintro e w2 ⟨rfl, hw2⟩
      subst hw2
      cases b2 with
      | false =>
        have HR : Hid (R = false) := hide (by rw [HB.out]; rfl)
        clear HB
        go_wp2_with fail
        go_ret
        exact ⟨by rw [HR.out]; rfl, TT.out⟩
      | true =>
        go_wp2_with fail
        refine (C3 _).out.mono ?_
        rintro e w2 ⟨rfl, hw2⟩
        subst hw2
        have HR : Hid (R = b3) := hide (by rw [HB.out]; cases b3 <;> rfl)
        clear HB
        go_wp2_with fail
        go_ret
        exact ⟨by rw [HR.out]; cases b3 <;> rfl, TT.out⟩

/-- The next one behind it? -/
def behB (ki : Int) (x y : Wn) : Bool := if ki = 3 then decide (x.b ≤ y.a) else ordB x y

set_option maxRecDepth 100000 in
set_option maxHeartbeats 1000000 in
theorem isBehind_any (ki : Int) (x y : Wn) (w : World) : Calls Tryd.prog 70 #[.int .i64 ki, spv x.sp, spv y.sp] w fun e w' => e = .returned (.bool (behB ki x y)) ∧ Calm w w' := by
  have T0 := hide (((Touch.refl (fun _ => False) w).alloc (.cells (spc x.sp) 88)).alloc (.cells (spc y.sp) 88))
  by_cases hk : ki = 3
  · have dk : (ki == 3) = true := by simp [hk]
    have HR : Hid (behB ki x y = decide (x.b ≤ y.a)) := hide (if_pos hk)
    generalize behB ki x y = R at *
    go_enter Tryd.func70, Tryd.ntmps70
    go_wp2_with fail
    go_ret
    exact ⟨by rw [HR.out]; rfl, T0.out⟩
  · have dk : (ki == 3) = false := by simp [hk]
    have HB : Hid (behB ki x y = (decide (x.a < y.a) || (x.a == y.a && decide (x.b < y.b)))) := hide (if_neg hk)
    generalize behB ki x y = R at *
    by_cases h1 : x.a < y.a
    · have hd : decide (x.a < y.a) = true := decide_eq_true h1
      have HR : Hid (R = true) := hide (by rw [HB.out, hd]; rfl)
      clear h1 HB
      go_enter Tryd.func70, Tryd.ntmps70
      go_wp2_with fail
      go_ret
      exact ⟨by rw [HR.out]; rfl, T0.out⟩
    · have hd : decide (x.a < y.a) = false := decide_eq_false h1
      by_cases h2 : x.a = y.a
      · have hd2 : (x.a == y.a) = true := beq_iff_eq.2 h2
        have HR : Hid (R = decide (x.b < y.b)) := hide (by rw [HB.out, hd, hd2]; rfl)
        clear h1 h2 HB
        go_enter Tryd.func70, Tryd.ntmps70
        go_wp2_with fail
        go_ret
        exact ⟨by rw [HR.out]; rfl, T0.out⟩
      · have hd2 : (x.a == y.a) = false := beq_false_of_ne h2
        have HR : Hid (R = false) := hide (by rw [HB.out, hd, hd2]; rfl)
        clear h1 h2 HB
        go_enter Tryd.func70, Tryd.ntmps70
        go_wp2_with fail
        go_ret
        exact ⟨by rw [HR.out]; rfl, T0.out⟩

/-- What the program says of the window at a place. -/
def keyPt (ki : Int) (L : List Wn) (i : Nat) : Bool := winB (L.getD i wn0) && (i == 0 || behB ki (L.getD (i - 1) wn0) (L.getD i wn0))
def keyP (ki : Int) (k : Ks) : Bool := decide (k.ke.size ≤ 256) && (inB k.dr 0 9007199254740992 && (List.range k.wi.length).all fun i => keyPt ki k.wi i)

theorem win_lt {x : Wn} (h : winB x = true) : x.a < x.b := by
  unfold winB at h
  simp only [Bool.and_eq_true, Bool.not_eq_true', decide_eq_false_iff_not] at h
  omega
theorem key_link (c : Cf) (k : Ks) : keyP c.ki k = keyB c k := by
  unfold keyP keyB
  have e : ((List.range k.wi.length).all fun i => keyPt c.ki k.wi i) = ((List.range k.wi.length).all fun i => keyAt c k.wi i) := by
    generalize k.wi = L
    by_cases hk : c.ki = 3
    · rw [Bool.eq_iff_iff, List.all_eq_true, List.all_eq_true]
      constructor
      · intro h
        have hp : ∀ i, i < L.length → winB (L.getD i wn0) = true ∧ (i = 0 ∨ (L.getD (i - 1) wn0).b ≤ (L.getD i wn0).a) := fun i hi => by
          have := h i (List.mem_range.2 hi)
          unfold keyPt behB at this
          rw [if_pos hk] at this
          simp only [Bool.and_eq_true, Bool.or_eq_true, beq_iff_eq, decide_eq_true_eq] at this
          exact this
        have far : ∀ i, i < L.length → ∀ m, m < i → (L.getD m wn0).b ≤ (L.getD i wn0).a := by
          intro i
          induction i with
          | zero => intro _ m hm; omega
          | succ i ih =>
            intro hi m hm
            have h1 := (hp (i + 1) hi).2
            rcases h1 with h1 | h1
            · omega
            · rw [show i + 1 - 1 = i from rfl] at h1
              by_cases hmi : m = i
              · rw [hmi]; exact h1
              · have h2 := ih (by omega) m (by omega)
                have h3 := win_lt (hp i (by omega)).1
                omega
        intro i hi
        have hi' := List.mem_range.1 hi
        obtain ⟨h1, h2⟩ := hp i hi'
        unfold keyAt
        rw [h1]
        simp only [Bool.true_and, Bool.and_eq_true, Bool.or_eq_true, beq_iff_eq, Bool.not_eq_true']
        refine ⟨?_, .inr ?_⟩
        · rcases h2 with h2 | h2
          · exact .inl h2
          · by_cases h0 : i = 0
            · exact .inl h0
            · refine .inr ?_
              unfold ordB
              have h3 := win_lt (hp (i - 1) (by omega)).1
              rw [decide_eq_true (by omega)]
              rfl
        · rw [List.all_eq_true]
          intro m hm
          have h3 := far i hi' m (List.mem_range.1 hm)
          unfold apartB
          rw [decide_eq_false (p := (L.getD i wn0).a < (L.getD m wn0).b) (by omega), Bool.and_false]
          rfl
      · intro h i hi
        have hi' := List.mem_range.1 hi
        have hp := h i hi
        unfold keyAt at hp
        simp only [Bool.and_eq_true, Bool.or_eq_true, beq_iff_eq, Bool.not_eq_true', hk] at hp
        obtain ⟨h1, h2, h3⟩ := hp
        unfold keyPt behB
        rw [h1, if_pos hk]
        simp only [Bool.true_and, Bool.or_eq_true, beq_iff_eq, decide_eq_true_eq]
        rcases h2 with h2 | h2
        · exact .inl h2
        · by_cases h0 : i = 0
          · exact .inl h0
          · refine .inr ?_
            rcases h3 with h3 | h3
            · simp at h3
            · rw [List.all_eq_true] at h3
              have h4 := h3 (i - 1) (List.mem_range.2 (by omega))
              have h5 := win_lt h1
              unfold apartB at h4
              unfold ordB at h2
              simp only [Bool.not_eq_true', Bool.and_eq_false_iff, decide_eq_false_iff_not, Bool.or_eq_true, Bool.and_eq_true, decide_eq_true_eq, beq_iff_eq] at h4 h2
              omega
    · have : (fun i => keyPt c.ki L i) = fun i => keyAt c L i := by
        funext i
        unfold keyPt keyAt behB
        have e3 : (c.ki == 3) = false := by simp [hk]
        rw [if_neg hk, e3]
        simp
      rw [this]
  rw [e]

end Go.Proofs.YtjambfncemlenaaDoor
