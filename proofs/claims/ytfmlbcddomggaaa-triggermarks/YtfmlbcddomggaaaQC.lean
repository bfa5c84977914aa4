/- The program's oneMore, OnTime, Behind. -/
import Derived.Test.YtfmlbcddomggaaaQB
import Derived.ScopeJumps
import Derived.Lib.MinMax
namespace Go.Proofs.Ytfmlbcddomggaaa
open Go.RowKit

set_option maxRecDepth 100000 in
theorem more_any (n : Int) (hn : I64 n) (w : World) : Calls Try.prog 25 #[.int .i64 n] w fun e w' => e = .returned (.int .i64 (moreN n)) ∧ w' = w := by
  have hm : Hid (wrap64 (min n 9007199254740991 + 1) = moreN n) := hide (by
    unfold wrap64 moreN I64 at *; omega)
  generalize moreN n = r at *
  go_enter Try.func25, Try.ntmps25
  go_wp2_with fail
  go_ret
  exact ⟨by rw [← hm.out]; rfl, rfl⟩

set_option maxRecDepth 100000 in
theorem ontime_any (x : Wn) (f t : Int) (w : World) : Calls Try.prog 10 #[wnv x, .int .i64 f, .int .i64 t] w fun e w' => e = .returned (.bool (onT x f t)) ∧ Calm w w' := by
  have CT := fun w => hide (tells_2 ⟨x, 0, f, t⟩ w)
  have T0 := hide ((Touch.refl (fun _ => False) w).alloc (.cells (wnc x) 30))
  go_enter Try.func10, Try.ntmps10
  go_wp2_with fail
  refine (CT _).out.mono ?_
  rintro e w1 ⟨rfl, T1⟩
  have H1 := hide (T0.out.tr T1)
  clear T1
  go_wp2_with fail
  go_ret
  exact ⟨rfl, H1.out⟩

set_option maxRecDepth 100000 in
theorem behind_any (c : Cf) (x : Wn) (m : Int) (w : World) : Calls Try.prog 8 #[cfv c, wnv x, .int .i64 m] w fun e w' => e = .returned (.tuple #[.int .i64 (behK c.ea m x), .bool (behB c.ea m x)]) ∧ Calm w w' := by
  have CD := fun w => hide (tells_3 ⟨x, c.ea, m, m⟩ w)
  have CF := fun w => hide (tells_1 ⟨x, c.ea, m, m⟩ w)
  have HK : Hid (∀ (e : Ending) (w' : World), (e = .returned (.tuple #[.int .i64 (if dueA ⟨x, c.ea, m, m⟩ then 3 else if fulA ⟨x, c.ea, m, m⟩ then 1 else 0), .bool (dueA ⟨x, c.ea, m, m⟩ || fulA ⟨x, c.ea, m, m⟩)]) ∧ Calm w w') → (e = .returned (.tuple #[.int .i64 (behK c.ea m x), .bool (behB c.ea m x)]) ∧ Calm w w')) := hide (by
    rintro e w' ⟨h1, h2⟩
    refine ⟨h1.trans ?_, h2⟩
    unfold behK behB dueA fulA
    by_cases h : x.b ≤ m
    · simp [h]
    · by_cases h3 : c.ea = 0
      · simp [h, h3]
      · by_cases h4 : c.ea ≤ x.n <;> simp [h, h3, h4])
  refine Calls.mono ?_ HK.out
  clear HK
  generalize dueA ⟨x, c.ea, m, m⟩ = du at *
  generalize fulA ⟨x, c.ea, m, m⟩ = fu at *
  have T0 := hide (((Touch.refl (fun _ => False) w).alloc (.cells (cfc c) 24)).alloc (.cells (wnc x) 30))
  have A3 := hide (al_new ((w.alloc (.cells (cfc c) 24)).alloc (.cells (wnc x) 30)) (.cells (asc ⟨x, c.ea, m, m⟩) 62))
  obtain ⟨kk, ekk⟩ : ∃ kk, kk = (if du then (3 : Int) else if fu then 1 else 0) := ⟨_, rfl⟩
  obtain ⟨bb, ebb⟩ : ∃ bb, bb = (du || fu) := ⟨_, rfl⟩
  rw [← ekk, ← ebb]
  have HEK := hide ekk
  have HEB := hide ebb
  clear ekk ebb
  go_enter Try.func8, Try.ntmps8
  go_wp2_with fail
  refine wp_scope_jumps 0 (fun a W => ∃ u0 u1 u2 u3 u4 u5 u6 u7 u8 u11 u12 u13 u14 u15 u16 u17 u18 u19 u20 u21 u22 u23 u24 : Value, a = ⟨#[u0, u1, u2, u3, u4, u5, u6, u7, u8, .int .i64 kk, .bool bb, u11, u12, u13, u14, u15, u16, u17, u18, u19, u20, u21, u22, u23, u24], []⟩ ∧ Calm w W) (fun _ _ => 0) rfl ?_ ?_
  · go_wp2_with fail
    refine (CD _).out.mono ?_
    rintro e w1 ⟨rfl, T1⟩
    have H1 := hide ((T0.out.alloc (.cells (asc ⟨x, c.ea, m, m⟩) 62)).tr T1)
    have C3 := T1.at A3.out
    rw [al_size, al_size] at C3
    obtain ⟨⟨c0, c1, c2⟩, ⟨c3, c4, c5, c6⟩, c7, c8, c9, c10, c11⟩ := as_cells C3
    simp only at c0 c1 c2 c3 c4 c5 c6 c7 c8 c9 c10 c11
    clear T1 C3 A3 CD T0
    cases du with
    | true =>
      go_wp2_with fail
      have hk : kk = 3 := HEK.out
      have hb : bb = true := HEB.out
      subst hk hb
      go_step3
      exact ⟨rfl, _, _, _, _, _, _, _, _, _, _, _, _, _, _, _, _, _, _, _, _, _, _, _, rfl, H1.out⟩
    | false =>
      go_wp2_with fail
      refine (CF _).out.mono ?_
      rintro e w2 ⟨rfl, T2⟩
      have H2 := hide (H1.out.tr T2)
      clear T2 H1
      cases fu with
      | true =>
        go_wp2_with fail
        have hk : kk = 1 := HEK.out
        have hb : bb = true := HEB.out
        subst hk hb
        go_step3
        exact ⟨rfl, _, _, _, _, _, _, _, _, _, _, _, _, _, _, _, _, _, _, _, _, _, _, _, rfl, H2.out⟩
      | false =>
        go_wp2_with fail
        refine wp_label ?_
        go_wp2_with fail
        simp only [Exit.jump]
        have hk : kk = 0 := HEK.out
        have hb : bb = false := HEB.out
        subst hk hb
        go_ret2
        exact ⟨rfl, H2.out⟩
  · rintro a W ⟨u0, u1, u2, u3, u4, u5, u6, u7, u8, u11, u12, u13, u14, u15, u16, u17, u18, u19, u20, u21, u22, u23, u24, rfl, hW⟩
    have HW := hide hW
    clear hW
    go_wp2_with fail
    simp only [Exit.jump]
    go_ret2
    exact ⟨rfl, HW.out⟩

end Go.Proofs.Ytfmlbcddomggaaa
