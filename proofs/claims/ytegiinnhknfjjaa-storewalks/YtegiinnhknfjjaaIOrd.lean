/- The document's five orders of whole numbers; the verifier's made. -/
import Derived.Test.YtegiinnhknfjjaaICall
import Derived.Test.YtegiinnhknfjjaaSOrd
namespace Go.Proofs.Ytegiinnhknfjjaa.IM
open Go.RowKit

/-- A number modulo another one, 0 at least. -/
def rst (a n : Int) : Int := (a.tmod n + n).tmod n

theorem rst7 (a : Int) : 0 ≤ rst a 7 ∧ rst a 7 < 7 := by
  unfold rst
  have h1 : -7 < a.tmod 7 := Int.lt_tmod_of_pos a (by decide)
  have h2 : a.tmod 7 < 7 := Int.tmod_lt_of_pos a (by decide)
  rw [Int.tmod_eq_emod_of_nonneg (by omega)]
  omega

theorem rst2 (a : Int) : 0 ≤ rst a 2 ∧ rst a 2 < 2 := by
  unfold rst
  have h1 : -2 < a.tmod 2 := Int.lt_tmod_of_pos a (by decide)
  have h2 : a.tmod 2 < 2 := Int.tmod_lt_of_pos a (by decide)
  rw [Int.tmod_eq_emod_of_nonneg (by omega)]
  omega

/-- The five orders. -/
def ordv (which a b : Int) : Int :=
  if which = 0 then cmpI a b
  else if which = 1 then cmpI b a
  else if which = 2 then cmpI (rst a 7) (rst b 7)
  else if which = 3 then (if rst a 2 = rst b 2 then cmpI a b else cmpI (rst a 2) (rst b 2))
  else 0

theorem cmpI_val (a b : Int) : (a < b ∧ cmpI a b = -1) ∨ (a = b ∧ cmpI a b = 0) ∨ (b < a ∧ cmpI a b = 1) := by
  unfold cmpI
  rcases Int.lt_trichotomy a b with h | h | h
  · exact .inl ⟨h, if_pos h⟩
  · exact .inr (.inl ⟨h, by rw [if_neg (by omega), if_neg (by omega)]⟩)
  · exact .inr (.inr ⟨h, by rw [if_neg (by omega), if_pos h]⟩)

theorem cmpI_ord : Ordr cmpI where
  anti := fun a b => by have := cmpI_val a b; have := cmpI_val b a; omega
  trans := fun a b d h1 h2 => by have := cmpI_val a b; have := cmpI_val b d; have := cmpI_val a d; omega

theorem ordv_ord (which : Int) : Ordr (ordv which) where
  anti := fun a b => by
    unfold ordv
    split
    · exact cmpI_ord.anti a b
    · split
      · exact cmpI_ord.anti b a
      · split
        · exact cmpI_ord.anti _ _
        · split
          · by_cases h : rst a 2 = rst b 2
            · rw [if_pos h, if_pos h.symm]; exact cmpI_ord.anti a b
            · rw [if_neg h, if_neg (fun e => h e.symm)]; exact cmpI_ord.anti _ _
          · rfl
  trans := fun a b d => by
    unfold ordv
    split
    · exact cmpI_ord.trans a b d
    · split
      · exact fun h1 h2 => cmpI_ord.trans d b a h2 h1
      · split
        · exact cmpI_ord.trans _ _ _
        · split
          · have v1 := cmpI_val a b; have v2 := cmpI_val b d; have v3 := cmpI_val a d
            have u1 := cmpI_val (rst a 2) (rst b 2); have u2 := cmpI_val (rst b 2) (rst d 2); have u3 := cmpI_val (rst a 2) (rst d 2)
            generalize rst a 2 = ra at *
            generalize rst b 2 = rb at *
            generalize rst d 2 = rd at *
            intro g1 g2
            split at g1 <;> split at g2 <;> split <;> omega
          · exact fun _ _ => Int.le_refl _

theorem ordv_val (which a b : Int) : ordv which a b = -1 ∨ ordv which a b = 0 ∨ ordv which a b = 1 := by
  unfold ordv
  have v1 := cmpI_val a b; have v2 := cmpI_val b a; have v3 := cmpI_val (rst a 7) (rst b 7); have v4 := cmpI_val (rst a 2) (rst b 2)
  split
  · omega
  · split
    · omega
    · split
      · omega
      · split
        · split <;> omega
        · omega

/-- What made's function answers. -/
def ord3 (which a b : Int) : Int := 3 * ordv which a b

theorem ord3_ord (which : Int) : Ordr (ord3 which) where
  anti := fun a b => by unfold ord3; rw [(ordv_ord which).anti a b]; omega
  trans := fun a b d h1 h2 => by
    unfold ord3 at *
    have := (ordv_ord which).trans a b d (by omega) (by omega)
    omega

set_option maxRecDepth 100000 in
theorem plain_any (a b : Int) (w : World) : Calls Try.prog 61 #[.int .i64 a, .int .i64 b] w fun e w' => e = .returned (.int .i64 (cmpI a b)) ∧ w' = w := by
  unfold cmpI
  rcases Int.lt_trichotomy a b with h | h | h
  · go_enter Try.func61, Try.ntmps61
    go_wp2_with fail
    go_ret
    exact ⟨by simp, rfl⟩
  · subst h
    go_enter Try.func61, Try.ntmps61
    go_wp2_with fail
    go_ret
    exact ⟨by simp, rfl⟩
  · have h' : ¬ a < b := by omega
    go_enter Try.func61, Try.ntmps61
    go_wp2_with fail
    go_ret
    exact ⟨by simp, rfl⟩

theorem rest_wrap {a n : Int} (h : 0 < n) (hn : n ≤ 7) : wrap64 (a.tmod n + n) = a.tmod n + n := by
  have h1 : -n < a.tmod n := Int.lt_tmod_of_pos a h
  have h2 : a.tmod n < n := Int.tmod_lt_of_pos a h
  unfold wrap64; omega

set_option maxRecDepth 100000 in
theorem rest_any (a n : Int) (hn : n = 7 ∨ n = 2) (w : World) : Calls Try.prog 62 #[.int .i64 a, .int .i64 n] w fun e w' => e = .returned (.int .i64 (rst a n)) ∧ w' = w := by
  unfold rst
  rcases hn with rfl | rfl
  · have hw := rest_wrap (a := a) (n := 7) (by decide) (by decide)
    go_enter Try.func62, Try.ntmps62
    go_wp2_with fail
    go_ret
    exact ⟨by simp, rfl⟩
  · have hw := rest_wrap (a := a) (n := 2) (by decide) (by decide)
    go_enter Try.func62, Try.ntmps62
    go_wp2_with fail
    go_ret
    exact ⟨by simp, rfl⟩

end Go.Proofs.Ytegiinnhknfjjaa.IM
