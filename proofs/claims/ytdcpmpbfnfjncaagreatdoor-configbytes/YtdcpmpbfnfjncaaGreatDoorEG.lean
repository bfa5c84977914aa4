/- A job's text (the program's names, value). -/
import Derived.Test.YtdcpmpbfnfjncaaGreatDoorEC
import Derived.Test.YtdcpmpbfnfjncaaGreatDoorCT0
namespace Go.Proofs.YtdcpmpbfnfjncaaGreatDoor
open Go.RowKit

abbrev kindsC : Array Value := #[.string ⟨#[116, 117, 109, 98, 108, 105, 110, 103]⟩, .string ⟨#[115, 108, 105, 100, 105, 110, 103]⟩, .string ⟨#[115, 101, 115, 115, 105, 111, 110]⟩]
abbrev discC : Array Value := #[.string ⟨#[110, 111]⟩, .string ⟨#[121, 101, 115]⟩]

set_option maxRecDepth 100000 in
theorem names_2 (w : World) : Calls Tryz.prog 40 #[.int .i64 2] w fun e w' => e = .returned (.tuple #[.slice (some ⟨w.heap.size, 0, none⟩) 3 3, .int .i64 1]) ∧ w' = w.alloc (.cells kindsC 9) := by
  go_enter Tryz.func40, Tryz.ntmps40
  go_wp2_with fail
  go_ret2
  exact ⟨rfl, rfl⟩
set_option maxRecDepth 100000 in
theorem names_9 (w : World) : Calls Tryz.prog 40 #[.int .i64 9] w fun e w' => e = .returned (.tuple #[.slice (some ⟨w.heap.size, 0, none⟩) 2 2, .int .i64 0]) ∧ w' = w.alloc (.cells discC 9) := by
  go_enter Tryz.func40, Tryz.ntmps40
  go_wp2_with fail
  go_ret2
  exact ⟨rfl, rfl⟩
set_option maxRecDepth 100000 in
theorem names_else (i : Nat) (h2 : ¬ i = 2) (h9 : ¬ i = 9) (w : World) : Calls Tryz.prog 40 #[.int .i64 (i : Int)] w fun e w' => e = .returned (.tuple #[.slice none 0 0, .int .i64 0]) ∧ w' = w := by
  have z2 : ¬ (i : Int) = 2 := by omega
  have z9 : ¬ (i : Int) = 9 := by omega
  have d2 : ((i : Int) == 2) = false := by simp; omega
  have d9 : ((i : Int) == 9) = false := by simp; omega
  clear h2 h9
  go_enter Tryz.func40, Tryz.ntmps40
  go_wp2_with fail
  go_ret2
  exact ⟨rfl, rfl⟩

set_option maxRecDepth 100000 in
theorem value_2_1 (w : World) : Calls Tryz.prog 21 #[.int .i64 2, .int .i64 1] w fun e w' => e = .returned (.string (valB 2 1)) ∧ Calm w w' := by
  have CN := hide (names_2 w)
  have T0 := hide ((Touch.refl (fun _ => False) w).alloc (.cells kindsC 9))
  go_enter Tryz.func21, Tryz.ntmps21
  go_wp2_with fail
  refine CN.out.mono ?_
  rintro e w1 ⟨rfl, rfl⟩
  go_wp2_with fail
  go_ret
  exact ⟨rfl, T0.out⟩
set_option maxRecDepth 100000 in
theorem value_2_2 (w : World) : Calls Tryz.prog 21 #[.int .i64 2, .int .i64 2] w fun e w' => e = .returned (.string (valB 2 2)) ∧ Calm w w' := by
  have CN := hide (names_2 w)
  have T0 := hide ((Touch.refl (fun _ => False) w).alloc (.cells kindsC 9))
  go_enter Tryz.func21, Tryz.ntmps21
  go_wp2_with fail
  refine CN.out.mono ?_
  rintro e w1 ⟨rfl, rfl⟩
  go_wp2_with fail
  go_ret
  exact ⟨rfl, T0.out⟩
set_option maxRecDepth 100000 in
theorem value_2_3 (w : World) : Calls Tryz.prog 21 #[.int .i64 2, .int .i64 3] w fun e w' => e = .returned (.string (valB 2 3)) ∧ Calm w w' := by
  have CN := hide (names_2 w)
  have T0 := hide ((Touch.refl (fun _ => False) w).alloc (.cells kindsC 9))
  go_enter Tryz.func21, Tryz.ntmps21
  go_wp2_with fail
  refine CN.out.mono ?_
  rintro e w1 ⟨rfl, rfl⟩
  go_wp2_with fail
  go_ret
  exact ⟨rfl, T0.out⟩
set_option maxRecDepth 100000 in
theorem value_9_0 (w : World) : Calls Tryz.prog 21 #[.int .i64 9, .int .i64 0] w fun e w' => e = .returned (.string (valB 9 0)) ∧ Calm w w' := by
  have CN := hide (names_9 w)
  have T0 := hide ((Touch.refl (fun _ => False) w).alloc (.cells discC 9))
  go_enter Tryz.func21, Tryz.ntmps21
  go_wp2_with fail
  refine CN.out.mono ?_
  rintro e w1 ⟨rfl, rfl⟩
  go_wp2_with fail
  go_ret
  exact ⟨rfl, T0.out⟩
set_option maxRecDepth 100000 in
theorem value_9_1 (w : World) : Calls Tryz.prog 21 #[.int .i64 9, .int .i64 1] w fun e w' => e = .returned (.string (valB 9 1)) ∧ Calm w w' := by
  have CN := hide (names_9 w)
  have T0 := hide ((Touch.refl (fun _ => False) w).alloc (.cells discC 9))
  go_enter Tryz.func21, Tryz.ntmps21
  go_wp2_with fail
  refine CN.out.mono ?_
  rintro e w1 ⟨rfl, rfl⟩
  go_wp2_with fail
  go_ret
  exact ⟨rfl, T0.out⟩

set_option maxRecDepth 100000 in
theorem value_any (i : Nat) (x : Int) (hi : i < 10) (hx : ValOk i x) (w : World) (ht : Tab w) : Calls Tryz.prog 21 #[.int .i64 (i : Int), .int .i64 x] w fun e w' => e = .returned (.string (valB i x)) ∧ Calm w w' := by
  obtain ⟨v1, v2, v3, v4⟩ := hx
  by_cases h2 : i = 2
  · subst h2
    obtain ⟨a, b⟩ := v1 rfl
    rcases (by omega : x = 1 ∨ x = 2 ∨ x = 3) with rfl | rfl | rfl
    · exact value_2_1 w
    · exact value_2_2 w
    · exact value_2_3 w
  · by_cases h9 : i = 9
    · subst h9
      obtain ⟨a, b⟩ := v2 rfl
      rcases (by omega : x = 0 ∨ x = 1) with rfl | rfl
      · exact value_9_0 w
      · exact value_9_1 w
    · have HV : Hid (valB i x = ⟨(Lib.itoa x).toArray⟩) := hide (by unfold valB; rw [if_neg h2, if_neg h9])
      have CF := hide (format_any x v3 v4 w ht)
      have CN := hide (names_else i h2 h9 w)
      clear v1 v2 h2 h9
      go_enter Tryz.func21, Tryz.ntmps21
      go_wp2_with fail
      refine CN.out.mono ?_
      rintro e w0 ⟨rfl, hw0⟩
      subst hw0
      go_wp2_with fail
      refine CF.out.mono ?_
      rintro e w1 ⟨rfl, T1⟩
      have HT := hide T1
      clear T1 CF
      go_wp2_with fail
      go_ret
      exact ⟨by rw [HV.out]; rfl, HT.out⟩

end Go.Proofs.YtdcpmpbfnfjncaaGreatDoor
