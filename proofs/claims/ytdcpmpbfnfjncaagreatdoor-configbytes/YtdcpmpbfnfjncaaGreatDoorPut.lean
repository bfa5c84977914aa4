/- Walks: what wire's putNumber does to memory. -/
import Derived.Test.YtdcpmpbfnfjncaaGreatDoorNum
import Derived.Test.YtdcpmpbfnfjncaaGreatDoorProg
namespace Go.Proofs.YtdcpmpbfnfjncaaGreatDoor
open Go.RowKit

theorem Tryz.info5 : (Tryz.prog.info? 5).map (fun i => (i.zero, i.size, i.bytes)) = some (some (.int .u8 0), 1, 1) := by kernel_rfl

set_option maxRecDepth 100000 in
set_option maxHeartbeats 400000 in
theorem putNumber_any (v : Value) (bs : List Int) (X : Nat) (w : World) (hX : X < 18446744073709551616) (hown : Row w 5 .u8 v bs) (hb : bs.length ≤ 140737488351232) :
    Calls Tryz.prog 37 #[v, .int .u64 X] w (RetRow 5 .u8 w v (bs ++ numb X)) := by
  obtain ⟨i0, hi, hz0, hz1, hz2⟩ := info_parts Tryz.info5
  have HX : Hid (X < 18446744073709551616) := hX
  clear hX
  go_enter Tryz.func37, Tryz.ntmps37
  go_wp2
  go_loopw [0, 1] (fun b x wr => ∃ (ys : List Int) (y : Nat), x = .int .u64 y ∧ y ≤ X ∧ ys ++ numb y = bs ++ numb X ∧ Row wr 5 .u8 b ys ∧ Grew w v wr b) (fun _ x _ => (intOf x).toNat)
  case atStart => exact ⟨bs, X, rfl, Nat.le_refl _, rfl, hown, Grew.refl _ _⟩
  case round =>
    obtain ⟨ys, y, rfl, hy, hcat, hrow, hgrew⟩ := hrel
    have hlen : ys.length ≤ bs.length + 10 := by
      have := congrArg List.length hcat
      have h2 := numb_len10 HX.out
      simp at this; omega
    have HC : Hid (ys ++ numb y = bs ++ numb X) := hcat
    clear hcat
    by_cases hlt : y < 128
    · go_wp2_with (at_builtin; refine wpList_append_row _ rfl (.tmp 15) (.tmp 18) 25 25 rfl 5 i0 (.int .u8 0) .u8 1 Tryz.underlying25 hi hz0 hz1 hz2 rfl _ ys rfl (hrow.alloc _) _ [(y : Int)] rfl (src_one Tryz.underlying25 _ _ _ _) ?b1 ?b2 ?nx)
      case b1 => simp only [List.length_singleton]; unfold maxLen; omega
      case b2 => simp only [List.length_singleton]; omega
      case nx =>
        intro ao n cap w1 hrow1 hgrew1
        have R : Row w1 5 .u8 (.slice ao n cap) (bs ++ numb X) := by
          rw [← HC.out, numb_lo hlt]
          exact hrow1
        have G : Grew w v w1 (.slice ao n cap) := (hgrew.alloc _).trans hgrew1
        clear hrow1 hgrew1 hrow hgrew
        go_wp2
        go_ret
        exact RetRow.mk R G
    · go_wp2_with (at_builtin; refine wpList_append_row _ rfl (.tmp 7) (.tmp 11) 25 25 rfl 5 i0 (.int .u8 0) .u8 1 Tryz.underlying25 hi hz0 hz1 hz2 rfl _ ys rfl (hrow.alloc _) _ [bits .or .u8 ((y : Int) % 256) 128] rfl (src_one Tryz.underlying25 _ _ _ _) ?b1 ?b2 ?nx)
      case b1 => simp only [List.length_singleton]; unfold maxLen; omega
      case b2 => simp only [List.length_singleton]; omega
      case nx =>
        intro ao n cap w1 hrow1 hgrew1
        rw [or128] at hrow1
        have R : (ys ++ [((y % 128 + 128 : Nat) : Int)]) ++ numb (y / 128) = bs ++ numb X := by
          rw [← HC.out, numb_hi (x := y) (by omega)]; simp
        have G : Grew w v w1 (.slice ao n cap) := (hgrew.alloc _).trans hgrew1
        clear hgrew1 hrow hgrew
        have H : Hid ((ys ++ [((y % 128 + 128 : Nat) : Int)]) ++ numb (y / 128) = bs ++ numb X) := R
        clear R
        go_wp2
        go_roundw
        case rel => exact ⟨_, y / 128, by go_num, by omega, H.out, hrow1, G⟩
        case measure => simp [intOf]; omega

end Go.Proofs.YtdcpmpbfnfjncaaGreatDoor
