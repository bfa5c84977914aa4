/- The walk of CrcBytes. -/
import Derived.Test.YtfnbbekkcopmbaaDoorLaid
import Derived.Test.YtfnbbekkcopmbaaDoorSums
import Derived.Test.YtfnbbekkcopmbaaDoorLend
import Derived.Test.YtfnbbekkcopmbaaDoorArrEq
import Derived.BigQuiet
import Derived.BigRegion
import Derived.Deep.CutRange
import Derived.Deep.RegionHeld3
namespace Go.Proofs.YtfnbbekkcopmbaaDoor
open Go.ChangeShapes Go.WideShapes Go.ChangeAt Go.RowKit Crcx

theorem word_of {s : Nat} (h : s < 4294967296) : word (s % 256) (s / 256 % 256) (s / 65536 % 256) (s / 16777216 % 256) = s := by
  unfold word; omega

set_option maxRecDepth 100000 in
theorem rbytes_any (s : Nat) (hs : s < 4294967296) (w : World) :
    Calls Tryd.prog 7 #[.int .u32 s] w fun e w' => e = .returned (.agg (four8 s)) ∧ Touch (fun _ => False) w w' := by
  have he : (s : Int) / 16777216 = ((s / 16777216 % 256 : Nat) : Int) := by omega
  have hi : (Tryd.prog.info? 24).map (·.size) = some (four8 s).size := by kernel_rfl
  have H := hide (show #[.int .u8 ((s : Int) % 256), .int .u8 ((s : Int) / 256 % 256), .int .u8 ((s : Int) / 65536 % 256), .int .u8 ((s : Int) / 16777216)] = four8 s by rw [he]; rfl)
  clear he
  go_enter Tryd.func7, Tryd.ntmps7
  go_wp2_with fail
  rw [H.out]
  refine bodyPost_ret (results_cell_row rfl _ _ _ _ _ _ _ rfl (heap_alloc_last w _) Tryd.underlying24 rfl hi) rfl ?_
  exact ⟨rfl, (Touch.refl _ _).alloc _⟩

theorem four_same (s : Nat) (W : World) : (Op.equalIn 10000 24 (.agg (four8 s)) (.agg (four8 s))).run Tryd.prog W = .ok true W := by
  obtain ⟨iu, hiu⟩ := Option.isSome_iff_exists.1 (show (Tryd.prog.info? 5).isSome = true by kernel_rfl)
  refine equalIn_same (k := .u8) Tryd.underlying24 hiu cellsU8 Tryd.underlying5 _ _ W (fun i hi => ?_)
  match i, hi with
  | 0, _ => exact ⟨_, rfl, rfl⟩
  | 1, _ => exact ⟨_, rfl, rfl⟩
  | 2, _ => exact ⟨_, rfl, rfl⟩
  | 3, _ => exact ⟨_, rfl, rfl⟩

/-- A call that comes up in a region. -/
theorem wpOp_call {P : Program} {ops : Array Oper} {Q : Exit → Act → World → Prop} {i : Nat} {o : Oper} {K : Act → World → Prop} {a : Act} {w : World} {f : FuncId} {args : Array Value} (hi : ops[i]? = some o) (hw : Region.wanted o (yielded ops a.tmps) = true)
    (hrun : (execOp a.eval o).run P w = .ok (.enter f args) w) (hc : Calls P f args w fun e w'' => ∃ v, e = .returned v ∧ K (a.put o.dst v) w'') : wpOp P ops Q i K a w := by
  unfold wpOp
  simp only [hi, hw, if_true]
  left
  unfold Oper.wp
  rw [hrun, Oper.upon_enter]
  refine hc.mono fun e w'' hh => ?_
  obtain ⟨v, rfl, h⟩ := hh
  exact h

/-- An operation that yields a value in a world of its own. -/
theorem wpOp_value {P : Program} {ops : Array Oper} {Q : Exit → Act → World → Prop} {i : Nat} {o : Oper} {K : Act → World → Prop} {a : Act} {w w' : World} {v : Value} (hi : ops[i]? = some o) (hw : Region.wanted o (yielded ops a.tmps) = true)
    (hrun : (execOp a.eval o).run P w = .ok (.value v) w') (h : K (a.put o.dst v) w') : wpOp P ops Q i K a w := by
  unfold wpOp
  simp only [hi, hw, if_true]
  left
  unfold Oper.wp
  rw [hrun, Oper.upon_value]
  exact h

end Go.Proofs.YtfnbbekkcopmbaaDoor
