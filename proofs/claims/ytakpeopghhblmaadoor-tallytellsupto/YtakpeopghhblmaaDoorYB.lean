/- Values put to a tally, one by one. -/
import Derived.Test.YtakpeopghhblmaaDoorYA
namespace Go.Proofs.YtakpeopghhblmaaDoor
open Go.RowKit

/-- A value more. -/
def addT (t : Tl) (v : Int) : Tl := putT t ⟨1, v, v, v⟩

/-- A number of 64 bits. -/
def I64 (x : Int) : Prop := -9223372036854775808 ≤ x ∧ x ≤ 9223372036854775807

/-- All its numbers have 64 bits. -/
structure Tl.Ok (t : Tl) : Prop where
  c : I64 t.c
  s : I64 t.s
  m : I64 t.m
  x : I64 t.x

theorem wrap64_in (x : Int) : I64 (wrap64 x) := by unfold I64 wrap64; omega
theorem wrap64_id {x : Int} (h : I64 x) : wrap64 x = x := by unfold I64 at h; unfold wrap64; omega

theorem tl_frozen {w : World} {b : Nat} {c : Array Value} {ty : TypeId} (h : w.heap[b]? = some (.cells c ty (0, 0))) :
    w.frozen? ⟨b, 0, none⟩ = false ∧ w.frozen? ⟨b, 1, none⟩ = false ∧ w.frozen? ⟨b, 2, none⟩ = false ∧ w.frozen? ⟨b, 3, none⟩ = false := by simp [World.frozen?, h]

set_option maxRecDepth 100000 in
set_option maxHeartbeats 1000000 in
theorem add_any (t : Tl) (v : Int) (w : World) : Calls Tryd.prog 11 #[tlv t, .int .i64 v] w fun e w' => e = .returned (tlv (addT t v)) ∧ Calm w w' := by
  have P := fun w => hide (put_any t ⟨1, v, v, v⟩ (Int.le_refl 1) w)
  unfold addT
  go_enter Tryd.func11, Tryd.ntmps11
  go_wp2_with fail
  refine (P _).out.mono ?_
  rintro e w1 ⟨rfl, hq⟩
  have A2 := hq.at (al_new (w.alloc _) _)
  rw [al_size] at A2
  have T1 := hide (Touch.tr ((((Touch.refl (fun _ => False) w).alloc _).alloc _)) hq)
  clear P hq
  generalize hr : putT t ⟨1, v, v, v⟩ = r
  have HR := hide hr
  clear hr
  obtain ⟨c0, c1, c2, c3⟩ := tl_cells (t := ⟨0, 0, 0, 0⟩) A2
  obtain ⟨z0, z1, z2, z3⟩ := tl_frozen A2
  obtain ⟨A3, T3⟩ := tl_set (t := ⟨0, 0, 0, 0⟩) r A2
  have A4 := hide A3
  have T4 := hide (Touch.trans T1.out T3 (fun k hk e => by omega))
  clear A2 A3 T3 T1
  go_wp2_with fail
  refine bodyPost_ret (results_cell_row rfl _ _ _ _ _ _ _ rfl A4.out Tryd.underlying24 rfl (by kernel_rfl)) rfl ?_
  exact ⟨by rw [HR.out], T4.out⟩

theorem addT_eq {t : Tl} {v : Int} (hv : I64 v) : addT t v = if t.c < 1 then ⟨1, v, v, v⟩ else ⟨if t.c < 9007199254740992 then t.c + 1 else 9007199254740992, wrap64 (t.s + v), min t.m v, max t.x v⟩ := by
  unfold addT putT rawT
  by_cases h : t.c < 1
  · simp only [h, if_true]
    have e1 : cnt 0 1 = 1 := by decide
    rw [e1]
    have e2 : wrap64 (0 + v) = v := by rw [Int.zero_add]; exact wrap64_id hv
    rw [e2]
    simp
  · simp only [h, if_false]
    have e1 : cnt t.c 1 = if t.c < 9007199254740992 then t.c + 1 else 9007199254740992 := by unfold cnt; split <;> omega
    rw [e1]

end Go.Proofs.YtakpeopghhblmaaDoor
