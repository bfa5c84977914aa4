/- A job's text (notions; the library's FormatInt). -/
import Derived.Test.YtdcpmpbfnfjncaaGreatDoorCB0
import Derived.Test.YtdcpmpbfnfjncaaGreatDoorShf
import Derived.Lib.ItoaLen
import Derived.Lib.AppendIntMem
namespace Go.Proofs.YtdcpmpbfnfjncaaGreatDoor
open Go.RowKit

/-- The library's table of tens stands. -/
def Tab (w : World) : Prop := Lib.TabIs Tryz.prog w "internal/strconv.uint64pow10" .u64 Lib.pow10Tab
theorem Tab.calm {w w' : World} (h : Tab w) (ht : Calm w w') : Tab w' := Lib.tabBelow_of_tabIs h w' (Touch.below ht fun _ _ h => h)

set_option maxRecDepth 100000 in
theorem format_any (n : Int) (h0 : -9223372036854775808 ≤ n) (h1 : n ≤ 9223372036854775807) (w : World) (ht : Tab w) : Calls Tryz.prog 41 #[.int .i64 n, .int .i64 10] w fun e w' => e = .returned (.string ⟨(Lib.itoa n).toArray⟩) ∧ Calm w w' := by
  have CF : Hid (Calls Tryz.prog 53 #[.int .i64 n, .int .i64 10] w fun e w' => e = .returned (.string ⟨(Lib.itoa n).toArray⟩) ∧ ∃ k os, w' = Go.Sort.grow (w.drewN k) os) := hide (Any.internal_strconv_FormatInt_10 Tryz.laysM246 n h0 h1 w ht)
  go_enter Tryz.func41, Tryz.ntmps41
  go_wp2_with fail
  refine CF.out.mono ?_
  rintro e w1 ⟨rfl, k, os, rfl⟩
  have T1 : Hid (Calm w (Go.Sort.grow (w.drewN k) os)) := hide ⟨rfl, rfl, rfl, Lib.size_grow w k os, fun g hg _ => Lib.heap_grow_old w k os g hg⟩
  go_wp2_with fail
  go_ret
  exact ⟨rfl, T1.out⟩

/-- The fields' words. -/
def nm : Nat → ByteArray
  | 0 => ⟨#[103, 114, 111, 117, 112, 115]⟩
  | 1 => ⟨#[115, 111, 117, 114, 99, 101, 115]⟩
  | 2 => ⟨#[107, 105, 110, 100]⟩
  | 3 => ⟨#[115, 105, 122, 101]⟩
  | 4 => ⟨#[115, 108, 105, 100, 101]⟩
  | 5 => ⟨#[111, 102, 102, 115, 101, 116]⟩
  | 6 => ⟨#[103, 97, 112]⟩
  | 7 => ⟨#[108, 97, 116, 101]⟩
  | 8 => ⟨#[101, 97, 114, 108, 121]⟩
  | _ => ⟨#[100, 105, 115, 99, 97, 114, 100]⟩
abbrev nms : Array Value := #[.string ⟨#[103, 114, 111, 117, 112, 115]⟩, .string ⟨#[115, 111, 117, 114, 99, 101, 115]⟩, .string ⟨#[107, 105, 110, 100]⟩, .string ⟨#[115, 105, 122, 101]⟩, .string ⟨#[115, 108, 105, 100, 101]⟩, .string ⟨#[111, 102, 102, 115, 101, 116]⟩, .string ⟨#[103, 97, 112]⟩, .string ⟨#[108, 97, 116, 101]⟩, .string ⟨#[101, 97, 114, 108, 121]⟩, .string ⟨#[100, 105, 115, 99, 97, 114, 100]⟩]
theorem nms_cell {w : World} {b : Nat} {ty : TypeId} (h : w.heap[b]? = some (.cells nms ty (0, 0))) (i : Nat) (hi : i < 10) : w.cell? ⟨b, i, none⟩ = some (.string (nm i)) := by
  rcases (by omega : i = 0 ∨ i = 1 ∨ i = 2 ∨ i = 3 ∨ i = 4 ∨ i = 5 ∨ i = 6 ∨ i = 7 ∨ i = 8 ∨ i = 9) with rfl | rfl | rfl | rfl | rfl | rfl | rfl | rfl | rfl | rfl <;> simp [World.cell?, h, nm]
theorem nm_size (i : Nat) : (nm i).size ≤ 7 := by
  unfold nm
  split <;> decide

/-- A field's value, in words. -/
def valB (i : Nat) (x : Int) : ByteArray :=
  if i = 2 then if x = 1 then ⟨#[116, 117, 109, 98, 108, 105, 110, 103]⟩ else if x = 2 then ⟨#[115, 108, 105, 100, 105, 110, 103]⟩ else ⟨#[115, 101, 115, 115, 105, 111, 110]⟩
  else if i = 9 then if x = 0 then ⟨#[110, 111]⟩ else ⟨#[121, 101, 115]⟩
  else ⟨(Lib.itoa x).toArray⟩
/-- The value may stand there. -/
def ValOk (i : Nat) (x : Int) : Prop := (i = 2 → 1 ≤ x ∧ x ≤ 3) ∧ (i = 9 → 0 ≤ x ∧ x ≤ 1) ∧ -9223372036854775808 ≤ x ∧ x ≤ 9223372036854775807

end Go.Proofs.YtdcpmpbfnfjncaaGreatDoor
