/- Frames: what they are; the program's Size, lay, Put. -/
import Derived.Test.YtfeifobljgmkkaaDoorFWr
import Derived.Test.YtfeifobljgmkkaaDoorFSiz
import Derived.Test.YtfeifobljgmkkaaDoorFCrc
namespace Go.Proofs.YtfeifobljgmkkaaDoor
open Go.RowKit Crcx

/-- A sum's four bytes, the lowest first. -/
def sum4 (s : Nat) : List Int := [((s % 256 : Nat) : Int), ((s / 256 % 256 : Nat) : Int), ((s / 65536 % 256 : Nat) : Int), ((s / 16777216 % 256 : Nat) : Int)]

/-- What is summed up of a frame. -/
def summed (tag : Int) (body : List Int) : List Int := (tag :: numb body.length) ++ body

/-- A frame. -/
def frm (tag : Int) (body : List Int) : List Int := summed tag body ++ sum4 (more 0 (nats (summed tag body)))

/-- How many bytes a frame has. -/
def fsize (n : Nat) : Nat := 1 + (numb n).length + n + 4

theorem frm_len (tag : Int) (body : List Int) : (frm tag body).length = fsize body.length := by
  unfold frm summed sum4 fsize; simp; omega

theorem numb5 {n : Nat} (h : n ≤ 268435456) : (numb n).length ≤ 5 := numb_len 4 n (by omega)

theorem fsize_le {n : Nat} (h : n ≤ 268435456) : fsize n ≤ n + 10 := by have := numb5 h; unfold fsize; omega

set_option maxRecDepth 100000 in
theorem fsize_any (n : Nat) (hn : n ≤ 268435456) (w : World) :
    Calls Tryd.prog 14 #[.int .i64 n] w fun e w' => e = .returned (.int .i64 (fsize n : Int)) ∧ w = w' := by
  have SZ := hide (size_any n w (by omega))
  have h5 := numb5 hn
  have h1 : ¬ (n : Int) < 0 := by omega
  have h2 : ¬ (268435456 : Int) < (n : Int) := by omega
  have hc : IntKind.u64.wrap (n : Int) = (n : Int) := by rw [IntKind.wrap_u64]; omega
  have HE : Hid ((1 : Int) + ((numb n).length : Int) + (n : Int) + 4 = (fsize n : Int)) := hide (by unfold fsize; omega)
  generalize (numb n).length = k at *
  go_enter Tryd.func14, Tryd.ntmps14
  go_wp2_with fail
  refine SZ.out.mono ?_
  rintro e w' ⟨rfl, rfl⟩
  go_wp2_with fail
  go_ret
  exact ⟨ret_int HE.out, rfl⟩

set_option maxRecDepth 100000 in
theorem fsize_no (n : Int) (hn : n < 0 ∨ 268435456 < n) (w : World) :
    Calls Tryd.prog 14 #[.int .i64 n] w fun e w' => e = .returned (.int .i64 0) ∧ w = w' := by
  by_cases h1 : n < 0
  · go_enter Tryd.func14, Tryd.ntmps14
    go_wp2_with fail
    go_ret
    exact ⟨rfl, rfl⟩
  · have h2 : 268435456 < n := by omega
    clear hn
    go_enter Tryd.func14, Tryd.ntmps14
    go_wp2_with fail
    go_ret
    exact ⟨rfl, rfl⟩

end Go.Proofs.YtfeifobljgmkkaaDoor
