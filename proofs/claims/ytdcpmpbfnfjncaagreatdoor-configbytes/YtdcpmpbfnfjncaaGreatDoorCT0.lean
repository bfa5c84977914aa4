/- A job's text (notions). -/
import Derived.Test.YtdcpmpbfnfjncaaGreatDoorCV0
import Derived.Test.YtdcpmpbfnfjncaaGreatDoorYS
namespace Go.Proofs.YtdcpmpbfnfjncaaGreatDoor
open Go.RowKit

theorem valB_size {i : Nat} {x : Int} (h : ValOk i x) : (valB i x).size ≤ 21 := by
  unfold valB
  split
  · split
    · decide
    · split <;> decide
  · split
    · split <;> decide
    · show (Lib.itoa x).toArray.size ≤ 21
      rw [List.size_toArray]
      exact Lib.itoa_length_le x h.2.2.1 h.2.2.2

/-- A blank. -/
def spB : ByteArray := ⟨#[32]⟩
/-- The text of the first i fields. -/
def txtS (c : Cf) : Nat → ByteArray
  | 0 => ⟨#[]⟩
  | i + 1 => (((if i = 0 then txtS c i else txtS c i ++ spB) ++ nm i) ++ spB) ++ valB i (fldF c i)
/-- All fields' values may stand. -/
def TxtOk (c : Cf) : Prop := ∀ i, i < 10 → ValOk i (fldF c i)
theorem txtS_size {c : Cf} (h : TxtOk c) : ∀ i, i ≤ 10 → (txtS c i).size ≤ 30 * i
  | 0, _ => by simp [txtS]; rfl
  | i + 1, hi => by
    have h1 := txtS_size h i (by omega)
    have h2 := nm_size i
    have h3 := valB_size (h i (by omega))
    have h4 : spB.size = 1 := rfl
    rw [txtS]
    by_cases h0 : i = 0
    · rw [if_pos h0]
      simp only [ByteArray.size_append]
      omega
    · rw [if_neg h0]
      simp only [ByteArray.size_append]
      omega

theorem str_add (t : TypeId) (a b : ByteArray) (h : a.size + b.size ≤ 1000000) : binOp .add t (.string a) (.string b) = pure (.string (a ++ b)) := by
  rw [binOp_string_add]
  unfold Op.stringOp
  have : ¬ ((a.size + b.size : Nat) : Int) > IntKind.i64.max := by
    have e : IntKind.i64.max = 9223372036854775807 := by decide
    rw [e]; omega
  simp only [this, if_false]

/-- The words lie there. -/
def Words (w : World) (g : Nat) : Prop := ∀ W, Calm w W → ∀ i, i < 10 → W.cell? ⟨g, i, none⟩ = some (.string (nm i))
theorem Words.calm {w w' : World} {g : Nat} (h : Words w g) (ht : Calm w w') : Words w' g := fun W hW => h W (ht.tr hW)

end Go.Proofs.YtdcpmpbfnfjncaaGreatDoor
