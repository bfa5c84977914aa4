/- Plain mathematics: what was written is read again. -/
import Derived.Test.YthhajlbnnffgnaaWrs
namespace Go.Proofs.Ythhajlbnnffgnaa
open Go.RowKit

theorem scanF_numb (y : Nat) : ∀ (i acc : Nat) (r : List Int), i ≤ 9 → acc + y * 128 ^ i < 18446744073709551616 → (0 < i → 0 < y) → scanF i acc (numb y ++ r) = (acc + y * 128 ^ i, i + (numb y).length, 0) := by
  induction y using Nat.strongRecOn with
  | ind y ih =>
    intro i acc r hi hb hp
    have p9 : (128 : Nat) ^ 9 = 9223372036854775808 := by decide
    by_cases h : y < 128
    · rw [numb_lo h]
      show scanF i acc ((y : Int) :: r) = _
      by_cases h9 : i = 9
      · subst h9
        rw [p9] at hb
        have : y = 1 := by have := hp (by omega); omega
        subst this
        rw [scanF, if_pos rfl, if_pos (by rfl), p9]
        simp
      · have hz : ¬ ((y : Int) = 0 ∧ 0 < i) := fun e => by have := hp e.2; omega
        rw [scanF, if_neg h9, if_neg (by omega), if_neg hz]
        simp
    · have h9 : ¬ i = 9 := by
        intro e
        subst e
        rw [p9] at hb
        omega
      rw [numb_hi (by omega)]
      show scanF i acc (((y % 128 + 128 : Nat) : Int) :: (numb (y / 128) ++ r)) = _
      rw [scanF, if_neg h9, if_pos (by omega)]
      have e1 : (((y % 128 + 128 : Nat) : Int)).toNat - 128 = y % 128 := by omega
      have e2 : acc + y % 128 * 128 ^ i + y / 128 * 128 ^ (i + 1) = acc + y * 128 ^ i := by
        rw [Nat.pow_succ, Nat.mul_comm (128 ^ i) 128, ← Nat.mul_assoc, Nat.add_assoc, ← Nat.add_mul, show y % 128 + y / 128 * 128 = y by omega]
      rw [e1, ih (y / 128) (by omega) (i + 1) _ r (by omega) (by rw [e2]; exact hb) (fun _ => by omega), e2]
      rw [List.length_cons, show i + 1 + (numb (y / 128)).length = i + ((numb (y / 128)).length + 1) by omega]

theorem scan_numb {x : Nat} (h : x < 18446744073709551616) (r : List Int) : scan (numb x ++ r) = (x, (numb x).length, 0) := by
  have := scanF_numb x 0 0 r (by omega) (by simpa using h) (fun h => by omega)
  simpa [scan] using this

theorem unz_zigzag (z : Int) : unz (Lib.zigzag z) = z := by
  unfold Lib.zigzag unz
  split <;> split <;> omega

theorem str_bytesOf (s : ByteArray) : strOfNums (bytesOf s) = s := by
  have h : (strOfNums (bytesOf s)).data.toList = s.data.toList := by
    rw [strOfNums_data]
    unfold bytesOf
    rw [List.map_map]
    have : ∀ b ∈ s.data.toList, ((fun n : Int => UInt8.ofNat n.toNat) ∘ fun b : UInt8 => (b.toNat : Int)) b = id b := by
      intro b _
      simp
    rw [List.map_congr_left this, List.map_id]
  exact ByteArray.ext (Array.toList_inj.1 h)

theorem risTo_split (xs : List Int) (k : Nat) : ∀ m, ∃ t, risTo xs (k + m) = risTo xs k ++ t
  | 0 => ⟨[], by simp⟩
  | m + 1 => by
    obtain ⟨t, ht⟩ := risTo_split xs k m
    exact ⟨t ++ risItem xs (k + m), by rw [show k + (m + 1) = k + m + 1 by omega, risTo_succ, ht, List.append_assoc]⟩

theorem getD_take (L : List Int) (k i : Nat) (h : i < k) : (L.take k).getD i 0 = L.getD i 0 := by
  rw [List.getD_eq_getElem?_getD, List.getD_eq_getElem?_getD, List.getElem?_take_of_lt h]

theorem take_snoc (L : List Int) (k : Nat) (h : k < L.length) : L.take (k + 1) = L.take k ++ [L.getD k 0] := by
  rw [List.take_add_one, List.getD_eq_getElem?_getD, List.getElem?_eq_getElem h]; rfl

theorem climb_back {bs : List Int} {p : Nat} {L r : List Int} (h64 : In64 L) (hup : Up L) (h : bs.drop p = risTo L L.length ++ r) : ∀ k, k ≤ L.length → climbF bs p k = (L.take k, p + (risTo L k).length, 0)
  | 0, _ => by simp [climbF, risTo]
  | k + 1, hk => by
    have ih := climb_back h64 hup h k (by omega)
    obtain ⟨t, ht⟩ := risTo_split L (k + 1) (L.length - (k + 1))
    rw [show k + 1 + (L.length - (k + 1)) = L.length by omega, risTo_succ, List.append_assoc] at ht
    have hd : bs.drop (p + (risTo L k).length) = risItem L k ++ (t ++ r) := by
      rw [← List.drop_drop, h, ht, List.append_assoc, List.drop_left, List.append_assoc]
    by_cases hk0 : k = 0
    · subst hk0
      have e0 : risItem L 0 = numb (Lib.zigzag (L.getD 0 0)) := by simp [risItem]
      have b0 := h64 0 (by omega)
      have hd0 : bs.drop p = numb (Lib.zigzag (L.getD 0 0)) ++ (t ++ r) := by
        have := hd
        simp only [risTo_zero, List.length_nil, Nat.add_zero] at this
        rw [this, e0]
      have hs := scan_numb (Lib.zigzag_lt b0.1 b0.2) (t ++ r)
      rw [← hd0] at hs
      rw [climb_first hs, unz_zigzag, take_snoc L 0 (by omega), risTo_succ, risTo_zero, e0]
      simp
    · have e0 : risItem L k = numb (L.getD k 0 - L.getD (k - 1) 0 - 1).toNat := by unfold risItem; rw [if_neg hk0]
      have b0 := h64 k (by omega)
      have b1 := h64 (k - 1) (by omega)
      have hlt := hup (k - 1) (by omega)
      rw [show k - 1 + 1 = k by omega] at hlt
      have hs := scan_numb (x := (L.getD k 0 - L.getD (k - 1) 0 - 1).toNat) (by omega) (t ++ r)
      rw [← e0, ← hd] at hs
      have hl : (L.take k).getD (k - 1) 0 = L.getD (k - 1) 0 := getD_take L k (k - 1) (by omega)
      rw [climb_next ih hk0 hs (by rw [hl]; unfold top; omega), hl, take_snoc L k (by omega), risTo_succ, e0]
      have e3 : L.getD (k - 1) 0 + ((L.getD k 0 - L.getD (k - 1) 0 - 1).toNat : Int) + 1 = L.getD k 0 := by omega
      rw [e3]
      simp only [List.length_append, Nat.add_assoc]

theorem fixb_back (x : Nat) : (x : Int) % 256 + (x : Int) / 256 % 256 * 256 + (x : Int) / 65536 % 256 * 65536 + (x : Int) / 16777216 * 16777216 = x := by omega

/-- Of puts, one behind the other. -/
noncomputable def formsOf (ds : List PutD) : List Int := ds.flatMap PutD.form

theorem formsOf_append (a b : List PutD) : formsOf (a ++ b) = formsOf a ++ formsOf b := List.flatMap_append

theorem formsOf_at (ds : List PutD) (i : Nat) (h : i < ds.length) : (formsOf ds).drop (formsOf (ds.take i)).length = (ds[i]).form ++ formsOf (ds.drop (i + 1)) := by
  have e : ds = ds.take i ++ ds[i] :: ds.drop (i + 1) := by
    rw [← List.drop_eq_getElem_cons h, List.take_append_drop]
  have : formsOf ds = formsOf (ds.take i) ++ (ds[i].form ++ formsOf (ds.drop (i + 1))) := by
    conv => lhs; rw [e]
    rw [formsOf_append]
    rfl
  rw [this, List.drop_left]

theorem formsOf_next (ds : List PutD) (i : Nat) (h : i < ds.length) : (formsOf (ds.take (i + 1))).length = (formsOf (ds.take i)).length + (ds[i]).form.length := by
  rw [List.take_add_one, List.getElem?_eq_getElem h, formsOf_append, List.length_append]
  simp [formsOf]

/-- A put's cells. -/
def PutD.cells (d : PutD) : List Value := [.int .i64 d.kind, .int .u64 d.X, .string d.s, .slice d.bo d.B.length d.bc, .slice d.lo d.L.length d.lc]

theorem cells_at : ∀ (ds : List PutD) (i j : Nat), (h : i < ds.length) → j < 5 → (ds.flatMap PutD.cells)[i * 5 + j]? = (ds[i]).cells[j]?
  | d :: r, 0, j, _, hj => by
    simp only [List.flatMap_cons]
    rw [List.getElem?_append_left (by simp [PutD.cells]; omega)]
    simp
  | d :: r, i + 1, j, h, hj => by
    simp only [List.flatMap_cons]
    have hl : d.cells.length = 5 := rfl
    rw [List.getElem?_append_right (by omega), hl, show (i + 1) * 5 + j - 5 = i * 5 + j by omega, cells_at r i j (by simpa using h) hj]
    simp

theorem cells_len : ∀ (ds : List PutD), (ds.flatMap PutD.cells).length = ds.length * 5
  | [] => rfl
  | d :: r => by
    simp only [List.flatMap_cons, List.length_append, List.length_cons, cells_len r]
    have hl : d.cells.length = 5 := rfl
    omega

end Go.Proofs.Ythhajlbnnffgnaa
