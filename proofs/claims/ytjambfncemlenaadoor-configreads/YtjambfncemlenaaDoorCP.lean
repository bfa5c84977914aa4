/- A job out of a text: numbers (the document's digits). -/
import Derived.Test.YtjambfncemlenaaDoorCB
namespace Go.Proofs.YtjambfncemlenaaDoor
open Go.RowKit

/-- The number that digits tell, behind i of them that told x; 0: they are none. -/
def digL : List UInt8 → Nat → Nat → Nat
  | [], _, x => x
  | b :: r, i, x => if b.toNat < 48 ∨ 57 < b.toNat ∨ 17 < i then 0 else digL r (i + 1) (10 * x + (b.toNat - 48))
def digB (s : ByteArray) : Nat := digL s.toList 0 0
theorem digL_cons (b : UInt8) (r : List UInt8) (i x : Nat) : digL (b :: r) i x = if b.toNat < 48 ∨ 57 < b.toNat ∨ 17 < i then 0 else digL r (i + 1) (10 * x + (b.toNat - 48)) := rfl

theorem toList_at (s : ByteArray) (i : Nat) (h : i < s.size) : s.toList.drop i = s[i] :: s.toList.drop (i + 1) := by
  rw [ByteArray.toList_eq]
  have h' : i < s.data.toList.length := by rw [Array.length_toList]; exact h
  rw [List.drop_eq_getElem_cons h']
  rfl

set_option maxRecDepth 100000 in
set_option maxHeartbeats 2000000 in
theorem rdigits_any (s : ByteArray) (hs : s.size ≤ 140737488355328) (w : World) : Calls Tryd.prog 41 #[.string s] w fun e w' => e = .returned (.int .i64 (digB s : Nat)) ∧ w' = w := by
  have LA : Hid (∀ i (h : i < s.size), s.toList.drop i = s[i] :: s.toList.drop (i + 1)) := hide (toList_at s)
  have ND : Hid (s.toList.drop s.size = []) := hide (by rw [ByteArray.toList_eq]; exact List.drop_of_length_le (Nat.le_of_eq Array.length_toList))
  have D0 : Hid (digL (s.toList.drop 0) 0 0 = digB s) := hide rfl
  generalize digB s = X at *
  go_enter Tryd.func41, Tryd.ntmps41
  go_wp2_with fail
  go_loopw [3, 4] (fun s3 s4 wr => ∃ i x : Nat, s3 = .int .i64 (x : Int) ∧ s4 = .int .i64 (i : Int) ∧ i ≤ s.size ∧ i ≤ 18 ∧ Hid (x < 10 ^ i) ∧ x < 1000000000000000000 ∧ Hid (digL (s.toList.drop i) i x = X) ∧ wr = w) (fun _ s4 _ => s.size - (intOf s4).toNat)
  case atStart => exact ⟨0, 0, rfl, rfl, by omega, by omega, hide (by decide), by omega, D0, rfl⟩
  case round =>
    obtain ⟨i, x, rfl, rfl, hi, hi8, HX, hx, HD, rfl⟩ := hrel
    by_cases hlt : i < s.size
    · have hltz : (i : Int) < (s.size : Int) := by omega
      have HD2 := HD.out
      rw [LA.out i hlt, digL_cons] at HD2
      have HDD := hide HD2
      clear HD2 HD LA ND D0
      obtain ⟨b, hb⟩ : ∃ b : Nat, (s[i]'hlt).toNat = b := ⟨_, rfl⟩
      rw [hb] at HDD
      have hb255 : b < 256 := by rw [← hb]; exact (s[i]'hlt).toNat_lt
      by_cases h1 : b < 48
      · have h1z : (b : Int) < 48 := by omega
        have HF := hide (HDD.out.symm.trans (if_pos (Or.inl h1)))
        clear HDD
        go_wp2_with fail
        go_ret
        exact ⟨by rw [HF.out]; rfl, rfl⟩
      · have h1z : ¬ (b : Int) < 48 := by omega
        by_cases h2 : 57 < b
        · have h2z : (57 : Int) < (b : Int) := by omega
          have HF := hide (HDD.out.symm.trans (if_pos (Or.inr (Or.inl h2))))
          clear HDD
          go_wp2_with fail
          go_ret
          exact ⟨by rw [HF.out]; rfl, rfl⟩
        · have h2z : ¬ (57 : Int) < (b : Int) := by omega
          by_cases h3 : 17 < i
          · have h3z : (17 : Int) < (i : Int) := by omega
            have HF := hide (HDD.out.symm.trans (if_pos (Or.inr (Or.inr h3))))
            clear HDD
            go_wp2_with fail
            go_ret
            exact ⟨by rw [HF.out]; rfl, rfl⟩
          · have h3z : ¬ (17 : Int) < (i : Int) := by omega
            have HF : Hid (digL (s.toList.drop (i + 1)) (i + 1) (10 * x + (b - 48)) = X) := hide (by
              rw [← HDD.out, if_neg (fun h => by omega)])
            obtain ⟨d, hd⟩ : ∃ d, d = b - 48 := ⟨_, rfl⟩
            obtain ⟨y, hy⟩ : ∃ y, y = 10 * x + d := ⟨_, rfl⟩
            rw [← hd, ← hy] at HF
            have HY : Hid (y < 10 ^ (i + 1)) := hide (by rw [Nat.pow_succ]; have := HX.out; omega)
            have hyb : y < 1000000000000000000 := by
              have h17 : 10 ^ (i + 1) ≤ 10 ^ 18 := Nat.pow_le_pow_right (by omega) (by omega)
              have := HY.out
              have e : (10 : Nat) ^ 18 = 1000000000000000000 := by decide
              omega
            have q1 : IntKind.i64.wrap (10 * (x : Int)) = 10 * (x : Int) := by rw [IntKind.wrap_i64]; omega
            have q2 : IntKind.u8.wrap ((b : Int) - 48) = (d : Int) := by rw [IntKind.wrap_u8]; omega
            have q3 : 10 * (x : Int) + (d : Int) = (y : Int) := by omega
            have q4 : IntKind.i64.wrap (y : Int) = (y : Int) := by rw [IntKind.wrap_i64]; omega
            have q5 : IntKind.i64.wrap (d : Int) = (d : Int) := by rw [IntKind.wrap_i64]; omega
            clear HDD hy hd
            go_wp2_with fail
            go_roundw
            case rel => exact ⟨i + 1, y, by go_num, by go_num, by omega, by omega, HY, hyb, HF, trivial⟩
            case measure => simp [intOf]; omega
    · have hltz : ¬ (i : Int) < (s.size : Int) := by omega
      obtain rfl : i = s.size := by omega
      have HF : Hid ((x : Nat) = X) := hide (by have := HD.out; rw [ND.out] at this; exact this)
      clear HD
      go_wp2_with fail
      go_ret
      exact ⟨by rw [← HF.out]; rfl, rfl⟩

end Go.Proofs.YtjambfncemlenaaDoor
