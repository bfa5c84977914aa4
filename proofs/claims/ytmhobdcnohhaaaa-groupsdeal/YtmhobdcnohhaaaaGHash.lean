/- The hash of a text, in the program and in the document. -/
import Derived.Test.YtmhobdcnohhaaaaBase
import Derived.Test.YtmhobdcnohhaaaaProg
import Derived.Laws.BitsAllLaws
namespace Go.Proofs.Ytmhobdcnohhaaaa
open Go.RowKit

/-- A text whose length an int can be. -/
structure Shrt (s : ByteArray) : Prop where
  le : s.size < 9223372036854775808

theorem wrap_up {n m : Nat} (h : n < m) (hm : m < 9223372036854775808) : wrap64 ((n : Int) + 1) = ((n + 1 : Nat) : Int) := by
  unfold wrap64; omega

/-- One byte more. -/
def fnv (h : Nat) (b : UInt8) : Nat := (h ^^^ b.toNat) * 16777619 % 4294967296

/-- The hash of a text's first bytes. -/
def hshUp (s : ByteArray) (n : Nat) : Nat := (s.data.toList.take n).foldl fnv 2166136261

/-- The hash of a text. -/
def hsh (s : ByteArray) : Nat := s.data.toList.foldl fnv 2166136261

theorem fnv_lt (h : Nat) (b : UInt8) : fnv h b < 4294967296 := Nat.mod_lt _ (by omega)

theorem fold_lt : ∀ (l : List UInt8) (h : Nat), h < 4294967296 → l.foldl fnv h < 4294967296
  | [], _, hh => hh
  | b :: l, h, _ => by rw [List.foldl_cons]; exact fold_lt l _ (fnv_lt h b)

theorem hshUp_lt (s : ByteArray) (n : Nat) : hshUp s n < 4294967296 := fold_lt _ _ (by omega)
theorem hsh_lt (s : ByteArray) : hsh s < 4294967296 := fold_lt _ _ (by omega)

theorem hshUp_all (s : ByteArray) : hshUp s s.size = hsh s := by
  unfold hshUp hsh
  rw [List.take_of_length_le (by show s.data.toList.length ≤ s.data.size; simp)]

theorem hshUp_succ (s : ByteArray) (n : Nat) (h : n < s.size) : hshUp s (n + 1) = fnv (hshUp s n) s[n] := by
  unfold hshUp
  have hl : n < s.data.toList.length := by simpa using h
  have e : s.data.toList[n] = s[n] := by rw [Array.getElem_toList]; rfl
  rw [List.take_succ_eq_append_getElem hl, List.foldl_append, List.foldl_cons, List.foldl_nil, e]

theorem xor_byte (h : Nat) (hh : h < 4294967296) (b : UInt8) : bits .xor .u32 (h : Int) ((b.toNat : Int) % 4294967296) * 16777619 % 4294967296 = (fnv h b : Int) := by
  have hb := b.toNat_lt
  rw [show ((b.toNat : Int) % 4294967296) = (b.toNat : Int) by omega, u32_xor_nat _ _ hh (by omega)]
  unfold fnv
  omega

set_option maxRecDepth 100000 in
theorem hash_any (s : ByteArray) (hs : Shrt s) (w : World) : Calls Try.prog 16 #[.string s] w fun e w' => e = .returned (.int .u32 (hsh s : Int)) ∧ w' = w := by
  go_enter Try.func16, Try.ntmps16
  go_wp2_with fail
  go_loop [3, 7] (fun h i => ∃ n : Nat, h = .int .u32 (hshUp s n : Int) ∧ i = .int .i64 n ∧ n ≤ s.size) (fun h i => s.size - (intOf i).toNat)
  case atStart => exact ⟨0, rfl, rfl, Nat.zero_le _⟩
  case round =>
    obtain ⟨n, rfl, rfl, hn⟩ := hrel
    by_cases hlt : n < s.size
    · have hlt' : (n : Int) < (s.size : Int) := by omega
      have HS := hide (hshUp_succ s n hlt)
      have HL := hide (hshUp_lt s n)
      generalize hshUp s n = h at *
      go_wp2_with fail
      go_round
      case rel => exact ⟨n + 1, by rw [HS.out, xor_byte h HL.out], by rw [wrap_up hlt hs.le], by omega⟩
      case measure => rw [wrap_up hlt hs.le]; simp [intOf]; omega
    · have e : n = s.size := by omega
      subst e
      rw [hshUp_all]
      go_wp2_with fail
      go_ret
      exact ⟨rfl, rfl⟩

set_option maxRecDepth 100000 in
theorem rhash_any (s : ByteArray) (hs : Shrt s) (w : World) : Calls Try.prog 17 #[.string s] w fun e w' => e = .returned (.int .u32 (hsh s : Int)) ∧ w' = w := by
  go_enter Try.func17, Try.ntmps17
  go_wp2_with fail
  go_loop [3, 4] (fun h i => ∃ n : Nat, h = .int .u32 (hshUp s n : Int) ∧ i = .int .i64 n ∧ n ≤ s.size) (fun h i => s.size - (intOf i).toNat)
  case atStart => exact ⟨0, rfl, rfl, Nat.zero_le _⟩
  case round =>
    obtain ⟨n, rfl, rfl, hn⟩ := hrel
    by_cases hlt : n < s.size
    · have hlt' : (n : Int) < (s.size : Int) := by omega
      have HS := hide (hshUp_succ s n hlt)
      have HL := hide (hshUp_lt s n)
      generalize hshUp s n = h at *
      go_wp2_with fail
      go_round
      case rel => exact ⟨n + 1, by rw [HS.out, xor_byte h HL.out], by rw [wrap_up hlt hs.le], by omega⟩
      case measure => rw [wrap_up hlt hs.le]; simp [intOf]; omega
    · have e : n = s.size := by omega
      subst e
      rw [hshUp_all]
      go_wp2_with fail
      go_ret
      exact ⟨rfl, rfl⟩

end Go.Proofs.Ytmhobdcnohhaaaa
