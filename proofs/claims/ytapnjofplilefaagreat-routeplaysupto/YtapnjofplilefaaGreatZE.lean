/- The document's Worker: whose a key's group is. -/
import Derived.Test.YtapnjofplilefaaGreatG1
namespace Go.Proofs.YtapnjofplilefaaGreat
open Go.RowKit

theorem st_wrap2 {p g k : Nat} (h : May p g) (hk : k < p) : wrap64 ((wrap64 (((k : Int) + 1) * (g : Int))).tdiv (p : Int)) = (st p g (k + 1) : Int) := by
  have e := st_wrap1 h hk
  have z : wrap64 ((k : Int) + 1) = (k : Int) + 1 := by have := h.p2; have := h.g2; unfold wrap64; omega
  rwa [z] at e

set_option maxRecDepth 100000 in
set_option maxHeartbeats 1000000 in
theorem rworkerZ_any (s : ByteArray) (hs : s.size < 9223372036854775808) (p g : Nat) (h : May p g) (w : World) : Calls Tryz.prog 22 #[.string s, .int .i64 (p : Int), .int .i64 (g : Int)] w fun e w' => e = .returned (.int .i64 (wk p g (hsh s % g) : Nat)) ∧ w' = w := by
  have hs : Shrt s := ⟨hs⟩
  have MA := hide h
  obtain ⟨G1, G2, P1, P2⟩ := h
  obtain ⟨k, hk⟩ : ∃ k : Nat, k = wk p g (hsh s % g) := ⟨_, rfl⟩
  simp only [← hk]
  have HK := hide hk
  clear hk
  go_enter Tryz.func22, Tryz.ntmps22
  go_wp2_with fail
  go_loop [7, 8] (fun h i => ∃ n : Nat, h = .int .u32 (hshUp s n : Int) ∧ i = .int .i64 n ∧ n ≤ s.size) (fun h i => s.size - (intOf i).toNat)
  case atStart => exact ⟨0, rfl, rfl, Nat.zero_le _⟩
  case round =>
    obtain ⟨n, rfl, rfl, hn⟩ := hrel
    by_cases hlt : n < s.size
    · have hlt' : (n : Int) < (s.size : Int) := by omega
      have HS := hide (hshUp_succ s n hlt)
      have HL := hide (hshUp_lt s n)
      generalize hshUp s n = h at *
      go_wp2_with fail
      go_round
      case rel => exact ⟨n + 1, by rw [HS.out, xor_byte h HL.out], by first | rw [wrap_up hlt hs.le] | go_num, by omega⟩
      case measure => first | (rw [wrap_up hlt hs.le]; simp [intOf]; omega) | (simp [intOf]; omega)
    · have e : n = s.size := by omega
      subst e
      rw [hshUp_all]
      have y1 : (g : Int) % 4294967296 = (g : Int) := by omega
      have y2 : ¬ (g : Int) = 0 := by omega
      have y4 : ((g : Int) == 0) = false := by simp; omega
      obtain ⟨r, hr⟩ : ∃ r : Nat, r = hsh s % g := ⟨_, rfl⟩
      have hrl : r < g := by rw [hr]; exact Nat.mod_lt _ (by omega)
      have y3 : (hsh s : Int) % (g : Int) = (r : Int) := by rw [hr]; rfl
      have y6 : ((hsh s : Int) % (g : Int)) % 4294967296 = (r : Int) := by rw [y3]; omega
      have HK := HK.out
      rw [← hr] at HK
      have HW := hide (HK ▸ wk_lt MA.out hrl)
      have HB := hide (HK ▸ wk_below (k := r) MA.out)
      have HA : Hid (∀ m, m ≤ k → st p g m ≤ r) := hide fun m hm => wk_above MA.out (HK ▸ hm)
      clear hr HK
      generalize hsh s = H at *
      have y7 : ¬ (p : Int) = 0 := by omega
      have y8 : ((p : Int) == 0) = false := by simp; omega
      go_wp2_with fail
      go_loop [10] (fun i => ∃ m : Nat, i = .int .i64 m ∧ m ≤ k) (fun i => k - (intOf i).toNat)
      case atStart => exact ⟨0, rfl, Nat.zero_le _⟩
      case round =>
        obtain ⟨m, rfl, hm⟩ := hrel
        have z1 : (m : Int) < (p : Int) := by have := HW.out; omega
        have z5 := st_wrap2 MA.out (k := m) (by have := HW.out; omega)
        by_cases hlt : m < k
        · have z7 : ¬ r < st p g (m + 1) := by have := HA.out (m + 1) (by omega); omega
          generalize st p g (m + 1) = v at *
          have z8 : ¬ (r : Int) < (v : Int) := by omega
          clear HB HA HK MA HW y1 hs
          go_wp2_with fail
          go_round
          case rel => exact ⟨m + 1, by go_num, by omega⟩
          case measure => simp [intOf]; omega
        · obtain rfl : m = k := by omega
          have z7 : r < st p g (m + 1) := HB.out
          generalize st p g (m + 1) = v at *
          have z8 : (r : Int) < (v : Int) := by omega
          clear HB HA HK MA HW y1 hs
          go_wp2_with fail
          go_ret
          exact ⟨rfl, rfl⟩

end Go.Proofs.YtapnjofplilefaaGreat
