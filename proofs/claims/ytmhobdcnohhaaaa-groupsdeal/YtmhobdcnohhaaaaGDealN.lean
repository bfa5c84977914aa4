/- Deal where it says no, on both sides; how many keys are dealt. -/
import Derived.Test.YtmhobdcnohhaaaaGDeal
namespace Go.Proofs.Ytmhobdcnohhaaaa
open Go.RowKit

set_option maxRecDepth 100000 in
theorem deal_no (p g : Int) (h : mayW p g = false) (v : Value) (w : World) : Calls Try.prog 25 #[.int .i64 p, .int .i64 g, v] w fun e w' => e = .returned (.tuple #[.slice none 0 0, .int .i64 2]) ∧ w' = w := by
  have M := hide (mays_any p g)
  go_enter Try.func25, Try.ntmps25
  go_wp2_with fail
  refine (M.out _).mono ?_
  rintro e w' ⟨rfl, hq⟩
  obtain rfl := hq.symm
  clear hq
  go_wp2_with fail
  go_ret2
  exact ⟨rfl, rfl⟩

set_option maxRecDepth 100000 in
theorem rdeal_no (p g : Int) (h : mayW p g = false) (v : Value) (w : World) : Calls Try.prog 26 #[.int .i64 p, .int .i64 g, v] w fun e w' => e = .returned (.tuple #[.slice none 0 0, .int .i64 2]) ∧ w' = w := by
  have M := hide (rmays_any p g)
  go_enter Try.func26, Try.ntmps26
  go_wp2_with fail
  refine (M.out _).mono ?_
  rintro e w' ⟨rfl, hq⟩
  obtain rfl := hq.symm
  clear hq
  go_wp2_with fail
  go_ret2
  exact ⟨rfl, rfl⟩

set_option maxRecDepth 100000 in
set_option maxHeartbeats 4000000 in
theorem deal_long (p g : Int) (hm : mayW p g = true) (ao : Option Addr) (c : Nat) (ks : List ByteArray) (hlen : ks.length ≤ 8796093022207) (hks : ¬ ∀ s ∈ ks, s.size ≤ 256) (w : World) (hseg : SegT w ao ks) :
    Calls Try.prog 25 #[.int .i64 p, .int .i64 g, .slice ao ks.length c] w fun e w' => e = .returned (.tuple #[.slice none 0 0, .int .i64 3]) ∧ w' = w := by
  have M := hide (mays_any p g)
  obtain ⟨n, hn⟩ : ∃ n, ks.length = n := ⟨_, rfl⟩
  have HN := hide hn
  rw [hn] at hlen ⊢
  have HL := hide hlen
  have HKS := hide hks
  have HSEG := hide hseg
  clear hlen hks hseg hn
  go_enter Try.func25, Try.ntmps25
  go_wp2_with fail
  refine (M.out _).mono ?_
  rintro e w' ⟨rfl, hq⟩
  obtain rfl := hq.symm
  clear hq
  go_wp2_with fail
  go_loopw [20] (fun i wr => ∃ k : Nat, i = .int .i64 (k : Int) ∧ k ≤ n ∧ w = wr ∧ ∀ s ∈ ks.take k, s.size ≤ 256) (fun i _ => n - (intOf i).toNat)
  case atStart => exact ⟨0, rfl, Nat.zero_le _, rfl, fun s hs => by simp at hs⟩
  case round =>
    obtain ⟨k, rfl, hk, rfl, hsh⟩ := hrel
    by_cases hlt : k < n
    · have hlt' : (k : Int) < (n : Int) := by omega
      have SW := hide (wrap_up (n := k) (m := n) hlt (by have := HL.out; omega))
      have hkl : k < ks.length := by have := HN.out; omega
      obtain ⟨b1, o1, rfl⟩ := HSEG.out.addr (by omega)
      have p0 := HSEG.out.cell b1 o1 rfl k hkl
      have HSH : Hid (ks[k].size ≤ 256 → ∀ s ∈ ks.take (k + 1), s.size ≤ 256) := hide (fun hz s hs => by
        rw [List.take_succ_eq_append_getElem hkl, List.mem_append] at hs
        rcases hs with hs | hs
        · exact hsh s hs
        · simp at hs; subst hs; exact hz)
      generalize ks[k] = s at *
      clear hkl hsh
      by_cases hz : s.size ≤ 256
      · have hsz' : ¬ (256 : Int) < ((s.size : Nat) : Int) := by omega
        go_wp2_with fail
        go_roundw
        case rel => exact ⟨k + 1, by rw [SW.out], hlt, trivial, HSH.out hz⟩
        case measure => rw [SW.out]; simp [intOf]; omega
      · have hsz' : (256 : Int) < ((s.size : Nat) : Int) := by omega
        go_wp2_with fail
        go_ret2
        exact ⟨rfl, rfl⟩
    · exact absurd (fun s hs => hsh s (by rw [List.take_of_length_le (by rw [HN.out]; omega)]; exact hs)) HKS.out

set_option maxRecDepth 100000 in
set_option maxHeartbeats 4000000 in
theorem rdeal_long (p g : Int) (hm : mayW p g = true) (ao : Option Addr) (c : Nat) (ks : List ByteArray) (hlen : ks.length ≤ 8796093022207) (hks : ¬ ∀ s ∈ ks, s.size ≤ 256) (w : World) (hseg : SegT w ao ks) :
    Calls Try.prog 26 #[.int .i64 p, .int .i64 g, .slice ao ks.length c] w fun e w' => e = .returned (.tuple #[.slice none 0 0, .int .i64 3]) ∧ w' = w := by
  have M := hide (rmays_any p g)
  obtain ⟨n, hn⟩ : ∃ n, ks.length = n := ⟨_, rfl⟩
  have HN := hide hn
  rw [hn] at hlen ⊢
  have HL := hide hlen
  have HKS := hide hks
  have HSEG := hide hseg
  clear hlen hks hseg hn
  go_enter Try.func26, Try.ntmps26
  go_wp2_with fail
  refine (M.out _).mono ?_
  rintro e w' ⟨rfl, hq⟩
  obtain rfl := hq.symm
  clear hq
  go_wp2_with fail
  go_loopw [8] (fun i wr => ∃ k : Nat, i = .int .i64 (k : Int) ∧ k ≤ n ∧ w = wr ∧ ∀ s ∈ ks.take k, s.size ≤ 256) (fun i _ => n - (intOf i).toNat)
  case atStart => exact ⟨0, rfl, Nat.zero_le _, rfl, fun s hs => by simp at hs⟩
  case round =>
    obtain ⟨k, rfl, hk, rfl, hsh⟩ := hrel
    by_cases hlt : k < n
    · have hlt' : (k : Int) < (n : Int) := by omega
      have SW := hide (wrap_up (n := k) (m := n) hlt (by have := HL.out; omega))
      have hkl : k < ks.length := by have := HN.out; omega
      obtain ⟨b1, o1, rfl⟩ := HSEG.out.addr (by omega)
      have p0 := HSEG.out.cell b1 o1 rfl k hkl
      have HSH : Hid (ks[k].size ≤ 256 → ∀ s ∈ ks.take (k + 1), s.size ≤ 256) := hide (fun hz s hs => by
        rw [List.take_succ_eq_append_getElem hkl, List.mem_append] at hs
        rcases hs with hs | hs
        · exact hsh s hs
        · simp at hs; subst hs; exact hz)
      generalize ks[k] = s at *
      clear hkl hsh
      by_cases hz : s.size ≤ 256
      · have hsz' : ¬ (256 : Int) < ((s.size : Nat) : Int) := by omega
        go_wp2_with fail
        go_roundw
        case rel => exact ⟨k + 1, by rw [SW.out], hlt, trivial, HSH.out hz⟩
        case measure => rw [SW.out]; simp [intOf]; omega
      · have hsz' : (256 : Int) < ((s.size : Nat) : Int) := by omega
        go_wp2_with fail
        go_ret2
        exact ⟨rfl, rfl⟩
    · exact absurd (fun s hs => hsh s (by rw [List.take_of_length_le (by rw [HN.out]; omega)]; exact hs)) HKS.out

/-- How many texts there are in all. -/
def tall (ls : List (List ByteArray)) : Nat := (ls.map List.length).sum

theorem tall_set : ∀ (ls : List (List ByteArray)) (i : Nat) (_ : i < ls.length) (s : ByteArray), tall (ls.set i (ls.getD i [] ++ [s])) = tall ls + 1
  | l :: ls, 0, _, s => by simp [tall]; omega
  | l :: ls, i + 1, h, s => by
    have := tall_set ls i (by simpa using h) s
    simp [tall] at this ⊢
    omega

theorem tall_fold {P G : Nat} (hm : May P G) : ∀ (ks : List ByteArray) (ls : List (List ByteArray)), ls.length = P → tall (ks.foldl (dealOne P G) ls) = tall ls + ks.length
  | [], _, _ => rfl
  | s :: ks, ls, h => by
    rw [List.foldl_cons, tall_fold hm ks _ (by unfold dealOne; rw [List.length_set]; exact h)]
    unfold dealOne
    rw [tall_set ls _ (by rw [h]; exact owner_lt hm s)]
    simp; omega

theorem tall_dealt {P G : Nat} (hm : May P G) (ks : List ByteArray) : tall (dealt P G ks) = ks.length := by
  unfold dealt
  rw [tall_fold hm ks _ (List.length_replicate)]
  have : tall (List.replicate P []) = 0 := by simp [tall]
  omega

theorem tall_take (ls : List (List ByteArray)) (i : Nat) (h : i < ls.length) : tall (ls.take (i + 1)) = tall (ls.take i) + ls[i].length := by
  unfold tall
  rw [List.take_succ_eq_append_getElem h, List.map_append, List.sum_append]
  simp

theorem tall_le (ls : List (List ByteArray)) (i : Nat) : tall (ls.take i) ≤ tall ls := by
  have : tall ls = tall (ls.take i) + tall (ls.drop i) := by
    unfold tall
    rw [← List.sum_append, ← List.map_append, List.take_append_drop]
  omega

end Go.Proofs.Ytmhobdcnohhaaaa
