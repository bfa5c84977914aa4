/- The document's begins and length. -/
import Derived.Test.YtfeifobljgmkkaaDoorFDig
import Derived.Test.YtfeifobljgmkkaaDoorFRef
import Derived.Test.YtfeifobljgmkkaaDoorI63
namespace Go.Proofs.YtfeifobljgmkkaaDoor
open Go.RowKit Crcx

theorem dsum_take (xs : List Int) (k : Nat) (hk : k < xs.length) : dsum (xs.take (k + 1)) = dsum (xs.take k) + (xs.getD k 0).toNat % 128 * 128 ^ k := by
  rw [List.take_succ_eq_append_getElem hk, dsum_append, List.length_take, Nat.min_eq_left (by omega)]
  have : dsum [xs[k]] = xs[k].toNat % 128 := by simp [dsum]
  rw [this, Nat.mul_comm, List.getD_eq_getElem?_getD, List.getElem?_eq_getElem hk]
  rfl

theorem dsum_take_lt (xs : List Int) (k : Nat) : dsum (xs.take k) < 128 ^ k := by
  have h := dsum_lt (xs.take k)
  have : 128 ^ (xs.take k).length ≤ 128 ^ k := Nat.pow_le_pow_right (by omega) (by simp; omega)
  omega

/-- A digit's step: nothing runs over. -/
theorem digit_step (n d k : Nat) (hk : k ≤ 8) (hd : d < 128) (hn : n < 128 ^ k) :
    wrap64 ((d : Int) * ((128 ^ k : Nat) : Int)) = ((d * 128 ^ k : Nat) : Int) ∧ wrap64 ((n : Int) + ((d * 128 ^ k : Nat) : Int)) = ((n + d * 128 ^ k : Nat) : Int) ∧ (k ≤ 7 → wrap64 (((128 ^ k : Nat) : Int) * 128) = ((128 ^ (k + 1) : Nat) : Int)) := by
  have hp : 128 ^ k ≤ 128 ^ 8 := Nat.pow_le_pow_right (by omega) hk
  have hm : d * 128 ^ k ≤ 127 * 128 ^ k := Nat.mul_le_mul_right _ (by omega)
  refine ⟨?_, ?_, fun h7 => ?_⟩
  · rw [← Int.natCast_mul, wrap_small (Int.natCast_nonneg _) ⟨by omega⟩]
  · rw [← Int.natCast_add, wrap_small (Int.natCast_nonneg _) ⟨by omega⟩]
  · have h7' : 128 ^ k ≤ 128 ^ 7 := Nat.pow_le_pow_right (by omega) h7
    have e : ((128 ^ k : Nat) : Int) * 128 = ((128 ^ (k + 1) : Nat) : Int) := by rw [Nat.pow_succ]; omega
    rw [e, wrap_small (Int.natCast_nonneg _) ⟨by rw [Nat.pow_succ]; omega⟩]

set_option maxRecDepth 100000 in
set_option maxHeartbeats 400000 in
theorem rbegins_any (ao : Option Addr) (xs : List Int) (cap : Nat) (w : World) (hs : Seg w .u8 ao xs) (hH : High xs) (hb : xs.length ≤ 140737488351232) :
    Calls Tryd.prog 51 #[.slice ao xs.length cap] w fun e w' => e = .returned (.bool (decide (dsum xs + 128 ^ xs.length ≤ 268435456))) ∧ w = w' := by
  obtain ⟨res, hres⟩ : ∃ res : Bool, res = decide (dsum xs + 128 ^ xs.length ≤ 268435456) := ⟨_, rfl⟩
  rw [← hres]
  have HRES := hide hres
  clear hres
  go_enter Tryd.func51, Tryd.ntmps51
  go_wp2_with fail
  go_loop [3, 4, 5] (fun n u i => ∃ (k : Nat) (p : Int), i = .int .i64 k ∧ k ≤ xs.length ∧ k ≤ 9 ∧ n = .int .i64 ((dsum (xs.take k) : Nat) : Int) ∧ u = .int .i64 p ∧ (k ≤ 8 → p = ((128 ^ k : Nat) : Int))) (fun _ _ i => 9 - (intOf i).toNat)
  case atStart => exact ⟨0, 1, rfl, Nat.zero_le _, by omega, rfl, rfl, fun _ => rfl⟩
  case round =>
    obtain ⟨k, p, rfl, hk, hk9, rfl, rfl, hp⟩ := hrel
    by_cases hlt : k < xs.length
    · by_cases h9 : k < 9
      · have hp8 := hp (by omega)
        subst hp8
        obtain ⟨b, off, rfl⟩ := hs.addr (by omega)
        have hc := hs.at k hlt
        have hr := hH (xs.getD k 0) (by rw [List.getD_eq_getElem?_getD, List.getElem?_eq_getElem hlt]; exact List.getElem_mem hlt)
        have HD := hide (dsum_take xs k hlt)
        obtain ⟨e1, e2, e3⟩ := digit_step (dsum (xs.take k)) ((xs.getD k 0).toNat % 128) k (by omega) (by omega) (dsum_take_lt xs k)
        have ed : ((xs.getD k 0) - 128) % 256 = (((xs.getD k 0).toNat % 128 : Nat) : Int) := by omega
        have ed2 : IntKind.u8.wrap ((xs.getD k 0) - 128) = (((xs.getD k 0).toNat % 128 : Nat) : Int) := by rw [IntKind.wrap_u8]; omega
        have hdw : IntKind.i64.wrap (((xs.getD k 0).toNat % 128 : Nat) : Int) = (((xs.getD k 0).toNat % 128 : Nat) : Int) := by rw [IntKind.wrap_i64]; omega
        have hd128 : (xs.getD k 0).toNat % 128 < 128 := Nat.mod_lt _ (by omega)
        generalize xs.getD k 0 = c at *
        generalize c.toNat % 128 = d at *
        generalize dsum (xs.take k) = n at *
        have HN := hide (show ((n + d * 128 ^ k : Nat) : Int) = ((dsum (xs.take (k + 1)) : Nat) : Int) by rw [HD.out])
        have hlt' : (k : Int) < (xs.length : Int) := by omega
        have h9' : (k : Int) < 9 := by omega
        by_cases h7 : k ≤ 7
        · have e3' := e3 h7
          generalize n + d * 128 ^ k = m at *
          generalize d * 128 ^ k = q at *
          generalize 128 ^ k = P at *
          generalize hpp : 128 ^ (k + 1) = P' at *
          have HPP := hide hpp
          clear hpp e3 hp hs hH HD
          go_wp2_with fail
          go_round
          case rel => exact ⟨k + 1, _, by go_num, by omega, by omega, by rw [e2, HN.out], rfl, fun _ => by rw [HPP.out]; exact e3'⟩
          case measure => simp [intOf]; omega
        · generalize n + d * 128 ^ k = m at *
          generalize d * 128 ^ k = q at *
          generalize 128 ^ k = P at *
          clear e3 hp hs hH HD
          go_wp2_with fail
          go_round
          case rel => exact ⟨k + 1, _, by go_num, by omega, by omega, by rw [e2, HN.out], rfl, fun h => absurd h (by omega)⟩
          case measure => simp [intOf]; omega
      · have e : k = 9 := by omega
        subst e
        have hlt' : ((9 : Nat) : Int) < (xs.length : Int) := by omega
        have hf : res = false := by rw [HRES.out]; exact decide_eq_false (by have := pow_five (k := xs.length) (by omega); omega)
        have HF := hide hf
        have hl9 : decide ((xs.length : Int) < 9) = false := decide_eq_false (by omega)
        clear hs hH hp hf HRES
        generalize xs.length = xl at *
        go_wp2_with fail
        go_ret
        exact ⟨by rw [HF.out]; rfl, rfl⟩
    · have e : k = xs.length := by omega
      subst e
      rw [List.take_length]
      by_cases h9 : xs.length < 9
      · have hp8 := hp (by omega)
        subst hp8
        have hn := dsum_lt xs
        have hp8 : 128 ^ xs.length ≤ 128 ^ 8 := Nat.pow_le_pow_right (by omega) (by omega)
        have es : wrap64 (((dsum xs : Nat) : Int) + ((128 ^ xs.length : Nat) : Int)) = ((dsum xs + 128 ^ xs.length : Nat) : Int) := by
          rw [← Int.natCast_add, wrap_small (Int.natCast_nonneg _) ⟨by omega⟩]
        have h9' : (xs.length : Int) < 9 := by omega
        have HD := hide (show res = decide (((dsum xs + 128 ^ xs.length : Nat) : Int) ≤ 268435456) by rw [HRES.out, decide_eq_decide]; omega)
        clear HRES
        generalize dsum xs + 128 ^ xs.length = S at *
        generalize dsum xs = n at *
        generalize 128 ^ xs.length = P at *
        generalize xs.length = xl at *
        clear hs hH hp hn hp8
        go_wp2_with fail
        go_ret
        exact ⟨by rw [HD.out]; rfl, rfl⟩
      · have h9e : xs.length = 9 := by omega
        have hf : res = false := by rw [HRES.out]; exact decide_eq_false (by have := pow_five (k := xs.length) (by omega); omega)
        have HF := hide hf
        have hl9 : decide ((xs.length : Int) < 9) = false := decide_eq_false (by omega)
        clear hs hH hp hf h9e HRES
        generalize xs.length = xl at *
        go_wp2_with fail
        go_ret
        exact ⟨by rw [HF.out]; rfl, rfl⟩

end Go.Proofs.YtfeifobljgmkkaaDoor
