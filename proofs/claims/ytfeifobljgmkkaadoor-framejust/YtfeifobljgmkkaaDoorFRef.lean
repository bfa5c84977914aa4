/- The document's answers for frames: Number, Sum, Put. -/
import Derived.Test.YtfeifobljgmkkaaDoorFKnown
namespace Go.Proofs.YtfeifobljgmkkaaDoor
open Go.RowKit Crcx

theorem shr_bit (x i : Nat) (hx : x < 4294967296) : bits .and .u32 ((x : Int) / 2 ^ i) 1 = ((x / 2 ^ i % 2 : Nat) : Int) := by
  rw [show ((x : Int) / 2 ^ i) = ((x / 2 ^ i : Nat) : Int) by rw [Int.natCast_ediv, Int.natCast_pow]; rfl]
  have := u32_and_nat (x / 2 ^ i) 1 (Nat.lt_of_le_of_lt (Nat.div_le_self _ _) hx) (by omega)
  rw [show ((1 : Nat) : Int) = 1 by rfl] at this
  rw [this, Nat.and_one_is_mod]

set_option maxRecDepth 100000 in
set_option maxHeartbeats 400000 in
theorem rnumber_any (N : Nat) (w : World) (hN : N ≤ 1099511627776) :
    Calls Tryd.prog 30 #[.int .i64 N] w fun e w' => ∃ ao m c, e = .returned (.slice ao m c) ∧ New w w' (.slice ao m c) (numb N) := by
  obtain ⟨i0, hi, hz0, hz1, hz2⟩ := info_parts Tryd.info5
  have h10 := numb_len10 (x := N) (by omega)
  go_enter Tryd.func30, Tryd.ntmps30
  go_wp2_with fail
  go_loopw [0, 3] (fun n b wr => ∃ (x : Nat) (bs : List Int) (ao : Option Addr) (m c : Nat), n = .int .i64 x ∧ x ≤ 1099511627776 ∧ b = .slice ao m c ∧ New w wr (.slice ao m c) bs ∧ bs ++ numb x = numb N) (fun n _ _ => (intOf n).toNat)
  case atStart => exact ⟨N, [], none, 0, 0, rfl, hN, rfl, New.nil (Touch.refl _ _), rfl⟩
  case round =>
    obtain ⟨x, bs, ao, m, c, rfl, hx, rfl, hB, happ⟩ := hrel
    have hlen : bs.length + (numb x).length ≤ 10 := by rw [← List.length_append, happ]; exact h10
    have hpos := numb_pos x
    by_cases hge : 128 ≤ x
    · have hge' : (128 : Int) ≤ (x : Int) := by omega
      have e1 : IntKind.u8.wrap ((x : Int) % 128 + 128) = ((x % 128 + 128 : Nat) : Int) := by rw [IntKind.wrap_u8]; omega
      have HA := hide (show (bs ++ [((x % 128 + 128 : Nat) : Int)]) ++ numb (x / 128) = numb N by rw [← happ, numb_hi hge]; simp)
      have hxb : (x : Int) ≤ 1099511627776 := by omega
      clear happ
      go_wp2_with (at_builtin; refine wpList_append_row _ rfl (.tmp 6) (.tmp 11) 22 22 rfl 5 i0 (.int .u8 0) .u8 1 Tryd.underlying22 hi hz0 hz1 hz2 rfl _ bs rfl (hB.row.alloc _) _ [((x % 128 + 128 : Nat) : Int)] rfl (src_one Tryd.underlying22 _ _ _ _) ?b1 ?b2 ?nx)
      case b1 => unfold maxLen; first | omega | (simp only [List.length_singleton]; omega)
      case b2 => first | omega | (simp only [List.length_singleton]; omega)
      case nx =>
        intro ao2 n2 c2 w2 R2 G2
        have N2 := (hB.keep ((Touch.refl _ _).alloc _)).of_grew R2 G2
        clear hB R2 G2
        go_wp2_with fail
        go_roundw
        case rel => exact ⟨x / 128, _, _, _, _, by go_num, by omega, rfl, N2, HA.out⟩
        case measure => simp [intOf]; omega
    · have hge' : ¬ (128 : Int) ≤ (x : Int) := by omega
      have e1 : IntKind.u8.wrap (x : Int) = (x : Int) := by rw [IntKind.wrap_u8]; omega
      have HA := hide (show bs ++ [(x : Int)] = numb N by rw [← happ, numb_lo (by omega)])
      clear happ
      go_wp2_with (at_builtin; refine wpList_append_row _ rfl (.tmp 15) (.tmp 18) 22 22 rfl 5 i0 (.int .u8 0) .u8 1 Tryd.underlying22 hi hz0 hz1 hz2 rfl _ bs rfl (hB.row.alloc _) _ [(x : Int)] rfl (src_one Tryd.underlying22 _ _ _ _) ?b1 ?b2 ?nx)
      case b1 => unfold maxLen; first | omega | (simp only [List.length_singleton]; omega)
      case b2 => first | omega | (simp only [List.length_singleton]; omega)
      case nx =>
        intro ao2 n2 c2 w2 R2 G2
        have N2 := (hB.keep ((Touch.refl _ _).alloc _)).of_grew R2 G2
        rw [HA.out] at N2
        clear hB R2 G2
        go_wp2_with fail
        go_ret
        exact ⟨_, _, _, rfl, N2⟩

set_option maxRecDepth 100000 in
set_option maxHeartbeats 400000 in
theorem rsum_any (ao : Option Addr) (xs : List Int) (cap : Nat) (w : World) (hx : Seg w .u8 ao xs) (h8 : In8 xs) (hb : xs.length ≤ 281474976710656) :
    Calls Tryd.prog 31 #[.slice ao xs.length cap] w fun e w' => e = .returned (.int .u32 ((more 0 (nats xs) : Nat) : Int)) ∧ w = w' := by
  have hlt : ∀ i, run 4294967295 (nats (xs.take i)) < 4294967296 := fun i => run_lt (by omega) (nats_lt (h8.take i))
  have HM := hide (show more 0 (nats xs) = 4294967295 ^^^ run 4294967295 (nats xs) by unfold more; rw [Nat.xor_zero])
  have hstep := run_step 4294967295 xs
  have h0 : run 4294967295 (nats (xs.take 0)) = 4294967295 := rfl
  generalize more 0 (nats xs) = res at *
  go_enter Tryd.func31, Tryd.ntmps31
  go_wp2_with fail
  go_loopw [3, 4] (fun x i wr => ∃ n : Nat, i = .int .i64 n ∧ n ≤ xs.length ∧ x = .int .u32 ((run 4294967295 (nats (xs.take n)) : Nat) : Int) ∧ wr = w) (fun _ i _ => xs.length - (intOf i).toNat)
  case atStart => exact ⟨0, rfl, Nat.zero_le _, by rw [h0]; rfl, rfl⟩
  case round =>
    obtain ⟨n, rfl, hn, rfl, rfl⟩ := hrel
    by_cases hlast : n < xs.length
    · obtain ⟨b, off, rfl⟩ := hx.addr (by omega)
      have hc := hx.at n hlast
      have hby := h8.at n
      have hst := hstep n hlast
      have hl := hlt n
      obtain ⟨c, hc0⟩ := Int.eq_ofNat_of_zero_le hby.1
      rw [hc0] at hc hst hby
      rw [Int.toNat_natCast] at hst
      have hcw : IntKind.u32.wrap (c : Int) = (c : Int) := by rw [IntKind.wrap_u32]; omega
      have hx1 := u32_xor_nat _ c hl (by omega)
      have hlt2 := xor_lt hl (show c < 4294967296 by omega)
      generalize run 4294967295 (nats (xs.take n)) = y at *
      generalize hz : y ^^^ c = z at *
      have HST := hide hst
      clear hstep hlt hc0 hst h8 hx hz h0
      go_wp2_with fail
      go_loop [3, 5] (fun x i => ∃ k : Nat, i = .int .i64 k ∧ k ≤ 8 ∧ x = .int .u32 ((stps k z : Nat) : Int)) (fun _ i => 8 - (intOf i).toNat)
      case atStart => exact ⟨0, rfl, Nat.zero_le _, rfl⟩
      case round =>
        obtain ⟨k, rfl, hk, rfl⟩ := hrel
        by_cases hk8 : k < 8
        · have hyl : stps k z < 4294967296 := stps_lt hlt2
          have HS := hide (stps_last k z)
          generalize stps k z = v at *
          have hxor := u32_xor_nat (v / 2) 2197175160 (by omega) (by omega)
          rw [show ((v / 2 : Nat) : Int) = (v : Int) / 2 by omega] at hxor
          have hk' : (((2197175160 : Nat)) : Int) = 2197175160 := rfl
          rw [hk'] at hxor
          have hand : bits .and .u32 (v : Int) 1 = ((v % 2 : Nat) : Int) := by
            have := shr_bit v 0 hyl
            simpa using this
          by_cases hodd : v % 2 = 1
          · rw [hodd] at hand
            have HV := hide (show stps (k + 1) z = v / 2 ^^^ 2197175160 by rw [HS.out]; unfold stp; rw [if_pos hodd])
            clear hk'
            go_wp2_with fail
            go_round
            case rel => exact ⟨k + 1, by go_num, by omega, by rw [HV.out]⟩
            case measure => simp [intOf]; omega
          · have h20 : v % 2 = 0 := by omega
            rw [h20] at hand
            have HV := hide (show stps (k + 1) z = v / 2 by rw [HS.out]; unfold stp; rw [if_neg hodd])
            clear hk'
            go_wp2_with fail
            go_round
            case rel => exact ⟨k + 1, by go_num, by omega, by rw [HV.out]; go_num⟩
            case measure => simp [intOf]; omega
        · have e : k = 8 := by omega
          subst e
          rw [HST.out]
          go_wp2_with fail
          go_roundw
          case rel => exact ⟨n + 1, by go_num, by omega, rfl, trivial⟩
          case measure => simp [intOf]; omega
    · have e : n = xs.length := by omega
      subst e
      rw [List.take_length]
      have hl := hlt xs.length
      rw [List.take_length] at hl
      have hx1 := u32_xor_nat (run 4294967295 (nats xs)) 4294967295 hl (by omega)
      rw [Nat.xor_comm, ← HM.out] at hx1
      have hk' : (((4294967295 : Nat)) : Int) = 4294967295 := rfl
      rw [hk'] at hx1
      clear hstep hlt h8 hx h0 hk'
      go_wp2_with fail
      go_ret
      exact ⟨rfl, rfl⟩

theorem sum4_int (s : Nat) (h : s < 4294967296) : sum4 s = [(s : Int) % 256, (s : Int) / 256 % 256, (s : Int) / 65536 % 256, (s : Int) / 16777216] := by
  unfold sum4
  rw [show ((s % 256 : Nat) : Int) = (s : Int) % 256 by omega, show ((s / 256 % 256 : Nat) : Int) = (s : Int) / 256 % 256 by omega, show ((s / 65536 % 256 : Nat) : Int) = (s : Int) / 65536 % 256 by omega, show ((s / 16777216 % 256 : Nat) : Int) = (s : Int) / 16777216 by omega]

set_option maxRecDepth 100000 in
set_option maxHeartbeats 400000 in
theorem rput_any (tag : Int) (t : Txt) (w : World) (ho : t.Ok w) (h8 : 0 ≤ tag ∧ tag ≤ 255) (hn : t.xs.length ≤ 268435456) :
    Calls Tryd.prog 11 #[.int .u8 tag, .slice t.ao t.xs.length t.cap] w fun e w' => ∃ ao m c, e = .returned (.slice ao m c) ∧ New w w' (.slice ao m c) (frm tag t.xs) := by
  obtain ⟨i0, hi, hz0, hz1, hz2⟩ := info_parts Tryd.info5
  obtain ⟨ao, cap, xs⟩ := t
  simp only at *
  have h5 := numb5 hn
  have h8x : In8 xs := ho.in8
  obtain ⟨k, hk⟩ : ∃ k, k = numb xs.length := ⟨_, rfl⟩
  have hkl : k.length ≤ 5 := by rw [hk]; exact h5
  have NU := hide (fun W => rnumber_any xs.length W (by omega))
  rw [← hk] at NU
  obtain ⟨s, hs⟩ : ∃ s, s = more 0 (nats (summed tag xs)) := ⟨_, rfl⟩
  have hsl : s < 4294967296 := by rw [hs]; exact summed_lt h8 h8x
  have hsm : [tag] ++ k ++ xs = summed tag xs := by rw [hk]; rfl
  have HF := hide (show [tag] ++ k ++ xs ++ sum4 s = frm tag xs by rw [hsm, hs]; rfl)
  have H8S := hide (show In8 ([tag] ++ k ++ xs) by rw [hsm]; exact in8_summed h8 h8x)
  have HS := hide (show more 0 (nats ([tag] ++ k ++ xs)) = s by rw [hsm, hs])
  have hsg := hide ho.seg
  clear hk h5 hs hsm ho
  go_enter Tryd.func11, Tryd.ntmps11
  go_wp2_with fail
  have T0 : Touch (fun _ => False) w (w.alloc (.cells #[.int .u8 tag] 5)) := (Touch.refl _ _).alloc _
  have N0 : New w (w.alloc (.cells #[.int .u8 tag] 5)) (.slice (some ⟨w.heap.size, 0, none⟩) 1 1) [tag] :=
    ⟨Row.mk (xs := [tag]) (heap_alloc_last w _) (by simp) (by unfold maxLen; omega) rfl rfl, fun g hg => by simp [Value.ownBlock] at hg; omega, T0⟩
  generalize w.alloc (.cells #[.int .u8 tag] 5) = w0 at *
  generalize w.heap.size = g0 at N0 ⊢
  refine (NU.out w0).mono ?_
  rintro e w1 ⟨ko, kn, kc, rfl, N1⟩
  have hkn := N1.row.len
  subst hkn
  have N01 := N0.keep N1.touch
  have S1 := Seg.of_row N1.row
  have T1 := N01.touch
  clear N0 N1 T0 NU
  go_wp2_with (at_builtin; refine wpList_append_row _ rfl (.tmp 8) (.tmp 11) 22 22 rfl 5 i0 (.int .u8 0) .u8 1 Tryd.underlying22 hi hz0 hz1 hz2 rfl _ [tag] rfl N01.row _ k rfl (S1.src Tryd.underlying22 _) ?b1 ?b2 ?nx)
  case b1 => unfold maxLen; first | omega | (simp only [List.length_singleton]; omega)
  case b2 => first | omega | (simp only [List.length_singleton]; omega)
  case nx =>
    intro ao2 n2 c2 w2 R2 G2
    have N2 : New w w2 (.slice ao2 n2 c2) ([tag] ++ k) := N01.of_grew R2 G2
    have S2 := hsg.out.touch N2.touch (fun _ _ h => h)
    have hl2 : ([tag] ++ k).length ≤ 6 := by simp; omega
    clear N01 R2 G2 S1 T1
    generalize hp : [tag] ++ k = pk at *
    have HP := hide hp
    clear hp
    go_wp2_with (at_builtin; refine wpList_append_row _ rfl (.tmp 13) (.tmp 14) 22 22 rfl 5 i0 (.int .u8 0) .u8 1 Tryd.underlying22 hi hz0 hz1 hz2 rfl _ pk rfl N2.row _ xs rfl (S2.src Tryd.underlying22 _) ?b3 ?b4 ?nx2)
    case b3 => unfold maxLen; omega
    case b4 => omega
    case nx2 =>
      intro ao3 n3 c3 w3 R3 G3
      have N3 : New w w3 (.slice ao3 n3 c3) (pk ++ xs) := N2.of_grew R3 G3
      have hl3 : (pk ++ xs).length ≤ 268435462 := by rw [List.length_append]; omega
      have hn3 := N3.row.len
      subst hn3
      have SU := hide (rsum_any ao3 (pk ++ xs) c3 w3 (Seg.of_row N3.row) H8S.out (by omega))
      rw [HS.out] at SU
      clear N2 R3 G3 S2
      generalize pk ++ xs = ps at *
      go_wp2_with fail
      refine SU.out.mono ?_
      rintro e w' ⟨rfl, rfl⟩
      clear SU
      go_wp2_with (at_builtin; refine wpList_append_row _ rfl (.tmp 18) (.tmp 30) 22 22 rfl 5 i0 (.int .u8 0) .u8 1 Tryd.underlying22 hi hz0 hz1 hz2 rfl _ ps rfl (N3.row.alloc _) _ [(s : Int) % 256, (s : Int) / 256 % 256, (s : Int) / 65536 % 256, (s : Int) / 16777216] rfl (src_four Tryd.underlying22 _ _ _ _ _ _ _) ?b5 ?b6 ?nx3)
      case b5 => unfold maxLen; simp only [List.length_cons, List.length_nil]; omega
      case b6 => simp only [List.length_cons, List.length_nil]; omega
      case nx3 =>
        intro ao4 n4 c4 w4 R4 G4
        have N4 := (N3.keep ((Touch.refl _ _).alloc _)).of_grew R4 G4
        rw [← sum4_int s hsl, HF.out] at N4
        clear N3 R4 G4
        go_wp2_with fail
        go_ret
        exact ⟨_, _, _, rfl, N4⟩

end Go.Proofs.YtfeifobljgmkkaaDoor
