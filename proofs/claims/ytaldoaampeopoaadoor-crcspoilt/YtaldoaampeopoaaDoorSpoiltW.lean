/- The walk of CrcSpoilt. -/
import Derived.Test.YtaldoaampeopoaaDoorLaid
import Derived.Test.YtaldoaampeopoaaDoorSpl
import Derived.BigQuiet
namespace Go.Proofs.YtaldoaampeopoaaDoor
open Go.ChangeShapes Go.WideShapes Go.ChangeAt Go.RowKit Crcx

theorem tmod_nat (b : Int) (L : Nat) (hL : 0 < L) : ∃ B : Nat, B < 8 * L ∧ (b.tmod (8 * (L : Int)) = (B : Int) ∨ (b.tmod (8 * (L : Int)) = -(B : Int) ∧ 0 < B)) := by
  have h8 : (0 : Int) < 8 * (L : Int) := by omega
  by_cases h : 0 ≤ b
  · have h1 := Int.tmod_nonneg (8 * (L : Int)) h
    have h2 := Int.tmod_lt_of_pos b h8
    exact ⟨(b.tmod (8 * (L : Int))).toNat, by omega, .inl (by omega)⟩
  · have h1 := Int.tmod_nonneg (8 * (L : Int)) (show 0 ≤ -b by omega)
    have h2 := Int.tmod_lt_of_pos (-b) h8
    rw [Int.neg_tmod] at h1 h2
    by_cases h0 : b.tmod (8 * (L : Int)) = 0
    · exact ⟨0, by omega, .inl (by omega)⟩
    · exact ⟨(-(b.tmod (8 * (L : Int)))).toNat, by omega, .inr ⟨by omega, by omega⟩⟩

theorem row_byt {w : World} {g n c : Nat} {ys : List Int} (h : Row w 5 .u8 (.slice (some ⟨g, 0, none⟩) n c) ys) (h8 : In8 ys) (i : Nat) (hi : i < ys.length) : w.cell? ⟨g, i, none⟩ = some (.int .u8 ((byt ys i : Nat) : Int)) := by
  have := (Seg.of_row h).at i hi
  rw [Nat.zero_add] at this
  rw [this]
  have := h8.at i
  unfold byt
  rw [Int.toNat_of_nonneg this.1]

set_option maxRecDepth 100000 in
set_option maxHeartbeats 2000000 in
theorem spoilt_walk (ao : Option Addr) (ac : Nat) (xa : List Int) (bit : Int) (mask : Nat) (w : World) (ht : Tab w) (ha : Txt.Ok w ⟨ao, ac, xa⟩) (la : xa.length ≤ 140737488351232) (hm : mask < 4294967296) (hi0 : -9223372036854775808 ≤ bit) (hi1 : bit ≤ 9223372036854775807) :
    Calls Tryd.prog 8 #[.slice ao xa.length ac, .int .i64 bit, .int .u32 mask] w fun e w' => e = .returned (.bool true) ∧ Touch (fun _ => False) w w' := by
  obtain ⟨i0, hi, hz0, hz1, hz2⟩ := info_parts infoU8
  have h8 : In8 xa := ha.in8
  have hs : Seg w .u8 ao xa := ha.seg
  go_enter Tryd.func8, Tryd.ntmps8
  go_wp2_with (at_builtin; refine wpList_append_row _ rfl (.tmp 10) (.tmp 11) 24 24 rfl 5 i0 (.int .u8 0) .u8 1 Tryd.underlying24 hi hz0 hz1 hz2 rfl _ [] rfl (Row.empty w) _ xa rfl ((hs.alloc _).src Tryd.underlying24 _) ?b1 ?b2 ?nx)
  case b1 => simp only [List.length_nil]; unfold maxLen; omega
  case b2 => simp only [List.length_nil]; omega
  case nx =>
    intro ao1 n1 c1 w1 hr1 hg1
    have hn1 : n1 = xa.length := hr1.len
    subst hn1
    have hr1 : Row w1 5 .u8 (.slice ao1 xa.length c1) xa := hr1
    have T1 : Touch (fun _ => False) w w1 := ((Touch.refl (fun _ => False) w).alloc _).trans hg1.touch (fun k hk h => by simp [Value.ownBlock] at h; omega)
    have fr1 : ∀ j, (Value.slice ao1 xa.length c1).ownBlock = some j → w.heap.size ≤ j := fun j hj => by
      rcases hg1.fresh with e | ⟨g, e, hg⟩
      · rw [hj] at e; simp [Value.ownBlock] at e; omega
      · rw [hj] at e; injection e with e; subst e; simp at hg; omega
    clear hg1 hs
    have HI0 := hide hi0
    have HI1 := hide hi1
    clear hi0 hi1
    by_cases hem : xa = []
    · subst hem
      go_wp2_with fail
      refine (works_any _ (ht.touch T1 (fun h => h))).mono ?_
      rintro e w2 ⟨rfl, t2⟩
      go_wp2_with fail
      go_ret
      exact ⟨rfl, T1.trans t2 (fun _ _ h => h)⟩
    · have hpos : 0 < xa.length := List.length_pos_iff.2 hem
      obtain ⟨g, rfl⟩ := hr1.mem hem
      have hg := fr1 g rfl
      clear fr1
      obtain ⟨B, hB, hT⟩ : ∃ B : Nat, B < 8 * xa.length ∧ (bit.tmod (8 * (xa.length : Int)) = (B : Int) ∨ (bit.tmod (8 * (xa.length : Int)) = -(B : Int) ∧ 0 < B)) := tmod_nat bit xa.length hpos
      have hz0' : ((xa.length : Int) == 0) = false := by
        apply Bool.eq_false_iff.2; intro h; have := eq_of_beq h; omega
      rcases hT with hT | ⟨hT, hB0⟩
      · have hneg : decide ((B : Int) < 0) = false := decide_eq_false (by omega)
        go_wp2_with fail
        go_loopw [2, 8, 9] (fun a i _ wr => ∃ (k mk : Nat) (ys : List Int), i = .int .i64 k ∧ k ≤ 32 ∧ a = .int .u32 (mk : Int) ∧ mk < 4294967296 ∧ Spoilt xa ys B k ∧ Row wr 5 .u8 (.slice (some ⟨g, 0, none⟩) xa.length c1) ys ∧ Touch (fun _ => False) w wr) (fun _ i _ _ => 32 - (intOf i).toNat)
        case atStart => exact ⟨0, mask, xa, rfl, Nat.zero_le _, rfl, hm, Spoilt.refl h8 B, hr1, T1⟩
        case round =>
          obtain ⟨k, mk, ys, rfl, hk, rfl, hmk, hsp, hr, htw⟩ := hrel
          by_cases hlast : k < 32
          · by_cases hgo : mk % 2 = 1 ∧ B + k < 8 * xa.length
            · obtain ⟨hodd, hlt⟩ := hgo
              have hodd' : (mk : Int) % 2 = 1 := by omega
              have hlt' : (B : Int) + (k : Int) < 8 * (xa.length : Int) := by omega
              have hql : (B + k) / 8 < ys.length := by rw [hsp.len]; omega
              have cc := row_byt hr hsp.in8 ((B + k) / 8) hql
              have hfz := hr.frozen ((B + k) / 8)
              have HS := hide (hsp.turn hql)
              have hcl := byt_lt hsp.in8 ((B + k) / 8)
              have HR := hide (fun x => (hr.set (q := (B + k) / 8) x).drew)
              have HT := hide (fun x => (htw.setCell (p := ⟨g, (B + k) / 8, none⟩) (fun h => by have h' : g < w.heap.size := h; omega) x).drew)
              have hq8 : ((B : Int) + (k : Int)) / 8 = (((B + k) / 8 : Nat) : Int) := by omega
              have hr8 : ((B : Int) + (k : Int)) % 8 = (((B + k) % 8 : Nat) : Int) := by omega
              have hrl : (B + k) % 8 < 8 := by omega
              have hpl : 2 ^ ((B + k) % 8) < 256 := Nat.pow_lt_pow_right (a := 2) (by omega) hrl
              have hqx : ((B + k) / 8 : Nat) < xa.length := by omega
              have HX := hide (show bits .xor .u8 ((byt ys ((B + k) / 8) : Nat) : Int) ((2 : Int) ^ ((B + k) % 8) % 256) = ((byt ys ((B + k) / 8) ^^^ 2 ^ ((B + k) % 8) : Nat) : Int) by
                rw [show (2 : Int) ^ ((B + k) % 8) = ((2 ^ ((B + k) % 8) : Nat) : Int) by rw [Int.natCast_pow]; rfl, show ((2 ^ ((B + k) % 8) : Nat) : Int) % 256 = ((2 ^ ((B + k) % 8) : Nat) : Int) from Int.emod_eq_of_lt (Int.natCast_nonneg _) (Int.ofNat_lt.2 hpl), u8_xor_nat _ _ hcl hpl])
              generalize byt ys ((B + k) / 8) = c at *
              generalize (B + k) / 8 = q at *
              generalize (B + k) % 8 = r at *
              clear hsp hr htw hT
              go_wp2_with fail
              go_region
              all_goals go_wp2_with fail
              go_roundw
              case rel => exact ⟨k + 1, mk / 2, _, by go_num, by omega, by go_num, by omega, HS.out, by rw [HX.out]; exact HR.out _, HT.out _⟩
              case measure => simp [intOf]; omega
            · have hsk := hide (hsp.skip)
              clear hT
              by_cases hodd : mk % 2 = 1
              · have hodd' : (mk : Int) % 2 = 1 := by omega
                have hlt' : ¬ (B : Int) + (k : Int) < 8 * (xa.length : Int) := fun h => hgo ⟨hodd, by omega⟩
                clear hgo hodd hsp
                go_wp2_with fail
                go_roundw
                case rel => exact ⟨k + 1, mk / 2, ys, by go_num, by omega, by go_num, by omega, hsk.out, hr, htw⟩
                case measure => simp [intOf]; omega
              · have hodd' : ¬ (mk : Int) % 2 = 1 := by omega
                clear hgo hodd hsp
                go_wp2_with fail
                go_roundw
                case rel => exact ⟨k + 1, mk / 2, ys, by go_num, by omega, by go_num, by omega, hsk.out, hr, htw⟩
                case measure => simp [intOf]; omega
          · have e : k = 32 := by omega
            subst e
            have hse : Seg wr .u8 (some ⟨g, 0, none⟩) ys := Seg.of_row hr
            have hyl : xa.length = ys.length := hsp.len.symm
            have hsa : Seg wr .u8 ao xa := (ha.seg).touch htw (fun _ _ h => h)
            have q1 := conv_seg hsa ac
            have q2 := conv_seg hse c1
            rw [← hyl] at q2
            have htr := ht.touch htw (fun h => h)
            have oa : Txt.Ok wr ⟨ao, ac, xa⟩ := ha.touch htw
            have oy : Txt.Ok wr ⟨some ⟨g, 0, none⟩, c1, ys⟩ := ⟨hse, hsp.in8, by show ys.length ≤ _; omega⟩
            have S1 := hide (fun W h (o : Txt.Ok W ⟨ao, ac, xa⟩) => sum_row W h [⟨ao, ac, xa⟩] (fun t ht => by simp at ht; subst ht; exact o) (by simp) 1 rfl _ (congrArg (fun l => more 0 (nats l)) (show alls [⟨ao, ac, xa⟩] = xa by simp [alls])) #[.slice ao xa.length ac] rfl)
            have S2 := hide (fun W h (o : Txt.Ok W ⟨some ⟨g, 0, none⟩, c1, ys⟩) => sum_row W h [⟨some ⟨g, 0, none⟩, c1, ys⟩] (fun t ht => by simp at ht; subst ht; exact o) (by simp) 1 rfl _ (congrArg (fun l => more 0 (nats l)) (show alls [⟨some ⟨g, 0, none⟩, c1, ys⟩] = ys by simp [alls])) #[.slice (some ⟨g, 0, none⟩) ys.length c1] rfl)
            rw [← hyl] at S2
            by_cases heq : xa = ys
            · subst heq
              have hb : ((strOfNums xa).toList == (strOfNums xa).toList) = true := by simp
              generalize more 0 (nats xa) = SS at *
              clear hsp hr hT hyl hsa hse
              go_wp2_with fail
              refine (S1.out _ htr oa).mono ?_
              rintro e w2 ⟨rfl, ht2, t2⟩
              have oy2 := oy.touch t2
              go_wp2_with fail
              refine (S2.out _ ht2 oy2).mono ?_
              rintro e w3 ⟨rfl, ht3, t3⟩
              go_wp2_with fail
              refine (works_any _ ht3).mono ?_
              rintro e w4 ⟨rfl, t4⟩
              go_wp2_with fail
              go_ret
              exact ⟨rfl, ((htw.trans t2 (fun _ _ h => h)).trans t3 (fun _ _ h => h)).trans t4 (fun _ _ h => h)⟩
            · have hb : ((strOfNums xa).toList == (strOfNums ys).toList) = false := by
                apply Bool.eq_false_iff.2
                intro h
                exact heq (strOfNums_inj h8 hsp.in8 (by rw [← ByteArray.toList_eq, ← ByteArray.toList_eq]; exact eq_of_beq h))
              have hne := hsp.differ h8 heq
              generalize more 0 (nats xa) = SA at *
              generalize more 0 (nats ys) = SB at *
              have hne' : ¬ (SA : Int) = (SB : Int) := by omega
              clear hsp hr hT hyl hsa hse hne
              go_wp2_with fail
              refine (S1.out _ htr oa).mono ?_
              rintro e w2 ⟨rfl, ht2, t2⟩
              have oy2 := oy.touch t2
              go_wp2_with fail
              refine (S2.out _ ht2 oy2).mono ?_
              rintro e w3 ⟨rfl, ht3, t3⟩
              go_wp2_with fail
              refine (works_any _ ht3).mono ?_
              rintro e w4 ⟨rfl, t4⟩
              go_wp2_with fail
              go_ret
              exact ⟨congrArg (fun b => Ending.returned (Value.bool b)) (show (((SA : Int) != (SB : Int))) = true from bne_iff_ne.2 hne'), ((htw.trans t2 (fun _ _ h => h)).trans t3 (fun _ _ h => h)).trans t4 (fun _ _ h => h)⟩
      · have hneg : decide (-(B : Int) < 0) = true := decide_eq_true (by omega)
        go_wp2_with fail
        go_loopw [2, 8, 9] (fun a i _ wr => ∃ (k mk : Nat) (ys : List Int), i = .int .i64 k ∧ k ≤ 32 ∧ a = .int .u32 (mk : Int) ∧ mk < 4294967296 ∧ Spoilt xa ys B k ∧ Row wr 5 .u8 (.slice (some ⟨g, 0, none⟩) xa.length c1) ys ∧ Touch (fun _ => False) w wr) (fun _ i _ _ => 32 - (intOf i).toNat)
        case atStart => exact ⟨0, mask, xa, rfl, Nat.zero_le _, rfl, hm, Spoilt.refl h8 B, hr1, T1⟩
        case round =>
          obtain ⟨k, mk, ys, rfl, hk, rfl, hmk, hsp, hr, htw⟩ := hrel
          by_cases hlast : k < 32
          · by_cases hgo : mk % 2 = 1 ∧ B + k < 8 * xa.length
            · obtain ⟨hodd, hlt⟩ := hgo
              have hodd' : (mk : Int) % 2 = 1 := by omega
              have hlt' : (B : Int) + (k : Int) < 8 * (xa.length : Int) := by omega
              have hql : (B + k) / 8 < ys.length := by rw [hsp.len]; omega
              have cc := row_byt hr hsp.in8 ((B + k) / 8) hql
              have hfz := hr.frozen ((B + k) / 8)
              have HS := hide (hsp.turn hql)
              have hcl := byt_lt hsp.in8 ((B + k) / 8)
              have HR := hide (fun x => (hr.set (q := (B + k) / 8) x).drew)
              have HT := hide (fun x => (htw.setCell (p := ⟨g, (B + k) / 8, none⟩) (fun h => by have h' : g < w.heap.size := h; omega) x).drew)
              have hq8 : ((B : Int) + (k : Int)) / 8 = (((B + k) / 8 : Nat) : Int) := by omega
              have hr8 : ((B : Int) + (k : Int)) % 8 = (((B + k) % 8 : Nat) : Int) := by omega
              have hrl : (B + k) % 8 < 8 := by omega
              have hpl : 2 ^ ((B + k) % 8) < 256 := Nat.pow_lt_pow_right (a := 2) (by omega) hrl
              have hqx : ((B + k) / 8 : Nat) < xa.length := by omega
              have HX := hide (show bits .xor .u8 ((byt ys ((B + k) / 8) : Nat) : Int) ((2 : Int) ^ ((B + k) % 8) % 256) = ((byt ys ((B + k) / 8) ^^^ 2 ^ ((B + k) % 8) : Nat) : Int) by
                rw [show (2 : Int) ^ ((B + k) % 8) = ((2 ^ ((B + k) % 8) : Nat) : Int) by rw [Int.natCast_pow]; rfl, show ((2 ^ ((B + k) % 8) : Nat) : Int) % 256 = ((2 ^ ((B + k) % 8) : Nat) : Int) from Int.emod_eq_of_lt (Int.natCast_nonneg _) (Int.ofNat_lt.2 hpl), u8_xor_nat _ _ hcl hpl])
              generalize byt ys ((B + k) / 8) = c at *
              generalize (B + k) / 8 = q at *
              generalize (B + k) % 8 = r at *
              clear hsp hr htw hT
              go_wp2_with fail
              go_region
              all_goals go_wp2_with fail
              go_roundw
              case rel => exact ⟨k + 1, mk / 2, _, by go_num, by omega, by go_num, by omega, HS.out, by rw [HX.out]; exact HR.out _, HT.out _⟩
              case measure => simp [intOf]; omega
            · have hsk := hide (hsp.skip)
              clear hT
              by_cases hodd : mk % 2 = 1
              · have hodd' : (mk : Int) % 2 = 1 := by omega
                have hlt' : ¬ (B : Int) + (k : Int) < 8 * (xa.length : Int) := fun h => hgo ⟨hodd, by omega⟩
                clear hgo hodd hsp
                go_wp2_with fail
                go_roundw
                case rel => exact ⟨k + 1, mk / 2, ys, by go_num, by omega, by go_num, by omega, hsk.out, hr, htw⟩
                case measure => simp [intOf]; omega
              · have hodd' : ¬ (mk : Int) % 2 = 1 := by omega
                clear hgo hodd hsp
                go_wp2_with fail
                go_roundw
                case rel => exact ⟨k + 1, mk / 2, ys, by go_num, by omega, by go_num, by omega, hsk.out, hr, htw⟩
                case measure => simp [intOf]; omega
          · have e : k = 32 := by omega
            subst e
            have hse : Seg wr .u8 (some ⟨g, 0, none⟩) ys := Seg.of_row hr
            have hyl : xa.length = ys.length := hsp.len.symm
            have hsa : Seg wr .u8 ao xa := (ha.seg).touch htw (fun _ _ h => h)
            have q1 := conv_seg hsa ac
            have q2 := conv_seg hse c1
            rw [← hyl] at q2
            have htr := ht.touch htw (fun h => h)
            have oa : Txt.Ok wr ⟨ao, ac, xa⟩ := ha.touch htw
            have oy : Txt.Ok wr ⟨some ⟨g, 0, none⟩, c1, ys⟩ := ⟨hse, hsp.in8, by show ys.length ≤ _; omega⟩
            have S1 := hide (fun W h (o : Txt.Ok W ⟨ao, ac, xa⟩) => sum_row W h [⟨ao, ac, xa⟩] (fun t ht => by simp at ht; subst ht; exact o) (by simp) 1 rfl _ (congrArg (fun l => more 0 (nats l)) (show alls [⟨ao, ac, xa⟩] = xa by simp [alls])) #[.slice ao xa.length ac] rfl)
            have S2 := hide (fun W h (o : Txt.Ok W ⟨some ⟨g, 0, none⟩, c1, ys⟩) => sum_row W h [⟨some ⟨g, 0, none⟩, c1, ys⟩] (fun t ht => by simp at ht; subst ht; exact o) (by simp) 1 rfl _ (congrArg (fun l => more 0 (nats l)) (show alls [⟨some ⟨g, 0, none⟩, c1, ys⟩] = ys by simp [alls])) #[.slice (some ⟨g, 0, none⟩) ys.length c1] rfl)
            rw [← hyl] at S2
            by_cases heq : xa = ys
            · subst heq
              have hb : ((strOfNums xa).toList == (strOfNums xa).toList) = true := by simp
              generalize more 0 (nats xa) = SS at *
              clear hsp hr hT hyl hsa hse
              go_wp2_with fail
              refine (S1.out _ htr oa).mono ?_
              rintro e w2 ⟨rfl, ht2, t2⟩
              have oy2 := oy.touch t2
              go_wp2_with fail
              refine (S2.out _ ht2 oy2).mono ?_
              rintro e w3 ⟨rfl, ht3, t3⟩
              go_wp2_with fail
              refine (works_any _ ht3).mono ?_
              rintro e w4 ⟨rfl, t4⟩
              go_wp2_with fail
              go_ret
              exact ⟨rfl, ((htw.trans t2 (fun _ _ h => h)).trans t3 (fun _ _ h => h)).trans t4 (fun _ _ h => h)⟩
            · have hb : ((strOfNums xa).toList == (strOfNums ys).toList) = false := by
                apply Bool.eq_false_iff.2
                intro h
                exact heq (strOfNums_inj h8 hsp.in8 (by rw [← ByteArray.toList_eq, ← ByteArray.toList_eq]; exact eq_of_beq h))
              have hne := hsp.differ h8 heq
              generalize more 0 (nats xa) = SA at *
              generalize more 0 (nats ys) = SB at *
              have hne' : ¬ (SA : Int) = (SB : Int) := by omega
              clear hsp hr hT hyl hsa hse hne
              go_wp2_with fail
              refine (S1.out _ htr oa).mono ?_
              rintro e w2 ⟨rfl, ht2, t2⟩
              have oy2 := oy.touch t2
              go_wp2_with fail
              refine (S2.out _ ht2 oy2).mono ?_
              rintro e w3 ⟨rfl, ht3, t3⟩
              go_wp2_with fail
              refine (works_any _ ht3).mono ?_
              rintro e w4 ⟨rfl, t4⟩
              go_wp2_with fail
              go_ret
              exact ⟨congrArg (fun b => Ending.returned (Value.bool b)) (show (((SA : Int) != (SB : Int))) = true from bne_iff_ne.2 hne'), ((htw.trans t2 (fun _ _ h => h)).trans t3 (fun _ _ h => h)).trans t4 (fun _ _ h => h)⟩

end Go.Proofs.YtaldoaampeopoaaDoor
