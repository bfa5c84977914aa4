/- The verifier's Spoil: bits turned in a text. -/
import Derived.Test.YtfeifobljgmkkabDoorFSpl
import Derived.Test.YtfeifobljgmkkabDoorFKnown
import Derived.BigQuiet
namespace Go.Proofs.YtfeifobljgmkkabDoor
open Go.RowKit Crcx

theorem tmod_nat (b : Int) (L : Nat) (hL : 0 < L) : ∃ B : Nat, B < 8 * L ∧ (b.tmod (8 * (L : Int)) = (B : Int) ∨ (b.tmod (8 * (L : Int)) = -(B : Int) ∧ 0 < B)) := by
  have h8 : (0 : Int) < 8 * (L : Int) := by omega
  by_cases h : 0 ≤ b
  · have h1 := Int.tmod_nonneg (8 * (L : Int)) h
    have h2 := Int.tmod_lt_of_pos b h8
    exact ⟨(b.tmod (8 * (L : Int))).toNat, by omega, .inl (by omega)⟩
  · have h1 := Int.tmod_nonneg (8 * (L : Int)) (show 0 ≤ -b by omega)
    have h2 := Int.tmod_lt_of_pos (-b) h8
    rw [Int.neg_tmod] at h1 h2
    by_cases h0 : b.tmod (8 * (L : Int)) = 0
    · exact ⟨0, by omega, .inl (by omega)⟩
    · exact ⟨(-(b.tmod (8 * (L : Int)))).toNat, by omega, .inr ⟨by omega, by omega⟩⟩

theorem row_byt {w : World} {g n c : Nat} {ys : List Int} (h : Row w 5 .u8 (.slice (some ⟨g, 0, none⟩) n c) ys) (h8 : In8 ys) (i : Nat) (hi : i < ys.length) : w.cell? ⟨g, i, none⟩ = some (.int .u8 ((byt ys i : Nat) : Int)) := by
  have := (Seg.of_row h).at i hi
  rw [Nat.zero_add] at this
  rw [this]
  have := h8.at i
  unfold byt
  rw [Int.toNat_of_nonneg this.1]

theorem shr_bit (x i : Nat) (hx : x < 4294967296) : bits .and .u32 ((x : Int) / 2 ^ i) 1 = ((x / 2 ^ i % 2 : Nat) : Int) := by
  rw [show ((x : Int) / 2 ^ i) = ((x / 2 ^ i : Nat) : Int) by rw [Int.natCast_ediv, Int.natCast_pow]; rfl]
  have := u32_and_nat (x / 2 ^ i) 1 (Nat.lt_of_le_of_lt (Nat.div_le_self _ _) hx) (by omega)
  rw [show ((1 : Nat) : Int) = 1 by rfl] at this
  rw [this, Nat.and_one_is_mod]

theorem New.set {w wr : World} {g n c : Nat} {ys : List Int} (h : New w wr (.slice (some ⟨g, 0, none⟩) n c) ys) (q : Nat) (x : Int) : New w (wr.setCell ⟨g, q, none⟩ (.int .u8 x)) (.slice (some ⟨g, 0, none⟩) n c) (ys.set q x) :=
  ⟨h.row.set x, h.lo, h.touch.setCell (p := ⟨g, q, none⟩) (fun hh => by have := h.lo g rfl; have h' : g < w.heap.size := hh; omega) _⟩

set_option maxRecDepth 100000 in
set_option maxHeartbeats 1000000 in
theorem spoil_any (t : Txt) (B mask : Nat) (w : World) (ho : t.Ok w) (hl : t.xs.length ≤ 140737488351232) (hB : B ≤ 4294967296) (hm : mask < 4294967296) :
    Calls Tryd.prog 12 #[.slice t.ao t.xs.length t.cap, .int .i64 B, .int .u32 mask] w fun e w' => ∃ ao n c ys, e = .returned (.slice ao n c) ∧ New w w' (.slice ao n c) ys ∧ Spoilt t.xs ys B 32 := by
  obtain ⟨i0, hi, hz0, hz1, hz2⟩ := info_parts Tryd.info5
  have SR := hide (ho.seg.src (P := Tryd.prog) Tryd.underlying22 t.cap)
  have h8 := hide ho.in8
  clear ho
  obtain ⟨ao, cap, xs⟩ := t
  simp only at *
  go_enter Tryd.func12, Tryd.ntmps12
  go_wp2_with (at_builtin; refine wpList_append_row _ rfl (.const (.slice none 0 0)) (.tmp 11) 22 22 rfl 5 i0 (.int .u8 0) .u8 1 Tryd.underlying22 hi hz0 hz1 hz2 rfl _ [] rfl (Row.nil _ _ _) _ xs rfl SR.out ?b1 ?b2 ?nx)
  case b1 => unfold maxLen; simp; omega
  case b2 => simp; omega
  case nx =>
    intro ao2 n2 c2 w2 R2 G2
    have N2 : New w w2 (.slice ao2 n2 c2) xs := (New.nil (Touch.refl _ _)).of_grew R2 G2
    have hn2 := N2.row.len
    subst hn2
    obtain ⟨L, hL⟩ : ∃ L, L = xs.length := ⟨_, rfl⟩
    rw [← hL] at N2 ⊢
    have HL := hide hL
    clear R2 G2 SR hL
    go_wp2_with fail
    go_loopw [8] (fun i wr => ∃ (k : Nat) (ys : List Int), i = .int .i64 k ∧ k ≤ 32 ∧ New w wr (.slice ao2 L c2) ys ∧ Spoilt xs ys B k) (fun i _ => 32 - (intOf i).toNat)
    case atStart => exact ⟨0, xs, rfl, by omega, N2, Spoilt.refl h8.out B⟩
    case round =>
      obtain ⟨k, ys, rfl, hk, hN, hS⟩ := hrel
      clear N2
      by_cases hlt : k < 32
      · have hsb := shr_bit mask k hm
        have hwk : IntKind.u64.wrap (k : Int) = (k : Int) := by rw [IntKind.wrap_u64]; omega
        have hbk0 : (0 : Int) ≤ (B : Int) + (k : Int) := by omega
        have hbk : (B : Int) + (k : Int) ≤ 4294967328 := by omega
        have hq8 : ((B : Int) + (k : Int)) / 8 = (((B + k) / 8 : Nat) : Int) := by omega
        by_cases hbit : mask / 2 ^ k % 2 = 1
        · rw [hbit] at hsb
          by_cases hin : (B + k) / 8 < L
          · have hin' : (((B + k) / 8 : Nat) : Int) < (L : Int) := by omega
            have hql : (B + k) / 8 < ys.length := by rw [hS.len, ← HL.out]; exact hin
            obtain ⟨g, rfl⟩ : ∃ g, ao2 = some ⟨g, 0, none⟩ := by
              rcases hN.row.form with ⟨hv, hx⟩ | ⟨g, cap, cur, hv, _⟩
              · rw [hx] at hql; simp at hql
              · injection hv with h1 _ _; exact ⟨g, h1⟩
            have cc := row_byt hN.row hS.in8 ((B + k) / 8) hql
            have hfz := hN.row.frozen ((B + k) / 8)
            have HS := hide (hS.turn hql)
            have hcl := byt_lt hS.in8 ((B + k) / 8)
            have HN := hide (fun x => hN.set ((B + k) / 8) x)
            have hr8 : ((B : Int) + (k : Int)) % 8 = (((B + k) % 8 : Nat) : Int) := by omega
            have hrl : (B + k) % 8 < 8 := by omega
            have hwr : IntKind.u64.wrap (((B + k) % 8 : Nat) : Int) = (((B + k) % 8 : Nat) : Int) := by rw [IntKind.wrap_u64]; omega
            have hpl : 2 ^ ((B + k) % 8) < 256 := Nat.pow_lt_pow_right (a := 2) (by omega) hrl
            have HX := hide (show bits .xor .u8 ((byt ys ((B + k) / 8) : Nat) : Int) ((2 : Int) ^ ((B + k) % 8) % 256) = ((byt ys ((B + k) / 8) ^^^ 2 ^ ((B + k) % 8) : Nat) : Int) by
              rw [show (2 : Int) ^ ((B + k) % 8) = ((2 ^ ((B + k) % 8) : Nat) : Int) by rw [Int.natCast_pow]; rfl, show ((2 ^ ((B + k) % 8) : Nat) : Int) % 256 = ((2 ^ ((B + k) % 8) : Nat) : Int) from Int.emod_eq_of_lt (Int.natCast_nonneg _) (Int.ofNat_lt.2 hpl), u8_xor_nat _ _ hcl hpl])
            generalize byt ys ((B + k) / 8) = c at *
            generalize (B + k) / 8 = q at *
            generalize (B + k) % 8 = r at *
            clear hN hS
            go_wp2_with fail
            go_roundw
            case rel => exact ⟨k + 1, _, by go_num, by omega, by rw [HX.out]; exact HN.out _, HS.out⟩
            case measure => simp [intOf]; omega
          · have hin' : decide ((((B + k) / 8 : Nat) : Int) < (L : Int)) = false := decide_eq_false (by omega)
            have HS := hide hS.skip
            have HN := hide hN
            generalize (B + k) / 8 = q at *
            have hin2 : decide (q < L) = false := decide_eq_false hin
            clear hN hS
            go_wp2_with fail
            go_roundw
            case rel => exact ⟨k + 1, _, by go_num, by omega, HN.out, HS.out⟩
            case measure => simp [intOf]; omega
        · have hb0 : mask / 2 ^ k % 2 = 0 := by omega
          rw [hb0] at hsb
          have HS := hide hS.skip
          have HN := hide hN
          clear hN hS hbit hb0
          go_wp2_with fail
          go_roundw
          case rel => exact ⟨k + 1, _, by go_num, by omega, HN.out, HS.out⟩
          case measure => simp [intOf]; omega
      · have e : k = 32 := by omega
        subst e
        go_wp2_with fail
        go_ret
        exact ⟨_, _, _, ys, rfl, hN, hS⟩

end Go.Proofs.YtfeifobljgmkkabDoor
