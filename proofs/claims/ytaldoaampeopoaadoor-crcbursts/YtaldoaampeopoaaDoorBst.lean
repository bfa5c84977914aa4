/- The program's Burst. -/
import Derived.Test.YtaldoaampeopoaaDoorBrs
import Derived.Test.YtaldoaampeopoaaDoorI63
import Derived.Lib.Tables
import Derived.Laws.BitsAll
import Derived.BigQuiet
namespace Go.Proofs.YtaldoaampeopoaaDoor
open Go.RowKit Crcx

theorem Touch.drewN {S : Nat → Prop} {a w : World} (h : Touch S a w) (n : Nat) : Touch S a (w.drewN n) := ⟨h.os, h.tape, h.output, h.size, h.block⟩

theorem ntz_tab : ∀ x : Fin 256, x.1 ≠ 0 → Lib.ntz8 (x.1 : Int) = ((low8 x.1 : Nat) : Int) := by decide +kernel
theorem len_tab : ∀ x : Fin 256, x.1 ≠ 0 → Lib.len8 (x.1 : Int) = ((high8 x.1 + 1 : Nat) : Int) := by decide +kernel

theorem ntz_at (x : Nat) (h : x < Lib.ntz8tab.size) (y : Nat) (hy : y < 9) (e : Lib.ntz8 (x : Int) = (y : Int)) : wrap64 ((Lib.ntz8tab[x]'h).toNat : Int) = (y : Int) := by
  have : ((Lib.ntz8tab[x]'h).toNat : Int) = Lib.ntz8 (x : Int) := by
    unfold Lib.ntz8; rw [Int.toNat_natCast, ByteArray.getElem?_lt' _ _ h]; rfl
  rw [this, e, wrap_small (by omega) ⟨by omega⟩]

theorem len_at (x : Nat) (h : x < Lib.len8tab.size) (y : Nat) (hy : y < 9) (e : Lib.len8 (x : Int) = (y : Int)) : wrap64 ((Lib.len8tab[x]'h).toNat : Int) = (y : Int) := by
  have : ((Lib.len8tab[x]'h).toNat : Int) = Lib.len8 (x : Int) := by
    unfold Lib.len8; rw [Int.toNat_natCast, ByteArray.getElem?_lt' _ _ h]; rfl
  rw [this, e, wrap_small (by omega) ⟨by omega⟩]

set_option maxRecDepth 100000 in
theorem tz8_any (x : Nat) (hx : x < 256) (h0 : x ≠ 0) (w : World) :
    Calls Tryd.prog 41 #[.int .u8 x] w fun e w' => e = .returned (.int .i64 ((low8 x : Nat) : Int)) ∧ w = w' := by
  have H := hide (ntz_tab ⟨x, hx⟩ h0)
  have hl : low8 x < 8 := (low8_spec ⟨x, hx⟩ h0).1
  go_enter Tryd.func41, Tryd.ntmps41
  go_wp2_with fail
  go_ret
  exact ⟨ret_int (ntz_at x _ _ (by omega) H.out), rfl⟩

set_option maxRecDepth 100000 in
theorem len8_any (x : Nat) (hx : x < 256) (h0 : x ≠ 0) (w : World) :
    Calls Tryd.prog 42 #[.int .u8 x] w fun e w' => e = .returned (.int .i64 ((high8 x + 1 : Nat) : Int)) ∧ w = w' := by
  have H := hide (len_tab ⟨x, hx⟩ h0)
  have hl : high8 x < 8 := (high8_spec ⟨x, hx⟩ h0).1
  go_enter Tryd.func42, Tryd.ntmps42
  go_wp2_with fail
  go_ret
  exact ⟨ret_int (len_at x _ _ (by omega) H.out), rfl⟩

/-- The bytes of two texts in memory. -/
theorem seg_byt {w : World} {b off : Nat} {xs : List Int} (h : Seg w .u8 (some ⟨b, off, none⟩) xs) (h8 : In8 xs) (i : Nat) (hi : i < xs.length) : w.cell? ⟨b, off + i, none⟩ = some (.int .u8 ((Go.Proofs.YtaldoaampeopoaaDoor.byt xs i : Nat) : Int)) := by
  rw [h.at i hi]
  have := h8.at i
  unfold Go.Proofs.YtaldoaampeopoaaDoor.byt
  rw [Int.toNat_of_nonneg this.1]

theorem byt_none {xs : List Int} {i : Nat} (h : xs.length ≤ i) : byt xs i = 0 := by
  unfold byt; rw [List.getD_eq_getElem?_getD, List.getElem?_eq_none h]; rfl

set_option maxRecDepth 100000 in
set_option maxHeartbeats 1000000 in
theorem burst_any (L : Nat) (ao bo : Option Addr) (xs ys : List Int) (ca cb : Nat) (w : World) (hx : Seg w .u8 ao xs) (hy : Seg w .u8 bo ys) (h8 : In8 xs) (h8' : In8 ys) (HXL : Hid (xs.length = L)) (HYL : Hid (ys.length = L)) (hb : L ≤ 140737488351232) :
    Calls Tryd.prog 25 #[.slice ao L ca, .slice bo L cb] w fun e w' => RetBurst xs ys e ∧ Touch (fun _ => False) w w' := by
  go_enter Tryd.func25, Tryd.ntmps25
  go_wp2_with fail
  go_loopw [7] (fun i wr => ∃ f : Nat, i = .int .i64 f ∧ f ≤ L ∧ (∀ j, j < f → byt xs j = byt ys j) ∧ Touch (fun _ => False) w wr) (fun i _ => L - (intOf i).toNat)
  case atStart => exact ⟨0, rfl, Nat.zero_le _, fun j hj => (nomatch hj), Touch.refl _ _⟩
  case round =>
    obtain ⟨f, rfl, hf, hsame, htw⟩ := hrel
    have hxr := hx.touch htw (fun _ _ h => h)
    have hyr := hy.touch htw (fun _ _ h => h)
    by_cases hlast : f < L
    · obtain ⟨b1, o1, rfl⟩ := hx.addr (by have := HXL.out; omega)
      obtain ⟨b2, o2, rfl⟩ := hy.addr (by have := HYL.out; omega)
      have c1 := seg_byt hxr h8 f (by have := HXL.out; omega)
      have c2 := seg_byt hyr h8' f (by have := HYL.out; omega)
      have HS := hide hsame
      have HT := hide htw
      have hd : decide (f < L) = true := decide_eq_true hlast
      obtain ⟨p, hp⟩ : ∃ p, byt xs f = p := ⟨_, rfl⟩
      obtain ⟨q, hq⟩ : ∃ q, byt ys f = q := ⟨_, rfl⟩
      rw [hp] at c1
      rw [hq] at c2
      by_cases hpq : p = q
      · subst hpq
        have HN := hide (show byt xs f = byt ys f by rw [hp, hq])
        clear hsame htw hx hy hxr hyr hp hq
        go_wp2_with fail
        go_quiet (fail)
        all_goals go_wp2_with fail
        go_roundw
        case rel => exact ⟨f + 1, by go_num, by omega, fun j hj => if e : j = f then e ▸ HN.out else HS.out j (by omega), HT.out.drewN _⟩
        case measure => simp [intOf]; omega
      · have HF := hide (show byt xs f ≠ byt ys f by rw [hp, hq]; exact hpq)
        have HX := hide hx
        have HY := hide hy
        have hfl : ¬ f = L := by omega
        clear hsame htw hx hy hxr hyr hp hq
        go_wp2_with fail
        go_quiet (fail)
        all_goals go_wp2_with fail
        go_loopw [8] (fun i wr2 => ∃ l : Nat, i = .int .i64 l ∧ f ≤ l ∧ l < L ∧ (∀ j, l < j → byt xs j = byt ys j) ∧ Touch (fun _ => False) w wr2) (fun i _ => (intOf i).toNat)
        case atStart => exact ⟨L - 1, by go_num, by omega, by omega, fun j hj => by rw [byt_none (xs := xs) (by have := HXL.out; omega), byt_none (xs := ys) (by have := HYL.out; omega)], HT.out.drewN _⟩
        case round =>
          obtain ⟨l, rfl, hfl2, hll, hrest, htw⟩ := hrel
          clear c1 c2
          have hxr := HX.out.touch htw (fun _ _ h => h)
          have hyr := HY.out.touch htw (fun _ _ h => h)
          have c1 := seg_byt hxr h8 l (by have := HXL.out; omega)
          have c2 := seg_byt hyr h8' l (by have := HYL.out; omega)
          obtain ⟨p2, hp2⟩ : ∃ p, byt xs l = p := ⟨_, rfl⟩
          obtain ⟨q2, hq2⟩ : ∃ q, byt ys l = q := ⟨_, rfl⟩
          have HR := hide hrest
          have HT2 := hide htw
          by_cases hpq2 : p2 = q2
          · subst hpq2
            have HN := hide (show byt xs l = byt ys l by rw [hp2, hq2])
            have hlf : l ≠ f := fun e => by subst e; exact HF.out HN.out
            rw [hp2] at c1
            rw [hq2] at c2
            clear hrest htw hxr hyr hp2 hq2
            go_wp2_with fail
            go_quiet (fail)
            all_goals go_wp2_with fail
            go_roundw
            case rel => exact ⟨l - 1, by go_num, by omega, by omega, fun j hj => if e : j = l then e ▸ HN.out else HR.out j (by omega), HT2.out.drewN _⟩
            case measure => simp [intOf]; omega
          · have HL := hide (show byt xs l ≠ byt ys l by rw [hp2, hq2]; exact hpq2)
            have d1 := seg_byt hxr h8 f (by have := HXL.out; omega)
            have d2 := seg_byt hyr h8' f (by have := HYL.out; omega)
            have xf : byt xs f ^^^ byt ys f < 256 := Nat.xor_lt_two_pow (n := 8) (byt_lt h8 f) (byt_lt h8' f)
            have xl : byt xs l ^^^ byt ys l < 256 := Nat.xor_lt_two_pow (n := 8) (byt_lt h8 l) (byt_lt h8' l)
            have TZ := hide (fun W => tz8_any _ xf (fun e => HF.out (xor_eq_zero e)) W)
            have LE := hide (fun W => len8_any _ xl (fun e => HL.out (xor_eq_zero e)) W)
            have ex := u8_xor_nat _ _ (byt_lt h8 f) (byt_lt h8' f)
            have el := u8_xor_nat _ _ (byt_lt h8 l) (byt_lt h8' l)
            have a1 : low8 (byt xs f ^^^ byt ys f) < 8 := (low8_spec ⟨_, xf⟩ (fun e => HF.out (xor_eq_zero e))).1
            have b1' : high8 (byt xs l ^^^ byt ys l) < 8 := (high8_spec ⟨_, xl⟩ (fun e => HL.out (xor_eq_zero e))).1
            have HB := hide (brst_of h8 h8' HF.out HL.out HS.out HR.out)
            generalize low8 (byt xs f ^^^ byt ys f) = A at *
            generalize high8 (byt xs l ^^^ byt ys l) = B at *
            generalize byt xs f ^^^ byt ys f = X at *
            generalize byt xs l ^^^ byt ys l = Y at *
            rw [hp2, hq2] at el
            rw [hp2] at c1
            rw [hq2] at c2
            clear hrest htw hxr hyr hp2 hq2 xf xl HF HL HS HR HX HY
            generalize byt xs f = p3 at *
            generalize byt ys f = q3 at *
            go_wp2_with fail
            go_quiet (fail)
            all_goals go_wp2_with fail
            go_region_with (go_at_call 41; refine (TZ.out _).mono ?_; rintro e w5 ⟨rfl, rfl⟩)
            all_goals go_wp2_with fail
            all_goals go_simp
            all_goals go_region_with (go_at_call 42; refine (LE.out _).mono ?_; rintro e w5 ⟨rfl, rfl⟩)
            all_goals go_wp2_with fail
            all_goals go_ret3
            all_goals exact ⟨⟨8 * f + A, 8 * l + B, true, by rw [show ((8 * f + A : Nat) : Int) = 8 * (f : Int) + (A : Int) by omega, show ((8 * l + B : Nat) : Int) = 8 * (l : Int) + (B : Int) by omega]; rfl, HB.out⟩, HT2.out.drewN _⟩
    · have e : f = L := by omega
      subst e
      have HS := hide (brst_same (xs := xs) (ys := ys) fun i => if h : i < f then hsame i h else by rw [byt_none (xs := xs) (by have := HXL.out; omega), byt_none (xs := ys) (by have := HYL.out; omega)])
      have hd : decide (f < f) = false := decide_eq_false (by omega)
      have HT := hide htw
      clear hsame htw hxr hyr hx hy
      go_wp2_with fail
      go_quiet (fail)
      all_goals go_wp2_with fail
      go_ret3
      exact ⟨⟨0, 0, false, rfl, HS.out⟩, HT.out.drewN _⟩

end Go.Proofs.YtaldoaampeopoaaDoor
