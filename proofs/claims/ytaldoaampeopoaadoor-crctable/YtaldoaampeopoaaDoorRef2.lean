/- The document's answers for crc, as the verifier's package works them out: the table, products, Carry, Zeros, Join. -/
import Derived.Test.YtaldoaampeopoaaDoorRef1
namespace Go.Proofs.YtaldoaampeopoaaDoor
open Go.RowKit Crcx

set_option maxRecDepth 100000 in
theorem rtable_any (i : Nat) (hi : i < 256) (w : World) :
    Calls Tryd.prog 17 #[.int .i64 i] w fun e w' => e = .returned (.int .u32 ((stps 8 i : Nat) : Int)) ∧ w = w' := by
  have EI := hide (fun W => reight_any i (by omega) W)
  generalize stps 8 i = y at *
  have hcw : (i : Int) % 4294967296 = i := by omega
  go_enter Tryd.func17, Tryd.ntmps17
  go_wp2_with fail
  refine (EI.out _).mono ?_
  rintro e w' ⟨rfl, rfl⟩
  go_wp2_with fail
  go_ret
  exact ⟨rfl, rfl⟩

theorem tim_step (n a b out : Nat) (hb : b < 4294967296) : out ^^^ tim (n + 1) a b = (if 2147483648 ≤ b then out ^^^ a else out) ^^^ tim n (stp a) (2 * (b % 2147483648)) := by
  rw [tim]
  have : b.testBit 31 = decide (2147483648 ≤ b) := by
    rw [Nat.testBit_eq_decide_div_mod_eq]
    congr 1
    apply propext
    constructor <;> intro h <;> omega
  rw [this]
  by_cases h : 2147483648 ≤ b
  · simp only [h, decide_true, if_true]; rw [Nat.xor_assoc]
  · simp only [h, decide_false, if_false, Bool.false_eq_true]; rw [Nat.zero_xor]

set_option maxRecDepth 100000 in
theorem times_any (a b : Nat) (ha : a < 4294967296) (hb : b < 4294967296) (w : World) :
    Calls Tryd.prog 40 #[.int .u32 a, .int .u32 b] w fun e w' => e = .returned (.int .u32 ((tim 32 a b : Nat) : Int)) ∧ w = w' := by
  obtain ⟨res, hres⟩ : ∃ res, tim 32 a b = res := ⟨_, rfl⟩
  rw [hres]
  have HR := hide hres
  clear hres
  go_enter Tryd.func40, Tryd.ntmps40
  go_wp2_with fail
  go_loopw [0, 1, 5, 6] (fun x y o i wr => ∃ n p q r : Nat, i = .int .i64 n ∧ n ≤ 32 ∧ x = .int .u32 (p : Int) ∧ p < 4294967296 ∧ y = .int .u32 (q : Int) ∧ q < 4294967296 ∧ o = .int .u32 (r : Int) ∧ r < 4294967296 ∧ r ^^^ tim (32 - n) p q = res ∧ wr = w) (fun _ _ _ i _ => 32 - (intOf i).toNat)
  case atStart => exact ⟨0, a, b, 0, rfl, Nat.zero_le _, rfl, ha, rfl, hb, rfl, by omega, by rw [Nat.zero_xor]; exact HR.out, rfl⟩
  case round =>
    obtain ⟨n, p, q, r, rfl, hn, rfl, hp, rfl, hq, rfl, hr, hend, rfl⟩ := hrel
    by_cases hlast : n < 32
    · rw [show 32 - n = (32 - (n + 1)) + 1 by omega, tim_step _ _ _ _ hq] at hend
      have HE := hide hend
      clear hend HR
      have ST := hide (fun W => rstep_any p hp W)
      have hsl := stp_lt hp
      have hxr := u32_xor_nat r p hr hp
      have hxl := xor_lt hr hp
      have hmul : ((2 * ((q : Int) % 2147483648)) % 4294967296) = ((2 * (q % 2147483648) : Nat) : Int) := by omega
      generalize stp p = p' at *
      by_cases hge : 2147483648 ≤ q
      · have hge' : (2147483648 : Int) ≤ (q : Int) := by omega
        have HE2 := hide (show (r ^^^ p) ^^^ tim (32 - (n + 1)) p' (2 * (q % 2147483648)) = res by have := HE.out; rwa [if_pos hge] at this)
        clear HE
        generalize r ^^^ p = r' at *
        go_wp2_with fail
        refine (ST.out _).mono ?_
        rintro e w' ⟨rfl, rfl⟩
        go_wp2_with fail
        go_roundw
        case rel => exact ⟨n + 1, p', 2 * (q % 2147483648), r', by go_num, by omega, rfl, hsl, by go_num, by omega, rfl, hxl, HE2.out, trivial⟩
        case measure => simp [intOf]; omega
      · have hge' : ¬ (2147483648 : Int) ≤ (q : Int) := by omega
        have HE2 := hide (show r ^^^ tim (32 - (n + 1)) p' (2 * (q % 2147483648)) = res by have := HE.out; rwa [if_neg hge] at this)
        clear HE
        go_wp2_with fail
        refine (ST.out _).mono ?_
        rintro e w' ⟨rfl, rfl⟩
        go_wp2_with fail
        go_roundw
        case rel => exact ⟨n + 1, p', 2 * (q % 2147483648), r, by go_num, by omega, rfl, hsl, by go_num, by omega, rfl, hr, HE2.out, trivial⟩
        case measure => simp [intOf]; omega
    · have e : n = 32 := by omega
      subst e
      rw [Nat.sub_self, tim, Nat.xor_zero] at hend
      subst hend
      clear HR
      go_wp2_with fail
      go_ret
      exact ⟨rfl, rfl⟩

set_option maxRecDepth 100000 in
theorem rcarry_any (x : Nat) (hx : x < 4294967296) (n : Int) (h1 : I63 n) (w : World) :
    Calls Tryd.prog 19 #[.int .u32 x, .int .i64 n] w fun e w' => e = .returned (.int .u32 ((stps (far n) x : Nat) : Int)) ∧ w = w' := by
  obtain ⟨res, hres⟩ : ∃ res, stps (far n) x = res := ⟨_, rfl⟩
  rw [hres]
  have EI := hide (fun W => reight_any 2147483648 (by omega) W)
  have H0 : Hid (∀ N : Nat, N = n.toNat → stps (8 * N) x = res) := fun N hN => by rw [hN]; exact hres
  clear hres
  obtain ⟨p0, hp0⟩ : ∃ p0, stps 8 2147483648 = p0 := ⟨_, rfl⟩
  rw [hp0, show ((2147483648 : Nat) : Int) = 2147483648 from rfl] at EI
  have HP := hide hp0
  clear hp0
  go_enter Tryd.func19, Tryd.ntmps19
  by_cases hneg : n < 0
  · have hz := H0.out 0 (by omega)
    rw [Nat.mul_zero, stps_zero] at hz
    subst hz
    clear H0
    go_wp2_with fail
    refine (EI.out _).mono ?_
    rintro e w' ⟨rfl, rfl⟩
    go_wp2_with fail
    go_loopw [0, 1, 5] (fun a b _ wr => a = .int .u32 (x : Int) ∧ b = .int .i64 0 ∧ wr = w) (fun _ _ _ _ => 0)
    case atStart => exact ⟨rfl, rfl, rfl⟩
    case round =>
      obtain ⟨rfl, rfl, rfl⟩ := hrel
      go_wp2_with fail
      go_ret
      exact ⟨rfl, rfl⟩
  · go_wp2_with fail
    refine (EI.out _).mono ?_
    rintro e w' ⟨rfl, rfl⟩
    go_wp2_with fail
    go_loopw [0, 1, 5] (fun a b p wr => ∃ (N y e : Nat), a = .int .u32 (y : Int) ∧ y < 4294967296 ∧ b = .int .i64 (N : Int) ∧ I63 (N : Int) ∧ p = .int .u32 ((stps e 2147483648 : Nat) : Int) ∧ stps (e * N) y = res ∧ wr = w) (fun _ b _ _ => (intOf b).toNat)
    case atStart => exact ⟨n.toNat, x, 8, rfl, hx, by rw [Int.toNat_of_nonneg (by omega)], by rw [Int.toNat_of_nonneg (by omega)]; exact h1, by rw [HP.out], H0.out _ rfl, rfl⟩
    case round =>
      obtain ⟨N, y, e, rfl, hy, rfl, hN, rfl, hend, rfl⟩ := hrel
      clear H0 EI HP
      by_cases hpos : 0 < N
      · have hpl : stps e 2147483648 < 4294967296 := stps_lt (by omega)
        have TX := hide (fun W => times_any y _ hy hpl W)
        rw [tim_power hy] at TX
        have TP := hide (fun W => times_any _ _ hpl hpl W)
        rw [tim_power hpl, ← stps_add] at TP
        have HN := hide (show I63 (((N / 2 : Nat) : Int)) from ⟨by have := hN.le; omega⟩)
        have HW := hide (show wrap64 ((N : Int) / 2) = ((N / 2 : Nat) : Int) by rw [wrap_small (by omega) ⟨by have := hN.le; omega⟩]; omega)
        have HY := hide hy
        have HE := hide hend
        clear hy hend hpl
        obtain ⟨P2, hP2⟩ : ∃ P2, stps (e + e) 2147483648 = P2 := ⟨_, rfl⟩
        rw [hP2] at TP
        have HP2 := hide hP2
        clear hP2
        generalize stps e 2147483648 = P1 at *
        rcases Nat.mod_two_eq_zero_or_one N with h2 | h2
        · have h2' : (N : Int) % 2 = 0 := by omega
          have HS := hide (steps_even e N y h2)
          clear h2
          go_wp2_with fail
          refine (TP.out _).mono ?_
          rintro e2 w2 ⟨rfl, rfl⟩
          go_wp2_with fail
          rw [HW.out]
          go_roundw
          case rel => exact ⟨N / 2, y, e + e, rfl, HY.out, rfl, HN.out, by rw [HP2.out], HS.out.trans HE.out, trivial⟩
          case measure => simp [intOf]; omega
        · have h2' : (N : Int) % 2 = 1 := by omega
          have HS := hide (steps_odd e N y h2)
          clear h2
          go_wp2_with fail
          refine (TX.out _).mono ?_
          rintro e2 w2 ⟨rfl, rfl⟩
          go_wp2_with fail
          refine (TP.out _).mono ?_
          rintro e2 w2 ⟨rfl, rfl⟩
          go_wp2_with fail
          rw [HW.out]
          go_roundw
          case rel => exact ⟨N / 2, stps e y, e + e, rfl, stps_lt HY.out, rfl, HN.out, by rw [HP2.out], HS.out.trans HE.out, trivial⟩
          case measure => simp [intOf]; omega
      · have e0 : N = 0 := by omega
        subst e0
        rw [Nat.mul_zero, stps_zero] at hend
        subst hend
        generalize stps e 2147483648 = P1 at *
        go_wp2_with fail
        go_ret
        exact ⟨rfl, rfl⟩

set_option maxRecDepth 100000 in
theorem rzeros_any (n : Int) (h1 : I63 n) (w : World) :
    Calls Tryd.prog 21 #[.int .i64 n] w fun e w' => e = .returned (.int .u32 ((4294967295 ^^^ stps (far n) 4294967295 : Nat) : Int)) ∧ w = w' := by
  have T0 := hide (fun W => turned_any 0 (by omega) W)
  rw [Nat.xor_zero] at T0
  have CA := hide (fun W => rcarry_any 4294967295 (by omega) n h1 W)
  have TU := hide (fun W => turned_any _ (stps_lt (n := far n) (x := 4294967295) (by omega)) W)
  generalize stps (far n) 4294967295 = y at *
  generalize 4294967295 ^^^ y = z at *
  go_enter Tryd.func21, Tryd.ntmps21
  go_wp2_with fail
  refine (T0.out _).mono ?_
  rintro e w' ⟨rfl, rfl⟩
  go_wp2_with fail
  refine (CA.out _).mono ?_
  rintro e w' ⟨rfl, rfl⟩
  go_wp2_with fail
  refine (TU.out _).mono ?_
  rintro e w' ⟨rfl, rfl⟩
  go_wp2_with fail
  go_ret
  exact ⟨rfl, rfl⟩

set_option maxRecDepth 100000 in
theorem rjoin_any (a b : Nat) (ha : a < 4294967296) (hb : b < 4294967296) (n : Int) (h1 : I63 n) (w : World) :
    Calls Tryd.prog 23 #[.int .u32 a, .int .u32 b, .int .i64 n] w fun e w' => e = .returned (.int .u32 ((stps (far n) a ^^^ b : Nat) : Int)) ∧ w = w' := by
  have CA := hide (fun W => rcarry_any a ha n h1 W)
  have hx := u32_xor_nat _ b (stps_lt (n := far n) ha) hb
  generalize stps (far n) a = y at *
  generalize y ^^^ b = z at *
  go_enter Tryd.func23, Tryd.ntmps23
  go_wp2_with fail
  refine (CA.out _).mono ?_
  rintro e w' ⟨rfl, rfl⟩
  go_wp2_with fail
  go_ret
  exact ⟨rfl, rfl⟩

end Go.Proofs.YtaldoaampeopoaaDoor
