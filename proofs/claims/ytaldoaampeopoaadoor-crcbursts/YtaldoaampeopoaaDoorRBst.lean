/- The document's Burst, as the verifier's package works it out: bit by bit. -/
import Derived.Test.YtaldoaampeopoaaDoorBrs
import Derived.Test.YtaldoaampeopoaaDoorI63
namespace Go.Proofs.YtaldoaampeopoaaDoor
open Go.RowKit Crcx

theorem rseg_byt {w : World} {b off : Nat} {xs : List Int} (h : Seg w .u8 (some ⟨b, off, none⟩) xs) (h8 : In8 xs) (i : Nat) (hi : i < xs.length) : w.cell? ⟨b, off + i, none⟩ = some (.int .u8 ((byt xs i : Nat) : Int)) := by
  rw [h.at i hi]
  have := h8.at i
  unfold byt
  rw [Int.toNat_of_nonneg this.1]

theorem half_step (x i : Nat) : x / 2 ^ i / 2 = x / 2 ^ (i + 1) := by rw [Nat.div_div_eq_div_mul, ← Nat.pow_succ]

set_option maxRecDepth 100000 in
theorem rbit_any (L : Nat) (b off : Nat) (xs : List Int) (cap n : Nat) (w : World) (hx : Seg w .u8 (some ⟨b, off, none⟩) xs) (h8 : In8 xs) (hl : xs.length = L) (hb : L ≤ 140737488351232) (hn : n < 8 * L) :
    Calls Tryd.prog 43 #[.slice (some ⟨b, off, none⟩) L cap, .int .i64 n] w fun e w' => e = .returned (.int .u8 ((bitOf xs n : Nat) : Int)) ∧ w = w' := by
  have hq : n / 8 < L := by omega
  have c1 := rseg_byt hx h8 (n / 8) (by omega)
  have hbl := byt_lt h8 (n / 8)
  have HB := hide (show bitOf xs n = byt xs (n / 8) / 2 ^ (n % 8) % 2 from rfl)
  generalize bitOf xs n = res at *
  generalize byt xs (n / 8) = x at *
  have hq1 : (n : Int) / 8 = ((n / 8 : Nat) : Int) := by omega
  have hq2 : (n : Int) % 8 = ((n % 8 : Nat) : Int) := by omega
  have hr : n % 8 < 8 := by omega
  generalize n / 8 = q at *
  generalize n % 8 = r at *
  clear hx h8 hl
  go_enter Tryd.func43, Tryd.ntmps43
  go_wp2_with fail
  go_loopw [5, 6] (fun a i wr => ∃ k : Nat, i = .int .i64 k ∧ k ≤ r ∧ a = .int .u8 ((x / 2 ^ k : Nat) : Int) ∧ wr = w) (fun _ i _ => r - (intOf i).toNat)
  case atStart => exact ⟨0, rfl, Nat.zero_le _, by rw [Nat.pow_zero, Nat.div_one], rfl⟩
  case round =>
    obtain ⟨k, rfl, hk, rfl, rfl⟩ := hrel
    have hxl : x / 2 ^ k < 256 := Nat.lt_of_le_of_lt (Nat.div_le_self _ _) hbl
    by_cases hlast : k < r
    · have HS := hide (half_step x k)
      generalize x / 2 ^ k = y at *
      clear hbl
      go_wp2_with fail
      go_roundw
      case rel => exact ⟨k + 1, by go_num, by omega, by rw [← HS.out]; go_num, trivial⟩
      case measure => simp [intOf]; omega
    · have e : k = r := by omega
      subst e
      have hres := HB.out
      generalize x / 2 ^ k = y at *
      clear hbl HB
      go_wp2_with fail
      go_ret
      exact ⟨by rw [hres]; go_num, rfl⟩

/-- What has been seen of the bits below n. -/
def Seen (xs ys : List Int) (n m l : Nat) (ok : Bool) : Prop :=
  (ok = true ∧ Dif xs ys m ∧ Dif xs ys l ∧ l < n ∧ ∀ j, j < n → Dif xs ys j → m ≤ j ∧ j ≤ l) ∨ (ok = false ∧ m = 0 ∧ l = 0 ∧ ∀ j, j < n → ¬ Dif xs ys j)

theorem Seen.no {xs ys : List Int} {n m l : Nat} {ok : Bool} (h : Seen xs ys n m l ok) (hd : ¬ Dif xs ys n) : Seen xs ys (n + 1) m l ok := by
  rcases h with ⟨a, b, c, d, e⟩ | ⟨a, b, c, d⟩
  · exact .inl ⟨a, b, c, by omega, fun j hj hj' => if h : j = n then absurd (h ▸ hj') hd else e j (by omega) hj'⟩
  · exact .inr ⟨a, b, c, fun j hj hj' => if h : j = n then hd (h ▸ hj') else d j (by omega) hj'⟩

theorem Seen.first {xs ys : List Int} {n m l : Nat} (h : Seen xs ys n m l false) (hd : Dif xs ys n) : Seen xs ys (n + 1) n n true := by
  rcases h with ⟨a, _⟩ | ⟨a, b, c, d⟩
  · cases a
  · exact .inl ⟨rfl, hd, hd, by omega, fun j hj hj' => if h : j = n then by omega else absurd hj' (d j (by omega))⟩

theorem Seen.next {xs ys : List Int} {n m l : Nat} (h : Seen xs ys n m l true) (hd : Dif xs ys n) : Seen xs ys (n + 1) m n true := by
  rcases h with ⟨a, b, c, d, e⟩ | ⟨a, _⟩
  · exact .inl ⟨rfl, b, hd, by omega, fun j hj hj' => if h : j = n then by have := e l d c; omega else by have := e j (by omega) hj'; omega⟩
  · cases a

theorem Seen.all {xs ys : List Int} {n m l : Nat} {ok : Bool} (h : Seen xs ys n m l ok) (hn : ∀ j, n ≤ j → ¬ Dif xs ys j) : Brst xs ys m l ok := by
  rcases h with ⟨a, b, c, d, e⟩ | ⟨a, b, c, d⟩
  · exact .inl ⟨a, b, c, fun j hj => if h : j < n then e j h hj else absurd hj (hn j (by omega))⟩
  · exact .inr ⟨a, b, c, fun j hj => if h : j < n then d j h hj else hn j (by omega) hj⟩

theorem no_dif_end {xs ys : List Int} {L : Nat} (hx : xs.length = L) (hy : ys.length = L) : ∀ j, 8 * L ≤ j → ¬ Dif xs ys j := by
  intro j hj hd
  apply hd
  unfold bitOf byt
  rw [List.getD_eq_getElem?_getD, List.getD_eq_getElem?_getD, List.getElem?_eq_none (by omega), List.getElem?_eq_none (by omega)]

theorem bitOf_le (xs : List Int) (n : Nat) : bitOf xs n < 2 := Nat.mod_lt _ (by omega)

set_option maxRecDepth 100000 in
theorem rburst_any (L : Nat) (ao bo : Option Addr) (xs ys : List Int) (ca cb : Nat) (w : World) (hx : Seg w .u8 ao xs) (hy : Seg w .u8 bo ys) (h8 : In8 xs) (h8' : In8 ys) (HXL : Hid (xs.length = L)) (HYL : Hid (ys.length = L)) (hb : L ≤ 140737488351232) :
    Calls Tryd.prog 26 #[.slice ao L ca, .slice bo L cb] w fun e w' => RetBurst xs ys e ∧ w = w' := by
  go_enter Tryd.func26, Tryd.ntmps26
  go_wp2_with fail
  go_loopw [7, 8, 9, 10] (fun a b c i wr => ∃ (n m l : Nat) (ok : Bool), i = .int .i64 n ∧ n ≤ 8 * L ∧ a = .int .i64 (m : Int) ∧ b = .int .i64 (l : Int) ∧ c = .bool ok ∧ Seen xs ys n m l ok ∧ wr = w) (fun _ _ _ i _ => 8 * L - (intOf i).toNat)
  case atStart => exact ⟨0, 0, 0, false, rfl, Nat.zero_le _, rfl, rfl, rfl, .inr ⟨rfl, rfl, rfl, fun j hj => (nomatch hj)⟩, rfl⟩
  case round =>
    obtain ⟨n, m, l, ok, rfl, hn, rfl, rfl, rfl, hseen, rfl⟩ := hrel
    by_cases hlast : n < 8 * L
    · obtain ⟨b1, o1, rfl⟩ := hx.addr (by have := HXL.out; omega)
      obtain ⟨b2, o2, rfl⟩ := hy.addr (by have := HYL.out; omega)
      have B1 := hide (rbit_any L b1 o1 xs ca n wr hx h8 HXL.out hb hlast)
      have B2 := hide (rbit_any L b2 o2 ys cb n wr hy h8' HYL.out hb hlast)
      have HD := hide (show bitOf xs n ≠ bitOf ys n ↔ Dif xs ys n from Iff.rfl)
      have HS := hide hseen
      have hm8 : (8 : Int) * (L : Int) = ((8 * L : Nat) : Int) := by omega
      have HX := hide hx
      have HY := hide hy
      clear hseen hx hy
      by_cases hd : bitOf xs n = bitOf ys n
      · rw [← hd] at B2
        have HN := hide (HS.out.no (fun h => h hd))
        generalize bitOf xs n = p at *
        generalize 8 * L = M at *
        clear hd HD HS
        go_wp2_with fail
        refine B1.out.mono ?_
        rintro e w' ⟨rfl, rfl⟩
        go_wp2_with fail
        refine B2.out.mono ?_
        rintro e w' ⟨rfl, rfl⟩
        go_wp2_with fail
        go_roundw
        case rel => exact ⟨n + 1, m, l, ok, by go_num, by omega, rfl, rfl, rfl, HN.out, trivial⟩
        case measure => simp [intOf]; omega
      · have hd' : Dif xs ys n := hd
        generalize bitOf xs n = p at *
        generalize bitOf ys n = q at *
        generalize 8 * L = M at *
        clear HD
        cases ok with
        | false =>
          have HN := hide (HS.out.first hd')
          clear hd' HS
          go_wp2_with fail
          refine B1.out.mono ?_
          rintro e w' ⟨rfl, rfl⟩
          go_wp2_with fail
          refine B2.out.mono ?_
          rintro e w' ⟨rfl, rfl⟩
          go_wp2_with fail
          go_roundw
          case rel => exact ⟨n + 1, n, n, true, by go_num, by omega, rfl, rfl, rfl, HN.out, trivial⟩
          case measure => simp [intOf]; omega
        | true =>
          have HN := hide (HS.out.next hd')
          clear hd' HS
          go_wp2_with fail
          refine B1.out.mono ?_
          rintro e w' ⟨rfl, rfl⟩
          go_wp2_with fail
          refine B2.out.mono ?_
          rintro e w' ⟨rfl, rfl⟩
          go_wp2_with fail
          go_roundw
          case rel => exact ⟨n + 1, m, n, true, by go_num, by omega, rfl, rfl, rfl, HN.out, trivial⟩
          case measure => simp [intOf]; omega
    · have e : n = 8 * L := by omega
      have HA := hide (hseen.all (by rw [e]; exact no_dif_end HXL.out HYL.out))
      have hge : ¬ (n : Int) < 8 * (L : Int) := by omega
      clear hseen hx hy e
      go_wp2_with fail
      go_ret3
      exact ⟨⟨m, l, ok, rfl, HA.out⟩, rfl⟩

end Go.Proofs.YtaldoaampeopoaaDoor
