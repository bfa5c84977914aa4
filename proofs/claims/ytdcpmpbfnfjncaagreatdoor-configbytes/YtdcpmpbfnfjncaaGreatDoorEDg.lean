/- A job's digest: the program's table of sixteen numbers and its sums (overByte, More, Sum), the document's, Digest on both sides. -/
import Derived.Test.YtdcpmpbfnfjncaaGreatDoorED
import Derived.Test.YtdcpmpbfnfjncaaGreatDoorCC
import Derived.Test.YtdcpmpbfnfjncaaGreatDoorPoly
import Derived.Laws.BitsAllLaws
namespace Go.Proofs.YtdcpmpbfnfjncaaGreatDoor.Crd
open Go.RowKit Crcx

/-- The sixteen numbers. -/
def four : List Nat := [0, 274646895, 549293790, 820201905, 1098587580, 1361435347, 1640403810, 1905808397, 2197175160, 2460548119, 2722870694, 2987750089, 3280807620, 3553878443, 3811616794, 4084100981]

theorem four_at : ∀ i : Fin 16, four.getD i.1 0 = stps 4 i.1 := by decide +kernel

/-- They lie where the program looks for them. -/
structure Tab (w : World) : Prop where
  at_ : ∀ i, i < 16 → w.cell? ⟨1, i, none⟩ = some (.int .u32 ((stps 4 i : Nat) : Int))

theorem Tab.lt {w : World} (h : Tab w) : 1 < w.heap.size := lt_of_cell (h.at_ 0 (by omega))

theorem Tab.touch {S : Nat → Prop} {w w' : World} (h : Tab w) (ht : Touch S w w') (hn : ¬ S 1) : Tab w' :=
  ⟨fun i hi => (ht.cell (p := ⟨1, i, none⟩) h.lt hn).trans (h.at_ i hi)⟩

theorem and15 (x : Nat) (hx : x < 4294967296) : bits .and .u32 (x : Int) 15 = ((x % 16 : Nat) : Int) := by
  have := u32_and_nat x 15 hx (by omega)
  rw [show ((15 : Nat) : Int) = 15 by rfl] at this
  rw [this, show (15 : Nat) = 2 ^ 4 - 1 by rfl, Nat.and_two_pow_sub_one_eq_mod]

theorem xor_four32 (x : Nat) (hx : x < 4294967296) : bits .xor .u32 ((x : Int) / 16) ((stps 4 (x % 16) : Nat) : Int) = ((stps 4 x : Nat) : Int) := by
  rw [show ((x : Int) / 16) = ((x / 16 : Nat) : Int) by omega, u32_xor_nat _ _ (by omega) (stps_lt (by omega)), ← stps_four]

set_option maxRecDepth 100000 in
theorem overByte_any (x : Nat) (hx : x < 4294967296) (w : World) (ht : Tab w) :
    Calls Tryz.prog 52 #[.int .u32 x] w fun e w' => e = .returned (.int .u32 ((stps 8 x : Nat) : Int)) ∧ w = w' := by
  have h1 := ht.at_ (x % 16) (by omega)
  have h2 := ht.at_ (stps 4 x % 16) (by omega)
  have a1 := and15 x hx
  have b1 := xor_four32 x hx
  have hy : stps 4 x < 4294967296 := stps_lt hx
  have e8 : stps 8 x = stps 4 (stps 4 x) := stps_add 4 4 x
  rw [e8]
  generalize stps 4 x = y at *
  have a2 := and15 y hy
  have b2 := xor_four32 y hy
  have k1 : (0 : Int) ≤ ((x % 16 : Nat) : Int) ∧ ((x % 16 : Nat) : Int) < 16 := by omega
  have k2 : (0 : Int) ≤ ((y % 16 : Nat) : Int) ∧ ((y % 16 : Nat) : Int) < 16 := by omega
  generalize x % 16 = i at *
  generalize y % 16 = j at *
  go_enter Tryz.func52, Tryz.ntmps52
  go_wp2_with fail
  go_ret
  exact ⟨rfl, rfl⟩

/-- The bytes of a text, as plain numbers. -/
def nats (xs : List Int) : List Nat := xs.map Int.toNat

/-- Bytes. -/
def In8 (xs : List Int) : Prop := ∀ x ∈ xs, 0 ≤ x ∧ x ≤ 255

theorem nats_take (xs : List Int) (i : Nat) (hi : i < xs.length) : nats (xs.take (i + 1)) = nats (xs.take i) ++ [(xs.getD i 0).toNat] := by
  unfold nats
  rw [List.take_add_one, List.getD_eq_getElem?_getD, List.getElem?_eq_getElem hi, List.map_append]
  rfl

theorem nats_lt {xs : List Int} (h : In8 xs) : ∀ b ∈ nats xs, b < 256 := by
  intro b hb
  obtain ⟨x, hx, rfl⟩ := List.mem_map.1 hb
  have := h x hx
  omega

theorem In8.at {xs : List Int} (h : In8 xs) (i : Nat) : 0 ≤ xs.getD i 0 ∧ xs.getD i 0 ≤ 255 := by
  by_cases hi : i < xs.length
  · rw [List.getD_eq_getElem?_getD, List.getElem?_eq_getElem hi]; exact h _ (List.getElem_mem hi)
  · rw [List.getD_eq_getElem?_getD, List.getElem?_eq_none (by omega)]; exact ⟨Int.le_refl _, by decide⟩

theorem In8.take {xs : List Int} (h : In8 xs) (i : Nat) : In8 (xs.take i) := fun x hx => h x (List.mem_of_mem_take hx)

theorem not32 (x : Nat) (hx : x < 4294967296) : bits .xor .u32 IntKind.u32.max (x : Int) = ((4294967295 ^^^ x : Nat) : Int) := by
  have := u32_xor_nat 4294967295 x (by omega) hx
  exact this

theorem run_step (x : Nat) (xs : List Int) (i : Nat) (hi : i < xs.length) : stps 8 (run x (nats (xs.take i)) ^^^ (xs.getD i 0).toNat) = run x (nats (xs.take (i + 1))) := by
  rw [nats_take xs i hi, run_snoc]

set_option maxRecDepth 100000 in
theorem more_any (s : Nat) (hs : s < 4294967296) (ao : Option Addr) (xs : List Int) (cap : Nat) (w : World) (ht : Tab w) (hx : Seg w .u8 ao xs) (h8 : In8 xs) (hb : xs.length ≤ 281474976710656) :
    Calls Tryz.prog 39 #[.int .u32 s, .slice ao xs.length cap] w fun e w' => e = .returned (.int .u32 ((more s (nats xs) : Nat) : Int)) ∧ w = w' := by
  have n1 := not32 s hs
  have hlt : ∀ i, run (4294967295 ^^^ s) (nats (xs.take i)) < 4294967296 := fun i => run_lt (xor_lt (by omega) hs) (nats_lt (h8.take i))
  have hm : more s (nats xs) = 4294967295 ^^^ run (4294967295 ^^^ s) (nats xs) := rfl
  have HM := hide hm
  have hstep := run_step (4294967295 ^^^ s) xs
  have h0 : run (4294967295 ^^^ s) (nats (xs.take 0)) = 4294967295 ^^^ s := rfl
  obtain ⟨x0, hx0⟩ : ∃ x0, x0 = 4294967295 ^^^ s := ⟨_, rfl⟩
  rw [← hx0] at n1 hlt hstep h0
  rw [← hx0] at HM
  clear hm hx0
  generalize more s (nats xs) = res at *
  go_enter Tryz.func39, Tryz.ntmps39
  go_wp2_with fail
  go_loopw [5, 12] (fun x i wr => ∃ n : Nat, i = .int .i64 n ∧ n ≤ xs.length ∧ x = .int .u32 ((run x0 (nats (xs.take n)) : Nat) : Int) ∧ wr = w) (fun _ i _ => xs.length - (intOf i).toNat)
  case atStart => exact ⟨0, rfl, Nat.zero_le _, by rw [h0], rfl⟩
  case round =>
    obtain ⟨n, rfl, hn, rfl, rfl⟩ := hrel
    by_cases hlast : n < xs.length
    · obtain ⟨b, off, rfl⟩ := hx.addr (by omega)
      have hc := hx.at n hlast
      have hby := h8.at n
      have hst := hstep n hlast
      have hl := hlt n
      obtain ⟨c, hc0⟩ := Int.eq_ofNat_of_zero_le hby.1
      rw [hc0] at hc hst hby
      rw [Int.toNat_natCast] at hst
      have hcw : (c : Int) % 4294967296 = c := by omega
      have hx1 := u32_xor_nat _ c hl (by omega)
      have hlt2 := xor_lt hl (show c < 4294967296 by omega)
      generalize run x0 (nats (xs.take n)) = y at *
      have OB := hide (fun W h => overByte_any (y ^^^ c) hlt2 W h)
      rw [hst] at OB
      have hend := hide (show run x0 (nats (xs.take (n + 1))) = run x0 (nats (xs.take (n + 1))) from rfl)
      generalize y ^^^ c = z at *
      clear hstep hlt hc0 hst h8 hx
      go_wp2_with fail
      refine (OB.out _ ht).mono ?_
      rintro e w' ⟨rfl, rfl⟩
      go_wp2_with fail
      go_roundw
      case rel => exact ⟨n + 1, by go_num, by omega, rfl, trivial⟩
      case measure => simp [intOf]; omega
    · have e : n = xs.length := by omega
      subst e
      have n2 := not32 _ (hlt xs.length)
      rw [List.take_length] at n2
      rw [← HM.out] at n2
      rw [List.take_length]
      clear hstep hlt h8 hx
      go_wp2_with fail
      go_ret
      exact ⟨rfl, rfl⟩

set_option maxRecDepth 100000 in
theorem rstep_any (x : Nat) (hx : x < 4294967296) (w : World) :
    Calls Tryz.prog 69 #[.int .u32 x] w fun e w' => e = .returned (.int .u32 ((stp x : Nat) : Int)) ∧ w = w' := by
  have hxor := u32_xor_nat (x / 2) 2197175160 (by omega) (by omega)
  rw [show ((x / 2 : Nat) : Int) = (x : Int) / 2 by omega] at hxor
  have h1 := hide (show x % 2 = 1 → stp x = x / 2 ^^^ 2197175160 from fun h => by unfold stp; rw [if_pos h])
  have h0 := hide (show ¬ x % 2 = 1 → stp x = x / 2 from fun h => by unfold stp; rw [if_neg h])
  have hk : (((2197175160 : Nat)) : Int) = 2197175160 := rfl
  rw [hk] at hxor
  generalize stp x = y at *
  by_cases hodd : x % 2 = 1
  · have e1 : (x : Int) % 2 = 1 := by omega
    have ho := h1.out hodd
    subst ho
    clear h0 h1 hk
    go_enter Tryz.func69, Tryz.ntmps69
    go_wp2_with fail
    go_ret
    exact ⟨rfl, rfl⟩
  · have e1 : ¬ (x : Int) % 2 = 1 := by omega
    have ho := h0.out hodd
    subst ho
    clear h0 h1 hk
    go_enter Tryz.func69, Tryz.ntmps69
    go_wp2_with fail
    go_ret
    exact ⟨by go_num, rfl⟩

set_option maxRecDepth 100000 in
theorem reight_any (x : Nat) (hx : x < 4294967296) (w : World) :
    Calls Tryz.prog 58 #[.int .u32 x] w fun e w' => e = .returned (.int .u32 ((stps 8 x : Nat) : Int)) ∧ w = w' := by
  go_enter Tryz.func58, Tryz.ntmps58
  go_wp2_with fail
  go_loopw [0, 3] (fun y i wr => ∃ n : Nat, i = .int .i64 n ∧ n ≤ 8 ∧ y = .int .u32 ((stps n x : Nat) : Int) ∧ wr = w) (fun _ i _ => 8 - (intOf i).toNat)
  case atStart => exact ⟨0, rfl, Nat.zero_le _, rfl, rfl⟩
  case round =>
    obtain ⟨n, rfl, hn, rfl, rfl⟩ := hrel
    by_cases hlast : n < 8
    · have ST := hide (fun W => rstep_any (stps n x) (stps_lt hx) W)
      rw [← stps_last] at ST
      generalize stps n x = y at *
      go_wp2_with fail
      refine (ST.out _).mono ?_
      rintro e w' ⟨rfl, rfl⟩
      go_wp2_with fail
      go_roundw
      case rel => exact ⟨n + 1, by go_num, by omega, rfl, trivial⟩
      case measure => simp [intOf]; omega
    · have e : n = 8 := by omega
      subst e
      go_wp2_with fail
      go_ret
      exact ⟨rfl, rfl⟩

theorem turned_any (x : Nat) (hx : x < 4294967296) (w : World) :
    Calls Tryz.prog 57 #[.int .u32 x] w fun e w' => e = .returned (.int .u32 ((4294967295 ^^^ x : Nat) : Int)) ∧ w = w' := by
  have h := turned hx
  go_enter Tryz.func57, Tryz.ntmps57
  go_wp2_with fail
  go_ret
  exact ⟨by rw [h]; go_num, rfl⟩

set_option maxRecDepth 100000 in
theorem rmore_any (s : Nat) (hs : s < 4294967296) (ao : Option Addr) (xs : List Int) (cap : Nat) (w : World) (hx : Seg w .u8 ao xs) (h8 : In8 xs) (hb : xs.length ≤ 281474976710656) :
    Calls Tryz.prog 48 #[.int .u32 s, .slice ao xs.length cap] w fun e w' => e = .returned (.int .u32 ((more s (nats xs) : Nat) : Int)) ∧ w = w' := by
  have TU := hide (fun W => turned_any s hs W)
  have hlt : ∀ i, run (4294967295 ^^^ s) (nats (xs.take i)) < 4294967296 := fun i => run_lt (xor_lt (by omega) hs) (nats_lt (h8.take i))
  have hm : more s (nats xs) = 4294967295 ^^^ run (4294967295 ^^^ s) (nats xs) := rfl
  have HM := hide hm
  have hstep := run_step (4294967295 ^^^ s) xs
  have h0 : run (4294967295 ^^^ s) (nats (xs.take 0)) = 4294967295 ^^^ s := rfl
  clear hm
  generalize more s (nats xs) = res at *
  generalize 4294967295 ^^^ s = x0 at *
  go_enter Tryz.func48, Tryz.ntmps48
  go_wp2_with fail
  refine (TU.out _).mono ?_
  rintro e w' ⟨rfl, rfl⟩
  go_wp2_with fail
  go_loopw [5, 6] (fun x i wr => ∃ n : Nat, i = .int .i64 n ∧ n ≤ xs.length ∧ x = .int .u32 ((run x0 (nats (xs.take n)) : Nat) : Int) ∧ wr = w) (fun _ i _ => xs.length - (intOf i).toNat)
  case atStart => exact ⟨0, rfl, Nat.zero_le _, by rw [h0], rfl⟩
  case round =>
    obtain ⟨n, rfl, hn, rfl, rfl⟩ := hrel
    by_cases hlast : n < xs.length
    · obtain ⟨b, off, rfl⟩ := hx.addr (by omega)
      have hc := hx.at n hlast
      have hby := h8.at n
      have hst := hstep n hlast
      have hl := hlt n
      obtain ⟨c, hc0⟩ := Int.eq_ofNat_of_zero_le hby.1
      rw [hc0] at hc hst hby
      rw [Int.toNat_natCast] at hst
      have hcw : (c : Int) % 4294967296 = c := by omega
      have hx1 := u32_xor_nat _ c hl (by omega)
      have hlt2 := xor_lt hl (show c < 4294967296 by omega)
      generalize run x0 (nats (xs.take n)) = y at *
      have OB := hide (fun W => reight_any (y ^^^ c) hlt2 W)
      rw [hst] at OB
      generalize y ^^^ c = z at *
      clear hstep hlt hc0 hst h8 hx
      go_wp2_with fail
      refine (OB.out _).mono ?_
      rintro e w' ⟨rfl, rfl⟩
      go_wp2_with fail
      go_roundw
      case rel => exact ⟨n + 1, by go_num, by omega, rfl, trivial⟩
      case measure => simp [intOf]; omega
    · have e : n = xs.length := by omega
      subst e
      have T2 := hide (fun W => turned_any _ (hlt xs.length) W)
      rw [List.take_length] at T2
      rw [← HM.out] at T2
      rw [List.take_length]
      clear hstep hlt h8 hx
      go_wp2_with fail
      refine (T2.out _).mono ?_
      rintro e w' ⟨rfl, rfl⟩
      go_wp2_with fail
      go_ret
      exact ⟨rfl, rfl⟩

set_option maxRecDepth 100000 in
theorem rsum_any (ao : Option Addr) (xs : List Int) (cap : Nat) (w : World) (hx : Seg w .u8 ao xs) (h8 : In8 xs) (hb : xs.length ≤ 281474976710656) :
    Calls Tryz.prog 27 #[.slice ao xs.length cap] w fun e w' => e = .returned (.int .u32 ((more 0 (nats xs) : Nat) : Int)) ∧ w = w' := by
  have MO := hide (rmore_any 0 (by omega) ao xs cap w hx h8 hb)
  generalize more 0 (nats xs) = res at *
  clear hx h8 hb
  go_enter Tryz.func27, Tryz.ntmps27
  go_wp2_with fail
  refine MO.out.mono ?_
  rintro e w' ⟨rfl, rfl⟩
  go_wp2_with fail
  go_ret
  exact ⟨rfl, rfl⟩

set_option maxRecDepth 100000 in
theorem sum1_any (ao : Option Addr) (xs : List Int) (cap g c1 : Nat) (w : World) (ht : Tab w) (hc : w.cell? ⟨g, 0, none⟩ = some (.slice ao xs.length cap)) (hs : Seg w .u8 ao xs) (h8 : In8 xs) (hb : xs.length ≤ 281474976710656) :
    Calls Tryz.prog 20 #[.slice (some ⟨g, 0, none⟩) 1 c1] w fun e w' => e = .returned (.int .u32 ((more 0 (nats xs) : Nat) : Int)) ∧ w = w' := by
  have MO := hide (more_any 0 (by omega) ao xs cap w ht hs h8 hb)
  generalize more 0 (nats xs) = y at *
  generalize xs.length = n at *
  clear hs h8 ht
  go_enter Tryz.func20, Tryz.ntmps20
  go_wp2_with fail
  go_loopw [3, 8] (fun x i wr => ((i = .int .i64 0 ∧ x = .int .u32 0) ∨ (i = .int .i64 1 ∧ x = .int .u32 (y : Int))) ∧ wr = w) (fun _ i _ => 1 - (intOf i).toNat)
  case atStart => exact ⟨.inl ⟨rfl, rfl⟩, rfl⟩
  case round =>
    obtain ⟨⟨rfl, rfl⟩ | ⟨rfl, rfl⟩, rfl⟩ := hrel
    · go_wp2_with fail
      refine MO.out.mono ?_
      rintro e w' ⟨rfl, rfl⟩
      go_wp2_with fail
      go_roundw
      case rel => exact ⟨.inr ⟨rfl, rfl⟩, trivial⟩
      case measure => simp [intOf]
    · go_wp2_with fail
      go_ret
      exact ⟨rfl, rfl⟩

end Go.Proofs.YtdcpmpbfnfjncaaGreatDoor.Crd
