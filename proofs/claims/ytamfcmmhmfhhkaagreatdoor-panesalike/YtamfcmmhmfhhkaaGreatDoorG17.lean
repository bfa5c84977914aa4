/- What stands for a byte behind its escape (the program's code). Kinds, numbers out of words (the program's kindOf, numberOf, paneOf). A line read from left to right (the mathematics of the program's read). A line's words, read from left to right (the mathematics of the program's read). -/
import Derived.Test.YtamfcmmhmfhhkaaGreatDoorG16
import Derived.Test.YtamfcmmhmfhhkaaGreatDoorG11
namespace Go.Proofs.YtamfcmmhmfhhkaaGreatDoor
open Go.RowKit

theorem ib_fin : ∀ n : Fin 256, Lib.indexByte [48, 49, 50, 51, 52, 53, 54, 55, 56, 57, 97, 98, 99, 100, 101, 102] (UInt8.ofNat n.1) = digX (n.1 : Int) := by decide +kernel
theorem ib_dig (b : UInt8) : Lib.indexByte (⟨#[48, 49, 50, 51, 52, 53, 54, 55, 56, 57, 97, 98, 99, 100, 101, 102]⟩ : ByteArray).data.toList b = digX (b.toNat : Int) := by
  have h := ib_fin ⟨b.toNat, b.toNat_lt⟩
  simp only [UInt8.ofNat_toNat] at h
  exact h
theorem or_fin : ∀ x y : Fin 16, bits .or .i64 ((x.1 : Int) * 16) (y.1 : Int) = 16 * (x.1 : Int) + (y.1 : Int) := by decide +kernel
theorem or_dig {x y : Int} (hx0 : 0 ≤ x) (hx : x ≤ 15) (hy0 : 0 ≤ y) (hy : y ≤ 15) : bits .or .i64 (x * 16) y = 16 * x + y := by
  obtain ⟨a, rfl⟩ : ∃ a : Nat, x = (a : Int) := ⟨x.toNat, by omega⟩
  obtain ⟨b, rfl⟩ : ∃ b : Nat, y = (b : Int) := ⟨y.toNat, by omega⟩
  exact or_fin ⟨a, by omega⟩ ⟨b, by omega⟩

/-- What code answers. -/
def CodR (R : List UInt8) (q : Nat) (e : Ending) (w' : World) : Prop :=
  (∃ h l R', R = 120 :: h :: l :: R' ∧ 0 ≤ digX (h.toNat : Int) ∧ 0 ≤ digX (l.toNat : Int) ∧ itB (16 * digX (h.toNat : Int) + digX (l.toNat : Int)) = false ∧ e = .returned (.tuple #[.int .u8 (16 * digX (h.toNat : Int) + digX (l.toNat : Int)), .bool true]) ∧ Crs w' q R') ∨
  (e = .returned (.tuple #[.int .u8 0, .bool false]) ∧ (∀ h l R', R = 120 :: h :: l :: R' → 0 ≤ digX (h.toNat : Int) → 0 ≤ digX (l.toNat : Int) → itB (16 * digX (h.toNat : Int) + digX (l.toNat : Int)) = true))

set_option maxRecDepth 100000 in
set_option maxHeartbeats 4000000 in
theorem code_any (R : List UInt8) (q : Nat) (w : World) (h : Crs w q R) : Calls Tryz.prog 51 #[.pointer (some ⟨q, 0, none⟩)] w fun e w' => CodR R q e w' ∧ Touch (fun g => g = q) w w' := by
  obtain ⟨c0, f0⟩ := one_cell h
  have hs := bl_size R
  by_cases h3 : R.length < 3
  · have h3z : ((bl R).size : Int) < 3 := by omega
    have HN : Hid (∀ h l R', R ≠ 120 :: h :: l :: R') := hide (by rintro h l R' rfl; simp at h3; omega)
    clear h h3 hs
    generalize bl R = s at *
    go_enter Tryz.func51, Tryz.ntmps51
    go_wp2_with fail
    go_ret2
    exact ⟨.inr ⟨rfl, fun h l R' e => absurd e (HN.out h l R')⟩, Touch.refl _ _⟩
  obtain ⟨a, hh, l, R', rfl⟩ : ∃ a hh l R', R = a :: hh :: l :: R' := by
    match R, h3 with
    | [], h => simp at h
    | [_], h => simp at h
    | [_, _], h => simp at h
    | a :: b :: c :: r, _ => exact ⟨a, b, c, r, rfl⟩
  clear h3
  obtain ⟨p0, g0⟩ := bl_at (R := a :: hh :: l :: R') (i := 0) (by simp)
  obtain ⟨p1, g1⟩ := bl_at (R := a :: hh :: l :: R') (i := 1) (by simp)
  obtain ⟨p2, g2⟩ := bl_at (R := a :: hh :: l :: R') (i := 2) (by simp)
  have g0' : ((bl (a :: hh :: l :: R'))[0]'p0).toNat = a.toNat := by rw [g0]; rfl
  have g1' : ((bl (a :: hh :: l :: R'))[1]'p1).toNat = hh.toNat := by rw [g1]; rfl
  have g2' : ((bl (a :: hh :: l :: R'))[2]'p2).toNat = l.toNat := by rw [g2]; rfl
  have h3z : ¬ ((bl (a :: hh :: l :: R')).size : Int) < 3 := by omega
  have z0 : (0 : Int) < ((bl (a :: hh :: l :: R')).size : Int) := by omega
  have z1 : (1 : Int) < ((bl (a :: hh :: l :: R')).size : Int) := by omega
  have z2 : (2 : Int) < ((bl (a :: hh :: l :: R')).size : Int) := by omega
  have z3 : (3 : Int) ≤ ((bl (a :: hh :: l :: R')).size : Int) := by omega
  have hex : (bl (a :: hh :: l :: R')).extract 3 (bl (a :: hh :: l :: R')).size = bl R' := bl_from (a :: hh :: l :: R') 3
  have PU := hide (h.put (R' := R'))
  have C1 : Hid (∀ W, Calls Tryz.prog 69 #[.string ⟨#[48, 49, 50, 51, 52, 53, 54, 55, 56, 57, 97, 98, 99, 100, 101, 102]⟩, .int .u8 (hh.toNat : Int)] W fun e w' => e = .returned (.int .i64 (digX (hh.toNat : Int))) ∧ w' = W) := hide fun W => by
    have k := Any.strings_IndexByte Tryz.lays137 ⟨#[48, 49, 50, 51, 52, 53, 54, 55, 56, 57, 97, 98, 99, 100, 101, 102]⟩ (hh.toNat : Int) W
    have e : ((hh.toNat : Int)).toNat.toUInt8 = hh := by rw [Int.toNat_natCast]; exact UInt8.ofNat_toNat
    rw [e, ib_dig] at k
    exact k
  have C2 : Hid (∀ W, Calls Tryz.prog 69 #[.string ⟨#[48, 49, 50, 51, 52, 53, 54, 55, 56, 57, 97, 98, 99, 100, 101, 102]⟩, .int .u8 (l.toNat : Int)] W fun e w' => e = .returned (.int .i64 (digX (l.toNat : Int))) ∧ w' = W) := hide fun W => by
    have k := Any.strings_IndexByte Tryz.lays137 ⟨#[48, 49, 50, 51, 52, 53, 54, 55, 56, 57, 97, 98, 99, 100, 101, 102]⟩ (l.toNat : Int) W
    have e : ((l.toNat : Int)).toNat.toUInt8 = l := by rw [Int.toNat_natCast]; exact UInt8.ofNat_toNat
    rw [e, ib_dig] at k
    exact k
  have x1 := digX_lo (hh.toNat : Int)
  have x2 := digX_lo (l.toNat : Int)
  by_cases ha : a = 120
  case neg =>
    have han : ((a.toNat : Int) != 120) = true := by
      rw [bne_iff_ne]
      intro e
      exact ha (UInt8.toNat_inj.1 (by have : a.toNat = 120 := by omega
                                      rw [this]; rfl))
    have HN : Hid (∀ h l' R'', a :: hh :: l :: R' ≠ 120 :: h :: l' :: R'') := hide (by rintro h l' R'' e; injection e with e; exact ha e)
    clear h g0 g1 g2 ha C1 C2 hs x1 x2 PU
    generalize hS : a :: hh :: l :: R' = S at *
    generalize bl S = s at *
    generalize a.toNat = an at *
    clear hS
    go_enter Tryz.func51, Tryz.ntmps51
    go_wp2_with fail
    go_ret2
    exact ⟨.inr ⟨rfl, fun h l R' e => absurd e (HN.out h l R')⟩, Touch.refl _ _⟩
  have g0z : (((bl (a :: hh :: l :: R'))[0]'p0).toNat : Int) = 120 := by rw [g0', ha]; rfl
  have HS : Hid (∀ e w', (∃ v, e = .returned (.tuple #[.int .u8 v, .bool true]) ∧ v = 16 * digX (hh.toNat : Int) + digX (l.toNat : Int) ∧ 0 ≤ digX (hh.toNat : Int) ∧ 0 ≤ digX (l.toNat : Int) ∧ itB v = false ∧ Crs w' q R') → CodR (a :: hh :: l :: R') q e w') := hide (by
    rintro e w' ⟨v, rfl, rfl, h1, h2, h3, h4⟩
    subst ha
    exact .inl ⟨hh, l, R', rfl, h1, h2, h3, rfl, h4⟩)
  have HF : Hid (∀ e w', e = .returned (.tuple #[.int .u8 0, .bool false]) → (0 ≤ digX (hh.toNat : Int) → 0 ≤ digX (l.toNat : Int) → itB (16 * digX (hh.toNat : Int) + digX (l.toNat : Int)) = true) → CodR (a :: hh :: l :: R') q e w') := hide (by
    rintro e w' rfl h1
    refine .inr ⟨rfl, ?_⟩
    rintro h l' R'' e
    injection e with _ e
    injection e with e1 e
    injection e with e2 e
    subst e1 e2
    exact h1)
  suffices hz : Calls Tryz.prog 51 #[.pointer (some ⟨q, 0, none⟩)] w (fun e w' => (e = .returned (.tuple #[.int .u8 (16 * digX (hh.toNat : Int) + digX (l.toNat : Int)), .bool true]) ∧ 0 ≤ digX (hh.toNat : Int) ∧ 0 ≤ digX (l.toNat : Int) ∧ itB (16 * digX (hh.toNat : Int) + digX (l.toNat : Int)) = false ∨ e = .returned (.tuple #[.int .u8 0, .bool false]) ∧ (0 ≤ digX (hh.toNat : Int) → 0 ≤ digX (l.toNat : Int) → itB (16 * digX (hh.toNat : Int) + digX (l.toNat : Int)) = true)) ∧ Crs w' q R' ∧ Touch (fun g => g = q) w w') by
    refine hz.mono ?_
    rintro e w' ⟨⟨h1, h2, h3, h4⟩ | ⟨h1, h2⟩, hc, ht⟩
    · exact ⟨HS.out e w' ⟨_, h1, rfl, h2, h3, h4, hc⟩, ht⟩
    · exact ⟨HF.out e w' h1 h2, ht⟩
  have CT := hide (fun W => itself_any (16 * digX (hh.toNat : Int) + digX (l.toNat : Int)) W)
  have hE : Hid (∀ W, Crs W q R' ↔ W.heap[q]? = some (.cells #[.string (bl R')] 94 (0, 0))) := hide fun W => Iff.rfl
  simp only [hE.out] at PU ⊢
  clear h g0 g1 g2 g0' ha HS HF hE hs
  generalize digX (hh.toNat : Int) = x at *
  generalize digX (l.toNat : Int) = y at *
  generalize hS : a :: hh :: l :: R' = S at *
  clear hS
  generalize bl S = s at *
  generalize bl R' = t at *
  generalize hh.toNat = hn at *
  generalize l.toNat = ln at *
  by_cases hx0 : 0 ≤ x
  case neg =>
    have hx0z : x < 0 := by omega
    clear CT
    go_enter Tryz.func51, Tryz.ntmps51
    go_wp2_with fail
    refine (C1.out _).mono ?_
    rintro r w1 ⟨rfl, hq⟩
    obtain rfl := hq.symm
    clear hq C1
    go_wp2_with fail
    refine (C2.out _).mono ?_
    rintro r w1 ⟨rfl, hq⟩
    obtain rfl := hq.symm
    clear hq C2
    go_wp2_with fail
    go_ret2
    exact ⟨.inr ⟨rfl, fun h => absurd h (by omega)⟩, PU.out.1, PU.out.2⟩
  have hx0z : ¬ x < 0 := by omega
  by_cases hy0 : 0 ≤ y
  case neg =>
    have hy0z : y < 0 := by omega
    clear CT
    go_enter Tryz.func51, Tryz.ntmps51
    go_wp2_with fail
    refine (C1.out _).mono ?_
    rintro r w1 ⟨rfl, hq⟩
    obtain rfl := hq.symm
    clear hq C1
    go_wp2_with fail
    refine (C2.out _).mono ?_
    rintro r w1 ⟨rfl, hq⟩
    obtain rfl := hq.symm
    clear hq C2
    go_wp2_with fail
    go_ret2
    exact ⟨.inr ⟨rfl, fun _ h => absurd h (by omega)⟩, PU.out.1, PU.out.2⟩
  have hy0z : ¬ y < 0 := by omega
  have o1 := or_dig hx0 x1.2 hy0 x2.2
  have q1 : IntKind.i64.wrap (x * 16) = x * 16 := by rw [IntKind.wrap_i64]; omega
  have q2 : IntKind.u8.wrap (16 * x + y) = 16 * x + y := by rw [IntKind.wrap_u8]; omega
  obtain ⟨v, hv⟩ : ∃ v, v = 16 * x + y := ⟨_, rfl⟩
  rw [← hv] at o1 q2 CT ⊢
  have HV := hide hv
  clear hv
  go_enter Tryz.func51, Tryz.ntmps51
  go_wp2_with fail
  refine (C1.out _).mono ?_
  rintro r w1 ⟨rfl, hq⟩
  obtain rfl := hq.symm
  clear hq C1
  go_wp2_with fail
  refine (C2.out _).mono ?_
  rintro r w1 ⟨rfl, hq⟩
  obtain rfl := hq.symm
  clear hq C2
  go_wp2_with fail
  refine (CT.out _).mono ?_
  rintro r _ ⟨rfl, rfl⟩
  have hxx : 0 ≤ x := by omega
  have hyy : 0 ≤ y := by omega
  have HX := hide (And.intro hxx hyy)
  clear CT hxx hyy
  cases hit : itB v with
  | true =>
    go_wp2_with fail
    go_ret2
    exact ⟨.inr ⟨rfl, fun _ _ => hit⟩, PU.out.1, PU.out.2⟩
  | false =>
    go_wp2_with fail
    go_ret2
    exact ⟨.inl ⟨rfl, HX.out.1, HX.out.2, hit⟩, PU.out.1, PU.out.2⟩

end Go.Proofs.YtamfcmmhmfhhkaaGreatDoor

namespace Go.Proofs.YtamfcmmhmfhhkaaGreatDoor
open Go.RowKit

theorem parse_snoc (M : Nat) (d : UInt8) (hd : 48 ≤ d.toNat ∧ d.toNat ≤ 57) : ∀ (l : List UInt8) (acc a : Nat), Lib.parseUintM M acc l = .ok a → a < 1844674407370955162 → a * 10 + (d.toNat - 48) ≤ M → Lib.parseUintM M acc (l ++ [d]) = .ok (a * 10 + (d.toNat - 48))
  | [], acc, a, h, h1, h2 => by
    have e : acc = a := by injection h
    subst e
    show Lib.parseUintM M acc [d] = _
    unfold Lib.parseUintM
    rw [if_pos hd, if_neg (by omega), if_neg (by omega)]
    rfl
  | c :: r, acc, a, h, h1, h2 => by
    rw [List.cons_append]
    unfold Lib.parseUintM at h ⊢
    split at h
    · rename_i hc
      rw [if_pos hc]
      split at h
      · cases h
      · rename_i h3
        rw [if_neg h3]
        split at h
        · cases h
        · rename_i h4
          rw [if_neg h4]
          exact parse_snoc M d hd r _ a h h1 h2
    · cases h
theorem parse_dec (u : Nat) (hu : u ≤ 9223372036854775808) : Lib.parseUintM 18446744073709551615 0 (Lib.decDigits u) = .ok u := by
  induction u using Nat.strongRecOn with
  | ind u ih =>
    rw [Lib.decDigits]
    split
    · rename_i h
      have e : (UInt8.ofNat (48 + u)).toNat = 48 + u := ofNat_dig h
      unfold Lib.parseUintM
      rw [if_pos (by omega), if_neg (by omega), if_neg (by omega), e]
      unfold Lib.parseUintM
      congr 1; omega
    · rename_i h
      have e : (UInt8.ofNat (48 + u % 10)).toNat = 48 + u % 10 := ofNat_dig (by omega)
      rw [parse_snoc _ _ (by omega) _ _ (u / 10) (ih (u / 10) (by omega) (by omega)) (by omega) (by omega), e]
      congr 1; omega
theorem parse_int {x : Int} (h : I64n x) : Lib.parseIntB 64 (intB x).data.toList = .ok x := by
  unfold I64n at h
  have e0 : (intB x).data.toList = (if x < 0 then [45] else []) ++ Lib.decDigits x.natAbs := by rw [← ByteArray.toList_eq]; exact intB_list x
  have hp := parse_dec x.natAbs (by omega)
  have hne := dec_ne x.natAbs
  have hi := dec_byte x.natAbs
  have hU : Lib.parseUintB 64 (Lib.decDigits x.natAbs) = .ok x.natAbs := by
    unfold Lib.parseUintB
    rw [if_neg hne]
    exact hp
  rw [e0]
  by_cases hn : x < 0
  · rw [if_pos hn]
    show Lib.parseIntB 64 (45 :: Lib.decDigits x.natAbs) = _
    rw [Lib.parseIntB_minus, hU]
    show (if 9223372036854775808 < x.natAbs then Lib.NumEnd.range else Lib.NumEnd.ok (-((x.natAbs : Nat) : Int))) = _
    rw [if_neg (by omega)]
    congr 1
    omega
  · rw [if_neg hn, List.nil_append]
    cases hd : Lib.decDigits x.natAbs with
    | nil => exact absurd hd hne
    | cons c r =>
      have hc := hi c (by rw [hd]; simp)
      rw [Lib.parseIntB_plain 64 c r (by omega) (by omega), ← hd, hU]
      show (if 9223372036854775808 ≤ x.natAbs then Lib.NumEnd.range else Lib.NumEnd.ok ((x.natAbs : Nat) : Int)) = _
      rw [if_neg (by omega)]
      congr 1
      omega
/-- What the library reads, held against what it writes, is the number. -/
theorem num_yes {s : ByteArray} {v : Int} (h : Lib.parseIntB 64 s.data.toList = .ok v) (he : (⟨(Lib.itoa v).toArray⟩ : ByteArray) = s) : numP s = some v := by
  have hb := Lib.parseIntB_bounds h
  exact numP_some.2 ⟨by unfold I64n; omega, he⟩
theorem num_no {s : ByteArray} (h : ∀ v, Lib.parseIntB 64 s.data.toList = .ok v → (⟨(Lib.itoa v).toArray⟩ : ByteArray) ≠ s) : numP s = none := numP_none fun x hx e => by
  have hp := parse_int hx
  rw [e] at hp
  exact h x hp e
theorem num_long {s : ByteArray} (h : 20 < s.size) : numP s = none := numP_none fun x hx e => by
  have := intB_size hx.1 hx.2
  have h2 := (num_facts hx e).2.1
  omega

/-- What is told of a number. -/
def numV2 : Option Int → Value
  | some v => .tuple #[.int .i64 v, .bool true]
  | none => .tuple #[.int .i64 0, .bool false]

set_option maxRecDepth 100000 in
set_option maxHeartbeats 2000000 in
theorem format_any (n : Int) (h0 : -9223372036854775808 ≤ n) (h1 : n ≤ 9223372036854775807) (w : World) (ht : Tab w) : Calls Tryz.prog 71 #[.int .i64 n, .int .i64 10] w fun e w' => e = .returned (.string ⟨(Lib.itoa n).toArray⟩) ∧ Calm w w' := by
  have CF : Hid (Calls Tryz.prog 80 #[.int .i64 n, .int .i64 10] w fun e w' => e = .returned (.string ⟨(Lib.itoa n).toArray⟩) ∧ ∃ k os, w' = Go.Sort.grow (w.drewN k) os) := hide (Any.internal_strconv_FormatInt_10 Tryz.laysM246 n h0 h1 w ht)
  go_enter Tryz.func71, Tryz.ntmps71
  go_wp2_with fail
  refine CF.out.mono ?_
  rintro e w1 ⟨rfl, k, os, rfl⟩
  have T1 : Hid (Calm w (Go.Sort.grow (w.drewN k) os)) := hide ⟨rfl, rfl, rfl, Lib.size_grow w k os, fun g hg _ => Lib.heap_grow_old w k os g hg⟩
  go_wp2_with fail
  go_ret
  exact ⟨rfl, T1.out⟩

set_option maxRecDepth 100000 in
set_option maxHeartbeats 2000000 in
theorem numberOf_any (s : ByteArray) (hs : s.size ≤ 281474976710656) (w : World) (hy : Yv w) : Calls Tryz.prog 54 #[.string s] w fun e w' => e = .returned (numV2 (numP s)) ∧ Calm w w' := by
  by_cases hl : 20 < s.size
  · have hlz : (20 : Int) < (s.size : Int) := by omega
    have HP := hide (num_long hl)
    clear hl
    generalize numP s = R at *
    go_enter Tryz.func54, Tryz.ntmps54
    go_wp2_with fail
    go_ret2
    exact ⟨by rw [HP.out]; rfl, Touch.refl _ _⟩
  have hlz : ¬ (20 : Int) < (s.size : Int) := by omega
  obtain ⟨⟨e1, e2, h1⟩, ⟨e3, e4, h2⟩, -⟩ := hy.errs
  have ht := hy.tab
  cases hr : Lib.parseIntB 64 s.data.toList with
  | ok v =>
    have CP := hide (Any.strconv_ParseInt_10_at64_ok Tryz.laysC174 s (by omega) v hr w)
    obtain ⟨b1, b2⟩ := Lib.parseIntB_bounds hr
    have CF : Hid (∀ W, Calm w W → Calls Tryz.prog 71 #[.int .i64 v, .int .i64 10] W fun e w' => e = .returned (.string ⟨(Lib.itoa v).toArray⟩) ∧ Calm W w') := hide fun W hW => format_any v (by omega) (by omega) W (ht.calm hW)
    have HY : (⟨(Lib.itoa v).toArray⟩ : ByteArray) = s → numP s = some v := num_yes hr
    have HN : (⟨(Lib.itoa v).toArray⟩ : ByteArray) ≠ s → numP s = none := fun h => num_no fun v' h' => by
      rw [hr] at h'
      injection h' with h'
      subst h'
      exact h
    by_cases hv : (⟨(Lib.itoa v).toArray⟩ : ByteArray) = s
    · have HP := hide (HY hv)
      rw [hv] at CF
      clear HY HN hv hr h1 h2 b1 b2 hs ht hy hl
      generalize numP s = R at *
      go_enter Tryz.func54, Tryz.ntmps54
      go_wp2_with fail
      refine CP.out.mono ?_
      rintro e w1 ⟨rfl, hw1⟩
      have T1 : Calm w w1 := by
        rcases hw1 with rfl | ⟨t, rfl⟩
        · exact Touch.refl _ _
        · exact calm_below (Lib.bytesWorld_below _ _ _)
      have HT1 := hide T1
      clear hw1 CP T1
      go_wp2_with fail
      refine (CF.out _ HT1.out).mono ?_
      rintro e w2 ⟨rfl, T2⟩
      have HT2 := hide (HT1.out.tr T2)
      clear CF T2 HT1
      go_wp2_with fail
      go_ret2
      exact ⟨by rw [HP.out]; rfl, HT2.out⟩
    · have HP := hide (HN hv)
      have dn : ((⟨(Lib.itoa v).toArray⟩ : ByteArray).toList == s.toList) = false := by
        rw [ba_beq]
        exact decide_eq_false hv
      clear HY HN hv hr h1 h2 b1 b2 hs ht hy hl
      generalize (⟨(Lib.itoa v).toArray⟩ : ByteArray) = z at *
      generalize numP s = R at *
      go_enter Tryz.func54, Tryz.ntmps54
      go_wp2_with fail
      refine CP.out.mono ?_
      rintro e w1 ⟨rfl, hw1⟩
      have T1 : Calm w w1 := by
        rcases hw1 with rfl | ⟨t, rfl⟩
        · exact Touch.refl _ _
        · exact calm_below (Lib.bytesWorld_below _ _ _)
      have HT1 := hide T1
      clear hw1 CP T1
      go_wp2_with fail
      refine (CF.out _ HT1.out).mono ?_
      rintro e w2 ⟨rfl, T2⟩
      have HT2 := hide (HT1.out.tr T2)
      clear CF T2 HT1
      go_wp2_with fail
      go_ret2
      exact ⟨by rw [HP.out]; rfl, HT2.out⟩
  | range =>
    have CP := hide (Any.strconv_ParseInt_10_at64_range Tryz.laysC174 s hs hr (.iface e3 e4) w h2 (.inr ⟨_, _, rfl⟩))
    have HP : Hid (numP s = none) := hide (num_no fun v h => by rw [hr] at h; cases h)
    clear hr h1 h2 hs ht hy hl
    generalize numP s = R at *
    go_enter Tryz.func54, Tryz.ntmps54
    go_wp2_with fail
    refine CP.out.mono ?_
    rintro e w1 ⟨N, rfl, -, -, hb⟩
    have HT1 := hide (calm_below hb)
    clear hb CP
    go_wp2_with fail
    go_ret2
    exact ⟨by rw [HP.out]; rfl, HT1.out⟩
  | _ =>
    have CP := hide (Any.strconv_ParseInt_10_at64_syntax Tryz.laysC174 s hs hr (.iface e1 e2) w h1 (.inr ⟨_, _, rfl⟩))
    have HP : Hid (numP s = none) := hide (num_no fun v h => by rw [hr] at h; cases h)
    clear hr h1 h2 hs ht hy hl
    generalize numP s = R at *
    go_enter Tryz.func54, Tryz.ntmps54
    go_wp2_with fail
    refine CP.out.mono ?_
    rintro e w1 ⟨N, rfl, -, -, hb⟩
    have HT1 := hide (calm_below hb)
    clear hb CP
    go_wp2_with fail
    go_ret2
    exact ⟨by rw [HP.out]; rfl, HT1.out⟩

/-- What is told of a kind's word. -/
def KndR (t : ByteArray) (e : Ending) : Prop := (∃ d : Int, 1 ≤ d ∧ d ≤ 3 ∧ nameB d = t ∧ e = .returned (.tuple #[.int .i64 d, .bool true])) ∨ (e = .returned (.tuple #[.int .i64 0, .bool false]) ∧ ∀ d : Int, 1 ≤ d → d ≤ 3 → nameB d ≠ t)

set_option maxRecDepth 100000 in
set_option maxHeartbeats 2000000 in
theorem kindOf_any (t : ByteArray) (w : World) (hk : Kds w) : Calls Tryz.prog 52 #[.string t] w fun e w' => KndR t e ∧ Calm w w' := by
  have HK : Hid (∀ k : Nat, 1 ≤ k → k < 4 → ∀ W, Calm w W → W.cell? ⟨0, k, none⟩ = some (.string (nameB (k : Int)))) := hide fun k h1 h4 W hW => by
    have h := (hk.calm hW) k h4
    unfold kdB at h
    rwa [if_neg (by omega)] at h
  clear hk
  go_enter Tryz.func52, Tryz.ntmps52
  go_wp2_with fail
  go_loopw [4] (fun s4 wr => ∃ k : Nat, s4 = .int .i64 (k : Int) ∧ 1 ≤ k ∧ k ≤ 4 ∧ Hid (∀ d : Nat, 1 ≤ d → d < k → nameB (d : Int) ≠ t) ∧ Calm w wr) (fun s4 _ => 4 - (intOf s4).toNat)
  case atStart => exact ⟨1, rfl, by omega, by omega, hide fun d h1 h2 => by omega, Touch.refl _ _⟩
  case round =>
    obtain ⟨k, rfl, hk1, hk4, HD, TE⟩ := hrel
    have HT := hide TE
    by_cases hlt : k < 4
    · have hz : (k : Int) ≤ 3 := by omega
      have hz4 : (k : Int) < 4 := by omega
      have hz0 : (0 : Int) ≤ (k : Int) := by omega
      have cz := HK.out k hk1 hlt wr TE
      have hbq := ba_beq (nameB (k : Int)) t
      have HY : Hid (nameB (k : Int) = t → KndR t (.returned (.tuple #[.int .i64 (k : Int), .bool true]))) := hide fun h => .inl ⟨k, by omega, by omega, h, rfl⟩
      have HD2 : Hid (nameB (k : Int) ≠ t → ∀ d : Nat, 1 ≤ d → d < k + 1 → nameB (d : Int) ≠ t) := hide fun h d h1 h2 => by
        by_cases e : d = k
        · subst e; exact h
        · exact HD.out d h1 (by omega)
      by_cases he : nameB (k : Int) = t
      · rw [decide_eq_true he] at hbq
        have HY2 := hide (HY.out he)
        clear HY HD HD2 HK TE he
        generalize nameB (k : Int) = z at *
        go_wp2_with fail
        go_ret2
        exact ⟨HY2.out, HT.out⟩
      · rw [decide_eq_false he] at hbq
        have HD3 := hide (HD2.out he)
        clear HY HD HD2 HK TE he
        generalize nameB (k : Int) = z at *
        go_wp2_with fail
        go_roundw
        case rel => exact ⟨k + 1, by go_num, by omega, by omega, HD3, HT.out⟩
        case measure => simp [intOf]; omega
    · have hz : ¬ (k : Int) ≤ 3 := by omega
      have HN : Hid (KndR t (.returned (.tuple #[.int .i64 0, .bool false]))) := hide (.inr ⟨rfl, fun d h1 h2 h => by
        have := HD.out d.toNat (by omega) (by omega)
        rw [show ((d.toNat : Nat) : Int) = d by omega] at this
        exact this h⟩)
      clear HD HK TE
      go_wp2_with fail
      go_ret2
      exact ⟨HN.out, HT.out⟩

end Go.Proofs.YtamfcmmhmfhhkaaGreatDoor

namespace Go.Proofs.YtamfcmmhmfhhkaaGreatDoor
open Go.RowKit

/-- Where the reader of a key stands: KI, and what was read is what the key so far is written as. -/
structure Ks (s : ByteArray) (i : Nat) (A : List Int) (R : List UInt8) : Prop where
  ki : KI s i A
  pre : s.toList.take i = (34 :: A.flatMap escL).map tbN
  byte : ∀ x ∈ A, 0 ≤ x ∧ x < 256
  rest : s.toList.drop i = R
/-- No pane has this line. -/
def NoP (s : ByteArray) : Prop := ∀ p, mayP p = true → NumOk p → lineB p ≠ s

theorem tbN_u8 (b : UInt8) : tbN (b.toNat : Int) = b := by
  unfold tbN
  rw [Int.toNat_natCast, UInt8.ofNat_toNat]
theorem line_key {s : ByteArray} {p : Pn} (h : lineB p = s) : s.toList = qk p.k ++ jn (tlP p) := by rw [← h, line_split]
theorem NoP.of {s : ByteArray} (h : ∀ k r, s.toList ≠ qk k ++ r) : NoP s := fun _ _ _ e => h _ _ (line_key e)

theorem Ks.start {s : ByteArray} {R : List UInt8} (h : s.toList = 34 :: R) : Ks s 1 [] R := ⟨KI.start s, by rw [h]; rfl, fun x hx => (nomatch hx), by rw [h]; rfl⟩
theorem NoP.first {s : ByteArray} (h : ∀ b R, s.toList = b :: R → b.toNat ≠ 34) : NoP s := NoP.of fun k r e => by
  have : s.toList = 34 :: (((quoL k k.size).tail ++ [34]).map tbN ++ r) := by rw [e]; rfl
  exact h _ _ this rfl
theorem Ks.past {s : ByteArray} {i : Nat} {A : List Int} (h : Ks s i A []) : NoP s := NoP.of (KI.past h.ki (by
  have := congrArg List.length h.rest
  rw [List.length_drop, tl_len] at this
  simp at this
  omega))
theorem Ks.long {s : ByteArray} {i : Nat} {A : List Int} {R : List UInt8} (h : Ks s i A R) (hl : 256 < A.length) : NoP s := fun p hm _ e => by
  obtain ⟨j, hj, -, h2⟩ := h.ki _ _ (line_key e)
  have hk : p.k.size ≤ 256 := by unfold mayP at hm; exact (of_decide_eq_true hm).1
  rw [h2, List.length_take, bsL_len] at hl
  omega
theorem Ks.head {s : ByteArray} {i : Nat} {A : List Int} {b : UInt8} {R : List UInt8} (h : Ks s i A (b :: R)) : ∃ hi : i < s.size, s[i]'hi = b ∧ s.toList.drop (i + 1) = R ∧ s.toList.take (i + 1) = s.toList.take i ++ [b] := by
  obtain ⟨hi, h1, h2⟩ := head_at h.rest
  refine ⟨hi, h1, h2, ?_⟩
  have e : s.toList = s.toList.take i ++ (b :: R) := by rw [← h.rest, List.take_append_drop]
  have hl : (s.toList.take i).length = i := by rw [List.length_take, tl_len]; omega
  conv => lhs; rw [e, List.take_append, hl]
  rw [List.take_of_length_le (by omega), show i + 1 - i = 1 by omega]
  rfl
theorem it_ne {b : Nat} (h : itB (b : Int) = true) : 32 ≤ b ∧ b ≤ 126 ∧ b ≠ 34 ∧ b ≠ 92 := by
  have := of_decide_eq_true h
  omega
theorem Ks.plain {s : ByteArray} {i : Nat} {A : List Int} {b : UInt8} {R : List UInt8} (h : Ks s i A (b :: R)) (hb : itB (b.toNat : Int) = true) : Ks s (i + 1) (A ++ [(b.toNat : Int)]) R := by
  obtain ⟨hi, h1, h2, h3⟩ := h.head
  obtain ⟨g1, g2, g3, g4⟩ := it_ne hb
  refine ⟨KI.plain h.ki hi (by rw [h1]) g3 g4, ?_, fun x hx => ?_, h2⟩
  · rw [h3, h.pre, List.flatMap_append, ← List.cons_append, List.map_append]
    congr 1
    show [b] = ((escL (b.toNat : Int)) ++ []).map tbN
    rw [esc_plain ⟨g1, g2, g3, g4⟩, List.append_nil, List.map_cons, tbN_u8]
    rfl
  · rcases List.mem_append.1 hx with hx | hx
    · exact h.byte x hx
    · rw [List.mem_singleton] at hx; subst hx; have := b.toNat_lt; omega
theorem Ks.odd {s : ByteArray} {i : Nat} {A : List Int} {b : UInt8} {R : List UInt8} (h : Ks s i A (b :: R)) (h34 : b.toNat ≠ 34) (h92 : b.toNat ≠ 92) (hb : itB (b.toNat : Int) = false) : NoP s := NoP.of fun k r he => by
  obtain ⟨hi, h1, -, -⟩ := h.head
  obtain ⟨j, hj, e1, e2⟩ := h.ki k r he
  rcases KI.cases he hj e1 with ⟨-, q, -⟩ | ⟨c, hc, -, -, -, rest, q⟩
  · obtain ⟨_, h4, -⟩ := head_at q
    rw [h1] at h4
    subst h4
    exact h34 rfl
  · by_cases hp : 32 ≤ c ∧ c ≤ 126 ∧ c ≠ 34 ∧ c ≠ 92
    · rw [esc_plain hp] at q
      obtain ⟨_, h4, -⟩ := head_at q
      rw [h1] at h4
      have := tbN_nat (n := (c : Int)) (by omega) (by omega)
      rw [← h4] at this
      rw [this] at hb
      exact absurd (of_decide_eq_false hb) (fun h => h ⟨by omega, by omega, by omega, by omega⟩)
    · rw [esc_four hp] at q
      obtain ⟨_, h4, -⟩ := head_at q
      rw [h1] at h4
      subst h4
      exact h92 rfl
theorem dig_hex {c : Int} (h : 0 ≤ digX c) : hexB (digX c) = c := by
  unfold digX at h ⊢
  by_cases h1 : 48 ≤ c ∧ c ≤ 57
  · rw [if_pos h1]
    unfold hexB
    rw [if_pos (by omega)]
    omega
  · rw [if_neg h1] at h ⊢
    by_cases h2 : 97 ≤ c ∧ c ≤ 102
    · rw [if_pos h2]
      unfold hexB
      rw [if_neg (by omega)]
      omega
    · rw [if_neg h2] at h; omega
theorem Ks.code {s : ByteArray} {i : Nat} {A : List Int} {h l : UInt8} {R : List UInt8} (k : Ks s i A (92 :: 120 :: h :: l :: R)) (h1 : 0 ≤ digX (h.toNat : Int)) (h2 : 0 ≤ digX (l.toNat : Int)) (hb : itB (16 * digX (h.toNat : Int) + digX (l.toNat : Int)) = false) : Ks s (i + 4) (A ++ [16 * digX (h.toNat : Int) + digX (l.toNat : Int)]) R := by
  have d1 := digX_lo (h.toNat : Int)
  have d2 := digX_lo (l.toNat : Int)
  obtain ⟨g0, e0, q1⟩ := head_at k.rest
  obtain ⟨g1, e1, q2⟩ := head_at q1
  obtain ⟨g2, e2, q3⟩ := head_at q2
  obtain ⟨g3, e3, q4⟩ := head_at q3
  have e2' : s[i + 2]'(by omega) = h := e2
  have e3' : s[i + 3]'(by omega) = l := e3
  have q4' : s.toList.drop (i + 4) = R := q4
  refine ⟨fun k2 r2 he => ?_, ?_, fun x hx => ?_, q4'⟩
  · obtain ⟨_, -, -, j, j1, j2, j3⟩ := KI.esc k.ki g0 (by rw [e0]; rfl) k2 r2 he
    refine ⟨j, j1, j2, ?_⟩
    rw [← j3, e2', e3']
  · have e : s.toList = s.toList.take i ++ (92 :: 120 :: h :: l :: R) := by rw [← k.rest, List.take_append_drop]
    have hl : (s.toList.take i).length = i := by rw [List.length_take, tl_len]; omega
    conv => lhs; rw [e, List.take_append, hl]
    rw [List.take_of_length_le (by omega), show i + 4 - i = 4 by omega, k.pre, List.flatMap_append, ← List.cons_append, List.map_append]
    congr 1
    obtain ⟨v, hv⟩ : ∃ v : Nat, 16 * digX (h.toNat : Int) + digX (l.toNat : Int) = (v : Int) := ⟨(16 * digX (h.toNat : Int) + digX (l.toNat : Int)).toNat, by omega⟩
    have hx : (v : Int) / 16 = digX (h.toNat : Int) := by omega
    have hy : (v : Int) % 16 = digX (l.toNat : Int) := by omega
    rw [hv] at hb ⊢
    show [92, 120, h, l] = ((escL (v : Int)) ++ []).map tbN
    rw [List.append_nil, esc_four (fun h => by have := of_decide_eq_false hb; exact this ⟨by omega, by omega, by omega, by omega⟩), hx, hy, dig_hex h1, dig_hex h2]
    simp only [List.map_cons, List.map_nil, tbN_u8]
    rfl
  · rcases List.mem_append.1 hx with hx | hx
    · exact k.byte x hx
    · rw [List.mem_singleton] at hx; subst hx; omega
theorem Ks.bad {s : ByteArray} {i : Nat} {A : List Int} {R : List UInt8} (k : Ks s i A (92 :: R)) (hR : ∀ h l R', R = 120 :: h :: l :: R' → 0 ≤ digX (h.toNat : Int) → 0 ≤ digX (l.toNat : Int) → itB (16 * digX (h.toNat : Int) + digX (l.toNat : Int)) = true) : NoP s := NoP.of fun k2 r he => by
  obtain ⟨j, hj, e1, e2⟩ := k.ki k2 r he
  rcases KI.cases he hj e1 with ⟨-, q, -⟩ | ⟨c, hc, -, -, -, rest, q⟩
  · rw [k.rest] at q
    injection q with q
    exact absurd q (by decide)
  · rw [k.rest] at q
    by_cases hp : 32 ≤ c ∧ c ≤ 126 ∧ c ≠ 34 ∧ c ≠ 92
    · rw [esc_plain hp] at q
      injection q with q
      have := tbN_nat (n := (c : Int)) (by omega) (by omega)
      rw [← q] at this
      have e92 : ((92 : UInt8).toNat : Int) = 92 := rfl
      omega
    · rw [esc_four hp] at q
      injection q with _ q
      have x1 := hexB_in (n := (c : Int) / 16) (by omega) (by omega)
      have x2 := hexB_in (n := (c : Int) % 16) (by omega) (by omega)
      have y1 := tbN_nat x1.1 x1.2
      have y2 := tbN_nat x2.1 x2.2
      have w1 := digX_hex (n := (c : Int) / 16) (by omega) (by omega)
      have w2 := digX_hex (n := (c : Int) % 16) (by omega) (by omega)
      have hh := hR _ _ _ q (by rw [y1, w1]; omega) (by rw [y2, w2]; omega)
      rw [y1, y2, w1, w2, show 16 * ((c : Int) / 16) + (c : Int) % 16 = (c : Int) by omega] at hh
      exact hp (it_ne hh)

/-- Behind the key. -/
structure Kb (s k : ByteArray) (R : List UInt8) : Prop where
  pre : s.toList = qk k ++ R
  all : ∀ p, lineB p = s → p.k = k ∧ R = jn (tlP p)
theorem Ks.last {s : ByteArray} {i : Nat} {A : List Int} {R : List UInt8} (h : Ks s i A (34 :: R)) : Kb s (strOfNums A) R := by
  obtain ⟨hi, h1, h2, h3⟩ := h.head
  have hA : bsL (strOfNums A) = A := bs_of h.byte
  have hq : quoA (strOfNums A) = (34 :: A.flatMap escL) ++ [34] := by
    have e : (strOfNums A).toList.map (fun u => (u.toNat : Int)) = A := by
      rw [ByteArray.toList_eq]
      exact hA
    unfold quoA quoL
    rw [List.take_of_length_le (by rw [tl_len]; exact Nat.le_refl _)]
    conv => rhs; rw [← e, List.flatMap_map]
  have hp : s.toList = qk (strOfNums A) ++ R := by
    have e : s.toList = s.toList.take i ++ (34 :: R) := by rw [← h.rest, List.take_append_drop]
    rw [e, h.pre]
    unfold qk
    rw [hq, List.map_append, List.append_assoc]
    rfl
  refine ⟨hp, fun p e => ?_⟩
  have e2 := line_key e
  obtain ⟨q1, q2⟩ := qk_inj (hp.symm.trans e2)
  exact ⟨q1.symm, q2⟩

end Go.Proofs.YtamfcmmhmfhhkaaGreatDoor

namespace Go.Proofs.YtamfcmmhmfhhkaaGreatDoor
open Go.RowKit

theorem wd_split : ∀ (W T : List UInt8), (∀ b ∈ W, b ≠ 32) → (T = [] ∨ ∃ T', T = 32 :: T') → wdL (W ++ T) = W ∧ wdR (W ++ T) = T
  | [], T, _, h => by
    rcases h with rfl | ⟨T', rfl⟩
    · exact ⟨rfl, rfl⟩
    · exact ⟨rfl, rfl⟩
  | b :: W, T, hW, h => by
    have hb : b ≠ 32 := hW b (by simp)
    obtain ⟨h1, h2⟩ := wd_split W T (fun c hc => hW c (by simp [hc])) h
    refine ⟨?_, ?_⟩
    · show wdL (b :: (W ++ T)) = b :: W
      have e : wdL (b :: (W ++ T)) = b :: wdL (W ++ T) := List.takeWhile_cons_of_pos (by simpa using hb)
      rw [e, h1]
    · show wdR (b :: (W ++ T)) = T
      have e : wdR (b :: (W ++ T)) = wdR (W ++ T) := List.dropWhile_cons_of_pos (by simpa using hb)
      rw [e, h2]

/-- A line's numbers from number j on. -/
def tlL (p : Pn) (j : Nat) : List UInt8 := ((numsP p).drop j).flatMap fun x => 32 :: (intB x).toList
theorem tlL_next (p : Pn) (j : Nat) (h : j < 7) : tlL p j = 32 :: ((intB ((numsP p).getD j 0)).toList ++ tlL p (j + 1)) := by
  have hl : (numsP p).length = 7 := rfl
  unfold tlL
  rw [List.drop_eq_getElem_cons (by omega), List.flatMap_cons, List.getD_eq_getElem?_getD, List.getElem?_eq_getElem (by omega)]
  rfl
theorem tlL_end (p : Pn) : tlL p 7 = [] := rfl
theorem tlL_or (p : Pn) (j : Nat) : tlL p j = [] ∨ ∃ T, tlL p j = 32 :: T := by
  by_cases h : j < 7
  · exact .inr ⟨_, tlL_next p j h⟩
  · left
    unfold tlL
    rw [List.drop_of_length_le (by show 7 ≤ j; omega)]
    rfl
theorem jn_flat : ∀ (x : List UInt8) (l : List (List UInt8)), jn (x :: l) = x ++ l.flatMap fun y => 32 :: y
  | x, [] => by simp [jn]
  | x, y :: l => by
    rw [jn_cons x (by simp), jn_flat y l, List.flatMap_cons, List.cons_append]
theorem jn_tl (p : Pn) : jn (tlP p) = 32 :: ((nameB p.d).toList ++ tlL p 0) := by
  unfold tlP tlL
  rw [jn_flat, List.nil_append, List.flatMap_cons, List.drop_zero, List.flatMap_map, List.cons_append]

/-- The first j numbers, as they are written. -/
def nsL (f : Nat → Int) (j : Nat) : List UInt8 := (List.range j).flatMap fun i => 32 :: (intB (f i)).toList
theorem nsL_up (f : Nat → Int) (j : Nat) (x : Int) : nsL (upG f j x) (j + 1) = nsL f j ++ 32 :: (intB x).toList := by
  unfold nsL
  rw [List.range_succ, List.flatMap_append, List.flatMap_cons, List.flatMap_nil, List.append_nil]
  have e1 : upG f j x j = x := by unfold upG; rw [if_pos rfl]
  rw [e1]
  congr 1
  have : ∀ (l : List Nat), (∀ i ∈ l, i < j) → (l.flatMap fun i => 32 :: (intB (upG f j x i)).toList) = l.flatMap fun i => 32 :: (intB (f i)).toList := by
    intro l
    induction l with
    | nil => intro _; rfl
    | cons a l ih =>
      intro h
      have ha := h a (by simp)
      have e : upG f j x a = f a := by unfold upG; rw [if_neg (by omega)]
      rw [List.flatMap_cons, List.flatMap_cons, e, ih (fun i hi => h i (by simp [hi]))]
  exact this _ (fun i hi => List.mem_range.1 hi)

/-- Among the numbers. -/
structure Nb (s k : ByteArray) (d : Int) (f : Nat → Int) (j : Nat) (R : List UInt8) : Prop where
  pre : s.toList = (qk k ++ 32 :: (nameB d).toList) ++ (nsL f j ++ R)
  all : ∀ p, mayP p = true → lineB p = s → p.k = k ∧ p.d = d ∧ (∀ i, i < j → (numsP p).getD i 0 = f i) ∧ R = tlL p j
  int : ∀ i, i < j → I64n (f i)

theorem tk_cons {R : List UInt8} (h : tkB R 32 = true) : R = 32 :: R.tail := by
  obtain ⟨b, R', rfl, hb⟩ := tkB_yes h
  rw [n32 hb]
  rfl
theorem Kb.none {s k : ByteArray} {R : List UInt8} (h : Kb s k R) (ht : tkB R 32 = false) : NoP s := fun p _ _ e => by
  have hR := (h.all p e).2
  rw [jn_tl] at hR
  exact tkB_no ht _ _ hR rfl
theorem Kb.word {s k : ByteArray} {R : List UInt8} (h : Kb s k R) (_ht : tkB R 32 = true) (p : Pn) (e : lineB p = s) : wdL R.tail = (nameB p.d).toList ∧ wdR R.tail = tlL p 0 := by
  have hR := (h.all p e).2
  rw [jn_tl] at hR
  rw [hR]
  exact wd_split _ _ (nameB_no _) (tlL_or p 0)
theorem Kb.kind {s k : ByteArray} {R : List UInt8} (h : Kb s k R) (ht : tkB R 32 = true) {d : Int} (h1 : 1 ≤ d) (h2 : d ≤ 3) (hd : nameB d = bl (wdL R.tail)) (f : Nat → Int) : Nb s k d f 0 (wdR R.tail) := by
  have hw : (nameB d).toList = wdL R.tail := by rw [hd, bl_list]
  refine ⟨?_, fun p hm e => ?_, fun i hi => by omega⟩
  · have e := h.pre
    rw [tk_cons ht, ← wd_app R.tail] at e
    rw [e, hw]
    simp [nsL]
  · obtain ⟨e1, e2⟩ := h.word ht p e
    exact ⟨(h.all p e).1, name_inj (may_kind hm) ⟨h1, h2⟩ (by rw [hw, e1]), fun i hi => by omega, e2⟩
theorem Kb.nokind {s k : ByteArray} {R : List UInt8} (h : Kb s k R) (ht : tkB R 32 = true) (hd : ∀ d : Int, 1 ≤ d → d ≤ 3 → nameB d ≠ bl (wdL R.tail)) : NoP s := fun p hm _ e => by
  obtain ⟨h1, h2⟩ := may_kind hm
  exact hd p.d h1 h2 (ba_ext (by rw [bl_list, (h.word ht p e).1]))
theorem Nb.none {s k : ByteArray} {d : Int} {f : Nat → Int} {j : Nat} {R : List UInt8} (h : Nb s k d f j R) (hj : j < 7) (ht : tkB R 32 = false) : NoP s := fun p hm _ e => by
  have hR := (h.all p hm e).2.2.2
  rw [tlL_next p j hj] at hR
  exact tkB_no ht _ _ hR rfl
theorem Nb.word {s k : ByteArray} {d : Int} {f : Nat → Int} {j : Nat} {R : List UInt8} (h : Nb s k d f j R) (hj : j < 7) (p : Pn) (hm : mayP p = true) (e : lineB p = s) : wdL R.tail = (intB ((numsP p).getD j 0)).toList ∧ wdR R.tail = tlL p (j + 1) := by
  have hR := (h.all p hm e).2.2.2
  rw [tlL_next p j hj] at hR
  rw [hR]
  exact wd_split _ _ (intB_no _) (tlL_or p (j + 1))
theorem Nb.num {s k : ByteArray} {d : Int} {f : Nat → Int} {j : Nat} {R : List UInt8} (h : Nb s k d f j R) (hj : j < 7) (ht : tkB R 32 = true) {x : Int} (hx : numP (bl (wdL R.tail)) = some x) : Nb s k d (upG f j x) (j + 1) (wdR R.tail) := by
  obtain ⟨hi, hb⟩ := numP_some.1 hx
  have hw : (intB x).toList = wdL R.tail := by rw [hb, bl_list]
  refine ⟨?_, fun p hm e => ?_, fun i hi2 => ?_⟩
  · have e := h.pre
    rw [tk_cons ht, ← wd_app R.tail] at e
    rw [e, nsL_up, hw]
    simp
  · obtain ⟨e1, e2⟩ := h.word hj p hm e
    obtain ⟨a1, a2, a3, -⟩ := h.all p hm e
    refine ⟨a1, a2, fun i hi2 => ?_, e2⟩
    unfold upG
    by_cases hij : i = j
    · subst hij
      rw [if_pos rfl]
      exact int_inj (by rw [hw, e1])
    · rw [if_neg hij]
      exact a3 i (by omega)
  · unfold upG
    by_cases hij : i = j
    · rw [if_pos hij]; exact hi
    · rw [if_neg hij]; exact h.int i (by omega)
theorem Nb.nonum {s k : ByteArray} {d : Int} {f : Nat → Int} {j : Nat} {R : List UInt8} (h : Nb s k d f j R) (hj : j < 7) (hx : numP (bl (wdL R.tail)) = Option.none) : NoP s := fun p hm hp e => by
  have hb := (h.word hj p hm e).1
  have h2 : numP (bl (wdL R.tail)) = some ((numsP p).getD j 0) := numP_some.2 ⟨hp j hj, ba_ext (by rw [bl_list, hb])⟩
  rw [hx] at h2
  cases h2
/-- The pane that was read. -/
abbrev pnF (k : ByteArray) (d : Int) (f : Nat → Int) : Pn := ⟨k, f 0, f 1, d, f 2, ⟨f 3, f 4, f 5, f 6⟩⟩
theorem Nb.last {s k : ByteArray} {d : Int} {f : Nat → Int} (h : Nb s k d f 7 []) (hk : k.size ≤ 256) (h1 : 1 ≤ d) (h2 : d ≤ 3) : ParR s (some (pnF k d f)) := by
  refine ⟨decide_eq_true ⟨hk, h1, h2⟩, fun i hi => ?_, ?_⟩
  · have e : (numsP (pnF k d f)).getD i 0 = f i := by
      rcases (by omega : i = 0 ∨ i = 1 ∨ i = 2 ∨ i = 3 ∨ i = 4 ∨ i = 5 ∨ i = 6) with rfl | rfl | rfl | rfl | rfl | rfl | rfl <;> rfl
    rw [e]
    exact h.int i hi
  · apply ba_ext
    rw [line_split, jn_tl, h.pre]
    have e : tlL (pnF k d f) 0 = nsL f 7 := rfl
    rw [e]
    simp
theorem Nb.more {s k : ByteArray} {d : Int} {f : Nat → Int} {b : UInt8} {R : List UInt8} (h : Nb s k d f 7 (b :: R)) : NoP s := fun p hm _ e => by
  have hR := (h.all p hm e).2.2.2
  rw [tlL_end] at hR
  cases hR

end Go.Proofs.YtamfcmmhmfhhkaaGreatDoor
