/- Walks: the reader as frames use it: Number. -/
import Derived.Test.YtdcpmpbfnfjncaaGreatDoorEW
import Derived.Test.YtdcpmpbfnfjncaaGreatDoorJumps
import Derived.WalkMore
import Derived.Deep.QuietTactic
import Derived.BigQuiet
namespace Go.Proofs.YtdcpmpbfnfjncaaGreatDoor
open Go.RowKit

def In8 (xs : List Int) : Prop := ∀ x ∈ xs, 0 ≤ x ∧ x ≤ 255
theorem In8.at {xs : List Int} (h : In8 xs) (i : Nat) : 0 ≤ xs.getD i 0 ∧ xs.getD i 0 ≤ 255 := by
  by_cases hi : i < xs.length
  · rw [List.getD_eq_getElem?_getD, List.getElem?_eq_getElem hi]; exact h _ (List.getElem_mem hi)
  · rw [List.getD_eq_getElem?_getD, List.getElem?_eq_none (by omega)]; exact ⟨Int.le_refl _, by decide⟩
theorem In8.take {xs : List Int} (h : In8 xs) (i : Nat) : In8 (xs.take i) := fun x hx => h x (List.mem_of_mem_take hx)

theorem Touch.drewN {S : Nat → Prop} {a w : World} (h : Touch S a w) (n : Nat) : Touch S a (w.drewN n) := ⟨h.os, h.tape, h.output, h.size, h.block⟩

theorem Seg.drewN {w : World} {k : IntKind} {ao : Option Addr} {xs : List Int} (h : Seg w k ao xs) (n : Nat) : Seg (w.drewN n) k ao xs := ⟨h.none, h.spot, h.cell⟩

/-- What reading a number form does, i bytes being read: the number, how many bytes, the error. -/
def scanF : Nat → Nat → List Int → Nat × Nat × Nat
  | _, _, [] => (0, 0, 110)
  | i, acc, c :: r =>
    if i = 9 then (if c = 1 then (acc + 9223372036854775808, 10, 0) else (0, 0, 111))
    else if 128 ≤ c then scanF (i + 1) (acc + (c.toNat - 128) * 128 ^ i) r
    else if c = 0 ∧ 0 < i then (0, 0, 111) else (acc + c.toNat * 128 ^ i, i + 1, 0)

def scan (l : List Int) : Nat × Nat × Nat := scanF 0 0 l

/-- At label 1. -/
def At1 (w : World) (ao : Option Addr) (xs : List Int) (cap : Nat) (a : Act) (w' : World) : Prop :=
  w' = w ∧ ∃ (i acc : Nat) (u5 u7 u8 u9 u10 u11 u12 u13 u14 u15 u16 u17 u18 u19 u20 u21 u22 u23 u24 u25 u26 u27 u28 u29 u30 u31 u32 u33 u34 u35 : Value), i ≤ 9 ∧ i ≤ xs.length ∧ acc < 128 ^ i ∧ scanF i acc (xs.drop i) = scan xs ∧
    a = { tmps := #[.slice ao xs.length cap, undef, .int .u64 acc, .int .i64 i, .int .i64 0, u5, .int .u64 ((7 * i : Nat) : Int), u7, u8, u9, u10, u11, u12, u13, u14, u15, u16, u17, u18, u19, u20, u21, u22, u23, u24, u25, u26, u27, u28, u29, u30, u31, u32, u33, u34, u35, undef, undef, undef, undef, undef, undef, undef], defers := [] }

/-- At labels 0, 3: the error. -/
def AtE (w : World) (e : Nat) (xs : List Int) (a : Act) (w' : World) : Prop :=
  w' = w ∧ scan xs = (0, 0, e) ∧ ∃ (u0 u1 u2 u3 u4 u5 u6 u7 u8 u9 u10 u11 u12 u13 u14 u15 u16 u17 u18 u19 u20 u21 u22 u23 u24 u25 u26 u27 u28 u29 u30 u31 u32 u33 u34 u35 u36 u37 u38 u39 u40 u41 u42 : Value), a = { tmps := #[u0, u1, u2, u3, u4, u5, u6, u7, u8, u9, u10, u11, u12, u13, u14, u15, u16, u17, u18, u19, u20, u21, u22, u23, u24, u25, u26, u27, u28, u29, u30, u31, u32, u33, u34, u35, u36, u37, u38, u39, u40, u41, u42], defers := [] }

/-- At label 2: the tenth byte. -/
def At2 (w : World) (xs : List Int) (a : Act) (w' : World) : Prop :=
  w' = w ∧ ∃ (acc : Nat) (c : Int) (u0 u1 u4 u6 u7 u8 u9 u10 u11 u12 u13 u14 u15 u16 u17 u18 u19 u20 u21 u22 u23 u24 u25 u26 u27 u28 u29 u30 u31 u32 u33 u34 u35 u36 u37 u38 u39 u40 u41 u42 : Value), acc < 128 ^ 9 ∧ 9 < xs.length ∧ scanF 9 acc (c :: xs.drop 10) = scan xs ∧
    a = { tmps := #[u0, u1, .int .u64 acc, .int .i64 10, u4, .int .u8 c, u6, u7, u8, u9, u10, u11, u12, u13, u14, u15, u16, u17, u18, u19, u20, u21, u22, u23, u24, u25, u26, u27, u28, u29, u30, u31, u32, u33, u34, u35, u36, u37, u38, u39, u40, u41, u42], defers := [] }

def AtL (w : World) (ao : Option Addr) (xs : List Int) (cap : Nat) (l : Nat) (a : Act) (w' : World) : Prop :=
  if l = 0 then AtE w 110 xs a w' else if l = 1 then At1 w ao xs cap a w' else if l = 2 then At2 w xs a w' else if l = 3 then AtE w 111 xs a w' else False

def rank (n l : Nat) (a : Act) : Nat :=
  if l = 1 then n + 3 - (intOf (a.tmps.getD 3 undef)).toNat else if l = 2 then 1 else 0

theorem drop_at (xs : List Int) (i : Nat) (c : Int) (h : i < xs.length) (hc : xs.getD i 0 = c) : xs.drop i = c :: xs.drop (i + 1) := by
  rw [List.drop_eq_getElem_cons h, ← hc, List.getD_eq_getElem?_getD, List.getElem?_eq_getElem h]; rfl

theorem scan_more (i acc : Nat) (c : Int) (r : List Int) (hi : ¬ i = 9) (h : 128 ≤ c) (h1 : c ≤ 255) : scanF i acc (c :: r) = scanF (i + 1) (acc + c.toNat % 128 * 128 ^ i) r := by
  rw [scanF, if_neg hi, if_pos h, show c.toNat - 128 = c.toNat % 128 by omega]

theorem scan_last (i acc : Nat) (c : Int) (r : List Int) (hi : ¬ i = 9) (h0 : 0 ≤ c) (h : ¬ 128 ≤ c) (hz : ¬ (c = 0 ∧ 0 < i)) : scanF i acc (c :: r) = (acc + c.toNat % 128 * 128 ^ i, i + 1, 0) := by
  rw [scanF, if_neg hi, if_neg h, if_neg hz, show c.toNat % 128 = c.toNat by omega]

theorem scan_zero (i acc : Nat) (c : Int) (r : List Int) (hi : ¬ i = 9) (h : ¬ 128 ≤ c) (hz : c = 0 ∧ 0 < i) : scanF i acc (c :: r) = (0, 0, 111) := by
  rw [scanF, if_neg hi, if_neg h, if_pos hz]

theorem scan_tenth (acc : Nat) (r : List Int) : scanF 9 acc (1 :: r) = (acc + 9223372036854775808, 10, 0) := by rw [scanF, if_pos rfl, if_pos rfl]

theorem scan_tenth_no (acc : Nat) (c : Int) (r : List Int) (h : ¬ c = 1) : scanF 9 acc (c :: r) = (0, 0, 111) := by rw [scanF, if_pos rfl, if_neg h]

theorem next_lt (i acc : Nat) (c : Int) (ha : acc < 128 ^ i) : acc + c.toNat % 128 * 128 ^ i < 128 ^ (i + 1) := by
  have hd : c.toNat % 128 ≤ 127 := by omega
  have := Nat.mul_le_mul_right (128 ^ i) hd
  rw [Nat.pow_succ]; omega

theorem ret3 (x : Nat × Nat × Nat) (a b c : Nat) (h : x = (a, b, c)) : Ending.returned (.tuple #[.int .u64 (a : Int), .int .i64 (b : Int), .int .i64 (c : Int)]) = .returned (.tuple #[.int .u64 x.1, .int .i64 x.2.1, .int .i64 x.2.2]) := by rw [h]

set_option maxRecDepth 100000 in
set_option maxHeartbeats 1000000 in
theorem scan_any (ao : Option Addr) (xs : List Int) (cap : Nat) (w : World) (hs : Seg w .u8 ao xs) (h8 : In8 xs) (hb : xs.length ≤ 140737488351232) :
    Calls Tryz.prog 59 #[.slice ao xs.length cap] w fun e w' => e = .returned (.tuple #[.int .u64 (scan xs).1, .int .i64 (scan xs).2.1, .int .i64 (scan xs).2.2]) ∧ w' = w := by
  go_enter Tryz.func59, Tryz.ntmps59
  go_wp2
  refine wp_scope_many (AtL w ao xs cap) (fun l a _ => rank xs.length l a) ?_ ?_
  · intro hp
    have H0 : Hid (scanF 0 0 (xs.drop 0) = scan xs) := rfl
    go_wp2
    go_step3
    rename_i hK
    exact hK _ _ (hp.out 1 _ _ _ ⟨rfl, 0, 0, _, _, _, _, _, _, _, _, _, _, _, _, _, _, _, _, _, _, _, _, _, _, _, _, _, _, _, _, _, _, by omega, by omega, by decide, H0.out, rfl⟩ rfl)
  · intro l a0 w0 hl
    unfold AtL at hl
    by_cases l0 : l = 0
    · subst l0
      rw [if_pos rfl] at hl
      obtain ⟨rfl, hsc, u0, u1, u2, u3, u4, u5, u6, u7, u8, u9, u10, u11, u12, u13, u14, u15, u16, u17, u18, u19, u20, u21, u22, u23, u24, u25, u26, u27, u28, u29, u30, u31, u32, u33, u34, u35, u36, u37, u38, u39, u40, u41, u42, rfl⟩ := hl
      refine ⟨_, rfl, ?_⟩
      have HS := hide hsc
      clear hsc
      go_wp2
      simp only [jumps]
      go_ret3
      exact ⟨ret3 _ 0 0 110 HS.out, rfl⟩
    by_cases l1 : l = 1
    · subst l1
      rw [if_neg (by decide), if_pos rfl] at hl
      obtain ⟨rfl, i, acc, u5, u7, u8, u9, u10, u11, u12, u13, u14, u15, u16, u17, u18, u19, u20, u21, u22, u23, u24, u25, u26, u27, u28, u29, u30, u31, u32, u33, u34, u35, hi9, hil, hacc, hsc, rfl⟩ := hl
      refine ⟨_, rfl, ?_⟩
      by_cases hlt : i < xs.length
      · obtain ⟨b, off, rfl⟩ := hs.addr (by omega)
        have c1 := hs.at i hlt
        obtain ⟨c, hc⟩ : ∃ c, xs.getD i 0 = c := ⟨_, rfl⟩
        rw [hc] at c1
        have hc8 : 0 ≤ c ∧ c ≤ 255 := by rw [← hc, List.getD_eq_getElem?_getD, List.getElem?_eq_getElem hlt]; exact h8 _ (List.getElem_mem hlt)
        rw [drop_at xs i c hlt hc] at hsc
        have HA := hide hacc
        clear hc
        have t1 : ((i : Int) == (xs.length : Int)) = false := by simp; omega
        by_cases hi : i = 9
        · subst hi
          have HS := hide hsc
          clear hsc hacc
          go_wp2
          go_step3
          refine ⟨?_, ?_⟩
          · exact ⟨rfl, acc, c, _, _, _, _, _, _, _, _, _, _, _, _, _, _, _, _, _, _, _, _, _, _, _, _, _, _, _, _, _, _, _, _, _, _, _, _, _, _, _, _, HA.out, hlt, HS.out, rfl⟩
          · show (1 : Nat) < xs.length + 3 - _
            simp [intOf]; omega
        · have t2 : ((i : Int) + 1 == 10) = false := by simp; omega
          have hor := digit_or i acc c (by omega) hacc hc8.1 hc8.2
          have hnl := next_lt i acc c hacc
          obtain ⟨acc', hacc'⟩ : ∃ z, acc + c.toNat % 128 * 128 ^ i = z := ⟨_, rfl⟩
          rw [hacc'] at hor hnl
          have HN := hide hnl
          clear hnl hacc
          by_cases h128 : 128 ≤ c
          · have HS : Hid (scanF (i + 1) acc' (xs.drop (i + 1)) = scan xs) := by show _ = _; rw [← hsc, scan_more i acc c _ hi h128 hc8.2, hacc']
            clear hsc hacc'
            go_wp2
            go_step3
            have e7 : (7 * (i : Int) + 7) = ((7 * (i + 1) : Nat) : Int) := by omega
            have e1 : (i : Int) + 1 = ((i + 1 : Nat) : Int) := by omega
            refine ⟨?_, ?_⟩
            · rw [e7, e1]
              exact ⟨rfl, i + 1, acc', _, _, _, _, _, _, _, _, _, _, _, _, _, _, _, _, _, _, _, _, _, _, _, _, _, _, _, _, _, _, by omega, by omega, HN.out, HS.out, rfl⟩
            · show xs.length + 3 - _ < xs.length + 3 - _
              simp [intOf]; omega
          · by_cases hz : c = 0 ∧ 0 < i
            · have HS : Hid (scan xs = (0, 0, 111)) := by show _ = _; rw [← hsc, scan_zero i acc c _ hi h128 hz]
              obtain ⟨rfl, hi0⟩ := hz
              clear hsc hacc'
              go_wp2
              go_step3
              refine ⟨?_, ?_⟩
              · exact ⟨rfl, HS.out, _, _, _, _, _, _, _, _, _, _, _, _, _, _, _, _, _, _, _, _, _, _, _, _, _, _, _, _, _, _, _, _, _, _, _, _, _, _, _, _, _, _, _, rfl⟩
              · show 0 < xs.length + 3 - _
                simp [intOf]; omega
            · have HS : Hid (scan xs = (acc', i + 1, 0)) := by show _ = _; rw [← hsc, scan_last i acc c _ hi hc8.1 h128 hz, hacc']
              clear hsc hacc'
              by_cases hc0 : c = 0
              · have hi0 : i ≤ 0 := by omega
                subst hc0
                clear hz
                go_wp2
                simp only [jumps]
                go_ret3
                exact ⟨ret3 _ acc' (i + 1) 0 HS.out, rfl⟩
              · have t3 : (c == 0) = false := by simpa using hc0
                go_wp2
                simp only [jumps]
                go_ret3
                exact ⟨ret3 _ acc' (i + 1) 0 HS.out, rfl⟩
      · have hl : i = xs.length := by omega
        have t1 : ((i : Int) == (xs.length : Int)) = true := by simp; omega
        have HS : Hid (scan xs = (0, 0, 110)) := by
          show _ = _; rw [← hsc, List.drop_eq_nil_of_le (by omega)]; rfl
        have HL := hide hl
        clear hsc hl hacc
        go_wp2
        go_step3
        refine ⟨?_, ?_⟩
        · exact ⟨rfl, HS.out, _, _, _, _, _, _, _, _, _, _, _, _, _, _, _, _, _, _, _, _, _, _, _, _, _, _, _, _, _, _, _, _, _, _, _, _, _, _, _, _, _, _, _, rfl⟩
        · show 0 < xs.length + 3 - _
          simp [intOf]; omega
    by_cases l2 : l = 2
    · subst l2
      rw [if_neg (by decide), if_neg (by decide), if_pos rfl] at hl
      obtain ⟨rfl, acc, c, u0, u1, u4, u6, u7, u8, u9, u10, u11, u12, u13, u14, u15, u16, u17, u18, u19, u20, u21, u22, u23, u24, u25, u26, u27, u28, u29, u30, u31, u32, u33, u34, u35, u36, u37, u38, u39, u40, u41, u42, hacc, hlen, hsc, rfl⟩ := hl
      refine ⟨_, rfl, ?_⟩
      by_cases hc1 : c = 1
      · subst hc1
        have HS : Hid (scan xs = (acc + 9223372036854775808, 10, 0)) := by show _ = _; rw [← hsc, scan_tenth]
        have hor := or_top acc (by simpa using hacc)
        obtain ⟨z, hz⟩ : ∃ z, acc + 9223372036854775808 = z := ⟨_, rfl⟩
        rw [hz] at hor HS
        clear hsc hacc hz
        go_wp2
        simp only [jumps]
        go_ret3
        exact ⟨ret3 _ z 10 0 HS.out, rfl⟩
      · have HS : Hid (scan xs = (0, 0, 111)) := by show _ = _; rw [← hsc, scan_tenth_no acc c _ hc1]
        have t3 : (c != 1) = true := by simpa using hc1
        clear hsc hacc
        go_wp2
        go_step3
        refine ⟨?_, ?_⟩
        · exact ⟨rfl, HS.out, _, _, _, _, _, _, _, _, _, _, _, _, _, _, _, _, _, _, _, _, _, _, _, _, _, _, _, _, _, _, _, _, _, _, _, _, _, _, _, _, _, _, _, rfl⟩
        · show 0 < 1
          omega
    by_cases l3 : l = 3
    · subst l3
      rw [if_neg (by decide), if_neg (by decide), if_neg (by decide), if_pos rfl] at hl
      obtain ⟨rfl, hsc, u0, u1, u2, u3, u4, u5, u6, u7, u8, u9, u10, u11, u12, u13, u14, u15, u16, u17, u18, u19, u20, u21, u22, u23, u24, u25, u26, u27, u28, u29, u30, u31, u32, u33, u34, u35, u36, u37, u38, u39, u40, u41, u42, rfl⟩ := hl
      refine ⟨_, rfl, ?_⟩
      have HS := hide hsc
      clear hsc
      go_wp2
      simp only [jumps]
      go_ret3
      exact ⟨ret3 _ 0 0 111 HS.out, rfl⟩
    · rw [if_neg l0, if_neg l1, if_neg l2, if_neg l3] at hl
      exact hl.elim

theorem scanF_size : ∀ (l : List Int) (i acc : Nat), i ≤ 9 → (scanF i acc l).2.1 ≤ i + l.length
  | [], i, acc, _ => by simp [scanF]
  | c :: r, i, acc, hi => by
    rw [scanF]
    split
    · split <;> simp; omega
    · split
      · have := scanF_size r (i + 1) (acc + (c.toNat - 128) * 128 ^ i) (by omega)
        simp; omega
      · split <;> simp

theorem scan_size (l : List Int) : (scan l).2.1 ≤ l.length := by have := scanF_size l 0 0 (by omega); rw [Nat.zero_add] at this; exact this

theorem seg_slice {w : World} {e : TypeId} {ao : Option Addr} {cap : Nat} {bs : List Int} (h : Row w e .u8 (.slice ao bs.length cap) bs) (p q : Nat) (hp : p ≤ q) (hq : q ≤ bs.length) (c : Nat) (hc : c = cap) :
    Seg w .u8 (if c = p then ao else ao.map (·.add (p * 1))) ((bs.drop p).take (q - p)) := by
  subst hc
  have hs := Seg.of_row h
  rcases h.form with ⟨hv, hx⟩ | ⟨g, cap', cur, hv, _, hle, _⟩
  · injection hv with h1 h2 h3
    subst h1
    subst hx
    refine ⟨fun _ => by simp, ?_, ?_⟩
    · intro a ha; split at ha <;> cases ha
    · intro a ha; split at ha <;> cases ha
  · injection hv with h1 h2 h3
    subst h1 h3
    by_cases e : c = p
    · rw [if_pos e]
      have : (bs.drop p).take (q - p) = [] := by rw [List.drop_eq_nil_of_le (by omega)]; simp
      rw [this]
      exact ⟨fun h => (nomatch h), fun _ _ h => absurd rfl h, fun _ _ j hj => absurd hj (by simp)⟩
    · rw [if_neg e, Nat.mul_one]
      simp only [Option.map_some, Addr.add_lit, Nat.zero_add]
      refine ⟨fun h => (nomatch h), fun a ha _ => (by injection ha with ha; subst ha; rfl), fun a ha j hj => ?_⟩
      injection ha with ha; subst ha
      rw [Addr.add_lit]
      have hj' : j < q - p ∧ j < bs.length - p := by simpa [List.length_take, List.length_drop, Nat.lt_min] using hj
      have := h.cell (p + j) (by omega)
      rw [this]
      simp [List.getElem_take, List.getElem_drop]

theorem slice_from {w : World} {ao : Option Addr} {cap : Nat} {bs : List Int} (h : Row w 5 .u8 (.slice ao bs.length cap) bs) (p : Nat) (hp : p ≤ bs.length) (xs : List Int) (hxs : bs.drop p = xs) :
    ∃ A c, (∀ W, (Instr.slice 25 (.slice ao bs.length cap) (some (.int .i64 p)) none none).run Tryz.prog W = .ok (.slice A xs.length c) W) ∧ Seg w .u8 A xs := by
  refine ⟨if cap = p then ao else ao.map (·.add (p * 1)), cap - p, fun W => ?_, ?_⟩
  · obtain ⟨i0, hi, hz0, hz1, hz2⟩ := info_parts Tryz.info5
    have he : Tryz.prog.elem 25 = 5 := by kernel_rfl
    rw [run_slice_l W 25 ao bs.length cap (by rw [he]; exact Tryz.underlying25) .i64 p (by omega) (by omega), he]
    simp only [sizeOf, typeInfo]
    simp [hi, hz1, sliced, ← hxs]
  · have := seg_slice h p bs.length hp (Nat.le_refl _) cap rfl
    rw [List.take_of_length_le (by simp), hxs] at this
    exact this

set_option maxRecDepth 100000 in
set_option maxHeartbeats 400000 in
theorem number_any (rb : Nat) (ao : Option Addr) (cap : Nat) (bs : List Int) (p : Nat) (w : World) (h : Rd w rb ao cap bs p) (h8 : In8 bs) (hb : bs.length ≤ 140737488351232) :
    Calls Tryz.prog 49 #[.pointer (some ⟨rb, 0, none⟩)] w fun e w' => e = .returned (.tuple #[.int .u64 (scan (bs.drop p)).1, .int .i64 (scan (bs.drop p)).2.2]) ∧ Rd w' rb ao cap bs (p + (scan (bs.drop p)).2.1) ∧ Touch (fun k => k = rb) w w' := by
  obtain ⟨c0, c1, f0, f1⟩ := cell_two h.cell
  have hp := h.place
  obtain ⟨xs, hxs⟩ : ∃ xs, bs.drop p = xs := ⟨_, rfl⟩
  rw [hxs]
  obtain ⟨A, c, hsl, hseg⟩ := slice_from h.row p hp xs hxs
  have hx8 : In8 xs := fun x hx => h8 x (by rw [← hxs] at hx; exact List.mem_of_mem_drop hx)
  have hxl : xs.length ≤ 140737488351232 := by rw [← hxs]; simp; omega
  have H := hide (fun n => scan_any A xs c (w.drewN n) (hseg.drewN n) hx8 hxl)
  have HQ : Hid (p + (scan xs).2.1 ≤ bs.length) := by
    show _ ≤ _; have := scan_size xs; rw [← hxs] at this ⊢; simp at this; omega
  have hq : (p : Int) + ((scan xs).2.1 : Int) ≤ 140737488351232 := by have := HQ.out; omega
  clear hx8 hxl h8 hxs
  go_enter Tryz.func49, Tryz.ntmps49
  go_wp2
  go_quiet ((go_at_call 59; exact Calls.quiet_of_same (H.out _)))
  go_wp2
  go_ret2
  have e : ((p : Int) + ((scan xs).2.1 : Int)) = ((p + (scan xs).2.1 : Nat) : Int) := by omega
  refine ⟨rfl, ?_, ?_⟩
  · rw [e]; exact Rd.moved (w := w.drewN nq) ⟨h.cell, h.row.stays fun _ _ => rfl, h.place⟩ _ HQ.out
  · exact Touch.setCell (S := fun k => k = rb) (p := ⟨rb, 1, none⟩) ((Touch.refl _ w).drewN nq) (fun _ => rfl) _

theorem scanF_err : ∀ (l : List Int) (i acc : Nat), (scanF i acc l).2.2 ≠ 0 → scanF i acc l = (0, 0, (scanF i acc l).2.2)
  | [], i, acc, _ => rfl
  | c :: r, i, acc, h => by
    rw [scanF] at h ⊢
    split at h
    · rename_i h9
      rw [if_pos h9]
      split at h
      · exact absurd rfl h
      · rename_i h1; rw [if_neg h1]
    · rename_i h9
      rw [if_neg h9]
      split at h
      · rename_i h1; rw [if_pos h1]; exact scanF_err r _ _ h
      · rename_i h1
        rw [if_neg h1]
        split at h
        · rename_i h2; rw [if_pos h2]
        · exact absurd rfl h

theorem scanF_lt : ∀ (l : List Int) (i acc : Nat), i ≤ 9 → acc < 128 ^ i → (∀ c ∈ l, c ≤ 255) → (scanF i acc l).1 < 18446744073709551616
  | [], i, acc, _, _, _ => by simp [scanF]
  | c :: r, i, acc, hi, ha, hc => by
    have hc0 := hc c (by simp)
    rw [scanF]
    split
    · rename_i h9
      subst h9
      split
      · have : (128 : Nat) ^ 9 = 9223372036854775808 := by decide
        rw [this] at ha; simp; omega
      · simp
    · rename_i h9
      split
      · exact scanF_lt r (i + 1) _ (by omega) (by
          have := Nat.mul_le_mul_right (128 ^ i) (show c.toNat - 128 ≤ 127 by omega)
          rw [Nat.pow_succ]; omega) (fun x hx => hc x (by simp [hx]))
      · split
        · simp
        · have hp : (128 : Nat) ^ i ≤ 128 ^ 8 := Nat.pow_le_pow_right (by decide) (by omega)
          have h8 : (128 : Nat) ^ 8 = 72057594037927936 := by decide
          have := Nat.mul_le_mul (show c.toNat ≤ 127 by omega) hp
          rw [h8] at this hp
          simp only
          generalize c.toNat * 128 ^ i = z at this ⊢
          omega

theorem scan_lt {l : List Int} (h : In8 l) : (scan l).1 < 18446744073709551616 := scanF_lt l 0 0 (by omega) (by decide) (fun c hc => (h c hc).2)

theorem In8.drop {bs : List Int} (h : In8 bs) (p : Nat) : In8 (bs.drop p) := fun x hx => h x (List.mem_of_mem_drop hx)

theorem number_eq (rb : Nat) (ao : Option Addr) (cap : Nat) (bs : List Int) (p x n e : Nat) (w : World) (h : Rd w rb ao cap bs p) (h8 : In8 bs) (hb : bs.length ≤ 140737488351232) (hs : scan (bs.drop p) = (x, n, e)) :
    Calls Tryz.prog 49 #[.pointer (some ⟨rb, 0, none⟩)] w fun r w' => r = .returned (.tuple #[.int .u64 x, .int .i64 e]) ∧ Rd w' rb ao cap bs (p + n) ∧ Touch (fun k => k = rb) w w' := by
  have := number_any rb ao cap bs p w h h8 hb
  rw [hs] at this
  exact this

theorem scanF_pos : ∀ (l : List Int) (i acc : Nat), (scanF i acc l).2.2 = 0 → 1 ≤ (scanF i acc l).2.1
  | [], i, acc, h => by simp [scanF] at h
  | c :: r, i, acc, h => by
    rw [scanF] at h ⊢
    split at h
    · rename_i h9
      rw [if_pos h9]
      split at h
      · rename_i h1; rw [if_pos h1]; show 1 ≤ 10; omega
      · cases h
    · rename_i h9
      rw [if_neg h9]
      split at h
      · rename_i h1; rw [if_pos h1]; exact scanF_pos r _ _ h
      · rename_i h1
        rw [if_neg h1]
        split at h
        · cases h
        · rename_i h2; rw [if_neg h2]; simp

theorem scan_pos {l : List Int} {x m : Nat} (h : scan l = (x, m, 0)) : 1 ≤ m := by
  have := scanF_pos l 0 0 (by show (scan l).2.2 = 0; rw [h])
  have e : (scanF 0 0 l).2.1 = m := by show (scan l).2.1 = m; rw [h]
  omega

theorem scan_of_err {l : List Int} {e : Nat} (h : (scan l).2.2 = e) (he : e ≠ 0) : scan l = (0, 0, e) := by
  have := scanF_err l 0 0 (by show (scan l).2.2 ≠ 0; rw [h]; exact he)
  have e2 : (scanF 0 0 l).2.2 = e := h
  rw [e2] at this
  exact this


theorem place_any (rb : Nat) (ao : Option Addr) (cap : Nat) (bs : List Int) (p : Nat) (w : World) (h : Rd w rb ao cap bs p) :
    Calls Tryz.prog 33 #[.pointer (some ⟨rb, 0, none⟩)] w fun e w' => e = .returned (.int .i64 p) ∧ w' = w := by
  obtain ⟨c0, c1, f0, f1⟩ := cell_two h.cell
  go_enter Tryz.func33, Tryz.ntmps33
  go_wp2
  go_ret
  exact ⟨rfl, rfl⟩

end Go.Proofs.YtdcpmpbfnfjncaaGreatDoor
