/- Walks: wire's putRising. -/
import Derived.Test.YthhajlbnnffgnaaRis
namespace Go.Proofs.Ythhajlbnnffgnaa
open Go.RowKit

/-- Each is an int64. -/
def In64 (xs : List Int) : Prop := ∀ i, i < xs.length → -9223372036854775808 ≤ xs.getD i 0 ∧ xs.getD i 0 ≤ 9223372036854775807

theorem risItem_len (xs : List Int) (h64 : In64 xs) (i : Nat) (hi : i < xs.length) : (risItem xs i).length ≤ 10 := by
  unfold risItem
  split
  · have := h64 0 (by omega); exact numb_len10 (Lib.zigzag_lt this.1 this.2)
  · have a := h64 i hi
    have b := h64 (i - 1) (by omega)
    exact numb_len10 (by omega)

theorem risTo_len (xs : List Int) (h64 : In64 xs) : ∀ k, k ≤ xs.length → (risTo xs k).length ≤ 10 * k
  | 0, _ => by simp [risTo]
  | k + 1, h => by
    have a := risTo_len xs h64 k (by omega)
    have b := risItem_len xs h64 k (by omega)
    rw [risTo_succ, List.length_append]; omega

set_option maxRecDepth 100000 in
set_option maxHeartbeats 400000 in
theorem putRising_any (v : Value) (bs : List Int) (ao : Option Addr) (xs : List Int) (cap : Nat) (w : World) (hs : Seg w .i64 ao xs) (hb : bs.length + 10 * xs.length ≤ 140737487000000) (h64 : In64 xs) (hup : Up xs) (hown : Row w 5 .u8 v bs)
    (hap : ∀ a, ao = some a → v.ownBlock ≠ some a.block) :
    Calls Try.prog 67 #[v, .slice ao xs.length cap] w (RetRow 5 .u8 w v (bs ++ risb xs)) := by
  have H64 := hide h64
  have HUP := hide hup
  have HL := hide (risTo_len xs h64)
  clear h64 hup
  have B0 : Hid (xs.length < 18446744073709551616) := by show _ < _; omega
  have B1 : Hid (bs.length ≤ 140737488351232) := by show _ ≤ _; omega
  have hn := numb_len10 B0.out
  have hwr : IntKind.u64.wrap (xs.length : Int) = xs.length := by rw [IntKind.wrap_u64]; omega
  go_enter Try.func67, Try.ntmps67
  go_wp2_with (go_at_call 60; refine (putNumber_any v bs xs.length _ B0.out hown B1.out).mono ?_; rintro e w1 ⟨ao1, n1, cap1, rfl, hr, hg⟩)
  go_loopw [0, 14, 5, 6] (fun b i _ _ wr => ∃ k : Nat, k ≤ xs.length ∧ i = .int .i64 k ∧ RowG 5 .u8 w v (bs ++ (numb xs.length ++ risTo xs k)) b wr) (fun _ i _ _ _ => xs.length - (intOf i).toNat)
  case atStart => exact ⟨0, Nat.zero_le _, rfl, _, _, _, rfl, by simpa [risTo] using hr, hg⟩
  case round =>
    obtain ⟨k, hk, rfl, ao2, n2, cap2, rfl, hr2, hg2⟩ := hrel
    by_cases hlt : k < xs.length
    · obtain ⟨b, off, rfl⟩ : ∃ b off, ao = some ⟨b, off, none⟩ := hs.addr (by omega)
      have ca : ∀ j, j < xs.length → wr.cell? ⟨b, off + j, none⟩ = some (.int .i64 (xs.getD j 0)) := fun j hj => by
        have hc := hs.at j hj
        exact (hg2.touch.cell (p := ⟨b, off + j, none⟩) (lt_of_cell hc) (hap ⟨b, off, none⟩ rfl)).trans hc
      have c1 := ca k hlt
      have CA := hide ca
      clear ca hap
      have hx64 := H64.out k hlt
      have hit := risTo_succ xs k
      have hlen := HL.out k hk
      have hlb : (bs ++ (numb xs.length ++ risTo xs k)).length ≤ 140737488351232 := by simp only [List.length_append]; omega
      have HLB := hide hlb
      obtain ⟨x, hx⟩ : ∃ x, xs.getD k 0 = x := ⟨_, rfl⟩
      rw [hx] at c1 hx64
      by_cases hk0 : k = 0
      · subst hk0
        have HI : Hid (risTo xs (0 + 1) = risTo xs 0 ++ numb (Lib.zigzag x)) := by
          show _ = _; rw [hit]; unfold risItem; rw [if_pos rfl, hx]
        have F := hide (fun W => fold_any x W hx64.1 hx64.2)
        have Z := hide (Lib.zigzag_lt hx64.1 hx64.2)
        clear hit hlb hx64 hx
        rw [Nat.add_zero] at c1
        go_wp2_with (first | (go_at_call 71; refine (F.out _).mono ?_; rintro e w2 ⟨rfl, rfl⟩) | (go_at_call 60; refine (putNumber_any _ _ (Lib.zigzag x) _ Z.out hr2 HLB.out).mono ?_; rintro e w3 ⟨ao3, n3, cap3, rfl, hr3, hg3⟩))
        go_roundw
        case rel => exact ⟨0 + 1, by omega, by go_num, ao3, n3, cap3, rfl, by rw [HI.out, ← List.append_assoc, ← List.append_assoc]; rw [← List.append_assoc] at hr3; exact hr3, hg2.trans hg3⟩
        case measure => simp [intOf]; omega
      · obtain ⟨p, hp⟩ : ∃ p, xs.getD (k - 1) 0 = p := ⟨_, rfl⟩
        have c0 := CA.out (k - 1) (by omega)
        have hp64 := H64.out (k - 1) (by omega)
        have hpx := HUP.out (k - 1) (by omega)
        rw [show k - 1 + 1 = k by omega, hx] at hpx
        rw [hp] at c0 hp64 hpx
        have HI : Hid (risTo xs (k + 1) = risTo xs k ++ numb (x - p - 1).toNat) := by
          show _ = _; rw [hit]; unfold risItem; rw [if_neg hk0, hx, hp]
        have hge := gap_eq x p hp64.1 hpx hx64.2
        have Z : Hid ((x - p - 1).toNat < 18446744073709551616) := by show _ < _; omega
        obtain ⟨d, hd⟩ : ∃ d, (x - p - 1).toNat = d := ⟨_, rfl⟩
        rw [hd] at HI hge Z
        clear hd
        have e1 : ((k : Int) - 1).toNat = k - 1 := by omega
        have t0 : ((k : Int) == 0) = false := by simpa using hk0
        clear hit hlb hx64 hp64 hpx hx hp
        go_wp2_with (first | (go_at_call 60; refine (putNumber_any _ _ d _ Z.out hr2 HLB.out).mono ?_; rintro e w3 ⟨ao3, n3, cap3, rfl, hr3, hg3⟩))
        go_roundw
        case rel => exact ⟨k + 1, by omega, by go_num, ao3, n3, cap3, rfl, by rw [HI.out, ← List.append_assoc, ← List.append_assoc]; rw [← List.append_assoc] at hr3; exact hr3, hg2.trans hg3⟩
        case measure => simp [intOf]; omega
    · go_wp2
      go_ret
      have e : k = xs.length := by omega
      subst e
      exact RetRow.mk hr2 hg2

theorem rising1_any (v : Value) (bs : List Int) (ao : Option Addr) (xs : List Int) (cap xb : Nat) (w : World) (hx : w.cell? ⟨xb, 0, none⟩ = some (.slice ao xs.length cap)) (hs : Seg w .i64 ao xs) (hb : bs.length + 10 * xs.length ≤ 140737487000000) (h64 : In64 xs) (hup : Up xs) (hown : Row w 5 .u8 v bs)
    (hap : ∀ a, ao = some a → v.ownBlock ≠ some a.block) :
    Calls Try.prog 66 #[v, .pointer (some ⟨xb, 0, none⟩)] w (RetRow 5 .u8 w v (bs ++ risb xs)) := by
  have H := hide (putRising_any v bs ao xs cap w hs hb h64 hup hown hap)
  clear hs hb h64 hup hown hap
  go_enter Try.func66, Try.ntmps66
  go_wp2_with (go_at_call 67; refine H.out.mono ?_; rintro e w1 ⟨ao1, n1, cap1, rfl, hr, hg⟩)
  go_ret
  exact RetRow.mk hr hg

theorem Wr.drewN {w : World} {pb : Nat} {v : Value} {bs : List Int} (h : Wr w pb v bs) (n : Nat) : Wr (w.drewN n) pb v bs := ⟨h.cell, h.row.stays fun _ _ => rfl⟩
theorem Touch.drewN {S : Nat → Prop} {a w : World} (h : Touch S a w) (n : Nat) : Touch S a (w.drewN n) := ⟨h.os, h.tape, h.output, h.size, h.block⟩
theorem Wrote.of_drewN {w w' : World} {pb n : Nat} {v v' : Value} (h : Wrote (w.drewN n) pb v w' v') : Wrote w pb v w' v' :=
  ⟨((Touch.refl _ w).drewN n).trans h.touch fun _ _ hk => hk, h.fresh⟩
theorem Seg.drewN {w : World} {k : IntKind} {ao : Option Addr} {xs : List Int} (h : Seg w k ao xs) (n : Nat) : Seg (w.drewN n) k ao xs := ⟨h.none, h.spot, h.cell⟩

theorem cell_newN (w : World) (u : Value) (t : TypeId) (n : Nat) : ((w.alloc (.cells #[u] t)).drewN n).cell? ⟨w.heap.size, 0, none⟩ = some u := cell_new w u t

set_option maxRecDepth 100000 in
set_option maxHeartbeats 400000 in
theorem wRising_no (pb : Nat) (v : Value) (bs : List Int) (ao : Option Addr) (xs : List Int) (cap : Nat) (w : World) (hs : Seg w .i64 ao xs) (hb : xs.length ≤ 140737488351232) (hup : ¬ Up xs) (h : Wr w pb v bs) :
    Calls Try.prog 29 #[.pointer (some ⟨pb, 0, none⟩), .slice ao xs.length cap] w fun e w' => e = .returned (.int .i64 112) ∧ Wr w' pb v bs ∧ Touch (fun _ => False) w w' := by
  have H := hide (fun W (g : Seg W .i64 ao xs) => rises_any ao xs cap W g hb)
  have HU := hide hup
  clear hb hup
  go_enter Try.func29, Try.ntmps29
  go_wp2_with (go_at_call 65; refine (H.out _ (hs.alloc _)).mono ?_; rintro e w1 ⟨b, rfl, hbu, n, rfl⟩; obtain rfl : b = false := by cases b with | false => rfl | true => exact absurd (hbu.1 rfl) HU.out)
  go_ret
  exact ⟨rfl, (h.alloc _).drewN n, ((Touch.refl _ _).alloc _).drewN n⟩

set_option maxRecDepth 100000 in
set_option maxHeartbeats 400000 in
theorem wRising_yes (pb : Nat) (v : Value) (bs : List Int) (ao : Option Addr) (xs : List Int) (cap : Nat) (w : World) (hs : Seg w .i64 ao xs) (hb : bs.length + 10 * xs.length ≤ 140737487000000) (h64 : In64 xs) (hup : Up xs) (hap : ∀ a, ao = some a → v.ownBlock ≠ some a.block) (h : Wr w pb v bs) :
    Calls Try.prog 29 #[.pointer (some ⟨pb, 0, none⟩), .slice ao xs.length cap] w fun e w' => e = .returned (.int .i64 0) ∧ ∃ v', Wr w' pb v' (bs ++ risb xs) ∧ Wrote w pb v w' v' := by
  have H := hide (fun W (g : Seg W .i64 ao xs) => rises_any ao xs cap W g (by omega))
  have HU := hide hup
  have H1 := hide (fun W xb (hx : W.cell? ⟨xb, 0, none⟩ = some (.slice ao xs.length cap)) (g : Seg W .i64 ao xs) (r : Row W 5 .u8 v bs) => rising1_any v bs ao xs cap xb W hx g hb h64 hup r hap)
  have hc := cell_of_one h.cell
  have hlt := h.lt
  clear hb h64 hup hap
  go_enter Try.func29, Try.ntmps29
  go_wp2_with (first | (go_at_call 65; refine (H.out _ (hs.alloc _)).mono ?_; rintro e w1 ⟨b, rfl, hbu, n, rfl⟩; obtain rfl : b = true := hbu.2 HU.out; clear hbu) | (go_at_call 58; go_in) | (go_at_call 66; refine (H1.out _ w.heap.size (cell_newN _ _ _ _) ((hs.alloc _).drewN n) ((h.alloc _).drewN n).row).mono ?_; rintro e w1 ⟨ao1, n1, cap1, rfl, hr, hg⟩; obtain ⟨hc1, hf1⟩ := wr_there ((h.alloc _).drewN n) hg))
  go_ret
  obtain ⟨a, b⟩ := wr_stored ((h.alloc _).drewN n) hr hg
  exact ⟨rfl, _, a, (b.of_drewN).of_alloc _⟩

end Go.Proofs.Ythhajlbnnffgnaa
