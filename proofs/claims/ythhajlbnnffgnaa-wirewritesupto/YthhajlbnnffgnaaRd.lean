/- Walks: wire's Reader. -/
import Derived.Test.YthhajlbnnffgnaaScan
namespace Go.Proofs.Ythhajlbnnffgnaa
open Go.RowKit

theorem scanF_size : ∀ (l : List Int) (i acc : Nat), i ≤ 9 → (scanF i acc l).2.1 ≤ i + l.length
  | [], i, acc, _ => by simp [scanF]
  | c :: r, i, acc, hi => by
    rw [scanF]
    split
    · split <;> simp; omega
    · split
      · have := scanF_size r (i + 1) (acc + (c.toNat - 128) * 128 ^ i) (by omega)
        simp; omega
      · split <;> simp

theorem scan_size (l : List Int) : (scan l).2.1 ≤ l.length := by have := scanF_size l 0 0 (by omega); rw [Nat.zero_add] at this; exact this

theorem seg_slice {w : World} {e : TypeId} {ao : Option Addr} {cap : Nat} {bs : List Int} (h : Row w e .u8 (.slice ao bs.length cap) bs) (p q : Nat) (hp : p ≤ q) (hq : q ≤ bs.length) (c : Nat) (hc : c = cap) :
    Seg w .u8 (if c = p then ao else ao.map (·.add (p * 1))) ((bs.drop p).take (q - p)) := by
  subst hc
  have hs := Seg.of_row h
  rcases h.form with ⟨hv, hx⟩ | ⟨g, cap', cur, hv, _, hle, _⟩
  · injection hv with h1 h2 h3
    subst h1
    subst hx
    refine ⟨fun _ => by simp, ?_, ?_⟩
    · intro a ha; split at ha <;> cases ha
    · intro a ha; split at ha <;> cases ha
  · injection hv with h1 h2 h3
    subst h1 h3
    by_cases e : c = p
    · rw [if_pos e]
      have : (bs.drop p).take (q - p) = [] := by rw [List.drop_eq_nil_of_le (by omega)]; simp
      rw [this]
      exact ⟨fun h => (nomatch h), fun _ _ h => absurd rfl h, fun _ _ j hj => absurd hj (by simp)⟩
    · rw [if_neg e, Nat.mul_one]
      simp only [Option.map_some, Addr.add_lit, Nat.zero_add]
      refine ⟨fun h => (nomatch h), fun a ha _ => (by injection ha with ha; subst ha; rfl), fun a ha j hj => ?_⟩
      injection ha with ha; subst ha
      rw [Addr.add_lit]
      have hj' : j < q - p ∧ j < bs.length - p := by simpa [List.length_take, List.length_drop, Nat.lt_min] using hj
      have := h.cell (p + j) (by omega)
      rw [this]
      simp [List.getElem_take, List.getElem_drop]

theorem slice_from {w : World} {ao : Option Addr} {cap : Nat} {bs : List Int} (h : Row w 5 .u8 (.slice ao bs.length cap) bs) (p : Nat) (hp : p ≤ bs.length) (xs : List Int) (hxs : bs.drop p = xs) :
    ∃ A c, (∀ W, (Instr.slice 25 (.slice ao bs.length cap) (some (.int .i64 p)) none none).run Try.prog W = .ok (.slice A xs.length c) W) ∧ Seg w .u8 A xs := by
  refine ⟨if cap = p then ao else ao.map (·.add (p * 1)), cap - p, fun W => ?_, ?_⟩
  · obtain ⟨i0, hi, hz0, hz1, hz2⟩ := info_parts Try.info5
    have he : Try.prog.elem 25 = 5 := by kernel_rfl
    rw [run_slice_l W 25 ao bs.length cap (by rw [he]; exact Try.underlying25) .i64 p (by omega) (by omega), he]
    simp only [sizeOf, typeInfo]
    simp [hi, hz1, sliced, ← hxs]
  · have := seg_slice h p bs.length hp (Nat.le_refl _) cap rfl
    rw [List.take_of_length_le (by simp), hxs] at this
    exact this

set_option maxRecDepth 100000 in
set_option maxHeartbeats 400000 in
theorem left_any (rb : Nat) (ao : Option Addr) (cap : Nat) (bs : List Int) (p : Nat) (w : World) (h : Rd w rb ao cap bs p) (hb : bs.length ≤ 140737488351232) :
    Calls Try.prog 20 #[.pointer (some ⟨rb, 0, none⟩)] w fun e w' => e = .returned (.int .i64 ((bs.length - p : Nat) : Int)) ∧ ∃ n, w' = w.drewN n := by
  obtain ⟨c0, c1, f0, f1⟩ := cell_two h.cell
  have hp := h.place
  go_enter Try.func20, Try.ntmps20
  go_wp2
  go_quiet (fail)
  go_wp2
  go_ret
  exact ⟨ret_int (by omega), _, rfl⟩

set_option maxRecDepth 100000 in
set_option maxHeartbeats 400000 in
theorem number_any (rb : Nat) (ao : Option Addr) (cap : Nat) (bs : List Int) (p : Nat) (w : World) (h : Rd w rb ao cap bs p) (h8 : In8 bs) (hb : bs.length ≤ 140737488351232) :
    Calls Try.prog 23 #[.pointer (some ⟨rb, 0, none⟩)] w fun e w' => e = .returned (.tuple #[.int .u64 (scan (bs.drop p)).1, .int .i64 (scan (bs.drop p)).2.2]) ∧ Rd w' rb ao cap bs (p + (scan (bs.drop p)).2.1) ∧ Touch (fun k => k = rb) w w' := by
  obtain ⟨c0, c1, f0, f1⟩ := cell_two h.cell
  have hp := h.place
  obtain ⟨xs, hxs⟩ : ∃ xs, bs.drop p = xs := ⟨_, rfl⟩
  rw [hxs]
  obtain ⟨A, c, hsl, hseg⟩ := slice_from h.row p hp xs hxs
  have hx8 : In8 xs := fun x hx => h8 x (by rw [← hxs] at hx; exact List.mem_of_mem_drop hx)
  have hxl : xs.length ≤ 140737488351232 := by rw [← hxs]; simp; omega
  have H := hide (fun n => scan_any A xs c (w.drewN n) (hseg.drewN n) hx8 hxl)
  have HQ : Hid (p + (scan xs).2.1 ≤ bs.length) := by
    show _ ≤ _; have := scan_size xs; rw [← hxs] at this ⊢; simp at this; omega
  have hq : (p : Int) + ((scan xs).2.1 : Int) ≤ 140737488351232 := by have := HQ.out; omega
  clear hx8 hxl h8 hxs
  go_enter Try.func23, Try.ntmps23
  go_wp2
  go_quiet ((go_at_call 57; exact Calls.quiet_of_same (H.out _)))
  go_wp2
  go_ret2
  have e : ((p : Int) + ((scan xs).2.1 : Int)) = ((p + (scan xs).2.1 : Nat) : Int) := by omega
  refine ⟨rfl, ?_, ?_⟩
  · rw [e]; exact Rd.moved (w := w.drewN nq) ⟨h.cell, h.row.stays fun _ _ => rfl, h.place⟩ _ HQ.out
  · exact Touch.setCell (S := fun k => k = rb) (p := ⟨rb, 1, none⟩) ((Touch.refl _ w).drewN nq) (fun _ => rfl) _

end Go.Proofs.Ythhajlbnnffgnaa
