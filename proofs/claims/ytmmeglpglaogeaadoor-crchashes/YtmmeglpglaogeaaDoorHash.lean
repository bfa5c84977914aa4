/- The program's hashes: New, Write, Sum, Len; and Bytes and From. -/
import Derived.Test.YtmmeglpglaogeaaDoorCrc2
namespace Go.Proofs.YtmmeglpglaogeaaDoor
open Go.RowKit Crcx

/-- A hash in memory: its sum and how many bytes there were. -/
structure Hs (w : World) (g s n : Nat) : Prop where
  block : w.heap[g]? = some (.cells #[.int .u32 (s : Int), .int .i64 (n : Int)] 38 (0, 0))

theorem Hs.lt {w : World} {g s n : Nat} (h : Hs w g s n) : g < w.heap.size := (Array.getElem?_eq_some_iff.1 h.block).1

theorem Hs.c0 {w : World} {g s n : Nat} (h : Hs w g s n) : w.cell? ⟨g, 0, none⟩ = some (.int .u32 (s : Int)) := by rw [cell_of_row w g 0 _ _ _ h.block]; rfl
theorem Hs.c1 {w : World} {g s n : Nat} (h : Hs w g s n) : w.cell? ⟨g, 1, none⟩ = some (.int .i64 (n : Int)) := by rw [cell_of_row w g 1 _ _ _ h.block]; rfl
theorem Hs.frozen {w : World} {g s n : Nat} (h : Hs w g s n) (i : Nat) : w.frozen? ⟨g, i, none⟩ = false := by simp [World.frozen?, h.block]

theorem Hs.touch {S : Nat → Prop} {w w' : World} {g s n : Nat} (h : Hs w g s n) (ht : Touch S w w') (hn : ¬ S g) : Hs w' g s n :=
  ⟨(ht.block g h.lt hn).trans h.block⟩

theorem Hs.any {w : World} {g s n : Nat} (h : Hs w g s n) (i : Nat) (v : Value) (hv : w.cell? ⟨g, i, none⟩ = some v) : v = .int .u32 (s : Int) ∨ v = .int .i64 (n : Int) := by
  rw [cell_of_row w g i _ _ _ h.block] at hv
  match i, hv with
  | 0, hv => left; simpa using hv.symm
  | 1, hv => right; simpa using hv.symm
  | i + 2, hv => simp at hv

theorem Hs.ne_tab {w : World} {g s n : Nat} (h : Hs w g s n) (ht : Tab w) : g ≠ 0 := by
  intro e; subst e
  have := h.c1
  rw [ht.at_ 1 (by omega)] at this
  simp at this

theorem Hs.keep_seg {w w' : World} {g s n : Nat} (h : Hs w g s n) (ht : Touch (fun k => k = g) w w') {ao : Option Addr} {xs : List Int} (hs : Seg w .u8 ao xs) : Seg w' .u8 ao xs := by
  by_cases hx : xs = []
  · subst hx; exact ⟨fun _ => rfl, fun _ _ h => absurd rfl h, fun _ _ j hj => (nomatch hj)⟩
  · obtain ⟨b, off, rfl⟩ := hs.addr (List.length_pos_iff.2 hx)
    refine hs.touch ht (fun a ha e => ?_)
    injection ha with ha; subst ha
    have hc := hs.at 0 (List.length_pos_iff.2 hx)
    have e' : b = g := e
    subst e'
    rcases h.any _ _ hc with h | h <;> simp at h

theorem Hs.keep_segV {w w' : World} {g s n : Nat} (h : Hs w g s n) (ht : Touch (fun k => k = g) w w') {ao : Option Addr} {ts : List Txt} (hs : SegV w ao (ts.map Txt.val)) : SegV w' ao (ts.map Txt.val) := by
  refine ⟨hs.none, hs.spot, fun a ha j hj => ?_⟩
  have hc := hs.cell a ha j hj
  obtain ⟨b, off, e⟩ := hs.addr (Nat.lt_of_le_of_lt (Nat.zero_le _) hj)
  rw [ha] at e; injection e with e; subst e
  rw [Addr.add_lit] at hc ⊢
  rw [ht.cell (p := ⟨b, off + j, none⟩) (lt_of_cell hc) (fun e => ?_)]
  · exact hc
  · have e' : b = g := e
    subst e'
    rcases h.any _ _ hc with h | h <;> (rw [List.getElem_map] at h; cases h)

theorem Hs.keep_ok {w w' : World} {g s n : Nat} (h : Hs w g s n) (ht : Touch (fun k => k = g) w w') {t : Txt} (hs : t.Ok w) : t.Ok w' := ⟨h.keep_seg ht hs.seg, hs.in8, hs.len⟩

theorem Hs.put {w : World} {g s n : Nat} (h : Hs w g s n) (s' n' : Nat) : Hs ((w.setCell ⟨g, 0, none⟩ (.int .u32 (s' : Int))).setCell ⟨g, 1, none⟩ (.int .i64 (n' : Int))) g s' n' := by
  have h1 := heap_setCell_row (i := 0) h.block (.int .u32 (s' : Int))
  have h2 := heap_setCell_row (i := 1) h1 (.int .i64 (n' : Int))
  exact ⟨h2⟩

set_option maxRecDepth 100000 in
theorem new_any (w : World) : Calls Tryd.prog 4 #[] w fun e w' => e = .returned (.pointer (some ⟨w.heap.size, 0, none⟩)) ∧ Hs w' w.heap.size 0 0 ∧ Touch (fun _ => False) w w' := by
  go_enter Tryd.func4, Tryd.ntmps4
  go_wp2_with fail
  go_ret
  exact ⟨rfl, ⟨heap_alloc_last w _⟩, (Touch.refl _ _).alloc _⟩

set_option maxRecDepth 100000 in
theorem hsum_any (g s n : Nat) (w : World) (h : Hs w g s n) : Calls Tryd.prog 11 #[.pointer (some ⟨g, 0, none⟩)] w fun e w' => e = .returned (.int .u32 (s : Int)) ∧ w = w' := by
  have c0 := h.c0
  go_enter Tryd.func11, Tryd.ntmps11
  go_wp2_with fail
  go_ret
  exact ⟨rfl, rfl⟩

set_option maxRecDepth 100000 in
theorem hlen_any (g s n : Nat) (w : World) (h : Hs w g s n) : Calls Tryd.prog 13 #[.pointer (some ⟨g, 0, none⟩)] w fun e w' => e = .returned (.int .i64 (n : Int)) ∧ w = w' := by
  have c1 := h.c1
  go_enter Tryd.func13, Tryd.ntmps13
  go_wp2_with fail
  go_ret
  exact ⟨rfl, rfl⟩

theorem num_any (x : Int) (w : World) : Calls Tryd.prog 6 #[.int .i64 x] w fun e w' => e = .returned (.int .i64 x) ∧ w = w' := by
  go_enter Tryd.func6, Tryd.ntmps6
  go_wp2_with fail
  go_ret
  exact ⟨rfl, rfl⟩

theorem alls_len (ts : List Txt) (i : Nat) (hi : i < ts.length) : (alls (ts.take (i + 1))).length = (alls (ts.take i)).length + ts[i].xs.length := by
  have := congrArg List.length (alls_take ts i hi)
  simpa [nats] using this

theorem alls_le (ts : List Txt) (i : Nat) : (alls (ts.take i)).length ≤ (alls ts).length := by
  have h : alls ts = alls (ts.take i) ++ alls (ts.drop i) := by
    unfold alls; rw [← List.flatMap_append, List.take_append_drop]
  rw [h, List.length_append]; omega

set_option maxRecDepth 100000 in
theorem write_any (g s n : Nat) (ao : Option Addr) (ts : List Txt) (cap : Nat) (w : World) (hs0 : s < 4294967296) (h : Hs w g s n) (ht : Tab w) (hs : SegV w ao (ts.map Txt.val)) (hts : ∀ t ∈ ts, t.Ok w) (hb : ts.length ≤ 281474976710656) (hn : I63 ((n + (alls ts).length : Nat) : Int)) :
    Calls Tryd.prog 7 #[.pointer (some ⟨g, 0, none⟩), .slice ao ts.length cap] w fun e w' => e = .returned (.int .i64 0) ∧ Hs w' g (more s (nats (alls ts))) (n + (alls ts).length) ∧ Touch (fun k => k = g) w w' := by
  have hlt : ∀ i, more s (nats (alls (ts.take i))) < 4294967296 := fun i => more_lt hs0 (nats_lt (alls_in8 (w := w) fun t h => hts t (List.mem_of_mem_take h)))
  go_enter Tryd.func7, Tryd.ntmps7
  go_wp2_with fail
  go_loopw [11] (fun i wr => ∃ k : Nat, i = .int .i64 k ∧ k ≤ ts.length ∧ Hs wr g (more s (nats (alls (ts.take k)))) (n + (alls (ts.take k)).length) ∧ Touch (fun j => j = g) w wr) (fun i _ => ts.length - (intOf i).toNat)
  case atStart => exact ⟨0, rfl, Nat.zero_le _, by rw [show ts.take 0 = [] from rfl, show nats (alls []) = [] from rfl, more_nil]; exact h, Touch.refl _ _⟩
  case round =>
    obtain ⟨k, rfl, hk, hw, htw⟩ := hrel
    by_cases hlast : k < ts.length
    · have hTab := ht.touch htw (fun e => h.ne_tab ht e.symm)
      have hsr := h.keep_segV htw hs
      obtain ⟨b, off, rfl⟩ := hs.addr (by simpa using (by omega : 0 < ts.length))
      have hc := hsr.at k (by simpa using hlast)
      have hc1 : wr.cell? ⟨b, off + k, .none⟩ = some (.slice ts[k].ao ts[k].xs.length ts[k].cap) := by
        rw [hc, List.getElem_map]; rfl
      have ho := h.keep_ok htw (hts ts[k] (List.getElem_mem hlast))
      have MO := hide (more_any _ (hlt k) ts[k].ao ts[k].xs ts[k].cap wr hTab ho.seg ho.in8 ho.len)
      rw [← more_append, ← alls_take ts k hlast] at MO
      have hlen := alls_len ts k hlast
      have hle := alls_le ts (k + 1)
      obtain ⟨y', hy'⟩ : ∃ y', more s (nats (alls (ts.take (k + 1)))) = y' := ⟨_, rfl⟩
      obtain ⟨m', hm'⟩ : ∃ m', n + (alls (ts.take (k + 1))).length = m' := ⟨_, rfl⟩
      rw [hy'] at MO
      have hput := hide (hw.put y' m')
      have htw1 := hide (fun (u v : Value) => (htw.setCell (p := ⟨g, 0, none⟩) (fun _ => rfl) u).setCell (p := ⟨g, 1, none⟩) (fun _ => rfl) v)
      have c0 := hw.c0
      have c1 := hw.c1
      have f0 := hw.frozen 0
      have f1 := hw.frozen 1
      have hgl := hw.lt
      have hwrap : wrap64 (((n + (alls (ts.take k)).length : Nat) : Int) + (ts[k].xs.length : Int)) = ((n + (alls (ts.take (k + 1))).length : Nat) : Int) := by
        rw [wrap_small (by omega) ⟨by have := hn.le; omega⟩]; omega
      generalize more s (nats (alls (ts.take k))) = y at *
      rw [hm'] at hwrap
      have HY := hide hy'
      have HM := hide hm'
      clear hy' hm'
      generalize n + (alls (ts.take k)).length = m at *
      generalize ts[k].ao = ta at *
      generalize ts[k].xs.length = tl at *
      generalize ts[k].cap = tc at *
      clear hc ho hs hts hlt hsr hlen hle hn hw htw
      go_wp2_with fail
      refine MO.out.mono ?_
      rintro e w' ⟨rfl, rfl⟩
      go_wp2_with fail
      go_roundw
      case rel => exact ⟨k + 1, by go_num, by omega, by rw [HY.out, HM.out]; exact hput.out, htw1.out _ _⟩
      case measure => simp [intOf]; omega
    · have e : k = ts.length := by omega
      subst e
      rw [List.take_length] at hw
      clear hlt hts hs
      go_wp2_with fail
      go_ret
      exact ⟨rfl, hw, htw⟩

end Go.Proofs.YtmmeglpglaogeaaDoor
