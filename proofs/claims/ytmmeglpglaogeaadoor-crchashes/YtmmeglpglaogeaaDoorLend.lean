/- The verifier's loans: LendBytes, KeptBytes, and Bytes (are two texts the same). -/
import Derived.Test.YtmmeglpglaogeaaDoorSums
import Derived.Laws.BytesArg
import Derived.Laws.BytesString
namespace Go.Proofs.YtmmeglpglaogeaaDoor
open Go.RowKit Crcx

theorem strOfNums_inj : ∀ {xs ys : List Int}, In8 xs → In8 ys → (strOfNums xs).data.toList = (strOfNums ys).data.toList → xs = ys
  | [], [], _, _, _ => rfl
  | [], y :: ys, _, _, h => by rw [strOfNums_data, strOfNums_data] at h; cases h
  | x :: xs, [], _, _, h => by rw [strOfNums_data, strOfNums_data] at h; cases h
  | x :: xs, y :: ys, hx, hy, h => by
    rw [strOfNums_data, strOfNums_data, List.map_cons, List.map_cons] at h
    injection h with h1 h2
    have a := hx x (by simp)
    have b := hy y (by simp)
    have e : x = y := by
      have := congrArg UInt8.toNat h1
      simp [UInt8.toNat_ofNat'] at this
      omega
    rw [e, strOfNums_inj (xs := xs) (ys := ys) (fun z hz => hx z (by simp [hz])) (fun z hz => hy z (by simp [hz])) h2]

set_option maxRecDepth 100000 in
theorem conv_seg {w : World} {ao : Option Addr} {xs : List Int} (h : Seg w .u8 ao xs) (cap : Nat) : (convert 25 9 (.slice ao xs.length cap)).run Tryd.prog w = .ok (.string (strOfNums xs)) w := by
  cases ao with
  | none =>
    rw [h.none rfl]
    exact run_convert_bytes_nil w _ _ Tryd.underlying25 Tryd.underlying5 _ _ _ Tryd.underlying9
  | some a =>
    by_cases hx : xs = []
    · subst hx
      rw [run_convert_bytes_string w _ _ _ _ _ _ Tryd.underlying25 Tryd.underlying5 Tryd.underlying9]
      exact (run_bytesToString w a 0 cap [] (by rfl))
    · obtain ⟨b, off, e⟩ := h.addr (List.length_pos_iff.2 hx)
      cases e
      exact run_convert_bytes_arg w _ _ Tryd.underlying25 Tryd.underlying5 b off _ cap xs rfl (fun i hi => h.at i hi) _ Tryd.underlying9

theorem Row.mem {w : World} {e : TypeId} {k : IntKind} {ao : Option Addr} {n cap : Nat} {xs : List Int} (h : Row w e k (.slice ao n cap) xs) (hx : xs ≠ []) : ∃ g, ao = some ⟨g, 0, none⟩ := by
  rcases h.form with ⟨_, e⟩ | ⟨g, cap', cur, hv, _⟩
  · exact absurd e hx
  · injection hv with h1 _ _; exact ⟨g, h1⟩

theorem grew_new {B : Nat} {w w' : World} {v : Value} {g n c : Nat} (h : Grew w v w' (.slice (some ⟨g, 0, none⟩) n c)) (hB : B ≤ w.heap.size) (hv : ∀ j, v.ownBlock = some j → B ≤ j) : B ≤ g := by
  rcases h.fresh with e | ⟨j, e, hj⟩
  · exact hv g e.symm
  · simp [Value.ownBlock] at e; omega

theorem Row.empty (w : World) : Row (w.alloc (.cells #[] 5)) 5 .u8 (.slice (some ⟨w.heap.size, 0, none⟩) 0 0) [] :=
  Row.mk (xs := []) (heap_alloc_last w _) (Nat.le_refl _) (by simp) rfl rfl

/-- What is lent: the text, and three marks behind it. -/
structure Lent (w : World) (g c : Nat) (xs : List Int) : Prop where
  row : Row w 5 .u8 (.slice (some ⟨g, 0, none⟩) (xs.length + 3) c) (xs ++ [165, 166, 167])

theorem Lent.touch {S : Nat → Prop} {w w' : World} {g c : Nat} {xs : List Int} (h : Lent w g c xs) (ht : Touch S w w') (hn : ¬ S g) : Lent w' g c xs :=
  ⟨h.row.touch ht (fun k hk => by simp [Value.ownBlock] at hk; subst hk; exact hn)⟩

theorem Seg.prefix {w : World} {k : IntKind} {ao : Option Addr} {xs ys : List Int} (h : Seg w k ao (xs ++ ys)) : Seg w k ao xs := by
  refine ⟨fun e => ?_, fun a ha hne => h.spot a ha (by simp [hne]), fun a ha j hj => ?_⟩
  · have := h.none e; simp at this; exact this.1
  · rw [h.cell a ha j (by simp; omega), List.getElem_append_left hj]

theorem Lent.seg {w : World} {g c : Nat} {xs : List Int} (h : Lent w g c xs) : Seg w .u8 (some ⟨g, 0, none⟩) xs := (Seg.of_row h.row).prefix

theorem Lent.cap {w : World} {g c : Nat} {xs : List Int} (h : Lent w g c xs) : xs.length + 3 ≤ c := by
  rcases h.row.form with ⟨hv, _⟩ | ⟨g', cap', cur, hv, _, hc, _⟩
  · cases hv
  · injection hv with _ _ h3; rw [h3]; simpa using hc

theorem Lent.mark {w : World} {g c : Nat} {xs : List Int} (h : Lent w g c xs) (i : Nat) (hi : i < 3) : w.cell? ⟨g, xs.length + i, none⟩ = some (.int .u8 (165 + (i : Int))) := by
  have := (Seg.of_row h.row).at (xs.length + i) (by simp; omega)
  rw [Nat.zero_add] at this
  rw [this, List.getD_eq_getElem?_getD, List.getElem?_append_right (by omega), Nat.add_sub_cancel_left]
  match i, hi with
  | 0, _ => rfl
  | 1, _ => rfl
  | 2, _ => rfl

/-- The marks, the first n of them. -/
def marks (n : Nat) : List Int := [165, 166, 167].take n

theorem marks_succ (n : Nat) (h : n < 3) : marks n ++ [165 + (n : Int)] = marks (n + 1) := by
  match n, h with
  | 0, _ => rfl
  | 1, _ => rfl
  | 2, _ => rfl

set_option maxRecDepth 100000 in
set_option maxHeartbeats 400000 in
theorem lend_any (ao : Option Addr) (xs : List Int) (cap : Nat) (w : World) (hs : Seg w .u8 ao xs) (hb : xs.length ≤ 140737488351232) :
    Calls Tryd.prog 5 #[.slice ao xs.length cap] w fun e w' => ∃ g c, e = .returned (.slice (some ⟨g, 0, none⟩) xs.length c) ∧ w.heap.size ≤ g ∧ Lent w' g c xs ∧ Touch (fun _ => False) w w' := by
  obtain ⟨i0, hi, hz0, hz1, hz2⟩ := info_parts infoU8
  go_enter Tryd.func5, Tryd.ntmps5
  go_wp2_with (at_builtin; refine wpList_append_row _ rfl (.tmp 5) (.tmp 6) 25 25 rfl 5 i0 (.int .u8 0) .u8 1 Tryd.underlying25 hi hz0 hz1 hz2 rfl _ [] rfl (Row.empty w) _ xs rfl ((hs.alloc _).src Tryd.underlying25 _) ?b1 ?b2 ?nx)
  case b1 => simp only [List.length_nil]; unfold maxLen; omega
  case b2 => simp only [List.length_nil]; omega
  case nx =>
    intro ao1 n1 c1 w1 hr1 hg1
    have hn1 : n1 = xs.length := hr1.len
    subst hn1
    have hr1 : Row w1 5 .u8 (.slice ao1 xs.length c1) xs := hr1
    have T1 : Touch (fun _ => False) w w1 := ((Touch.refl (fun _ => False) w).alloc _).trans hg1.touch (fun k hk h => by simp [Value.ownBlock] at h; omega)
    have fr1 : ∀ j, (Value.slice ao1 xs.length c1).ownBlock = some j → w.heap.size ≤ j := fun j hj => by
      rcases hg1.fresh with e | ⟨g, e, hg⟩
      · rw [hj] at e; simp [Value.ownBlock] at e; omega
      · rw [hj] at e; injection e with e; subst e; simp at hg; omega
    clear hg1 hs
    go_wp2_with fail
    go_loopw [3, 4] (fun s i wr => ∃ n : Nat, i = .int .i64 n ∧ n ≤ 3 ∧ Row wr 5 .u8 s (xs ++ marks n) ∧ (∀ j, s.ownBlock = some j → w.heap.size ≤ j) ∧ Touch (fun _ => False) w wr) (fun _ i _ => 3 - (intOf i).toNat)
    case atStart => exact ⟨0, rfl, Nat.zero_le _, by simpa [marks] using hr1, fr1, T1⟩
    case round =>
      obtain ⟨n, rfl, hn, hr, hfr, ht⟩ := hrel
      obtain ⟨ao2, n2, c2, rfl⟩ := hr.shape
      have hn2 := hr.len
      subst hn2
      have hml : (marks n).length ≤ 3 := by simp [marks]; omega
      clear hr1 fr1 T1
      by_cases hlast : n < 3
      · have hw : ((165 : Int) + (n : Int)) % 256 = 165 + (n : Int) := by omega
        have hw2 : (n : Int) % 256 = (n : Int) := by omega
        go_wp2_with (at_builtin; refine wpList_append_row _ rfl (.tmp 12) (.tmp 16) 25 25 rfl 5 i0 (.int .u8 0) .u8 1 Tryd.underlying25 hi hz0 hz1 hz2 rfl _ (xs ++ marks n) rfl (hr.alloc _) _ [165 + (n : Int)] rfl (src_one Tryd.underlying25 _ _ _ _) ?b3 ?b4 ?nx2)
        case b3 => simp only [List.length_append, List.length_singleton]; unfold maxLen; omega
        case b4 => simp only [List.length_append, List.length_singleton]; omega
        case nx2 =>
          intro ao3 n3 c3 w3 hr3 hg3
          rw [marks_succ n hlast] at hr3
          have T3 : Touch (fun _ => False) w w3 := (ht.alloc _).trans hg3.touch (fun k hk h => by have := hfr k (by rw [List.length_append]; exact h); omega)
          have fr3 : ∀ j, (Value.slice ao3 n3 c3).ownBlock = some j → w.heap.size ≤ j := fun j hj => by
            rcases hg3.fresh with e | ⟨g, e, hg⟩
            · rw [hj] at e; exact hfr j (by rw [List.length_append]; exact e.symm)
            · rw [hj] at e; injection e with e; subst e; have := ht.size; simp at hg; omega
          clear hg3 hr hfr ht
          go_wp2_with fail
          go_roundw
          case rel => exact ⟨n + 1, by go_num, by omega, hr3, fr3, T3⟩
          case measure => simp [intOf]; omega
      · have e : n = 3 := by omega
        subst e
        obtain ⟨g, rfl⟩ := hr.mem (by simp [marks])
        have hg := hfr g rfl
        have hL : Lent wr g c2 xs := ⟨by have := hr; simpa [marks] using this⟩
        have hcap := hL.cap
        have hsl : ∀ W, (Instr.slice 25 (.slice (some ⟨g, 0, none⟩) (xs ++ marks 3).length c2) none (some (.int .i64 xs.length)) none).run Tryd.prog W = .ok (.slice (some ⟨g, 0, none⟩) xs.length c2) W := by
          intro W
          have he : Tryd.prog.elem 25 = 5 := by kernel_rfl
          rw [run_slice_h W 25 (some ⟨g, 0, none⟩) _ c2 (by rw [he]; exact Tryd.underlying25) .i64 xs.length (by omega) (by omega), he]
          simp only [sizeOf, typeInfo]
          simp [hi, hz1, sliced, Addr.add_lit]
        generalize (xs ++ marks 3).length = LL at *
        clear hr hfr hml
        go_wp2_with fail
        go_ret
        exact ⟨g, c2, rfl, hg, hL, ht⟩

set_option maxRecDepth 100000 in
theorem kitBytes_same (ao bo : Option Addr) (xs : List Int) (ca cb : Nat) (w : World) (hx : Seg w .u8 ao xs) (hy : Seg w .u8 bo xs) :
    Calls Tryd.prog 16 #[.slice ao xs.length ca, .slice bo xs.length cb] w fun e w' => e = .returned (.bool true) ∧ w = w' := by
  have c1 := conv_seg hx ca
  have c2 := conv_seg hy cb
  clear hx hy
  go_enter Tryd.func16, Tryd.ntmps16
  go_wp2
  go_ret
  exact ⟨by simp, rfl⟩

set_option maxRecDepth 100000 in
theorem kept_any (g c : Nat) (bo : Option Addr) (xs : List Int) (cb : Nat) (w : World) (hL : Lent w g c xs) (hy : Seg w .u8 bo xs) (hb : xs.length ≤ 140737488351232) :
    Calls Tryd.prog 8 #[.slice (some ⟨g, 0, none⟩) xs.length c, .slice bo xs.length cb] w fun e w' => e = .returned (.bool true) ∧ w = w' := by
  obtain ⟨i0, hi, hz0, hz1, hz2⟩ := info_parts infoU8
  have KB := hide (kitBytes_same (some ⟨g, 0, none⟩) bo xs c cb w hL.seg hy)
  have hcap := hL.cap
  have hsl : ∀ W, (Instr.slice 25 (.slice (some ⟨g, 0, none⟩) xs.length c) none (some (.int .i64 ((xs.length : Int) + 3))) none).run Tryd.prog W = .ok (.slice (some ⟨g, 0, none⟩) (xs.length + 3) c) W := by
    intro W
    have he : Tryd.prog.elem 25 = 5 := by kernel_rfl
    rw [run_slice_h W 25 (some ⟨g, 0, none⟩) _ c (by rw [he]; exact Tryd.underlying25) .i64 ((xs.length : Int) + 3) (by omega) (by omega), he]
    simp only [sizeOf, typeInfo]
    have : ((xs.length : Int) + 3).toNat = xs.length + 3 := by omega
    simp [hi, hz1, sliced, Addr.add_lit, this]
  clear hy
  go_enter Tryd.func8, Tryd.ntmps8
  go_wp2_with fail
  refine KB.out.mono ?_
  rintro e w' ⟨rfl, rfl⟩
  go_wp2_with fail
  go_loopw [6] (fun i wr => ∃ n : Nat, i = .int .i64 n ∧ n ≤ 3 ∧ wr = w) (fun i _ => 3 - (intOf i).toNat)
  case atStart => exact ⟨0, rfl, Nat.zero_le _, rfl⟩
  case round =>
    obtain ⟨n, rfl, hn, rfl⟩ := hrel
    by_cases hlast : n < 3
    · have hm := hL.mark n hlast
      have hw : ((165 : Int) + (n : Int)) % 256 = 165 + (n : Int) := by omega
      have hw2 : (n : Int) % 256 = (n : Int) := by omega
      clear hL KB
      go_wp2_with fail
      go_roundw
      case rel => exact ⟨n + 1, by go_num, by omega, trivial⟩
      case measure => simp [intOf]; omega
    · have e : n = 3 := by omega
      subst e
      clear hL KB
      go_wp2_with fail
      go_ret
      exact ⟨rfl, rfl⟩

end Go.Proofs.YtmmeglpglaogeaaDoor
