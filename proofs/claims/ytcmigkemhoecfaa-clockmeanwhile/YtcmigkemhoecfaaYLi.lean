/- The kit's loans of whole numbers: LendInts, KeptInts, and Ints (cut out of YLe), and what they say of rows of numbers (encJ). -/
import Derived.Test.YtcmigkemhoecfaaJI
import Derived.Test.YtcmigkemhoecfaaYS
namespace Go.Proofs.Ytcmigkemhoecfaa
open Go.RowKit

theorem info_parts {P : Program} {e : TypeId} {z : Value} {s b : Nat} (h : (P.info? e).map (fun i => (i.zero, i.size, i.bytes)) = some (some z, s, b)) : ∃ i, P.info? e = some i ∧ i.zero = some z ∧ i.size = s ∧ i.bytes = b ∧ z.cells.size = z.cells.size := by
  cases hi : P.info? e with
  | none => rw [hi] at h; cases h
  | some i => rw [hi] at h; simp at h; exact ⟨i, rfl, h.1, h.2.1, h.2.2, rfl⟩

theorem infoI64 : (Try.prog.info? 2).map (fun i => (i.zero, i.size, i.bytes)) = some (some (.int .i64 0), 1, 8) := by kernel_rfl

theorem Row.mem {w : World} {e : TypeId} {k : IntKind} {ao : Option Addr} {n cap : Nat} {xs : List Int} (h : Row w e k (.slice ao n cap) xs) (hx : xs ≠ []) : ∃ g, ao = some ⟨g, 0, none⟩ := by
  rcases h.form with ⟨_, e⟩ | ⟨g, cap', cur, hv, _⟩
  · exact absurd e hx
  · injection hv with h1 _ _; exact ⟨g, h1⟩

theorem grew_new {B : Nat} {w w' : World} {v : Value} {g n c : Nat} (h : Grew w v w' (.slice (some ⟨g, 0, none⟩) n c)) (hB : B ≤ w.heap.size) (hv : ∀ j, v.ownBlock = some j → B ≤ j) : B ≤ g := by
  rcases h.fresh with e | ⟨j, e, hj⟩
  · exact hv g e.symm
  · simp [Value.ownBlock] at e; omega

theorem Row.empty (w : World) : Row (w.alloc (.cells #[] 2)) 2 .i64 (.slice (some ⟨w.heap.size, 0, none⟩) 0 0) [] :=
  Row.mk (xs := []) (heap_alloc_last w _) (Nat.le_refl _) (by simp) rfl rfl

/-- What is lent: the text, and three marks behind it. -/
structure Lent (w : World) (g c : Nat) (xs : List Int) : Prop where
  row : Row w 2 .i64 (.slice (some ⟨g, 0, none⟩) (xs.length + 3) c) (xs ++ [-7000, -7001, -7002])

theorem Lent.touch {S : Nat → Prop} {w w' : World} {g c : Nat} {xs : List Int} (h : Lent w g c xs) (ht : Touch S w w') (hn : ¬ S g) : Lent w' g c xs :=
  ⟨h.row.touch ht (fun k hk => by simp [Value.ownBlock] at hk; subst hk; exact hn)⟩

theorem Seg.prefix {w : World} {k : IntKind} {ao : Option Addr} {xs ys : List Int} (h : Seg w k ao (xs ++ ys)) : Seg w k ao xs := by
  refine ⟨fun e => ?_, fun a ha hne => h.spot a ha (by simp [hne]), fun a ha j hj => ?_⟩
  · have := h.none e; simp at this; exact this.1
  · rw [h.cell a ha j (by simp; omega), List.getElem_append_left hj]

theorem Lent.seg {w : World} {g c : Nat} {xs : List Int} (h : Lent w g c xs) : Seg w .i64 (some ⟨g, 0, none⟩) xs := (Seg.of_row h.row).prefix

theorem Lent.cap {w : World} {g c : Nat} {xs : List Int} (h : Lent w g c xs) : xs.length + 3 ≤ c := by
  rcases h.row.form with ⟨hv, _⟩ | ⟨g', cap', cur, hv, _, hc, _⟩
  · cases hv
  · injection hv with _ _ h3; rw [h3]; simpa using hc

theorem Lent.mark {w : World} {g c : Nat} {xs : List Int} (h : Lent w g c xs) (i : Nat) (hi : i < 3) : w.cell? ⟨g, xs.length + i, none⟩ = some (.int .i64 (-7000 - (i : Int))) := by
  have := (Seg.of_row h.row).at (xs.length + i) (by simp; omega)
  rw [Nat.zero_add] at this
  rw [this, List.getD_eq_getElem?_getD, List.getElem?_append_right (by omega), Nat.add_sub_cancel_left]
  match i, hi with
  | 0, _ => rfl
  | 1, _ => rfl
  | 2, _ => rfl

/-- The marks, the first n of them. -/
def marks (n : Nat) : List Int := [-7000, -7001, -7002].take n

theorem marks_succ (n : Nat) (h : n < 3) : marks n ++ [-7000 - (n : Int)] = marks (n + 1) := by
  match n, h with
  | 0, _ => rfl
  | 1, _ => rfl
  | 2, _ => rfl

set_option maxRecDepth 100000 in
set_option maxHeartbeats 400000 in
theorem lend_any (ao : Option Addr) (xs : List Int) (cap : Nat) (w : World) (hs : Seg w .i64 ao xs) (hb : xs.length ≤ 17592186043904) :
    Calls Try.prog 7 #[.slice ao xs.length cap] w fun e w' => ∃ g c, e = .returned (.slice (some ⟨g, 0, none⟩) xs.length c) ∧ w.heap.size ≤ g ∧ Lent w' g c xs ∧ Touch (fun _ => False) w w' := by
  obtain ⟨i0, hi, hz0, hz1, hz2, -⟩ := info_parts infoI64
  go_enter Try.func7, Try.ntmps7
  go_wp2_with (at_builtin; refine wpList_append_row _ rfl (.tmp 5) (.tmp 6) 22 22 rfl 2 i0 (.int .i64 0) .i64 8 Try.underlying22 hi hz0 hz1 hz2 rfl _ [] rfl (Row.empty w) _ xs rfl ((hs.alloc _).src Try.underlying22 _) ?b1 ?b2 ?nx)
  case b1 => simp only [List.length_nil]; unfold maxLen; omega
  case b2 => simp only [List.length_nil]; omega
  case nx =>
    intro ao1 n1 c1 w1 hr1 hg1
    have hn1 : n1 = xs.length := hr1.len
    subst hn1
    have hr1 : Row w1 2 .i64 (.slice ao1 xs.length c1) xs := hr1
    have T1 : Touch (fun _ => False) w w1 := ((Touch.refl (fun _ => False) w).alloc _).trans hg1.touch (fun k hk h => by simp [Value.ownBlock] at h; omega)
    have fr1 : ∀ j, (Value.slice ao1 xs.length c1).ownBlock = some j → w.heap.size ≤ j := fun j hj => by
      rcases hg1.fresh with e | ⟨g, e, hg⟩
      · rw [hj] at e; simp [Value.ownBlock] at e; omega
      · rw [hj] at e; injection e with e; subst e; simp at hg; omega
    clear hg1 hs
    go_wp2_with fail
    go_loopw [3, 4] (fun s i wr => ∃ n : Nat, i = .int .i64 n ∧ n ≤ 3 ∧ Row wr 2 .i64 s (xs ++ marks n) ∧ (∀ j, s.ownBlock = some j → w.heap.size ≤ j) ∧ Touch (fun _ => False) w wr) (fun _ i _ => 3 - (intOf i).toNat)
    case atStart => exact ⟨0, rfl, Nat.zero_le _, by simpa [marks] using hr1, fr1, T1⟩
    case round =>
      obtain ⟨n, rfl, hn, hr, hfr, ht⟩ := hrel
      obtain ⟨ao2, n2, c2, rfl⟩ := hr.shape
      have hn2 := hr.len
      subst hn2
      have hml : (marks n).length ≤ 3 := by simp [marks]; omega
      clear hr1 fr1 T1
      by_cases hlast : n < 3
      · have hw : wrap64 (-7000 - (n : Int)) = -7000 - (n : Int) := by unfold wrap64; omega
        go_wp2_with (at_builtin; refine wpList_append_row _ rfl (.tmp 12) (.tmp 15) 22 22 rfl 2 i0 (.int .i64 0) .i64 8 Try.underlying22 hi hz0 hz1 hz2 rfl _ (xs ++ marks n) rfl (hr.alloc _) _ [-7000 - (n : Int)] rfl (src_one Try.underlying22 _ _ _ _) ?b3 ?b4 ?nx2)
        case b3 => simp only [List.length_append, List.length_singleton]; unfold maxLen; omega
        case b4 => simp only [List.length_append, List.length_singleton]; omega
        case nx2 =>
          intro ao3 n3 c3 w3 hr3 hg3
          rw [marks_succ n hlast] at hr3
          have T3 : Touch (fun _ => False) w w3 := (ht.alloc _).trans hg3.touch (fun k hk h => by have := hfr k (by rw [List.length_append]; exact h); omega)
          have fr3 : ∀ j, (Value.slice ao3 n3 c3).ownBlock = some j → w.heap.size ≤ j := fun j hj => by
            rcases hg3.fresh with e | ⟨g, e, hg⟩
            · rw [hj] at e; exact hfr j (by rw [List.length_append]; exact e.symm)
            · rw [hj] at e; injection e with e; subst e; have := ht.size; simp at hg; omega
          clear hg3 hr hfr ht
          go_wp2_with fail
          go_roundw
          case rel => exact ⟨n + 1, by go_num, by omega, hr3, fr3, T3⟩
          case measure => simp [intOf]; omega
      · have e : n = 3 := by omega
        subst e
        obtain ⟨g, rfl⟩ := hr.mem (by simp [marks])
        have hg := hfr g rfl
        have hL : Lent wr g c2 xs := ⟨by have := hr; simpa [marks] using this⟩
        have hcap := hL.cap
        have hsl : ∀ W, (Instr.slice 22 (.slice (some ⟨g, 0, none⟩) (xs ++ marks 3).length c2) none (some (.int .i64 xs.length)) none).run Try.prog W = .ok (.slice (some ⟨g, 0, none⟩) xs.length c2) W := by
          intro W
          have he : Try.prog.elem 22 = 2 := by kernel_rfl
          rw [run_slice_h W 22 (some ⟨g, 0, none⟩) _ c2 (by rw [he]; exact Try.underlying22) .i64 xs.length (by omega) (by omega), he]
          simp only [sizeOf, typeInfo]
          simp [hi, hz1, sliced, Addr.add_lit]
        generalize (xs ++ marks 3).length = LL at *
        clear hr hfr hml
        go_wp2_with fail
        go_ret
        exact ⟨g, c2, rfl, hg, hL, ht⟩

set_option maxRecDepth 100000 in
set_option maxHeartbeats 1000000 in
theorem kitInts_same (ao bo : Option Addr) (xs : List Int) (ca cb : Nat) (w : World) (hx : Seg w .i64 ao xs) (hy : Seg w .i64 bo xs) (hb : xs.length ≤ 17592186043904) :
    Calls Try.prog 29 #[.slice ao xs.length ca, .slice bo xs.length cb] w fun e w' => e = .returned (.bool true) ∧ Calm w w' := by
  have hat : Hid (∀ k, k < xs.length → ∃ b off b' off', ao = some ⟨b, off, none⟩ ∧ bo = some ⟨b', off', none⟩ ∧ w.cell? ⟨b, off + k, none⟩ = some (.int .i64 (xs.getD k 0)) ∧ w.cell? ⟨b', off' + k, none⟩ = some (.int .i64 (xs.getD k 0))) := hide fun k hk => by
    obtain ⟨b, off, rfl⟩ := hx.addr (by omega)
    obtain ⟨b', off', rfl⟩ := hy.addr (by omega)
    exact ⟨b, off, b', off', rfl, rfl, hx.at k hk, hy.at k hk⟩
  generalize xs.length = n at *
  clear hx hy
  go_enter Try.func29, Try.ntmps29
  go_wp2_with fail
  go_loopw [5] (fun i wr => ∃ k : Nat, i = .int .i64 k ∧ k ≤ n ∧ Calm w wr) (fun i _ => n - (intOf i).toNat)
  case atStart => exact ⟨0, rfl, Nat.zero_le _, Touch.refl _ _⟩
  case round =>
    obtain ⟨k, rfl, hk, T0⟩ := hrel
    by_cases hlt : k < n
    · obtain ⟨b, off, b', off', rfl, rfl, h1, h2⟩ := hat.out k hlt
      have hki : (k : Int) < (n : Int) := by omega
      have H1 := hide h1
      have H2 := hide h2
      have l1 := lt_of_cell h1
      have l2 := lt_of_cell h2
      have HT := hide T0
      clear h1 h2 T0 hat
      generalize xs.getD k 0 = v at *
      go_wp2_with fail
      refine wp_region_held (S := Calm w) (by kernel_rfl) ?_
      have hT0 : Calm w { wr with drawn := wr.drawn + 1 } := HT.out.drew
      refine wpAnyH_yield 0 17 (.slice (some ⟨b, off, none⟩) n ca) rfl rfl (by kernel_rfl) (by kernel_rfl) (by kernel_rfl) (fun _ _ _ h => h) (by kernel_rfl) (fun W hW => by kernel_rfl) (by assumption) rfl rfl ?_
      simp only [Act.put, List.setIfInBounds_toArray, List.set_cons_zero, List.set_cons_succ]
      refine wpAnyH_yield 1 18 (.int .i64 (k : Int)) rfl rfl (by kernel_rfl) (by kernel_rfl) (by kernel_rfl) (fun _ _ _ h => h) (by kernel_rfl) (fun W hW => by kernel_rfl) (by assumption) rfl rfl ?_
      simp only [Act.put, List.setIfInBounds_toArray, List.set_cons_zero, List.set_cons_succ]
      refine wpAnyH_yield 2 19 (.pointer (some ⟨b, off + k, none⟩)) rfl rfl (by kernel_rfl) (by kernel_rfl) (by kernel_rfl) (fun _ _ _ h => h) (by kernel_rfl) (fun W hW => by go_simp) (by assumption) rfl rfl ?_
      simp only [Act.put, List.setIfInBounds_toArray, List.set_cons_zero, List.set_cons_succ]
      refine wpAnyH_yield 3 20 (.int .i64 v) rfl rfl (by kernel_rfl) (by kernel_rfl) (by kernel_rfl) (fun _ _ _ h => h) (by kernel_rfl) (fun W hW => by have c0 := (hW.cell (p := ⟨b, off + k, none⟩) l1 (fun h => h)).trans H1.out; go_simp) (by assumption) rfl rfl ?_
      simp only [Act.put, List.setIfInBounds_toArray, List.set_cons_zero, List.set_cons_succ]
      refine wpAnyH_yield 4 21 (.slice (some ⟨b', off', none⟩) n cb) rfl rfl (by kernel_rfl) (by kernel_rfl) (by kernel_rfl) (fun _ _ _ h => h) (by kernel_rfl) (fun W hW => by kernel_rfl) (by assumption) rfl rfl ?_
      simp only [Act.put, List.setIfInBounds_toArray, List.set_cons_zero, List.set_cons_succ]
      refine wpAnyH_yield 5 22 (.int .i64 (k : Int)) rfl rfl (by kernel_rfl) (by kernel_rfl) (by kernel_rfl) (fun _ _ _ h => h) (by kernel_rfl) (fun W hW => by kernel_rfl) (by assumption) rfl rfl ?_
      simp only [Act.put, List.setIfInBounds_toArray, List.set_cons_zero, List.set_cons_succ]
      refine wpAnyH_yield 6 23 (.pointer (some ⟨b', off' + k, none⟩)) rfl rfl (by kernel_rfl) (by kernel_rfl) (by kernel_rfl) (fun _ _ _ h => h) (by kernel_rfl) (fun W hW => by go_simp) (by assumption) rfl rfl ?_
      simp only [Act.put, List.setIfInBounds_toArray, List.set_cons_zero, List.set_cons_succ]
      refine wpAnyH_yield 7 24 (.int .i64 v) rfl rfl (by kernel_rfl) (by kernel_rfl) (by kernel_rfl) (fun _ _ _ h => h) (by kernel_rfl) (fun W hW => by have c0 := (hW.cell (p := ⟨b', off' + k, none⟩) l2 (fun h => h)).trans H2.out; go_simp) (by assumption) rfl rfl ?_
      simp only [Act.put, List.setIfInBounds_toArray, List.set_cons_zero, List.set_cons_succ]
      refine wpAnyH_yield 8 25 (.bool false) rfl rfl (by kernel_rfl) (by kernel_rfl) (by kernel_rfl) (fun _ _ _ h => h) (by kernel_rfl) (fun W hW => by go_simp) (by assumption) rfl rfl ?_
      simp only [Act.put, List.setIfInBounds_toArray, List.set_cons_zero, List.set_cons_succ]
      refine wpAnyH_done (by kernel_rfl) ?_ _
      have HT' := hide hT0
      clear hT0 HT
      go_wp2_with fail
      go_roundw
      case rel => exact ⟨k + 1, by go_num, by omega, HT'.out⟩
      case measure => simp [intOf]; omega
    · have e : k = n := by omega
      subst e
      have HT := hide T0
      clear T0
      go_wp2_with fail
      go_ret
      exact ⟨rfl, HT.out⟩

set_option maxRecDepth 100000 in
theorem kept_any (g c : Nat) (bo : Option Addr) (xs : List Int) (cb : Nat) (w : World) (hL : Lent w g c xs) (hy : Seg w .i64 bo xs) (hb : xs.length ≤ 17592186043904) :
    Calls Try.prog 13 #[.slice (some ⟨g, 0, none⟩) xs.length c, .slice bo xs.length cb] w fun e w' => e = .returned (.bool true) ∧ Calm w w' := by
  obtain ⟨i0, hi, hz0, hz1, hz2, -⟩ := info_parts infoI64
  have KB := hide (kitInts_same (some ⟨g, 0, none⟩) bo xs c cb w hL.seg hy hb)
  have hcap := hL.cap
  have hsl : ∀ W, (Instr.slice 22 (.slice (some ⟨g, 0, none⟩) xs.length c) none (some (.int .i64 ((xs.length : Int) + 3))) none).run Try.prog W = .ok (.slice (some ⟨g, 0, none⟩) (xs.length + 3) c) W := by
    intro W
    have he : Try.prog.elem 22 = 2 := by kernel_rfl
    rw [run_slice_h W 22 (some ⟨g, 0, none⟩) _ c (by rw [he]; exact Try.underlying22) .i64 ((xs.length : Int) + 3) (by omega) (by omega), he]
    simp only [sizeOf, typeInfo]
    have : ((xs.length : Int) + 3).toNat = xs.length + 3 := by omega
    simp [hi, hz1, sliced, Addr.add_lit, this]
  clear hy
  go_enter Try.func13, Try.ntmps13
  go_wp2_with fail
  refine KB.out.mono ?_
  rintro e w1 ⟨rfl, T1⟩
  replace hL := hL.touch T1 (fun h => h)
  have HT := hide T1
  clear T1
  go_wp2_with fail
  go_loopw [6] (fun i wr => ∃ n : Nat, i = .int .i64 n ∧ n ≤ 3 ∧ wr = w1) (fun i _ => 3 - (intOf i).toNat)
  case atStart => exact ⟨0, rfl, Nat.zero_le _, rfl⟩
  case round =>
    obtain ⟨n, rfl, hn, rfl⟩ := hrel
    by_cases hlast : n < 3
    · have hm := hL.mark n hlast
      have hw : wrap64 (-7000 - (n : Int)) = -7000 - (n : Int) := by unfold wrap64; omega
      clear hL KB
      go_wp2_with fail
      go_roundw
      case rel => exact ⟨n + 1, by go_num, by omega, trivial⟩
      case measure => simp [intOf]; omega
    · have e : n = 3 := by omega
      subst e
      clear hL KB
      go_wp2_with fail
      go_ret
      exact ⟨rfl, HT.out⟩

theorem seg_ints {w : World} {ao : Option Addr} {L : List Int} (h : encJ.Mem w ao L) : Seg w .i64 ao L := by
  have g : ∀ j (hj : j < L.length), ∃ b off, ao = some ⟨b, off, none⟩ ∧ w.cell? ⟨b, off + j, none⟩ = some (.int .i64 L[j]) := fun j hj => by
    obtain ⟨b, off, e, c⟩ := ints_at h j hj
    rw [List.getD_eq_getElem?_getD, List.getElem?_eq_getElem hj] at c
    exact ⟨b, off, e, c⟩
  refine ⟨fun e => ?_, fun a ha hne => ?_, fun a ha j hj => ?_⟩
  · cases L with
    | nil => rfl
    | cons x L => obtain ⟨b, off, e', _⟩ := g 0 (by simp); rw [e] at e'; cases e'
  · obtain ⟨b, off, e', _⟩ := g 0 (List.length_pos_iff.2 hne)
    rw [ha] at e'
    injection e' with e'
    rw [e']
  · obtain ⟨b, off, e', c⟩ := g j hj
    rw [ha] at e'
    injection e' with e'
    rw [e', Addr.add_lit]
    exact c

theorem encJ_flat (L : List Int) : encJ.flat L = L.map (Value.int .i64) := by
  induction L with
  | nil => rfl
  | cons x L ih => show [Value.int .i64 x] ++ encJ.flat L = _; rw [ih]; rfl

theorem ints_seg {w : World} {g off : Nat} {L : List Int} (h : Seg w .i64 (some ⟨g, off, none⟩) L) : encJ.Mem w (some ⟨g, off, none⟩) L := fun i u hu => by
  rw [encJ_flat, List.getElem?_map] at hu
  cases hx : L[i]? with
  | none => rw [hx] at hu; cases hu
  | some x =>
    rw [hx] at hu
    obtain rfl : Value.int .i64 x = u := Option.some.inj hu
    obtain ⟨hi, rfl⟩ := List.getElem?_eq_some_iff.1 hx
    have := h.at i hi
    rw [List.getD_eq_getElem?_getD, List.getElem?_eq_getElem hi] at this
    exact ⟨g, off, rfl, this⟩

theorem Lent.sl {w : World} {g c : Nat} {xs : List Int} (h : Lent w g c xs) : encJ.Sl w (some ⟨g, 0, none⟩) c xs := ⟨ints_seg h.seg, fun h => (nomatch h), by have := h.cap; omega⟩
theorem Lent.calm {w w' : World} {g c : Nat} {xs : List Int} (h : Lent w g c xs) (ht : Calm w w') : Lent w' g c xs := h.touch ht fun h => h

end Go.Proofs.Ytcmigkemhoecfaa
