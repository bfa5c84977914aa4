/- Walks: the document's Fold, Text, Fixed, Rising; lists that are lent. -/
import Derived.Test.YthhajlbnnffgnaaSiz
import Derived.Test.YthhajlbnnffgnaaAsk4
namespace Go.Proofs.Ythhajlbnnffgnaa
open Go.RowKit

set_option maxRecDepth 100000 in
theorem refFold_any (x : Int) (w : World) (h0 : -9223372036854775808 ≤ x) (h1 : x ≤ 9223372036854775807) :
    Calls Try.prog 37 #[.int .i64 x] w fun e w' => e = .returned (.int .u64 (Lib.zigzag x : Nat)) ∧ w = w' := by
  have H0 := hide h0
  have H1 := hide h1
  clear h0 h1
  by_cases h : 0 ≤ x
  · go_enter Try.func37, Try.ntmps37
    go_wp2
    go_ret
    refine ⟨ret_int ?_, rfl⟩
    have a := H0.out
    have b := H1.out
    rw [IntKind.wrap_u64, IntKind.wrap_u64]; unfold Lib.zigzag; rw [if_pos h]; omega
  · go_enter Try.func37, Try.ntmps37
    go_wp2
    go_ret
    refine ⟨ret_int ?_, rfl⟩
    have a := H0.out
    have b := H1.out
    rw [IntKind.wrap_u64, IntKind.wrap_u64, IntKind.wrap_u64]; unfold Lib.zigzag wrap64; rw [if_neg (by omega)]; omega

set_option maxRecDepth 100000 in
theorem refText_w (s : ByteArray) (w : World) (hs : s.size ≤ 1048576) :
    Calls Try.prog 38 #[.string s] w (RetRow 5 .u8 w (.slice none 0 0) (numb s.size ++ bytesOf s)) := by
  obtain ⟨i0, hi, hz0, hz1, hz2⟩ := info_parts Try.info5
  have H := hide (refNumber_any s.size w (by omega))
  have hn := numb_len10 (show s.size < 18446744073709551616 by omega)
  have hwr : IntKind.u64.wrap (s.size : Int) = s.size := by rw [IntKind.wrap_u64]; omega
  go_enter Try.func38, Try.ntmps38
  go_wp2_with fail
  refine H.out.mono ?_
  rintro r w1 ⟨ao, n, cap, rfl, hr, hg⟩
  go_wp2_with (at_builtin; refine wpList_append_row _ rfl (.tmp 6) (.tmp 7) 25 9 rfl 5 i0 (.int .u8 0) .u8 1 Try.underlying25 hi hz0 hz1 hz2 rfl _ (numb s.size) rfl hr _ (bytesOf s) rfl (src_string Try.underlying9 s _) ?b1 ?b2 ?nx)
  case b1 => rw [bytesOf_length]; unfold maxLen; omega
  case b2 => rw [bytesOf_length]; omega
  case nx =>
    intro ao2 n2 cap2 w2 hr2 hg2
    go_wp2
    go_ret
    exact RetRow.mk hr2 (hg.trans hg2)

theorem refFixed_w (x : Nat) (w : World) (h1 : x < 4294967296) :
    Calls Try.prog 39 #[.int .u32 x] w (RetRow 5 .u8 w (.slice none 0 0) (fixb x)) := by
  go_enter Try.func39, Try.ntmps39
  go_wp2
  go_ret
  refine RetRow.mk (v' := .slice (some ⟨w.heap.size, 0, none⟩) 4 4) ?_ ⟨(Touch.refl _ _).alloc _, .inr ⟨_, rfl, Nat.le_refl _⟩⟩
  exact Row.mk (xs := fixb x) (cap := 4) (heap_alloc_new w _) (by simp [fixb]) (by unfold maxLen; omega) rfl rfl

set_option maxRecDepth 100000 in
set_option maxHeartbeats 400000 in
theorem lentList_any (ao : Option Addr) (xs : List Int) (cap : Nat) (w : World) (hs : Seg w .i64 ao xs) (hb : xs.length ≤ 1048576) :
    Calls Try.prog 40 #[.slice ao xs.length cap] w fun e w' => ∃ g c, e = .returned (.slice (some ⟨g, 0, none⟩) xs.length c) ∧ w.heap.size ≤ g ∧ Row w' 2 .i64 (.slice (some ⟨g, 0, none⟩) (xs.length + 1) c) (xs ++ [771]) ∧ Touch (fun _ => False) w w' := by
  obtain ⟨i0, hi, hz0, hz1, hz2⟩ := info_parts Try.info2
  go_enter Try.func40, Try.ntmps40
  go_wp2_with (at_builtin; refine wpList_append_row _ rfl (.const (.slice none 0 0)) (.tmp 4) 34 34 rfl 2 i0 (.int .i64 0) .i64 8 Try.underlying34 hi hz0 hz1 hz2 rfl _ [] rfl (Row.nil _ _ _) _ xs rfl (hs.src Try.underlying34 _) ?b1 ?b2 ?nx)
  case b1 => simp only [List.length_nil]; unfold maxLen; omega
  case b2 => simp only [List.length_nil]; omega
  case nx =>
    intro ao1 n1 c1 w1 hr1 hg1
    have hn1 := hr1.len
    subst hn1
    go_wp2_with (at_builtin; refine wpList_append_row _ rfl (.tmp 5) (.tmp 6) 34 34 rfl 2 i0 (.int .i64 0) .i64 8 Try.underlying34 hi hz0 hz1 hz2 rfl _ xs rfl (hr1.alloc _) _ [771] rfl (src_one Try.underlying34 _ _ _ _) ?b3 ?b4 ?nx2)
    case b3 => simp only [List.length_singleton]; unfold maxLen; omega
    case b4 => simp only [List.length_singleton]; omega
    case nx2 =>
      intro ao2 n2 c2 w2 hr2 hg2
      obtain ⟨g, hgao⟩ := hr2.mem (by simp)
      have hn2 := hr2.len
      have hnn : n2 = xs.length + 1 := by rw [hn2]; simp
      subst hgao hnn
      have G := (hg1.alloc _).trans hg2
      have hgn : w.heap.size ≤ g := grew_new G (Nat.le_refl _) (fun j hj => by cases hj)
      have T := G.touch.mono (S' := fun _ => False) (fun k _ h => by cases h)
      have hcap : xs.length + 1 ≤ c2 := by
        rcases hr2.form with ⟨hv, _⟩ | ⟨g', cap', cur, hv, _, hc, _⟩
        · cases hv
        · injection hv with _ _ h3; rw [h3]; simpa using hc
      have hsl : ∀ W, (Instr.slice 34 (.slice (some ⟨g, 0, none⟩) (xs.length + 1) c2) none (some (.int .i64 xs.length)) none).run Try.prog W = .ok (.slice (some ⟨g, 0, none⟩) xs.length c2) W := by
        intro W
        have he : Try.prog.elem 34 = 2 := by kernel_rfl
        rw [run_slice_h W 34 (some ⟨g, 0, none⟩) (xs.length + 1) c2 (by rw [he]; exact Try.underlying34) .i64 xs.length (by omega) (by omega), he]
        simp only [sizeOf, typeInfo]
        simp [hi, hz1, sliced, Addr.add_lit]
      clear hr1 hg1 hg2 G hn2 hs
      go_wp2
      go_ret
      exact ⟨g, c2, rfl, hgn, hr2, T⟩

theorem nil_touch {w w' : World} {v' : Value} (h : Grew w (.slice none 0 0) w' v') : Touch (fun _ => False) w w' := h.touch.mono (fun k _ e => by cases e)

set_option maxRecDepth 100000 in
set_option maxHeartbeats 1000000 in
theorem refRising_w (ao : Option Addr) (xs : List Int) (cap : Nat) (w : World) (hs : Seg w .i64 ao xs) (hb : xs.length ≤ 1048576) (h64 : In64 xs) (hup : Up xs) :
    Calls Try.prog 43 #[.slice ao xs.length cap] w (RetRow 5 .u8 w (.slice none 0 0) (risb xs)) := by
  obtain ⟨i0, hi, hz0, hz1, hz2⟩ := info_parts Try.info5
  have H64 := hide h64
  have HUP := hide hup
  have HL := hide (risTo_len xs h64)
  clear h64 hup
  have H := hide (refNumber_any xs.length w (by omega))
  have hn := numb_len10 (show xs.length < 18446744073709551616 by omega)
  have hwr : IntKind.u64.wrap (xs.length : Int) = xs.length := by rw [IntKind.wrap_u64]; omega
  go_enter Try.func43, Try.ntmps43
  go_wp2_with fail
  refine H.out.mono ?_
  rintro r w1 ⟨ao1, n1, cap1, rfl, hr, hg⟩
  have HC := hide (show RowG 5 .u8 w (.slice none 0 0) (numb xs.length ++ risTo xs 0) (.slice ao1 n1 cap1) w1 from ⟨_, _, _, rfl, by simpa [risTo] using hr, hg⟩)
  clear hr hg
  go_wp2_with fail
  go_loopw [3, 4] (fun b i wr => ∃ k : Nat, k ≤ xs.length ∧ i = .int .i64 k ∧ RowG 5 .u8 w (.slice none 0 0) (numb xs.length ++ risTo xs k) b wr) (fun _ i _ => xs.length - (intOf i).toNat)
  case atStart => exact ⟨0, Nat.zero_le _, rfl, HC.out⟩
  case round =>
    obtain ⟨k, hk, rfl, ao2, n2, cap2, rfl, hr2, hg2⟩ := hrel
    clear HC
    by_cases hlt : k < xs.length
    · obtain ⟨b, off, rfl⟩ : ∃ b off, ao = some ⟨b, off, none⟩ := hs.addr (by omega)
      have hsr := hs.touch (nil_touch hg2) (fun _ _ h => h)
      have c1 := hsr.at k hlt
      have hx64 := H64.out k hlt
      have hit := risTo_succ xs k
      have hlen := HL.out k hk
      have hil := risItem_len xs H64.out k hlt
      obtain ⟨x, hx⟩ : ∃ x, xs.getD k 0 = x := ⟨_, rfl⟩
      rw [hx] at c1 hx64
      have B1 : Hid ((numb xs.length ++ risTo xs k).length + (risItem xs k).length ≤ maxLen) := by show _ ≤ _; rw [List.length_append]; unfold maxLen; omega
      have B2 : Hid (((numb xs.length ++ risTo xs k).length + (risItem xs k).length) * 1 ≤ 140737488355328) := by show _ ≤ _; rw [List.length_append]; omega
      by_cases hk0 : k = 0
      · have hitem : risItem xs k = numb (Lib.zigzag x) := by unfold risItem; rw [if_pos hk0, ← hx, hk0]
        rw [hitem] at hit B1 B2
        have F := hide (fun W => refFold_any x W hx64.1 hx64.2)
        have M := hide (fun W => refNumber_any (Lib.zigzag x) W (Lib.zigzag_lt hx64.1 hx64.2))
        have t0 : ((k : Int) == 0) = true := by simp; omega
        have HI := hide hit
        clear hit hx64 hx hitem hk0 hil
        go_wp2_with fail
        refine (F.out _).mono ?_
        rintro r w' ⟨rfl, rfl⟩
        go_wp2_with fail
        refine (M.out _).mono ?_
        rintro r w3 ⟨ao3, n3, cap3, rfl, hr3, hg3⟩
        have hr2' := hr2.touch (nil_touch hg3) (fun _ _ h => h)
        have hn3 := hr3.len
        subst hn3
        go_wp2_with (at_builtin; refine wpList_append_row _ rfl (.tmp 17) (.tmp 23) 25 25 rfl 5 i0 (.int .u8 0) .u8 1 Try.underlying25 hi hz0 hz1 hz2 rfl _ _ rfl hr2' _ (numb (Lib.zigzag x)) rfl ((Seg.of_row hr3).src Try.underlying25 _) B1.out B2.out ?nx)
        case nx =>
          intro ao4 n4 c4 w4 hr4 hg4
          have G := hide (show Grew w (.slice none 0 0) w4 (.slice ao4 n4 c4) from (hg2.trans ⟨(nil_touch hg3).mono (fun _ _ h => h.elim), .inl rfl⟩).trans hg4)
          have R := hide hr4
          clear hr4 hg4 hr3 hg3 hr2 hr2' hg2
          go_wp2
          go_roundw
          case rel => exact ⟨k + 1, by omega, by go_num, ao4, n4, c4, rfl, by rw [HI.out]; exact R.out, G.out⟩
          case measure => simp [intOf]; omega
      · obtain ⟨p, hp⟩ : ∃ p, xs.getD (k - 1) 0 = p := ⟨_, rfl⟩
        have c0 := hsr.at (k - 1) (by omega)
        have hp64 := H64.out (k - 1) (by omega)
        have hpx := HUP.out (k - 1) (by omega)
        rw [show k - 1 + 1 = k by omega, hx] at hpx
        rw [hp] at c0 hp64 hpx
        have hitem : risItem xs k = numb (x - p - 1).toNat := by unfold risItem; rw [if_neg hk0, hx, hp]
        rw [hitem] at hit B1 B2
        have hge := gap_eq x p hp64.1 hpx hx64.2
        have M := hide (fun W => refNumber_any (x - p - 1).toNat W (by omega))
        obtain ⟨d, hd⟩ : ∃ d, (x - p - 1).toNat = d := ⟨_, rfl⟩
        rw [hd] at hit hge M B1 B2
        have e1 : ((k : Int) - 1).toNat = k - 1 := by omega
        have t0 : ((k : Int) == 0) = false := by simpa using hk0
        have HI := hide hit
        have hk1 : 0 < k := by omega
        have hwk : IntKind.i64.wrap ((k : Int) - 1) = (k : Int) - 1 := by rw [IntKind.wrap_i64]; omega
        have hb1 : (1 : Int) ≤ (k : Int) := by omega
        have hb2 : (k : Int) - 1 < (xs.length : Int) := by omega
        clear hit hx64 hx hitem hil hp64 hpx hp hd
        go_wp2_with fail
        go_region_law (first | (refine step_append_row rfl (.tmp 25) (.tmp 39) 25 25 rfl 5 i0 (.int .u8 0) .u8 1 Try.underlying25 hi hz0 hz1 hz2 rfl _ (numb xs.length ++ risTo xs k) rfl hr2' _ (numb d) rfl ((Seg.of_row hr3).src Try.underlying25 _) B1.out B2.out ?_; intro ao4 n4 c4 w4 hr4 hg4) | (go_simp; go_at_call 36; refine (M.out _).mono ?_; rintro r w3 ⟨ao3, n3, cap3, rfl, hr3, hg3⟩; have hr2' := hr2.drew.touch (nil_touch hg3) (fun _ _ h => h); have hn3 := hr3.len; subst hn3))
        all_goals
          have G := hide (show Grew w (.slice none 0 0) w4 (.slice ao4 n4 c4) from ((hg2.trans ⟨(Touch.refl _ _).drew, .inl rfl⟩).trans ⟨(nil_touch hg3).mono (fun _ _ h => h.elim), .inl rfl⟩).trans hg4)
          have R := hide hr4
          clear hr4 hg4 hr3 hg3 hr2 hr2' hg2
          go_wp2
          go_roundw
          case rel => exact ⟨k + 1, by omega, by go_num, ao4, n4, c4, rfl, by rw [HI.out, ← List.append_assoc]; exact R.out, G.out⟩
          case measure => simp [intOf]; omega
    · go_wp2
      go_ret
      have e : k = xs.length := by omega
      subst e
      exact RetRow.mk hr2 hg2

end Go.Proofs.Ythhajlbnnffgnaa
