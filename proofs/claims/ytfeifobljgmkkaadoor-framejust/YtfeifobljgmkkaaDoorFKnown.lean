/- The verifier's known, long. -/
import Derived.Test.YtfeifobljgmkkaaDoorFAll
import Derived.Test.YtfeifobljgmkkaaDoorFRow
import Derived.Laws.BytesArg
import Derived.Laws.BytesString
namespace Go.Proofs.YtfeifobljgmkkaaDoor
open Go.RowKit Crcx

theorem strOfNums_inj : ∀ {xs ys : List Int}, In8 xs → In8 ys → (strOfNums xs).data.toList = (strOfNums ys).data.toList → xs = ys
  | [], [], _, _, _ => rfl
  | [], y :: ys, _, _, h => by rw [strOfNums_data, strOfNums_data] at h; cases h
  | x :: xs, [], _, _, h => by rw [strOfNums_data, strOfNums_data] at h; cases h
  | x :: xs, y :: ys, hx, hy, h => by
    rw [strOfNums_data, strOfNums_data, List.map_cons, List.map_cons] at h
    injection h with h1 h2
    have a := hx x (by simp)
    have b := hy y (by simp)
    have e : x = y := by
      have := congrArg UInt8.toNat h1
      simp [UInt8.toNat_ofNat'] at this
      omega
    rw [e, strOfNums_inj (xs := xs) (ys := ys) (fun z hz => hx z (by simp [hz])) (fun z hz => hy z (by simp [hz])) h2]

set_option maxRecDepth 100000 in
theorem conv_seg {w : World} {ao : Option Addr} {xs : List Int} (h : Seg w .u8 ao xs) (cap : Nat) : (convert 22 9 (.slice ao xs.length cap)).run Tryd.prog w = .ok (.string (strOfNums xs)) w := by
  cases ao with
  | none =>
    rw [h.none rfl]
    exact run_convert_bytes_nil w _ _ Tryd.underlying22 Tryd.underlying5 _ _ _ Tryd.underlying9
  | some a =>
    by_cases hx : xs = []
    · subst hx
      rw [run_convert_bytes_string w _ _ _ _ _ _ Tryd.underlying22 Tryd.underlying5 Tryd.underlying9]
      exact (run_bytesToString w a 0 cap [] (by rfl))
    · obtain ⟨b, off, e⟩ := h.addr (List.length_pos_iff.2 hx)
      cases e
      exact run_convert_bytes_arg w _ _ Tryd.underlying22 Tryd.underlying5 b off _ cap xs rfl (fun i hi => h.at i hi) _ Tryd.underlying9

theorem Row.cap {w : World} {e : TypeId} {k : IntKind} {ao : Option Addr} {n c : Nat} {xs : List Int} (h : Row w e k (.slice ao n c) xs) : xs.length ≤ c := by
  rcases h.form with ⟨hv, hx⟩ | ⟨g, cap, cur, hv, _, hc, _⟩
  · rw [hx]; simp
  · injection hv with _ _ h3; rw [h3]; exact hc

theorem New.txt {w w' : World} {ao : Option Addr} {n c : Nat} {xs : List Int} (h : New w w' (.slice ao n c) xs) (h8 : In8 xs) (hl : xs.length ≤ 281474976710656) : (Txt.mk ao c xs).Ok w' ∧ xs.length ≤ c := ⟨⟨Seg.of_row h.row, h8, hl⟩, h.row.cap⟩

theorem numb_two : numb 2 = [2] := numb_lo (by omega)

theorem str12 : strOfNums [1, 2] = { data := #[1, 2] } := by decide

theorem len712 : (frm 7 [1, 2]).length = 8 := by rw [frm_len]; show fsize 2 = 8; unfold fsize; rw [numb_two]; rfl

theorem fsize_two : fsize 2 = 8 := by unfold fsize; rw [numb_two]; rfl

theorem in8_12 : In8 [1, 2] := fun x hx => by simp at hx; omega

set_option maxRecDepth 100000 in
set_option maxHeartbeats 1000000 in
theorem known_any (w : World) (hT : Tab w) : Calls Tryd.prog 10 #[] w fun e w' => e = .returned (.bool true) ∧ Touch (fun _ => False) w w' := by
  obtain ⟨i0, hi, hz0, hz1, hz2⟩ := info_parts Tryd.info5
  go_enter Tryd.func10, Tryd.ntmps10
  go_wp2_with fail
  have T0 : Touch (fun _ => False) w (w.alloc (.cells #[.int .u8 1, .int .u8 2] 5)) := (Touch.refl _ _).alloc _
  have S0 : Seg (w.alloc (.cells #[.int .u8 1, .int .u8 2] 5)) .u8 (some ⟨w.heap.size, 0, none⟩) [1, 2] := seg_of (heap_alloc_last w _) rfl
  generalize w.alloc (.cells #[.int .u8 1, .int .u8 2] 5) = w0 at *
  generalize w.heap.size = g at S0 ⊢
  refine (put_any 7 ⟨some ⟨g, 0, none⟩, 2, [1, 2]⟩ w0 (hT.touch T0 (fun h => h)) ⟨S0, in8_12, by simp⟩ (by omega) (by simp)).mono ?_
  rintro e w1 ⟨bo, bn, bc, rfl, N1⟩
  simp only at N1
  have hbn := N1.row.len
  subst hbn
  have T1 := T0.trans N1.touch (fun _ _ h => h)
  have HH8 := hide (show In8 (frm 7 [1, 2] ++ [9]) from in8_append (in8_frm (by omega) in8_12) (in8_one (by omega)))
  have HRD : Hid (readF (frm 7 [1, 2] ++ [9]) = ⟨0, 7, [1, 2], 8⟩) := hide (by rw [readF_frm (tag := 7) (by omega) in8_12 (by simp) [9]]; show Got.mk 0 7 [1, 2] (fsize 2) = _; rw [fsize_two])
  have HL := hide len712
  have SR := hide ((Seg.of_row N1.row).src (P := Tryd.prog) Tryd.underlying22 bc)
  clear S0 T0 N1
  generalize frm 7 [1, 2] = f at *
  go_wp2_with (at_builtin; refine wpList_append_row _ rfl (.const (.slice none 0 0)) (.tmp 12) 22 22 rfl 5 i0 (.int .u8 0) .u8 1 Tryd.underlying22 hi hz0 hz1 hz2 rfl _ [] rfl (Row.nil _ _ _) _ f rfl SR.out ?b1 ?b2 ?nx)
  case b1 => unfold maxLen; rw [HL.out]; simp
  case b2 => rw [HL.out]; simp
  case nx =>
    intro ao2 n2 c2 w2 R2 G2
    have N2 : New w1 w2 (.slice ao2 n2 c2) f := (New.nil (Touch.refl _ _)).of_grew R2 G2
    have T2 := T1.trans N2.touch (fun _ _ h => h)
    clear R2 G2 SR
    go_wp2_with (at_builtin; refine wpList_append_row _ rfl (.tmp 13) (.tmp 14) 22 22 rfl 5 i0 (.int .u8 0) .u8 1 Tryd.underlying22 hi hz0 hz1 hz2 rfl _ f rfl (N2.row.alloc _) _ [9] rfl (src_one Tryd.underlying22 _ _ _ _) ?b3 ?b4 ?nx2)
    case b3 => unfold maxLen; rw [HL.out]; simp
    case b4 => rw [HL.out]; simp
    case nx2 =>
      intro ao3 n3 c3 w3 R3 G3
      have N3 : New w1 w3 (.slice ao3 n3 c3) (f ++ [9]) := (N2.keep ((Touch.refl _ _).alloc _)).of_grew R3 G3
      have T3 := T1.trans N3.touch (fun _ _ h => h)
      have hn3 := N3.row.len
      subst hn3
      have hl9 : (f ++ [9]).length ≤ 9 := by rw [List.length_append, HL.out]; simp
      obtain ⟨o3, q3⟩ := N3.txt HH8.out (by omega)
      have RD := hide (read_any ⟨ao3, c3, f ++ [9]⟩ w3 (hT.touch T3 (fun h => h)) o3 q3 (by simp only; omega))
      simp only [HRD.out] at RD
      have HLB := hide (show ((f.length : Int) == 8) = true by rw [HL.out]; rfl)
      clear R3 G3 N3 N2 o3 q3
      generalize (f ++ [9]).length = m3 at *
      go_wp2_with fail
      refine RD.out.mono ?_
      rintro e w4 ⟨ro, rn, rc, rfl, N4⟩
      simp only at N4
      have hrn : rn = 2 := N4.row.len
      subst hrn
      have T4 := (T3.trans N4.touch (fun _ _ h => h)).alloc (.cells #[.int .u8 7, .slice ro 2 rc] 36)
      have CV : (convert 22 9 (.slice ro 2 rc)).run Tryd.prog (w4.alloc (.cells #[.int .u8 7, .slice ro 2 rc] 36)) = .ok (.string { data := #[1, 2] }) (w4.alloc (.cells #[.int .u8 7, .slice ro 2 rc] 36)) := by
        have := conv_seg (Seg.of_row (N4.keep ((Touch.refl _ _).alloc (.cells #[.int .u8 7, .slice ro 2 rc] 36))).row) rc
        rw [str12] at this
        exact this
      have HT4 := hide T4
      have hl8 := HLB.out
      have FS := hide (fun W => fsize_any 2 (by omega) W)
      rw [fsize_two] at FS
      clear RD N4 HLB T4 T3 T2 T1
      go_wp2_with fail
      refine (FS.out _).mono ?_
      rintro e w' ⟨rfl, rfl⟩
      go_wp2_with fail
      go_ret
      exact ⟨rfl, HT4.out⟩

set_option maxRecDepth 100000 in
theorem long_any (ao : Option Addr) (n cap : Nat) (w : World) : Calls Tryd.prog 9 #[.slice ao n cap] w fun e w' => e = .returned (.bool (decide (200000 < (n : Int)))) ∧ w = w' := by
  go_enter Tryd.func9, Tryd.ntmps9
  go_wp2_with fail
  go_ret
  exact ⟨rfl, rfl⟩

end Go.Proofs.YtfeifobljgmkkaaDoor
