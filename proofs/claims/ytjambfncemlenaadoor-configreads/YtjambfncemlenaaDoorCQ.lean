/- A job out of a text: what stands between blanks (the document's parts). -/
import Derived.Test.YtjambfncemlenaaDoorCP
import Derived.Test.YtjambfncemlenaaDoorCQ0
namespace Go.Proofs.YtjambfncemlenaaDoor
open Go.RowKit

/-- What stands between blanks, behind the bytes of the piece under way. -/
def cutL : List UInt8 → List UInt8 → List (List UInt8)
  | cur, [] => [cur]
  | cur, b :: r => if b.toNat = 32 then cur :: cutL [] r else cutL (cur ++ [b]) r
theorem cutL_cons (cur : List UInt8) (b : UInt8) (r : List UInt8) : cutL cur (b :: r) = if b.toNat = 32 then cur :: cutL [] r else cutL (cur ++ [b]) r := rfl
/-- What stands between a text's blanks. -/
def cutB (s : ByteArray) : List (List UInt8) := cutL [] s.toList
theorem cutL_len : ∀ (cur r : List UInt8), (cutL cur r).length ≤ r.length + 1
  | _, [] => by simp [cutL]
  | cur, b :: r => by
    rw [cutL_cons]
    split
    · have := cutL_len [] r; simp only [List.length_cons]; omega
    · have := cutL_len (cur ++ [b]) r; simp only [List.length_cons]; omega

theorem ext_toList (s : ByteArray) (a b : Nat) : (s.extract a b).toList = (s.toList.drop a).take (b - a) := by
  rw [ByteArray.toList_eq, ByteArray.toList_eq, ByteArray.data_extract, Array.toList_extract]

theorem take_next {s : ByteArray} {a i : Nat} (ha : a ≤ i) (h : i < s.size) : (s.toList.drop a).take (i + 1 - a) = (s.toList.drop a).take (i - a) ++ [s[i]] := by
  have e : (s.toList.drop a).drop (i - a) = s[i] :: s.toList.drop (i + 1) := by
    rw [List.drop_drop, show a + (i - a) = i by omega, toList_at s i h]
  have e2 : (s.toList.drop a)[i - a]? = some s[i] := by
    have := congrArg List.head? e
    rw [List.head?_drop] at this
    rw [this]; rfl
  rw [show i + 1 - a = (i - a) + 1 by omega, List.take_add_one, e2]
  rfl

/-- What a function answers that makes texts. -/
def RetZ (w : World) (e : Ending) (w' : World) (C : List (List UInt8)) : Prop := ∃ ao cap L, e = .returned (.slice ao L.length cap) ∧ encZ.Own 9 w' w.heap.size (.slice ao L.length cap) L ∧ L.map (·.toList) = C ∧ Calm w w'

set_option maxRecDepth 100000 in
set_option maxHeartbeats 2000000 in
theorem rparts_any (s : ByteArray) (hs : s.size ≤ 100000000000) (w : World) : Calls Tryd.prog 40 #[.string s] w fun e w' => RetZ w e w' (cutB s) := by
  have LA : Hid (∀ i (h : i < s.size), s.toList.drop i = s[i] :: s.toList.drop (i + 1)) := hide (toList_at s)
  have ND : Hid (s.toList.drop s.size = []) := hide (by rw [ByteArray.toList_eq]; exact List.drop_of_length_le (Nat.le_of_eq Array.length_toList))
  have TN : Hid (∀ a i, a ≤ i → ∀ (h : i < s.size), (s.toList.drop a).take (i + 1 - a) = (s.toList.drop a).take (i - a) ++ [s[i]]) := hide fun a i ha h => take_next ha h
  have EX : Hid (∀ a b, (s.extract a b).toList = (s.toList.drop a).take (b - a)) := hide (ext_toList s)
  have D0 : Hid (([] : List ByteArray).map (·.toList) ++ cutL ((s.toList.drop 0).take (0 - 0)) (s.toList.drop 0) = cutB s) := hide rfl
  have HE : Hid (∀ e w', RetZ w e w' (cutB s) → RetZ w e w' (cutB s)) := hide fun _ _ h => h
  generalize cutB s = X at *
  go_enter Tryd.func40, Tryd.ntmps40
  go_wp2_with fail
  go_loopw [3, 4, 5] (fun s3 s4 s5 wr => ∃ (i a n : Nat) (A : List ByteArray) (ao : Option Addr) (cap : Nat), s3 = .slice ao n cap ∧ n = A.length ∧ s4 = .int .i64 (a : Int) ∧ s5 = .int .i64 (i : Int) ∧ a ≤ i ∧ i ≤ s.size ∧ n ≤ i ∧ Hid (A.map (·.toList) ++ cutL ((s.toList.drop a).take (i - a)) (s.toList.drop i) = X) ∧ encZ.Own 9 wr w.heap.size (.slice ao n cap) A ∧ Calm w wr) (fun _ _ s5 _ => s.size - (intOf s5).toNat)
  case atStart => exact ⟨0, 0, 0, [], none, 0, rfl, rfl, rfl, rfl, by omega, by omega, by omega, D0, Rc.Own.nil _ _ _, Touch.refl _ _⟩
  case round =>
    obtain ⟨i, a, n, A, ao, cap, rfl, hn, rfl, rfl, ha, hi, hni, HD, OA, TL⟩ := hrel
    rw [hn] at OA
    by_cases hlt : i < s.size
    · have hltz : (i : Int) < (s.size : Int) := by omega
      have HD2 := HD.out
      rw [LA.out i hlt, cutL_cons] at HD2
      obtain ⟨b, hb⟩ : ∃ b : Nat, (s[i]'hlt).toNat = b := ⟨_, rfl⟩
      rw [hb] at HD2
      by_cases h32 : b = 32
      · have h32z : (b : Int) = 32 := by omega
        rw [if_pos h32] at HD2
        have HD3 : Hid ((A ++ [s.extract a i]).map (·.toList) ++ cutL ((s.toList.drop (i + 1)).take (i + 1 - (i + 1))) (s.toList.drop (i + 1)) = X) := hide (by
          rw [← HD2, Nat.sub_self, List.take_zero, List.map_append, List.append_assoc, List.map_cons, EX.out]; rfl)
        obtain ⟨a2, p2, w4, hrun, ow, t2⟩ := st_app (s.extract a i) OA TL.size (by omega)
        have T4 : Hid (Calm w w4) := hide (own_calm OA t2 TL (Nat.le_refl _))
        have e2 : (A ++ [s.extract a i]).length = n + 1 := by rw [List.length_append, ← hn]; rfl
        rw [e2] at ow
        rw [← hn] at hrun
        have OW := hide ow
        have E2 := hide e2
        have HRUN := hide hrun
        have haz : (a : Int) ≤ (i : Int) := by omega
        have hiz : (i : Int) ≤ (s.size : Int) := by omega
        clear HD HD2 OA TL t2 ow hrun e2 hn LA ND TN EX D0
        go_wp2_with (at_builtin; refine Rc.wpList_appR rfl (.tmp 16) (.tmp 21) 81 81 rfl _ _ _ rfl rfl HRUN.out ?_)
        go_roundw
        case rel => exact ⟨i + 1, i + 1, n + 1, A ++ [s.extract a i], a2, p2, rfl, E2.out.symm, by go_num, by go_num, by omega, by omega, by omega, HD3, OW.out, T4.out⟩
        case measure => simp [intOf]; omega
      · have h32z : ¬ (b : Int) = 32 := by omega
        rw [if_neg h32] at HD2
        have HD3 : Hid (A.map (·.toList) ++ cutL ((s.toList.drop a).take (i + 1 - a)) (s.toList.drop (i + 1)) = X) := hide (by rw [TN.out a i ha hlt]; exact HD2)
        have HO := hide OA
        have HT := hide TL
        have Hn := hide hn
        clear HD HD2 OA TL hn LA ND TN EX D0
        go_wp2_with fail
        go_roundw
        case rel => exact ⟨i + 1, a, n, A, ao, cap, rfl, Hn.out, rfl, by go_num, by omega, by omega, by omega, HD3, by rw [Hn.out]; exact HO.out, HT.out⟩
        case measure => simp [intOf]; omega
    · have hltz : ¬ (i : Int) < (s.size : Int) := by omega
      obtain rfl : i = s.size := by omega
      have HD2 := HD.out
      rw [ND.out] at HD2
      obtain ⟨a2, p2, w4, hrun, ow, t2⟩ := st_app (s.extract a s.size) OA TL.size (by omega)
      have T4 : Calm w w4 := own_calm OA t2 TL (Nat.le_refl _)
      have e2 : (A ++ [s.extract a s.size]).length = n + 1 := by rw [List.length_append, ← hn]; rfl
      have HF : Hid (RetZ w (.returned (.slice a2 (n + 1) p2)) w4 X) := hide ⟨a2, p2, A ++ [s.extract a s.size], by rw [e2], ow, by rw [← HD2, List.map_append, List.map_cons, EX.out]; rfl, T4⟩
      rw [← hn] at hrun
      have HRUN := hide hrun
      have haz : (a : Int) ≤ (s.size : Int) := by omega
      clear HD HD2 OA TL t2 ow hrun e2 hn LA ND TN EX D0 T4
      go_wp2_with (at_builtin; refine Rc.wpList_appR rfl (.tmp 25) (.tmp 29) 81 81 rfl _ _ _ rfl rfl HRUN.out ?_)
      go_ret
      exact HF.out

end Go.Proofs.YtjambfncemlenaaDoor
