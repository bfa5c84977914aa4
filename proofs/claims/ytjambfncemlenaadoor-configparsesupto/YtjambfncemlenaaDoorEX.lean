/- A job out of a text (the program's parseNumber; the library's SplitN). -/
import Derived.Test.YtjambfncemlenaaDoorEG
import Derived.Test.YtjambfncemlenaaDoorShp
import Derived.Lib.ParseIntBTie
namespace Go.Proofs.YtjambfncemlenaaDoor
open Go.RowKit

/-- The library's errors and the limit of its search lie there. -/
def Errs (w : World) : Prop := (∃ te pe, w.cell? ⟨3, 0, none⟩ = some (.iface te pe)) ∧ (∃ te pe, w.cell? ⟨4, 0, none⟩ = some (.iface te pe)) ∧ ∃ m, w.cell? ⟨2, 0, none⟩ = some (.int .i64 m)
theorem cell_calm {w w' : World} {b i : Nat} {v : Value} (h : w.cell? ⟨b, i, none⟩ = some v) (ht : Calm w w') : w'.cell? ⟨b, i, none⟩ = some v := by
  rw [ht.cell (p := ⟨b, i, none⟩) ?_ (fun h => h)]
  · exact h
  · rcases Nat.lt_or_ge b w.heap.size with h' | h'
    · exact h'
    · exfalso; simp [World.cell?, Array.getElem?_eq_none h'] at h
theorem Errs.calm {w w' : World} (h : Errs w) (ht : Calm w w') : Errs w' := by
  obtain ⟨⟨a, b, h1⟩, ⟨c, d, h2⟩, m, h3⟩ := h
  exact ⟨⟨a, b, cell_calm h1 ht⟩, ⟨c, d, cell_calm h2 ht⟩, m, cell_calm h3 ht⟩
theorem calm_below {w w' : World} (h : Below w.heap.size w w') : Calm w w' := ⟨h.os, h.tape, h.output, h.size, fun k hk _ => h.block k hk⟩

/-- The number that digits say, if it is written by just these. -/
def pN (s : ByteArray) : Option Int :=
  match Lib.parseIntB 64 s.data.toList with
  | .ok v => if Lib.itoa v = s.data.toList then some v else none
  | _ => none
def pnV : Option Int → Value
  | some v => .tuple #[.int .i64 v, .bool true]
  | none => .tuple #[.int .i64 0, .bool false]

set_option maxRecDepth 100000 in
set_option maxHeartbeats 1000000 in
theorem parseNumber_any (s : ByteArray) (hs : s.size ≤ 281474976710656) (w : World) (ht : Tab w) (he : Errs w) : Calls Tryd.prog 63 #[.string s] w fun e w' => e = .returned (pnV (pN s)) ∧ Calm w w' := by
  obtain ⟨⟨e1, e2, h1⟩, ⟨e3, e4, h2⟩, -⟩ := he
  have hp : pN s = match Lib.parseIntB 64 s.data.toList with
    | .ok v => if Lib.itoa v = s.data.toList then some v else none
    | _ => none := rfl
  cases hr : Lib.parseIntB 64 s.data.toList with
  | ok v =>
    have CP := hide (Any.strconv_ParseInt_10_at64_ok Tryd.laysC174 s (by omega) v hr w)
    obtain ⟨b1, b2⟩ := Lib.parseIntB_bounds hr
    have CF : Hid (∀ W, Calm w W → Calls Tryd.prog 64 #[.int .i64 v, .int .i64 10] W fun e w' => e = .returned (.string ⟨(Lib.itoa v).toArray⟩) ∧ Calm W w') := hide fun W hW => format_any v (by omega) (by omega) W (ht.calm hW)
    rw [hr] at hp
    simp only at hp
    by_cases hv : Lib.itoa v = s.data.toList
    · rw [if_pos hv] at hp
      have es : (⟨(Lib.itoa v).toArray⟩ : ByteArray) = s := by rw [hv]
      simp only [es] at CF
      have HP := hide hp
      clear hp hr hv es h1 h2 b1 b2 hs ht
      generalize pN s = R at *
      go_enter Tryd.func63, Tryd.ntmps63
      go_wp2_with fail
      refine CP.out.mono ?_
      rintro e w1 ⟨rfl, hw1⟩
      have T1 : Calm w w1 := by
        rcases hw1 with rfl | ⟨t, rfl⟩
        · exact Touch.refl _ _
        · exact calm_below (Lib.bytesWorld_below _ _ _)
      have HT1 := hide T1
      clear hw1 CP T1
      go_wp2_with fail
      refine (CF.out _ HT1.out).mono ?_
      rintro e w2 ⟨rfl, T2⟩
      have HT2 := hide (HT1.out.tr T2)
      clear CF T2 HT1
      go_wp2_with fail
      go_ret2
      exact ⟨by rw [HP.out]; rfl, HT2.out⟩
    · rw [if_neg hv] at hp
      have dn : ((⟨(Lib.itoa v).toArray⟩ : ByteArray).toList == s.toList) = false := by
        rw [beq_eq_false_iff_ne]
        intro q
        rw [ByteArray.toList_eq, ByteArray.toList_eq] at q
        exact hv q
      generalize (⟨(Lib.itoa v).toArray⟩ : ByteArray) = z at *
      have HP := hide hp
      clear hp hr hv h1 h2 b1 b2 hs ht
      generalize pN s = R at *
      go_enter Tryd.func63, Tryd.ntmps63
      go_wp2_with fail
      refine CP.out.mono ?_
      rintro e w1 ⟨rfl, hw1⟩
      have T1 : Calm w w1 := by
        rcases hw1 with rfl | ⟨t, rfl⟩
        · exact Touch.refl _ _
        · exact calm_below (Lib.bytesWorld_below _ _ _)
      have HT1 := hide T1
      clear hw1 CP T1
      go_wp2_with fail
      refine (CF.out _ HT1.out).mono ?_
      rintro e w2 ⟨rfl, T2⟩
      have HT2 := hide (HT1.out.tr T2)
      clear CF T2 HT1
      go_wp2_with fail
      go_ret2
      exact ⟨by rw [HP.out]; rfl, HT2.out⟩
  | range =>
    have CP := hide (Any.strconv_ParseInt_10_at64_range Tryd.laysC174 s hs hr (.iface e3 e4) w h2 (.inr ⟨_, _, rfl⟩))
    rw [hr] at hp
    have HP := hide hp
    clear hp hr h1 h2 hs ht
    generalize pN s = R at *
    go_enter Tryd.func63, Tryd.ntmps63
    go_wp2_with fail
    refine CP.out.mono ?_
    rintro e w1 ⟨N, rfl, -, -, hb⟩
    have HT1 := hide (calm_below hb)
    clear hb CP
    go_wp2_with fail
    go_ret2
    exact ⟨by rw [HP.out]; rfl, HT1.out⟩
  | _ =>
    have CP := hide (Any.strconv_ParseInt_10_at64_syntax Tryd.laysC174 s hs hr (.iface e1 e2) w h1 (.inr ⟨_, _, rfl⟩))
    rw [hr] at hp
    have HP := hide hp
    clear hp hr h1 h2 hs ht
    generalize pN s = R at *
    go_enter Tryd.func63, Tryd.ntmps63
    go_wp2_with fail
    refine CP.out.mono ?_
    rintro e w1 ⟨N, rfl, -, -, hb⟩
    have HT1 := hide (calm_below hb)
    clear hb CP
    go_wp2_with fail
    go_ret2
    exact ⟨by rw [HP.out]; rfl, HT1.out⟩

end Go.Proofs.YtjambfncemlenaaDoor
