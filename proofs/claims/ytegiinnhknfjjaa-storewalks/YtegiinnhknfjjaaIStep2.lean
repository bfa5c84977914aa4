/- The verifier's step: Take, Get, Place, and what is no call. -/
import Derived.Test.YtegiinnhknfjjaaIStep
namespace Go.Proofs.Ytegiinnhknfjjaa.IM
open Go.RowKit

set_option maxRecDepth 100000 in
set_option maxHeartbeats 1000000 in
theorem step_take (m B r : Nat) (which on to_ key value n : Int) (X : List (Int × Int)) (w : World) (h : Bt w m B r which X) (hb : X.length + 1 ≤ 8796093022208) :
    Calls Try.prog 9 #[.pointer (some ⟨m, 0, none⟩), .pointer (some ⟨r, 0, none⟩), opv 3 on to_ key value n] w (StepR w m B r which X) := by
  have T1 := hide ((Touch.refl (fun _ => False) w).alloc (.cells #[.int .i64 3, .int .i64 on, .int .i64 to_, .int .i64 key, .int .i64 value, .int .i64 n] 32))
  have H5 := hide (heap_alloc_last w (.cells #[.int .i64 3, .int .i64 on, .int .i64 to_, .int .i64 key, .int .i64 value, .int .i64 n] 32))
  have BT := hide (h.calm T1.out)
  have LT := hide h.lt
  have DE := hide (h.dec key)
  have HB := hide hb
  have PU := hide (take_any (cmpMade B which) m key _ X BT.out.mt BT.out.ord DE.out ⟨by have := HB.out; omega⟩)
  have HP := hide h
  clear h hb
  obtain ⟨c0, c3, c4, c5⟩ := cells6 H5.out
  have LV := hide (link_val DE.out)
  have LH := hide (link_there DE.out)
  have LP := hide (link_drop DE.out)
  go_enter Try.func9, Try.ntmps9
  go_wp2_with fail
  refine PU.out.mono ?_
  rintro e w2 ⟨rfl, mt2, t2⟩
  have h52 := t2.heap H5.out (fun e => by have := LT.out.1; omega)
  obtain ⟨ao, cap, rf1⟩ := BT.out.rf
  obtain ⟨ro, hM, _⟩ := BT.out.mt
  have rf2 := rf1.touch t2 (fun e => LT.out.2.2.2.1 e.symm) (fun g cs fr e hg => by subst e; exact tags hM hg (by decide) rfl)
  have RP := hide (rtake_any r which key X ao cap w2 rf2 (by have := HB.out; omega))
  rw [LV.out, LH.out, LP.out] at RP
  clear c0 c3 c4 c5
  obtain ⟨c0, c3, c4, c5⟩ := cells6 h52
  have MT2 := hide mt2
  have HT2 := hide t2
  have HO2 := hide (t2.heap BT.out.ord (fun e => LT.out.2.2.2.2.1 e.symm))
  clear mt2 t2 rf2 rf1 hM
  go_wp2_with fail
  refine RP.out.mono ?_
  rintro e w3 ⟨rfl, ⟨ao3, cap3, rf3⟩, t3⟩
  have BT3 : Hid (Bt w3 m B r which (ldrop (ord3 which key) X)) := hide (by
    obtain ⟨ro2, hM2, _⟩ := MT2.out
    exact ⟨MT2.out.touch t3 (fun e => LT.out.2.2.2.1 e) (fun b cs fr e hb => by
      subst e
      obtain ⟨ao4, cap4, rf4⟩ := BT.out.rf
      have := HT2.out.heap rf4.own (fun e => LT.out.2.2.2.1 e.symm)
      exact tags hb this (by decide) rfl), t3.heap HO2.out (fun e => LT.out.2.2.2.2.2 e.symm), ⟨ao3, cap3, rf3⟩, HP.out.up.drop (ord3_ord which) key⟩)
  have T3 : Hid (Touch (fun g => g = m ∨ g = r) w w3) := hide (((T1.out.mono (fun _ _ h => h.elim)).trans HT2.out (fun _ _ h => .inl h)).trans t3 (fun _ _ h => .inr h))
  have HLN := hide (Nat.le_succ_of_le (ldrop_len DE.out).1)
  clear rf3 t3 c0 c3 c4 c5
  generalize was (ord3 which key) X = vv at *
  generalize (it (ord3 which key) X).isSome = th at *
  go_wp2_with fail
  go_ret
  exact ⟨_, rfl, BT3.out, HLN.out, T3.out⟩

set_option maxRecDepth 100000 in
set_option maxHeartbeats 1000000 in
theorem step_get (m B r : Nat) (which on to_ key value n : Int) (X : List (Int × Int)) (w : World) (h : Bt w m B r which X) (hb : X.length + 1 ≤ 8796093022208) :
    Calls Try.prog 9 #[.pointer (some ⟨m, 0, none⟩), .pointer (some ⟨r, 0, none⟩), opv 4 on to_ key value n] w (StepR w m B r which X) := by
  have T1 := hide ((Touch.refl (fun _ => False) w).alloc (.cells #[.int .i64 4, .int .i64 on, .int .i64 to_, .int .i64 key, .int .i64 value, .int .i64 n] 32))
  have H5 := hide (heap_alloc_last w (.cells #[.int .i64 4, .int .i64 on, .int .i64 to_, .int .i64 key, .int .i64 value, .int .i64 n] 32))
  have BT := hide (h.calm T1.out)
  have DE := hide (h.dec key)
  have HB := hide hb
  have PU := hide (get_any (cmpMade B which) m key _ X BT.out.mt BT.out.ord DE.out)
  clear h hb
  obtain ⟨c0, c3, c4, c5⟩ := cells6 H5.out
  go_enter Try.func9, Try.ntmps9
  go_wp2_with fail
  refine PU.out.mono ?_
  rintro e w2 ⟨rfl, t2⟩
  obtain ⟨ao, cap, rf2⟩ := (BT.out.calm t2).rf
  have RP := hide (rget_any r which key X ao cap w2 rf2)
  rw [link_val DE.out, link_there DE.out] at RP
  clear c0 c3 c4 c5
  obtain ⟨c0, c3, c4, c5⟩ := cells6 (t2.at H5.out)
  have T2 := hide (T1.out.tr t2)
  have HT2 := hide t2
  clear t2 rf2
  go_wp2_with fail
  refine RP.out.mono ?_
  rintro e w3 ⟨rfl, t3⟩
  have BT3 := hide (BT.out.calm (HT2.out.tr t3))
  have T3 : Hid (Touch (fun g => g = m ∨ g = r) w w3) := hide ((T2.out.tr t3).mono (fun _ _ h => h.elim))
  clear t3 c0 c3 c4 c5
  generalize was (ord3 which key) X = vv at *
  generalize (it (ord3 which key) X).isSome = th at *
  go_wp2_with fail
  go_ret
  exact ⟨X, rfl, BT3.out, Nat.le_succ _, T3.out⟩

set_option maxRecDepth 100000 in
set_option maxHeartbeats 1000000 in
theorem step_place (m B r : Nat) (which on to_ key value n : Int) (X : List (Int × Int)) (w : World) (h : Bt w m B r which X) (hb : X.length + 1 ≤ 8796093022208) :
    Calls Try.prog 9 #[.pointer (some ⟨m, 0, none⟩), .pointer (some ⟨r, 0, none⟩), opv 5 on to_ key value n] w (StepR w m B r which X) := by
  have T1 := hide ((Touch.refl (fun _ => False) w).alloc (.cells #[.int .i64 5, .int .i64 on, .int .i64 to_, .int .i64 key, .int .i64 value, .int .i64 n] 32))
  have H5 := hide (heap_alloc_last w (.cells #[.int .i64 5, .int .i64 on, .int .i64 to_, .int .i64 key, .int .i64 value, .int .i64 n] 32))
  have BT := hide (h.calm T1.out)
  have DE := hide (h.dec key)
  have HB := hide hb
  have PU := hide (place_any (cmpMade B which) m key _ X BT.out.mt BT.out.ord DE.out ⟨by have := HB.out; omega⟩)
  clear h hb
  obtain ⟨c0, c3, c4, c5⟩ := cells6 H5.out
  go_enter Try.func9, Try.ntmps9
  go_wp2_with fail
  refine PU.out.mono ?_
  rintro e w2 ⟨rfl, t2⟩
  obtain ⟨ao, cap, rf2⟩ := (BT.out.calm t2).rf
  have RP := hide (rplace_any r which key X ao cap w2 rf2)
  rw [link_lead DE.out, link_there DE.out] at RP
  clear c0 c3 c4 c5
  obtain ⟨c0, c3, c4, c5⟩ := cells6 (t2.at H5.out)
  have T2 := hide (T1.out.tr t2)
  have HT2 := hide t2
  clear t2 rf2
  go_wp2_with fail
  refine RP.out.mono ?_
  rintro e w3 ⟨rfl, t3⟩
  have BT3 := hide (BT.out.calm (HT2.out.tr t3))
  have T3 : Hid (Touch (fun g => g = m ∨ g = r) w w3) := hide ((T2.out.tr t3).mono (fun _ _ h => h.elim))
  clear t3 c0 c3 c4 c5
  generalize (up (ord3 which key) X).length = vv at *
  generalize (it (ord3 which key) X).isSome = th at *
  go_wp2_with fail
  go_ret
  exact ⟨X, rfl, BT3.out, Nat.le_succ _, T3.out⟩

set_option maxRecDepth 100000 in
set_option maxHeartbeats 1000000 in
theorem step_none (m B r : Nat) (which kind on to_ key value n : Int) (X : List (Int × Int)) (w : World) (h : Bt w m B r which X) (hk : kind < 0 ∨ 9 < kind) :
    Calls Try.prog 9 #[.pointer (some ⟨m, 0, none⟩), .pointer (some ⟨r, 0, none⟩), opv kind on to_ key value n] w (StepR w m B r which X) := by
  have T1 := hide ((Touch.refl (fun _ => False) w).alloc (.cells #[.int .i64 kind, .int .i64 on, .int .i64 to_, .int .i64 key, .int .i64 value, .int .i64 n] 32))
  have H5 := hide (heap_alloc_last w (.cells #[.int .i64 kind, .int .i64 on, .int .i64 to_, .int .i64 key, .int .i64 value, .int .i64 n] 32))
  have BT := hide (h.calm T1.out)
  have T3 : Hid (Touch (fun g => g = m ∨ g = r) w (w.alloc (.cells #[.int .i64 kind, .int .i64 on, .int .i64 to_, .int .i64 key, .int .i64 value, .int .i64 n] 32))) := hide (T1.out.mono (fun _ _ h => h.elim))
  clear h
  obtain ⟨c0, c3, c4, c5⟩ := cells6 H5.out
  have n3 : ¬ kind = 3 := by omega
  have n4 : ¬ kind = 4 := by omega
  have n5 : ¬ kind = 5 := by omega
  have n6 : ¬ kind = 6 := by omega
  have n7 : ¬ kind = 7 := by omega
  have n8 : ¬ kind = 8 := by omega
  have n9 : ¬ kind = 9 := by omega
  rcases hk with hk | hk
  · have g0 : ¬ 0 ≤ kind := by omega
    go_enter Try.func9, Try.ntmps9
    go_wp2_with fail
    go_ret
    exact ⟨X, rfl, BT.out, Nat.le_succ _, T3.out⟩
  · have g0 : 0 ≤ kind := by omega
    have g2 : ¬ kind ≤ 2 := by omega
    go_enter Try.func9, Try.ntmps9
    go_wp2_with fail
    go_ret
    exact ⟨X, rfl, BT.out, Nat.le_succ _, T3.out⟩

end Go.Proofs.Ytegiinnhknfjjaa.IM
