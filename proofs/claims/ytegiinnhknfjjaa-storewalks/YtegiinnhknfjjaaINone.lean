/- Calls of a map that is none. -/
import Derived.Test.YtegiinnhknfjjaaIWhole
namespace Go.Proofs.Ytegiinnhknfjjaa.IM
open Go.RowKit

/-- No map, or one that no call made. -/
def No (w : World) (mp : Option Addr) : Prop := mp = none ∨ ∃ m, mp = some ⟨m, 0, none⟩ ∧ w.heap[m]? = some (.cells #[.nilFunc, .pointer none] 41 (0, 0))

theorem No.calm {w w' : World} {mp : Option Addr} (h : No w mp) (ht : Calm w w') : No w' mp := by
  rcases h with h | ⟨m, e, h⟩
  · exact .inl h
  · exact .inr ⟨m, e, ht.at h⟩

theorem No.there {w : World} {mp : Option Addr} (h : No w mp) : Calls Try.prog 33 #[.pointer mp] w fun e w' => e = .returned (.bool false) ∧ w' = w := by
  rcases h with rfl | ⟨m, rfl, h⟩
  · exact there_nil w
  · exact there_zero w m h

set_option maxRecDepth 100000 in
theorem no_put (mp : Option Addr) (a b : Int) (w : World) (h : No w mp) : Calls Try.prog 13 #[.pointer mp, .int .i64 a, .int .i64 b] w fun e w' => e = .returned (.tuple #[.int .i64 0, .bool false, .int .i64 1]) ∧ w' = w := by
  have TH := hide h.there
  clear h
  go_enter Try.func13, Try.ntmps13
  go_wp2_with fail
  refine TH.out.mono ?_
  rintro e w' ⟨rfl, hq⟩
  obtain rfl := hq.symm
  clear hq TH
  go_wp2_with fail
  go_ret3
  exact ⟨rfl, rfl⟩

set_option maxRecDepth 100000 in
theorem no_get (mp : Option Addr) (a : Int) (w : World) (h : No w mp) : Calls Try.prog 37 #[.pointer mp, .int .i64 a] w fun e w' => e = .returned (.tuple #[.int .i64 0, .bool false]) ∧ w' = w := by
  have TH := hide h.there
  clear h
  go_enter Try.func37, Try.ntmps37
  go_wp2_with fail
  refine TH.out.mono ?_
  rintro e w' ⟨rfl, hq⟩
  obtain rfl := hq.symm
  clear hq TH
  go_wp2_with fail
  go_ret2
  exact ⟨rfl, rfl⟩

set_option maxRecDepth 100000 in
theorem no_take (mp : Option Addr) (a : Int) (w : World) (h : No w mp) : Calls Try.prog 35 #[.pointer mp, .int .i64 a] w fun e w' => e = .returned (.tuple #[.int .i64 0, .bool false]) ∧ w' = w := by
  have TH := hide h.there
  clear h
  go_enter Try.func35, Try.ntmps35
  go_wp2_with fail
  refine TH.out.mono ?_
  rintro e w' ⟨rfl, hq⟩
  obtain rfl := hq.symm
  clear hq TH
  go_wp2_with fail
  go_ret2
  exact ⟨rfl, rfl⟩

set_option maxRecDepth 100000 in
theorem no_place (mp : Option Addr) (a : Int) (w : World) (h : No w mp) : Calls Try.prog 39 #[.pointer mp, .int .i64 a] w fun e w' => e = .returned (.tuple #[.int .i64 0, .bool false]) ∧ w' = w := by
  have TH := hide h.there
  clear h
  go_enter Try.func39, Try.ntmps39
  go_wp2_with fail
  refine TH.out.mono ?_
  rintro e w' ⟨rfl, hq⟩
  obtain rfl := hq.symm
  clear hq TH
  go_wp2_with fail
  go_ret2
  exact ⟨rfl, rfl⟩

set_option maxRecDepth 100000 in
theorem no_at (mp : Option Addr) (a : Int) (w : World) (h : No w mp) : Calls Try.prog 41 #[.pointer mp, .int .i64 a] w fun e w' => e = .returned (.tuple #[.int .i64 0, .int .i64 0, .bool false]) ∧ w' = w := by
  have TH := hide h.there
  clear h
  go_enter Try.func41, Try.ntmps41
  go_wp2_with fail
  refine TH.out.mono ?_
  rintro e w' ⟨rfl, hq⟩
  obtain rfl := hq.symm
  clear hq TH
  go_wp2_with fail
  go_ret3
  exact ⟨rfl, rfl⟩

set_option maxRecDepth 100000 in
theorem no_len (mp : Option Addr) (w : World) (h : No w mp) : Calls Try.prog 43 #[.pointer mp] w fun e w' => e = .returned (.int .i64 0) ∧ w' = w := by
  have TH := hide h.there
  clear h
  go_enter Try.func43, Try.ntmps43
  go_wp2_with fail
  refine TH.out.mono ?_
  rintro e w' ⟨rfl, hq⟩
  obtain rfl := hq.symm
  clear hq TH
  go_wp2_with fail
  go_ret
  exact ⟨rfl, rfl⟩

set_option maxRecDepth 100000 in
theorem no_copy (mp : Option Addr) (w : World) (h : No w mp) : Calls Try.prog 7 #[.pointer mp] w fun e w' => e = .returned (.pointer none) ∧ w' = w := by
  have TH := hide h.there
  clear h
  go_enter Try.func7, Try.ntmps7
  go_wp2_with fail
  refine TH.out.mono ?_
  rintro e w' ⟨rfl, hq⟩
  obtain rfl := hq.symm
  clear hq TH
  go_wp2_with fail
  go_ret
  exact ⟨rfl, rfl⟩

theorem no_walk (mp : Option Addr) (kd : Kd) (lbv : Array Value) (w : World) (h : No w mp) (hl : Wl w (.func (.func 66) #[] lbv) mp kd) :
    Calls Try.prog 42 #[.func (.func 66) #[] lbv, .slice none 0 0, .int .i64 0] w fun e w' => e = .returned (.bool true) ∧ Calm w w' :=
  lwalk_any lbv (fun W => Calm w W) [] _ (fun _ _ h => h.elim) (Wl.none_seq mp kd lbv _ (fun W hW => ⟨hl.calm hW, (h.calm hW).there⟩)) none 0 0 w (fun W hW => hW) (Prs.nil w none) (by simp)

set_option maxRecDepth 100000 in
set_option maxHeartbeats 2000000 in
theorem nothing_any (mp : Option Addr) (w : World) (h : No w mp) : Calls Try.prog 11 #[.pointer mp] w fun e w' => e = .returned (.bool true) ∧ Calm w w' := by
  have H := hide h
  have T0 := hide (Touch.refl (fun _ => False) w)
  clear h
  go_enter Try.func11, Try.ntmps11
  go_wp2_with fail
  refine (no_put mp 1 2 w H.out).mono ?_
  rintro e w' ⟨rfl, hq⟩
  obtain rfl := hq.symm
  clear hq
  go_wp2_with fail
  refine (no_get mp 1 w H.out).mono ?_
  rintro e w' ⟨rfl, hq⟩
  obtain rfl := hq.symm
  clear hq
  go_wp2_with fail
  refine (no_take mp 1 w H.out).mono ?_
  rintro e w' ⟨rfl, hq⟩
  obtain rfl := hq.symm
  clear hq
  go_wp2_with fail
  refine (no_place mp 1 w H.out).mono ?_
  rintro e w' ⟨rfl, hq⟩
  obtain rfl := hq.symm
  clear hq
  go_wp2_with fail
  refine (no_at mp 0 w H.out).mono ?_
  rintro e w' ⟨rfl, hq⟩
  obtain rfl := hq.symm
  clear hq
  go_wp2_with fail
  refine (num_any _ _).mono ?_
  rintro e w' ⟨rfl, hq⟩
  obtain rfl := hq.symm
  clear hq
  go_wp2_with fail
  refine (no_len mp w H.out).mono ?_
  rintro e w' ⟨rfl, hq⟩
  obtain rfl := hq.symm
  clear hq
  go_wp2_with fail
  refine (all_any mp _).mono ?_
  rintro e w1a ⟨fv, rfl, wl, t⟩
  obtain ⟨lbv1, rfl⟩ := wl.shape
  have T1a := hide (T0.out.tr t)
  have WL1 := hide wl
  clear wl t
  go_wp2_with fail
  refine (no_walk mp _ lbv1 w1a (H.out.calm T1a.out) WL1.out).mono ?_
  rintro e w1 ⟨rfl, t⟩
  have T1 := hide (T1a.out.tr t)
  clear t
  go_wp2_with fail
  refine (from_any mp 1 _).mono ?_
  rintro e w2a ⟨fv, rfl, wl, t⟩
  obtain ⟨lbv2, rfl⟩ := wl.shape
  have T2a := hide (T1.out.tr t)
  have WL2 := hide wl
  clear wl t
  go_wp2_with fail
  refine (no_walk mp _ lbv2 w2a (H.out.calm T2a.out) WL2.out).mono ?_
  rintro e w2 ⟨rfl, t⟩
  have T2 := hide (T2a.out.tr t)
  clear t
  go_wp2_with fail
  refine (back_any mp 1 _).mono ?_
  rintro e w3a ⟨fv, rfl, wl, t⟩
  obtain ⟨lbv3, rfl⟩ := wl.shape
  have T3a := hide (T2.out.tr t)
  have WL3 := hide wl
  clear wl t
  go_wp2_with fail
  refine (no_walk mp _ lbv3 w3a (H.out.calm T3a.out) WL3.out).mono ?_
  rintro e w3 ⟨rfl, t⟩
  have T3 := hide (T3a.out.tr t)
  clear t
  go_wp2_with fail
  refine (no_copy mp w3 (H.out.calm T3.out)).mono ?_
  rintro e w' ⟨rfl, hq⟩
  obtain rfl := hq.symm
  clear hq
  go_wp2_with fail
  go_ret
  exact ⟨rfl, T3.out⟩

end Go.Proofs.Ytegiinnhknfjjaa.IM
