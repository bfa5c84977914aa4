/- The verifier's step: From, Back, All. -/
import Derived.Test.YtegiinnhknfjjaaIStep2
namespace Go.Proofs.Ytegiinnhknfjjaa.IM
open Go.RowKit

set_option maxRecDepth 100000 in
set_option maxHeartbeats 2000000 in
theorem step_from (m B r : Nat) (which on to_ key value n : Int) (X : List (Int × Int)) (w : World) (h : Bt w m B r which X) (hb : X.length + 1 ≤ 8796093022208) :
    Calls Try.prog 9 #[.pointer (some ⟨m, 0, none⟩), .pointer (some ⟨r, 0, none⟩), opv 7 on to_ key value n] w (StepR w m B r which X) := by
  have T1 := hide ((Touch.refl (fun _ => False) w).alloc (.cells #[.int .i64 7, .int .i64 on, .int .i64 to_, .int .i64 key, .int .i64 value, .int .i64 n] 32))
  have H5 := hide (heap_alloc_last w (.cells #[.int .i64 7, .int .i64 on, .int .i64 to_, .int .i64 key, .int .i64 value, .int .i64 n] 32))
  have BT := hide (h.calm T1.out)
  have DE := hide (h.dec key)
  have HDA := hide (fun key => h.dec key)
  have HB := hide hb
  have FEW := hide (show Few X.length from ⟨by have := HB.out; omega⟩)
  have LL : Hid ((Kd.list (ord3 which) (.fwd key) X).length ≤ 8796093022208) := hide (Nat.le_trans (walk_low (.fwd key)) FEW.out.le)
  clear h hb
  obtain ⟨c0, c3, c4, c5⟩ := cells6 H5.out
  go_enter Try.func9, Try.ntmps9
  go_wp2_with fail
  refine (from_any _ _ _).mono ?_
  rintro e w2 ⟨fv, rfl, wl2, t2⟩
  obtain ⟨lbv, rfl⟩ := wl2.shape
  have BT2 := hide (BT.out.calm t2)
  have H52 := hide (t2.at H5.out)
  have WL := hide wl2
  have T2 := hide (T1.out.tr t2)
  have SQ := hide (Wl.seq (cmpMade B which) m (.fwd key) lbv X (fun key => HDA.out key) FEW.out)
  have LW := hide (fun (W : World) (hW : Calm w2 W) (ao : Option Addr) (cap : Nat) (leave : Int) (hp : Prs W ao (Kd.list (ord3 which) (.fwd key) X)) => lwalk_any lbv _ (Kd.list (ord3 which) (.fwd key) X) _ (fun _ _ h => h) SQ.out ao cap leave W (fun W' h' => ⟨WL.out.calm (hW.tr h'), BT2.out.mt.calm (hW.tr h'), (hW.tr h').at BT2.out.ord⟩) hp LL.out)
  obtain ⟨ao, cap, rf2⟩ := BT2.out.rf
  have HRF := hide rf2
  have FR := hide (fun (W : World) (hW : Calm w2 W) => rfrom_any r which key X ao cap W (rf2.calm hW))
  rw [link_from DE.out] at FR
  clear wl2 t2 c0 c3 c4 c5 rf2 SQ
  generalize Kd.list (ord3 which) (.fwd key) X = D at *
  go_wp2_with fail
  refine wp_region_held (S := Calm w2) (by kernel_rfl) ?_
  have hT0 : Calm w2 { w2 with drawn := w2.drawn + 1 } := (Touch.refl (fun _ => False) w2).drew
  refine wpAnyH_yield 0 219 (.func (.func 66) #[] lbv) rfl rfl (by kernel_rfl) (by kernel_rfl) (by kernel_rfl) (fun _ _ _ h => h) (by kernel_rfl) (fun W hW => by kernel_rfl) (by assumption) rfl rfl ?_
  simp only [Act.put, List.setIfInBounds_toArray, List.set_cons_zero, List.set_cons_succ]
  refine wpAnyH_yield 1 220 (.pointer (some ⟨r, 0, none⟩)) rfl rfl (by kernel_rfl) (by kernel_rfl) (by kernel_rfl) (fun _ _ _ h => h) (by kernel_rfl) (fun W hW => by kernel_rfl) (by assumption) rfl rfl ?_
  simp only [Act.put, List.setIfInBounds_toArray, List.set_cons_zero, List.set_cons_succ]
  refine wpAnyH_yield 2 221 (.pointer (some ⟨w.heap.size, 3, none⟩)) rfl rfl (by kernel_rfl) (by kernel_rfl) (by kernel_rfl) (fun _ _ _ h => h) (by kernel_rfl) (fun W hW => by go_simp) (by assumption) rfl rfl ?_
  simp only [Act.put, List.setIfInBounds_toArray, List.set_cons_zero, List.set_cons_succ]
  refine wpAnyH_yield 3 222 (.int .i64 key) rfl rfl (by kernel_rfl) (by kernel_rfl) (by kernel_rfl) (fun _ _ _ h => h) (by kernel_rfl) (fun W hW => by obtain ⟨c0, c3, c4, c5⟩ := cells6 (hW.at H52.out); go_simp) (by assumption) rfl rfl ?_
  simp only [Act.put, List.setIfInBounds_toArray, List.set_cons_zero, List.set_cons_succ]
  refine wpAnyH_yield 5 224 (.pointer (some ⟨w.heap.size, 5, none⟩)) rfl rfl (by kernel_rfl) (by kernel_rfl) (by kernel_rfl) (fun _ _ _ h => h) (by kernel_rfl) (fun W hW => by go_simp) (by assumption) rfl rfl ?_
  simp only [Act.put, List.setIfInBounds_toArray, List.set_cons_zero, List.set_cons_succ]
  refine wpAnyH_yield 6 225 (.int .i64 n) rfl rfl (by kernel_rfl) (by kernel_rfl) (by kernel_rfl) (fun _ _ _ h => h) (by kernel_rfl) (fun W hW => by obtain ⟨c0, c3, c4, c5⟩ := cells6 (hW.at H52.out); go_simp) (by assumption) rfl rfl ?_
  simp only [Act.put, List.setIfInBounds_toArray, List.set_cons_zero, List.set_cons_succ]
  refine wpAnyH_enter 4 223 18 #[.pointer (some ⟨r, 0, none⟩), .int .i64 key] rfl rfl (by kernel_rfl) (by kernel_rfl) (by kernel_rfl) ?_
  refine (FR.out _ hT0).mono ?_
  rintro e x1 ⟨aox1, capx1, rfl, prsx1, tx1⟩
  have hT1 : Calm w2 x1 := hT0.tr tx1
  refine ⟨_, rfl, hT1, ?_⟩
  simp only [Act.put, List.setIfInBounds_toArray, List.set_cons_zero, List.set_cons_succ]
  refine wpAnyH_enter 7 226 42 #[.func (.func 66) #[] lbv, .slice aox1 D.length capx1, .int .i64 n] rfl rfl (by kernel_rfl) (by kernel_rfl) (by kernel_rfl) ?_
  refine (LW.out _ hT1 aox1 capx1 n prsx1).mono ?_
  rintro e x2 ⟨rfl, tx2⟩
  have hT2 : Calm w2 x2 := hT1.tr tx2
  refine ⟨_, rfl, hT2, ?_⟩
  simp only [Act.put, List.setIfInBounds_toArray, List.set_cons_zero, List.set_cons_succ]
  refine wpAnyH_yield 8 227 (.bool true) rfl rfl (by kernel_rfl) (by kernel_rfl) (by kernel_rfl) (fun _ _ _ h => h) (by kernel_rfl) (fun W hW => by kernel_rfl) (by assumption) rfl rfl ?_
  simp only [Act.put, List.setIfInBounds_toArray, List.set_cons_zero, List.set_cons_succ]
  refine wpAnyH_yield 9 228 (.func (.func 66) #[] lbv) rfl rfl (by kernel_rfl) (by kernel_rfl) (by kernel_rfl) (fun _ _ _ h => h) (by kernel_rfl) (fun W hW => by kernel_rfl) (by assumption) rfl rfl ?_
  simp only [Act.put, List.setIfInBounds_toArray, List.set_cons_zero, List.set_cons_succ]
  refine wpAnyH_yield 10 229 (.pointer (some ⟨r, 0, none⟩)) rfl rfl (by kernel_rfl) (by kernel_rfl) (by kernel_rfl) (fun _ _ _ h => h) (by kernel_rfl) (fun W hW => by kernel_rfl) (by assumption) rfl rfl ?_
  simp only [Act.put, List.setIfInBounds_toArray, List.set_cons_zero, List.set_cons_succ]
  refine wpAnyH_yield 11 230 (.pointer (some ⟨w.heap.size, 3, none⟩)) rfl rfl (by kernel_rfl) (by kernel_rfl) (by kernel_rfl) (fun _ _ _ h => h) (by kernel_rfl) (fun W hW => by go_simp) (by assumption) rfl rfl ?_
  simp only [Act.put, List.setIfInBounds_toArray, List.set_cons_zero, List.set_cons_succ]
  refine wpAnyH_yield 12 231 (.int .i64 key) rfl rfl (by kernel_rfl) (by kernel_rfl) (by kernel_rfl) (fun _ _ _ h => h) (by kernel_rfl) (fun W hW => by obtain ⟨c0, c3, c4, c5⟩ := cells6 (hW.at H52.out); go_simp) (by assumption) rfl rfl ?_
  simp only [Act.put, List.setIfInBounds_toArray, List.set_cons_zero, List.set_cons_succ]
  refine wpAnyH_enter 13 232 18 #[.pointer (some ⟨r, 0, none⟩), .int .i64 key] rfl rfl (by kernel_rfl) (by kernel_rfl) (by kernel_rfl) ?_
  refine (FR.out _ hT2).mono ?_
  rintro e x3 ⟨aox3, capx3, rfl, prsx3, tx3⟩
  have hT3 : Calm w2 x3 := hT2.tr tx3
  refine ⟨_, rfl, hT3, ?_⟩
  simp only [Act.put, List.setIfInBounds_toArray, List.set_cons_zero, List.set_cons_succ]
  refine wpAnyH_enter 14 233 42 #[.func (.func 66) #[] lbv, .slice aox3 D.length capx3, .int .i64 0] rfl rfl (by kernel_rfl) (by kernel_rfl) (by kernel_rfl) ?_
  refine (LW.out _ hT3 aox3 capx3 0 prsx3).mono ?_
  rintro e x4 ⟨rfl, tx4⟩
  have hT4 : Calm w2 x4 := hT3.tr tx4
  refine ⟨_, rfl, hT4, ?_⟩
  simp only [Act.put, List.setIfInBounds_toArray, List.set_cons_zero, List.set_cons_succ]
  refine wpAnyH_yield 15 234 (.bool true) rfl rfl (by kernel_rfl) (by kernel_rfl) (by kernel_rfl) (fun _ _ _ h => h) (by kernel_rfl) (fun W hW => by kernel_rfl) (by assumption) rfl rfl ?_
  simp only [Act.put, List.setIfInBounds_toArray, List.set_cons_zero, List.set_cons_succ]
  refine wpAnyH_yield 16 6 (.bool true) rfl rfl (by kernel_rfl) (by kernel_rfl) (by kernel_rfl) (fun _ _ _ h => h) (by kernel_rfl) (fun W hW => by kernel_rfl) (by assumption) rfl rfl ?_
  simp only [Act.put, List.setIfInBounds_toArray, List.set_cons_zero, List.set_cons_succ]
  refine wpAnyH_done (by kernel_rfl) ?_ _
  have BT4 := hide (BT2.out.calm hT4)
  have T4 : Hid (Touch (fun g => g = m ∨ g = r) w x4) := hide ((T2.out.tr hT4).mono (fun _ _ h => h.elim))
  clear hT4
  go_wp2_with fail
  go_ret
  exact ⟨X, rfl, BT4.out, Nat.le_succ _, T4.out⟩

set_option maxRecDepth 100000 in
set_option maxHeartbeats 2000000 in
theorem step_back (m B r : Nat) (which on to_ key value n : Int) (X : List (Int × Int)) (w : World) (h : Bt w m B r which X) (hb : X.length + 1 ≤ 8796093022208) :
    Calls Try.prog 9 #[.pointer (some ⟨m, 0, none⟩), .pointer (some ⟨r, 0, none⟩), opv 8 on to_ key value n] w (StepR w m B r which X) := by
  have T1 := hide ((Touch.refl (fun _ => False) w).alloc (.cells #[.int .i64 8, .int .i64 on, .int .i64 to_, .int .i64 key, .int .i64 value, .int .i64 n] 32))
  have H5 := hide (heap_alloc_last w (.cells #[.int .i64 8, .int .i64 on, .int .i64 to_, .int .i64 key, .int .i64 value, .int .i64 n] 32))
  have BT := hide (h.calm T1.out)
  have DE := hide (h.dec key)
  have HDA := hide (fun key => h.dec key)
  have HB := hide hb
  have FEW := hide (show Few X.length from ⟨by have := HB.out; omega⟩)
  have LL : Hid ((Kd.list (ord3 which) (.back key) X).length ≤ 8796093022208) := hide (Nat.le_trans (walk_low (.back key)) FEW.out.le)
  clear h hb
  obtain ⟨c0, c3, c4, c5⟩ := cells6 H5.out
  go_enter Try.func9, Try.ntmps9
  go_wp2_with fail
  refine (back_any _ _ _).mono ?_
  rintro e w2 ⟨fv, rfl, wl2, t2⟩
  obtain ⟨lbv, rfl⟩ := wl2.shape
  have BT2 := hide (BT.out.calm t2)
  have H52 := hide (t2.at H5.out)
  have WL := hide wl2
  have T2 := hide (T1.out.tr t2)
  have SQ := hide (Wl.seq (cmpMade B which) m (.back key) lbv X (fun key => HDA.out key) FEW.out)
  have LW := hide (fun (W : World) (hW : Calm w2 W) (ao : Option Addr) (cap : Nat) (leave : Int) (hp : Prs W ao (Kd.list (ord3 which) (.back key) X)) => lwalk_any lbv _ (Kd.list (ord3 which) (.back key) X) _ (fun _ _ h => h) SQ.out ao cap leave W (fun W' h' => ⟨WL.out.calm (hW.tr h'), BT2.out.mt.calm (hW.tr h'), (hW.tr h').at BT2.out.ord⟩) hp LL.out)
  obtain ⟨ao, cap, rf2⟩ := BT2.out.rf
  have HRF := hide rf2
  have FR := hide (fun (W : World) (hW : Calm w2 W) => rback_any r which key X ao cap W (rf2.calm hW) (by have := HB.out; omega))
  rw [link_back DE.out] at FR
  clear wl2 t2 c0 c3 c4 c5 rf2 SQ
  generalize Kd.list (ord3 which) (.back key) X = D at *
  go_wp2_with fail
  refine wp_region_held (S := Calm w2) (by kernel_rfl) ?_
  have hT0 : Calm w2 { w2 with drawn := w2.drawn + 1 } := (Touch.refl (fun _ => False) w2).drew
  refine wpAnyH_yield 0 243 (.func (.func 66) #[] lbv) rfl rfl (by kernel_rfl) (by kernel_rfl) (by kernel_rfl) (fun _ _ _ h => h) (by kernel_rfl) (fun W hW => by kernel_rfl) (by assumption) rfl rfl ?_
  simp only [Act.put, List.setIfInBounds_toArray, List.set_cons_zero, List.set_cons_succ]
  refine wpAnyH_yield 1 244 (.pointer (some ⟨r, 0, none⟩)) rfl rfl (by kernel_rfl) (by kernel_rfl) (by kernel_rfl) (fun _ _ _ h => h) (by kernel_rfl) (fun W hW => by kernel_rfl) (by assumption) rfl rfl ?_
  simp only [Act.put, List.setIfInBounds_toArray, List.set_cons_zero, List.set_cons_succ]
  refine wpAnyH_yield 2 245 (.pointer (some ⟨w.heap.size, 3, none⟩)) rfl rfl (by kernel_rfl) (by kernel_rfl) (by kernel_rfl) (fun _ _ _ h => h) (by kernel_rfl) (fun W hW => by go_simp) (by assumption) rfl rfl ?_
  simp only [Act.put, List.setIfInBounds_toArray, List.set_cons_zero, List.set_cons_succ]
  refine wpAnyH_yield 3 246 (.int .i64 key) rfl rfl (by kernel_rfl) (by kernel_rfl) (by kernel_rfl) (fun _ _ _ h => h) (by kernel_rfl) (fun W hW => by obtain ⟨c0, c3, c4, c5⟩ := cells6 (hW.at H52.out); go_simp) (by assumption) rfl rfl ?_
  simp only [Act.put, List.setIfInBounds_toArray, List.set_cons_zero, List.set_cons_succ]
  refine wpAnyH_yield 5 248 (.pointer (some ⟨w.heap.size, 5, none⟩)) rfl rfl (by kernel_rfl) (by kernel_rfl) (by kernel_rfl) (fun _ _ _ h => h) (by kernel_rfl) (fun W hW => by go_simp) (by assumption) rfl rfl ?_
  simp only [Act.put, List.setIfInBounds_toArray, List.set_cons_zero, List.set_cons_succ]
  refine wpAnyH_yield 6 249 (.int .i64 n) rfl rfl (by kernel_rfl) (by kernel_rfl) (by kernel_rfl) (fun _ _ _ h => h) (by kernel_rfl) (fun W hW => by obtain ⟨c0, c3, c4, c5⟩ := cells6 (hW.at H52.out); go_simp) (by assumption) rfl rfl ?_
  simp only [Act.put, List.setIfInBounds_toArray, List.set_cons_zero, List.set_cons_succ]
  refine wpAnyH_enter 4 247 19 #[.pointer (some ⟨r, 0, none⟩), .int .i64 key] rfl rfl (by kernel_rfl) (by kernel_rfl) (by kernel_rfl) ?_
  refine (FR.out _ hT0).mono ?_
  rintro e x1 ⟨aox1, capx1, rfl, prsx1, tx1⟩
  have hT1 : Calm w2 x1 := hT0.tr tx1
  refine ⟨_, rfl, hT1, ?_⟩
  simp only [Act.put, List.setIfInBounds_toArray, List.set_cons_zero, List.set_cons_succ]
  refine wpAnyH_enter 7 250 42 #[.func (.func 66) #[] lbv, .slice aox1 D.length capx1, .int .i64 n] rfl rfl (by kernel_rfl) (by kernel_rfl) (by kernel_rfl) ?_
  refine (LW.out _ hT1 aox1 capx1 n prsx1).mono ?_
  rintro e x2 ⟨rfl, tx2⟩
  have hT2 : Calm w2 x2 := hT1.tr tx2
  refine ⟨_, rfl, hT2, ?_⟩
  simp only [Act.put, List.setIfInBounds_toArray, List.set_cons_zero, List.set_cons_succ]
  refine wpAnyH_yield 8 251 (.bool true) rfl rfl (by kernel_rfl) (by kernel_rfl) (by kernel_rfl) (fun _ _ _ h => h) (by kernel_rfl) (fun W hW => by kernel_rfl) (by assumption) rfl rfl ?_
  simp only [Act.put, List.setIfInBounds_toArray, List.set_cons_zero, List.set_cons_succ]
  refine wpAnyH_yield 9 252 (.func (.func 66) #[] lbv) rfl rfl (by kernel_rfl) (by kernel_rfl) (by kernel_rfl) (fun _ _ _ h => h) (by kernel_rfl) (fun W hW => by kernel_rfl) (by assumption) rfl rfl ?_
  simp only [Act.put, List.setIfInBounds_toArray, List.set_cons_zero, List.set_cons_succ]
  refine wpAnyH_yield 10 253 (.pointer (some ⟨r, 0, none⟩)) rfl rfl (by kernel_rfl) (by kernel_rfl) (by kernel_rfl) (fun _ _ _ h => h) (by kernel_rfl) (fun W hW => by kernel_rfl) (by assumption) rfl rfl ?_
  simp only [Act.put, List.setIfInBounds_toArray, List.set_cons_zero, List.set_cons_succ]
  refine wpAnyH_yield 11 254 (.pointer (some ⟨w.heap.size, 3, none⟩)) rfl rfl (by kernel_rfl) (by kernel_rfl) (by kernel_rfl) (fun _ _ _ h => h) (by kernel_rfl) (fun W hW => by go_simp) (by assumption) rfl rfl ?_
  simp only [Act.put, List.setIfInBounds_toArray, List.set_cons_zero, List.set_cons_succ]
  refine wpAnyH_yield 12 255 (.int .i64 key) rfl rfl (by kernel_rfl) (by kernel_rfl) (by kernel_rfl) (fun _ _ _ h => h) (by kernel_rfl) (fun W hW => by obtain ⟨c0, c3, c4, c5⟩ := cells6 (hW.at H52.out); go_simp) (by assumption) rfl rfl ?_
  simp only [Act.put, List.setIfInBounds_toArray, List.set_cons_zero, List.set_cons_succ]
  refine wpAnyH_enter 13 256 19 #[.pointer (some ⟨r, 0, none⟩), .int .i64 key] rfl rfl (by kernel_rfl) (by kernel_rfl) (by kernel_rfl) ?_
  refine (FR.out _ hT2).mono ?_
  rintro e x3 ⟨aox3, capx3, rfl, prsx3, tx3⟩
  have hT3 : Calm w2 x3 := hT2.tr tx3
  refine ⟨_, rfl, hT3, ?_⟩
  simp only [Act.put, List.setIfInBounds_toArray, List.set_cons_zero, List.set_cons_succ]
  refine wpAnyH_enter 14 257 42 #[.func (.func 66) #[] lbv, .slice aox3 D.length capx3, .int .i64 0] rfl rfl (by kernel_rfl) (by kernel_rfl) (by kernel_rfl) ?_
  refine (LW.out _ hT3 aox3 capx3 0 prsx3).mono ?_
  rintro e x4 ⟨rfl, tx4⟩
  have hT4 : Calm w2 x4 := hT3.tr tx4
  refine ⟨_, rfl, hT4, ?_⟩
  simp only [Act.put, List.setIfInBounds_toArray, List.set_cons_zero, List.set_cons_succ]
  refine wpAnyH_yield 15 258 (.bool true) rfl rfl (by kernel_rfl) (by kernel_rfl) (by kernel_rfl) (fun _ _ _ h => h) (by kernel_rfl) (fun W hW => by kernel_rfl) (by assumption) rfl rfl ?_
  simp only [Act.put, List.setIfInBounds_toArray, List.set_cons_zero, List.set_cons_succ]
  refine wpAnyH_yield 16 6 (.bool true) rfl rfl (by kernel_rfl) (by kernel_rfl) (by kernel_rfl) (fun _ _ _ h => h) (by kernel_rfl) (fun W hW => by kernel_rfl) (by assumption) rfl rfl ?_
  simp only [Act.put, List.setIfInBounds_toArray, List.set_cons_zero, List.set_cons_succ]
  refine wpAnyH_done (by kernel_rfl) ?_ _
  have BT4 := hide (BT2.out.calm hT4)
  have T4 : Hid (Touch (fun g => g = m ∨ g = r) w x4) := hide ((T2.out.tr hT4).mono (fun _ _ h => h.elim))
  clear hT4
  go_wp2_with fail
  go_ret
  exact ⟨X, rfl, BT4.out, Nat.le_succ _, T4.out⟩

set_option maxRecDepth 100000 in
set_option maxHeartbeats 2000000 in
theorem step_all (m B r : Nat) (which on to_ key value n : Int) (X : List (Int × Int)) (w : World) (h : Bt w m B r which X) (hb : X.length + 1 ≤ 8796093022208) :
    Calls Try.prog 9 #[.pointer (some ⟨m, 0, none⟩), .pointer (some ⟨r, 0, none⟩), opv 9 on to_ key value n] w (StepR w m B r which X) := by
  have T1 := hide ((Touch.refl (fun _ => False) w).alloc (.cells #[.int .i64 9, .int .i64 on, .int .i64 to_, .int .i64 key, .int .i64 value, .int .i64 n] 32))
  have H5 := hide (heap_alloc_last w (.cells #[.int .i64 9, .int .i64 on, .int .i64 to_, .int .i64 key, .int .i64 value, .int .i64 n] 32))
  have BT := hide (h.calm T1.out)
  have DE := hide (h.dec key)
  have HDA := hide (fun key => h.dec key)
  have HB := hide hb
  have FEW := hide (show Few X.length from ⟨by have := HB.out; omega⟩)
  have LL : Hid ((Kd.list (ord3 which) (.all) X).length ≤ 8796093022208) := hide (Nat.le_trans (walk_low (.all)) FEW.out.le)
  clear h hb
  obtain ⟨c0, c3, c4, c5⟩ := cells6 H5.out
  go_enter Try.func9, Try.ntmps9
  go_wp2_with fail
  refine (all_any _ _).mono ?_
  rintro e w2 ⟨fv, rfl, wl2, t2⟩
  obtain ⟨lbv, rfl⟩ := wl2.shape
  have BT2 := hide (BT.out.calm t2)
  have H52 := hide (t2.at H5.out)
  have WL := hide wl2
  have T2 := hide (T1.out.tr t2)
  have SQ := hide (Wl.seq (cmpMade B which) m (.all) lbv X (fun key => HDA.out key) FEW.out)
  have LW := hide (fun (W : World) (hW : Calm w2 W) (ao : Option Addr) (cap : Nat) (leave : Int) (hp : Prs W ao (Kd.list (ord3 which) (.all) X)) => lwalk_any lbv _ (Kd.list (ord3 which) (.all) X) _ (fun _ _ h => h) SQ.out ao cap leave W (fun W' h' => ⟨WL.out.calm (hW.tr h'), BT2.out.mt.calm (hW.tr h'), (hW.tr h').at BT2.out.ord⟩) hp LL.out)
  obtain ⟨ao, cap, rf2⟩ := BT2.out.rf
  have HRF := hide rf2
  have HOW := hide rf2.own
  have HPR := hide rf2.prs
  rw [list_all] at LW SQ LL
  clear wl2 t2 c0 c3 c4 c5 rf2 SQ
  skip
  go_wp2_with fail
  refine wp_region_held (S := Calm w2) (by kernel_rfl) ?_
  have hT0 : Calm w2 { w2 with drawn := w2.drawn + 1 } := (Touch.refl (fun _ => False) w2).drew
  refine wpAnyH_yield 0 265 (.func (.func 66) #[] lbv) rfl rfl (by kernel_rfl) (by kernel_rfl) (by kernel_rfl) (fun _ _ _ h => h) (by kernel_rfl) (fun W hW => by kernel_rfl) (by assumption) rfl rfl ?_
  simp only [Act.put, List.setIfInBounds_toArray, List.set_cons_zero, List.set_cons_succ]
  refine wpAnyH_yield 1 266 (.pointer (some ⟨r, 0, none⟩)) rfl rfl (by kernel_rfl) (by kernel_rfl) (by kernel_rfl) (fun _ _ _ h => h) (by kernel_rfl) (fun W hW => by kernel_rfl) (by assumption) rfl rfl ?_
  simp only [Act.put, List.setIfInBounds_toArray, List.set_cons_zero, List.set_cons_succ]
  refine wpAnyH_yield 2 267 (.pointer (some ⟨r, 0, none⟩)) rfl rfl (by kernel_rfl) (by kernel_rfl) (by kernel_rfl) (fun _ _ _ h => h) (by kernel_rfl) (fun W hW => by kernel_rfl) (by assumption) rfl rfl ?_
  simp only [Act.put, List.setIfInBounds_toArray, List.set_cons_zero, List.set_cons_succ]
  refine wpAnyH_yield 3 268 (.pointer (some ⟨r, 1, none⟩)) rfl rfl (by kernel_rfl) (by kernel_rfl) (by kernel_rfl) (fun _ _ _ h => h) (by kernel_rfl) (fun W hW => by go_simp) (by assumption) rfl rfl ?_
  simp only [Act.put, List.setIfInBounds_toArray, List.set_cons_zero, List.set_cons_succ]
  refine wpAnyH_yield 4 269 (.slice ao X.length cap) rfl rfl (by kernel_rfl) (by kernel_rfl) (by kernel_rfl) (fun _ _ _ h => h) (by kernel_rfl) (fun W hW => by obtain ⟨c0, c1⟩ := cells2 (hW.at HOW.out); go_simp) (by assumption) rfl rfl ?_
  simp only [Act.put, List.setIfInBounds_toArray, List.set_cons_zero, List.set_cons_succ]
  refine wpAnyH_yield 5 270 (.pointer (some ⟨w.heap.size, 5, none⟩)) rfl rfl (by kernel_rfl) (by kernel_rfl) (by kernel_rfl) (fun _ _ _ h => h) (by kernel_rfl) (fun W hW => by go_simp) (by assumption) rfl rfl ?_
  simp only [Act.put, List.setIfInBounds_toArray, List.set_cons_zero, List.set_cons_succ]
  refine wpAnyH_yield 6 271 (.int .i64 n) rfl rfl (by kernel_rfl) (by kernel_rfl) (by kernel_rfl) (fun _ _ _ h => h) (by kernel_rfl) (fun W hW => by obtain ⟨c0, c3, c4, c5⟩ := cells6 (hW.at H52.out); go_simp) (by assumption) rfl rfl ?_
  simp only [Act.put, List.setIfInBounds_toArray, List.set_cons_zero, List.set_cons_succ]
  refine wpAnyH_enter 7 272 42 #[.func (.func 66) #[] lbv, .slice ao X.length cap, .int .i64 n] rfl rfl (by kernel_rfl) (by kernel_rfl) (by kernel_rfl) ?_
  refine (LW.out _ hT0 ao cap n (HPR.out.calm hT0)).mono ?_
  rintro e x2 ⟨rfl, tx2⟩
  have hT2 : Calm w2 x2 := hT0.tr tx2
  refine ⟨_, rfl, hT2, ?_⟩
  simp only [Act.put, List.setIfInBounds_toArray, List.set_cons_zero, List.set_cons_succ]
  refine wpAnyH_yield 8 273 (.bool true) rfl rfl (by kernel_rfl) (by kernel_rfl) (by kernel_rfl) (fun _ _ _ h => h) (by kernel_rfl) (fun W hW => by kernel_rfl) (by assumption) rfl rfl ?_
  simp only [Act.put, List.setIfInBounds_toArray, List.set_cons_zero, List.set_cons_succ]
  refine wpAnyH_yield 9 274 (.func (.func 66) #[] lbv) rfl rfl (by kernel_rfl) (by kernel_rfl) (by kernel_rfl) (fun _ _ _ h => h) (by kernel_rfl) (fun W hW => by kernel_rfl) (by assumption) rfl rfl ?_
  simp only [Act.put, List.setIfInBounds_toArray, List.set_cons_zero, List.set_cons_succ]
  refine wpAnyH_yield 10 275 (.pointer (some ⟨r, 0, none⟩)) rfl rfl (by kernel_rfl) (by kernel_rfl) (by kernel_rfl) (fun _ _ _ h => h) (by kernel_rfl) (fun W hW => by kernel_rfl) (by assumption) rfl rfl ?_
  simp only [Act.put, List.setIfInBounds_toArray, List.set_cons_zero, List.set_cons_succ]
  refine wpAnyH_yield 11 276 (.pointer (some ⟨r, 0, none⟩)) rfl rfl (by kernel_rfl) (by kernel_rfl) (by kernel_rfl) (fun _ _ _ h => h) (by kernel_rfl) (fun W hW => by kernel_rfl) (by assumption) rfl rfl ?_
  simp only [Act.put, List.setIfInBounds_toArray, List.set_cons_zero, List.set_cons_succ]
  refine wpAnyH_yield 12 277 (.pointer (some ⟨r, 1, none⟩)) rfl rfl (by kernel_rfl) (by kernel_rfl) (by kernel_rfl) (fun _ _ _ h => h) (by kernel_rfl) (fun W hW => by go_simp) (by assumption) rfl rfl ?_
  simp only [Act.put, List.setIfInBounds_toArray, List.set_cons_zero, List.set_cons_succ]
  refine wpAnyH_yield 13 278 (.slice ao X.length cap) rfl rfl (by kernel_rfl) (by kernel_rfl) (by kernel_rfl) (fun _ _ _ h => h) (by kernel_rfl) (fun W hW => by obtain ⟨c0, c1⟩ := cells2 (hW.at HOW.out); go_simp) (by assumption) rfl rfl ?_
  simp only [Act.put, List.setIfInBounds_toArray, List.set_cons_zero, List.set_cons_succ]
  refine wpAnyH_enter 14 279 42 #[.func (.func 66) #[] lbv, .slice ao X.length cap, .int .i64 0] rfl rfl (by kernel_rfl) (by kernel_rfl) (by kernel_rfl) ?_
  refine (LW.out _ hT2 ao cap 0 (HPR.out.calm hT2)).mono ?_
  rintro e x4 ⟨rfl, tx4⟩
  have hT4 : Calm w2 x4 := hT2.tr tx4
  refine ⟨_, rfl, hT4, ?_⟩
  simp only [Act.put, List.setIfInBounds_toArray, List.set_cons_zero, List.set_cons_succ]
  refine wpAnyH_yield 15 280 (.bool true) rfl rfl (by kernel_rfl) (by kernel_rfl) (by kernel_rfl) (fun _ _ _ h => h) (by kernel_rfl) (fun W hW => by kernel_rfl) (by assumption) rfl rfl ?_
  simp only [Act.put, List.setIfInBounds_toArray, List.set_cons_zero, List.set_cons_succ]
  refine wpAnyH_yield 16 6 (.bool true) rfl rfl (by kernel_rfl) (by kernel_rfl) (by kernel_rfl) (fun _ _ _ h => h) (by kernel_rfl) (fun W hW => by kernel_rfl) (by assumption) rfl rfl ?_
  simp only [Act.put, List.setIfInBounds_toArray, List.set_cons_zero, List.set_cons_succ]
  refine wpAnyH_done (by kernel_rfl) ?_ _
  have BT4 := hide (BT2.out.calm hT4)
  have T4 : Hid (Touch (fun g => g = m ∨ g = r) w x4) := hide ((T2.out.tr hT4).mono (fun _ _ h => h.elim))
  clear hT4
  go_wp2_with fail
  go_ret
  exact ⟨X, rfl, BT4.out, Nat.le_succ _, T4.out⟩

end Go.Proofs.Ytegiinnhknfjjaa.IM
