/- PanesLines, walked over what the program is to answer. Trees in memory, told by what they hold in order; the small functions. The program's weight, sideOf, pair, over. -/
import Derived.Test.YtamfcmmhmfhhkaaDoorG16
import Derived.Test.YtamfcmmhmfhhkaaDoorG18
import Derived.Test.YtamfcmmhmfhhkaaDoorG6
import Derived.Test.YtamfcmmhmfhhkaaDoorG1
import Derived.Test.YtamfcmmhmfhhkaaDoorG0
namespace Go.Proofs.YtamfcmmhmfhhkaaDoor
open Go.RowKit

set_option maxRecDepth 100000 in
set_option maxHeartbeats 8000000 in
theorem lines18_walk (I : Ppt) (L : List Pn) (ao : Option Addr) (cap : Nat) (x : Pn) (w : World) (hs : encP.Sl w ao cap L) (hp : ∀ j, j < L.length → NumOk (L.getD j pn0)) (hx : NumOk x) (hY : Yv w) : Calls Tryd.prog 3 #[.slice ao L.length cap, pnv x] w fun e w' => e = .returned (.bool true) ∧ Calm w w' := by
  have CK := hide (fun W (h : Calm w W) => known18_any I.toPpk W (hY.calm h))
  have A0 := hide (al_new w (.cells (pnc x) 29))
  have T0 := hide ((Touch.refl (fun _ => False) w).alloc (.cells (pnc x) 29))
  by_cases hn : L.length ≤ 200
  case neg =>
    generalize L.length = n at *
    have hnz : (200 : Int) < (n : Int) := by omega
    clear I hs hp hx
    go_enter Tryd.func3, Tryd.ntmps3
    go_wp2_with fail
    refine (CK.out _ T0.out).mono ?_
    rintro e w1 ⟨rfl, T1⟩
    have HT := hide (T0.out.tr T1)
    clear T1 CK
    go_wp2_with fail
    go_ret
    exact ⟨rfl, HT.out⟩
  have hnz : ¬ (200 : Int) < (L.length : Int) := by omega
  obtain ⟨ls, hls⟩ : ∃ ls : ByteArray, ls = if mayP x then lineB x else ⟨#[]⟩ := ⟨_, rfl⟩
  obtain ⟨le, hle⟩ : ∃ le : Int, le = if mayP x then 0 else 2 := ⟨_, rfl⟩
  obtain ⟨ts, hts⟩ : ∃ ts : ByteArray, ts = if mayT L then strOfNums (txT L L.length) else ⟨#[]⟩ := ⟨_, rfl⟩
  obtain ⟨te, hte⟩ : ∃ te : Int, te = if mayT L then 0 else 2 := ⟨_, rfl⟩
  have CL : Hid (∀ W, Calm w W → Calls Tryd.prog 8 #[pnv x] W fun e w' => e = .returned (.tuple #[.string ls, .int .i64 le]) ∧ Calm W w') := hide (by rw [hls, hle]; exact fun W h => I.line x W hx (hY.calm h))
  have CM : Hid (∀ W, Calls Tryd.prog 9 #[pnv x] W fun e w' => e = .returned (.tuple #[.string ls, .int .i64 le]) ∧ Calm W w') := hide (by rw [hls, hle]; exact fun W => rline_any x hx W)
  have CT : Hid (∀ a c W, encP.Sl W a c L → Calm w W → Calls Tryd.prog 10 #[.slice a L.length c] W fun e w' => e = .returned (.tuple #[.string ts, .int .i64 te]) ∧ Calm W w') := hide (by rw [hts, hte]; exact fun a c W h h2 => I.text L a c W h (by omega) hp (hY.calm h2))
  have CU : Hid (∀ W, encP.Mem W ao L → Calls Tryd.prog 11 #[.slice ao L.length cap] W fun e w' => e = .returned (.tuple #[.string ts, .int .i64 te]) ∧ Calm W w') := hide (by rw [hts, hte]; exact fun W h => rtextP_any L (by omega) hp ao cap W h)
  have CC := hide (fun p q W => I.comp p q W)
  have CD := hide (fun p q W => rcomp_any p q W)
  have CE := hide (lentP_any ao cap L (w.alloc (.cells (pnc x) 29)) (Rc.Sl.calm hs T0.out) (by omega))
  have HS := hide hs
  have SA : Hid (∀ j, j < L.length → ∃ g off, ao = some ⟨g, off, none⟩ ∧ ∀ W, Calm w W → pcell W g (off + j * 9) (L.getD j pn0)) := hide fun j hj => pn_W hs.mem j hj
  clear hs hp I hls hle hts hte
  go_enter Tryd.func3, Tryd.ntmps3
  go_wp2_with fail
  refine CE.out.mono ?_
  rintro e w1 ⟨g, c, rfl, hl1, T1⟩
  have HL := hide hl1
  have A1 := hide (T1.at A0.out)
  have W1 := hide (T0.out.tr T1)
  generalize w.alloc (.cells (pnc x) 29) = w0 at *
  generalize w.heap.size = D at *
  clear hl1 T1 A0 T0 CE
  obtain ⟨⟨c0, c1, c2, c3, c4⟩, c5, c6, c7, c8⟩ := pn_cells A1.out
  go_wp2_with fail
  refine (CL.out _ W1.out).mono ?_
  rintro e w2 ⟨rfl, T2⟩
  have W2 := hide (W1.out.tr T2)
  have A2 := hide (T2.at A1.out)
  have T2 := hide T2
  clear CL c0 c1 c2 c3 c4 c5 c6 c7 c8
  obtain ⟨⟨c0, c1, c2, c3, c4⟩, c5, c6, c7, c8⟩ := pn_cells A2.out
  go_wp2_with fail
  refine (CM.out _).mono ?_
  rintro e w3 ⟨rfl, T3⟩
  have W3 := hide (W2.out.tr T3)
  have A3 := hide (T3.at A2.out)
  have L3 := hide ((HL.out.calm T2.out).calm T3)
  clear CM c0 c1 c2 c3 c4 c5 c6 c7 c8 T2 T3 A1 A2 W1 W2 HL
  go_wp2_with fail
  refine (CT.out _ _ _ L3.out.sl W3.out).mono ?_
  rintro e w4 ⟨rfl, T4⟩
  have W4 := hide (W3.out.tr T4)
  have A4 := hide (T4.at A3.out)
  have L4 := hide (L3.out.calm T4)
  clear CT T4 A3 W3 L3
  go_wp2_with fail
  refine (CU.out _ (Rc.Mem.calm HS.out.mem W4.out)).mono ?_
  rintro e w5 ⟨rfl, T5⟩
  have W5 := hide (W4.out.tr T5)
  have A5 := hide (T5.at A4.out)
  have L5 := hide (L4.out.calm T5)
  clear CU T5 A4 W4 L4
  have CKe := hide (fun W (h : Calm w5 W) => keptP_any _ g c ao cap L W (L5.out.calm h) (Rc.Mem.calm HS.out.mem (W5.out.tr h)) (by omega))
  generalize hN : L.length = n at *
  have HN := hide hN
  clear hN
  obtain ⟨fx, hfx⟩ : ∃ fx : Nat → Pn, ∀ j, L.getD j pn0 = fx j := ⟨fun j => L.getD j pn0, fun _ => rfl⟩
  simp only [hfx] at SA
  clear hfx
  have SX := hide (cmpP_self x)
  clear HS L5
  go_wp2_with fail
  refine (CKe.out _ (Touch.refl _ _)).mono ?_
  rintro e w6 ⟨rfl, T6⟩
  have W6 := hide (W5.out.tr T6)
  have A6 := hide (T6.at A5.out)
  clear CKe T6 A5 W5
  go_wp2_with fail
  go_loopw [14] (fun s14 wr => ∃ i : Nat, s14 = .int .i64 (i : Int) ∧ i ≤ n ∧ Calm w6 wr) (fun s14 _ => n - (intOf s14).toNat)
  case atStart => exact ⟨0, rfl, by omega, Touch.refl _ _⟩
  case round =>
    obtain ⟨i, rfl, hi, TE⟩ := hrel
    have HT := hide TE
    clear TE
    by_cases hlt : i < n
    · have hltz : (i : Int) < (n : Int) := by omega
      obtain ⟨ga, oa, rfl, ca⟩ := SA.out i hlt
      have KA : Hid (∀ W, Calm w6 W → pcell W ga (oa + i * 9) (fx i)) := hide fun W hW => ca W (W6.out.tr hW)
      generalize fx i = y at *
      have C1 := hide (fun W => CC.out y x W)
      have C2 := hide (fun W => CD.out y x W)
      have C3 := hide (fun W => CC.out x y W)
      have C4 := hide (fun W => CD.out x y W)
      generalize cmpP y x = r1 at *
      generalize cmpP x y = r2 at *
      clear ca SA CC CD CK
      go_wp2_with fail
      refine wp_region_held (S := Calm w6) (by kernel_rfl) ?_
      have hT0 : Calm w6 { wr with drawn := wr.drawn + 1 } := HT.out.drew
      have KX : Hid (∀ W, Calm w6 W → pcell W D 0 x) := hide fun W hW => by
        have := pn_cells (hW.at A6.out)
        exact this
      refine wpAnyH_yield 0 71 (.slice (some ⟨ga, oa, none⟩) n cap) rfl rfl (by kernel_rfl) (by kernel_rfl) (by kernel_rfl) (fun _ _ _ h => h) (by kernel_rfl) (fun W hW => by kernel_rfl) (by assumption) rfl rfl ?_
      simp only [Act.put, List.setIfInBounds_toArray, List.set_cons_zero, List.set_cons_succ]
      refine wpAnyH_yield 1 72 (.int .i64 (i : Int)) rfl rfl (by kernel_rfl) (by kernel_rfl) (by kernel_rfl) (fun _ _ _ h => h) (by kernel_rfl) (fun W hW => by kernel_rfl) (by assumption) rfl rfl ?_
      simp only [Act.put, List.setIfInBounds_toArray, List.set_cons_zero, List.set_cons_succ]
      refine wpAnyH_yield 2 73 (.pointer (some ⟨ga, oa + i * 9, none⟩)) rfl rfl (by kernel_rfl) (by kernel_rfl) (by kernel_rfl) (fun _ _ _ h => h) (by kernel_rfl) (fun W hW => by go_simp) (by assumption) rfl rfl ?_
      simp only [Act.put, List.setIfInBounds_toArray, List.set_cons_zero, List.set_cons_succ]
      refine wpAnyH_yield 3 74 (pnv y) rfl rfl (by kernel_rfl) (by kernel_rfl) (by kernel_rfl) (fun _ _ _ h => h) (by kernel_rfl) (fun W hW => by obtain ⟨⟨c0, c1, c2, c3, c4⟩, c5, c6, c7, c8⟩ := KA.out W hW; go_simp) (by assumption) rfl rfl ?_
      simp only [Act.put, List.setIfInBounds_toArray, List.set_cons_zero, List.set_cons_succ]
      refine wpAnyH_yield 4 75 (pnv x) rfl rfl (by kernel_rfl) (by kernel_rfl) (by kernel_rfl) (fun _ _ _ h => h) (by kernel_rfl) (fun W hW => by obtain ⟨⟨c0, c1, c2, c3, c4⟩, c5, c6, c7, c8⟩ := KX.out W hW; go_simp) (by assumption) rfl rfl ?_
      simp only [Act.put, List.setIfInBounds_toArray, List.set_cons_zero, List.set_cons_succ]
      refine wpAnyH_yield 6 77 (.slice (some ⟨ga, oa, none⟩) n cap) rfl rfl (by kernel_rfl) (by kernel_rfl) (by kernel_rfl) (fun _ _ _ h => h) (by kernel_rfl) (fun W hW => by kernel_rfl) (by assumption) rfl rfl ?_
      simp only [Act.put, List.setIfInBounds_toArray, List.set_cons_zero, List.set_cons_succ]
      refine wpAnyH_yield 7 78 (.int .i64 (i : Int)) rfl rfl (by kernel_rfl) (by kernel_rfl) (by kernel_rfl) (fun _ _ _ h => h) (by kernel_rfl) (fun W hW => by kernel_rfl) (by assumption) rfl rfl ?_
      simp only [Act.put, List.setIfInBounds_toArray, List.set_cons_zero, List.set_cons_succ]
      refine wpAnyH_yield 8 79 (.pointer (some ⟨ga, oa + i * 9, none⟩)) rfl rfl (by kernel_rfl) (by kernel_rfl) (by kernel_rfl) (fun _ _ _ h => h) (by kernel_rfl) (fun W hW => by go_simp) (by assumption) rfl rfl ?_
      simp only [Act.put, List.setIfInBounds_toArray, List.set_cons_zero, List.set_cons_succ]
      refine wpAnyH_yield 9 80 (pnv y) rfl rfl (by kernel_rfl) (by kernel_rfl) (by kernel_rfl) (fun _ _ _ h => h) (by kernel_rfl) (fun W hW => by obtain ⟨⟨c0, c1, c2, c3, c4⟩, c5, c6, c7, c8⟩ := KA.out W hW; go_simp) (by assumption) rfl rfl ?_
      simp only [Act.put, List.setIfInBounds_toArray, List.set_cons_zero, List.set_cons_succ]
      refine wpAnyH_yield 10 81 (pnv x) rfl rfl (by kernel_rfl) (by kernel_rfl) (by kernel_rfl) (fun _ _ _ h => h) (by kernel_rfl) (fun W hW => by obtain ⟨⟨c0, c1, c2, c3, c4⟩, c5, c6, c7, c8⟩ := KX.out W hW; go_simp) (by assumption) rfl rfl ?_
      simp only [Act.put, List.setIfInBounds_toArray, List.set_cons_zero, List.set_cons_succ]
      refine wpAnyH_enter 5 76 13 #[pnv y, pnv x] rfl rfl (by kernel_rfl) (by kernel_rfl) (by kernel_rfl) ?_
      refine ((C1.out _)).mono ?_
      rintro r v1 ⟨rfl, t1⟩
      refine ⟨_, rfl, hT0.tr t1, ?_⟩
      simp only [Act.put, List.setIfInBounds_toArray, List.set_cons_zero, List.set_cons_succ]
      have hT1 := hT0.tr t1
      refine wpAnyH_enter 11 82 14 #[pnv y, pnv x] rfl rfl (by kernel_rfl) (by kernel_rfl) (by kernel_rfl) ?_
      refine ((C2.out _)).mono ?_
      rintro r v2 ⟨rfl, t2⟩
      refine ⟨_, rfl, hT1.tr t2, ?_⟩
      simp only [Act.put, List.setIfInBounds_toArray, List.set_cons_zero, List.set_cons_succ]
      have hT2 := hT1.tr t2
      refine wpAnyH_yield 12 83 (.bool false) rfl rfl (by kernel_rfl) (by kernel_rfl) (by kernel_rfl) (fun _ _ _ h => h) (by kernel_rfl) (fun W hW => by go_simp) (by assumption) rfl rfl ?_
      simp only [Act.put, List.setIfInBounds_toArray, List.set_cons_zero, List.set_cons_succ]
      refine wpAnyH_yield 13 84 (.bool false) rfl rfl (by kernel_rfl) (by kernel_rfl) (by kernel_rfl) (fun _ _ _ h => h) (by kernel_rfl) (fun W hW => by kernel_rfl) (by assumption) rfl rfl ?_
      simp only [Act.put, List.setIfInBounds_toArray, List.set_cons_zero, List.set_cons_succ]
      refine wpAnyH_yield 14 85 (pnv x) rfl rfl (by kernel_rfl) (by kernel_rfl) (by kernel_rfl) (fun _ _ _ h => h) (by kernel_rfl) (fun W hW => by obtain ⟨⟨c0, c1, c2, c3, c4⟩, c5, c6, c7, c8⟩ := KX.out W hW; go_simp) (by assumption) rfl rfl ?_
      simp only [Act.put, List.setIfInBounds_toArray, List.set_cons_zero, List.set_cons_succ]
      refine wpAnyH_yield 15 86 (.slice (some ⟨ga, oa, none⟩) n cap) rfl rfl (by kernel_rfl) (by kernel_rfl) (by kernel_rfl) (fun _ _ _ h => h) (by kernel_rfl) (fun W hW => by kernel_rfl) (by assumption) rfl rfl ?_
      simp only [Act.put, List.setIfInBounds_toArray, List.set_cons_zero, List.set_cons_succ]
      refine wpAnyH_yield 16 87 (.int .i64 (i : Int)) rfl rfl (by kernel_rfl) (by kernel_rfl) (by kernel_rfl) (fun _ _ _ h => h) (by kernel_rfl) (fun W hW => by kernel_rfl) (by assumption) rfl rfl ?_
      simp only [Act.put, List.setIfInBounds_toArray, List.set_cons_zero, List.set_cons_succ]
      refine wpAnyH_yield 17 88 (.pointer (some ⟨ga, oa + i * 9, none⟩)) rfl rfl (by kernel_rfl) (by kernel_rfl) (by kernel_rfl) (fun _ _ _ h => h) (by kernel_rfl) (fun W hW => by go_simp) (by assumption) rfl rfl ?_
      simp only [Act.put, List.setIfInBounds_toArray, List.set_cons_zero, List.set_cons_succ]
      refine wpAnyH_yield 18 89 (pnv y) rfl rfl (by kernel_rfl) (by kernel_rfl) (by kernel_rfl) (fun _ _ _ h => h) (by kernel_rfl) (fun W hW => by obtain ⟨⟨c0, c1, c2, c3, c4⟩, c5, c6, c7, c8⟩ := KA.out W hW; go_simp) (by assumption) rfl rfl ?_
      simp only [Act.put, List.setIfInBounds_toArray, List.set_cons_zero, List.set_cons_succ]
      refine wpAnyH_yield 20 91 (pnv x) rfl rfl (by kernel_rfl) (by kernel_rfl) (by kernel_rfl) (fun _ _ _ h => h) (by kernel_rfl) (fun W hW => by obtain ⟨⟨c0, c1, c2, c3, c4⟩, c5, c6, c7, c8⟩ := KX.out W hW; go_simp) (by assumption) rfl rfl ?_
      simp only [Act.put, List.setIfInBounds_toArray, List.set_cons_zero, List.set_cons_succ]
      refine wpAnyH_yield 21 92 (.slice (some ⟨ga, oa, none⟩) n cap) rfl rfl (by kernel_rfl) (by kernel_rfl) (by kernel_rfl) (fun _ _ _ h => h) (by kernel_rfl) (fun W hW => by kernel_rfl) (by assumption) rfl rfl ?_
      simp only [Act.put, List.setIfInBounds_toArray, List.set_cons_zero, List.set_cons_succ]
      refine wpAnyH_yield 22 93 (.int .i64 (i : Int)) rfl rfl (by kernel_rfl) (by kernel_rfl) (by kernel_rfl) (fun _ _ _ h => h) (by kernel_rfl) (fun W hW => by kernel_rfl) (by assumption) rfl rfl ?_
      simp only [Act.put, List.setIfInBounds_toArray, List.set_cons_zero, List.set_cons_succ]
      refine wpAnyH_yield 23 94 (.pointer (some ⟨ga, oa + i * 9, none⟩)) rfl rfl (by kernel_rfl) (by kernel_rfl) (by kernel_rfl) (fun _ _ _ h => h) (by kernel_rfl) (fun W hW => by go_simp) (by assumption) rfl rfl ?_
      simp only [Act.put, List.setIfInBounds_toArray, List.set_cons_zero, List.set_cons_succ]
      refine wpAnyH_yield 24 95 (pnv y) rfl rfl (by kernel_rfl) (by kernel_rfl) (by kernel_rfl) (fun _ _ _ h => h) (by kernel_rfl) (fun W hW => by obtain ⟨⟨c0, c1, c2, c3, c4⟩, c5, c6, c7, c8⟩ := KA.out W hW; go_simp) (by assumption) rfl rfl ?_
      simp only [Act.put, List.setIfInBounds_toArray, List.set_cons_zero, List.set_cons_succ]
      refine wpAnyH_enter 19 90 13 #[pnv x, pnv y] rfl rfl (by kernel_rfl) (by kernel_rfl) (by kernel_rfl) ?_
      refine ((C3.out _)).mono ?_
      rintro r v3 ⟨rfl, t3⟩
      refine ⟨_, rfl, hT2.tr t3, ?_⟩
      simp only [Act.put, List.setIfInBounds_toArray, List.set_cons_zero, List.set_cons_succ]
      have hT3 := hT2.tr t3
      refine wpAnyH_enter 25 96 14 #[pnv x, pnv y] rfl rfl (by kernel_rfl) (by kernel_rfl) (by kernel_rfl) ?_
      refine ((C4.out _)).mono ?_
      rintro r v4 ⟨rfl, t4⟩
      refine ⟨_, rfl, hT3.tr t4, ?_⟩
      simp only [Act.put, List.setIfInBounds_toArray, List.set_cons_zero, List.set_cons_succ]
      have hT4 := hT3.tr t4
      refine wpAnyH_yield 26 97 (.bool false) rfl rfl (by kernel_rfl) (by kernel_rfl) (by kernel_rfl) (fun _ _ _ h => h) (by kernel_rfl) (fun W hW => by go_simp) (by assumption) rfl rfl ?_
      simp only [Act.put, List.setIfInBounds_toArray, List.set_cons_zero, List.set_cons_succ]
      refine wpAnyH_yield 27 98 (.bool false) rfl rfl (by kernel_rfl) (by kernel_rfl) (by kernel_rfl) (fun _ _ _ h => h) (by kernel_rfl) (fun W hW => by kernel_rfl) (by assumption) rfl rfl ?_
      simp only [Act.put, List.setIfInBounds_toArray, List.set_cons_zero, List.set_cons_succ]
      refine wpAnyH_done (by kernel_rfl) ?_ _
      have H1 := hide hT4
      clear hT0 hT1 hT2 hT3 hT4 t1 t2 t3 t4 C1 C2 C3 C4 KX KA HT
      go_wp2_with fail
      go_roundw
      case rel => exact ⟨i + 1, by go_num, by omega, H1.out⟩
      case measure => simp [intOf]; omega
    · have hltz : ¬ (i : Int) < (n : Int) := by omega
      obtain ⟨⟨c0, c1, c2, c3, c4⟩, c5, c6, c7, c8⟩ := pn_cells (HT.out.at A6.out)
      have C1 := hide (fun W => CC.out x x W)
      rw [SX.out] at C1
      clear SA CC CD
      go_wp2_with fail
      refine (C1.out _).mono ?_
      rintro e w7 ⟨rfl, T7⟩
      have W7 := hide ((W6.out.tr HT.out).tr T7)
      clear C1 T7 HT
      go_wp2_with fail
      refine (CK.out _ W7.out).mono ?_
      rintro e w8 ⟨rfl, T8⟩
      have W8 := hide (W7.out.tr T8)
      clear T8
      go_wp2_with fail
      go_ret
      exact ⟨rfl, W8.out⟩

end Go.Proofs.YtamfcmmhmfhhkaaDoor

namespace Go.Proofs.YtamfcmmhmfhhkaaDoor.LM
open Go.RowKit

/-- A tree in memory, told by what it holds in order. -/
inductive TL (w : World) : Value → List (ByteArray × (Option Addr × Nat × Nat)) → Prop
  | nil : TL w (.pointer none) []
  | node {b : Nat} {k : ByteArray} {v : (Option Addr × Nat × Nat)} {p q : Option Addr} {L R : List (ByteArray × (Option Addr × Nat × Nat))}
      (hb : w.heap[b]? = some (.cells #[.string k, .slice v.1 v.2.1 v.2.2, .int .i64 (((L.length + 1 + R.length : Nat)) : Int), .pointer p, .pointer q] 117 (0, 0)))
      (hl : TL w (.pointer p) L) (hr : TL w (.pointer q) R) : TL w (.pointer (some ⟨b, 0, none⟩)) (L ++ (k, v) :: R)

theorem TL.calm {w w' : World} {p : Value} {L : List (ByteArray × (Option Addr × Nat × Nat))} (h : TL w p L) (ht : Calm w w') : TL w' p L := by
  induction h with
  | nil => exact .nil
  | node hb _ _ il ir => exact .node (ht.at hb) il ir

theorem TL.ptr {w : World} {p : Value} {L : List (ByteArray × (Option Addr × Nat × Nat))} (h : TL w p L) : ∃ a, p = .pointer a := by cases h <;> exact ⟨_, rfl⟩

theorem TL.none_of {w : World} {p : Value} (h : TL w p []) : p = .pointer none := by
  generalize hX : ([] : List (ByteArray × (Option Addr × Nat × Nat))) = X at h
  cases h with
  | nil => rfl
  | node => simp at hX

theorem TL.some_of {w : World} {p : Option Addr} {X : List (ByteArray × (Option Addr × Nat × Nat))} (h : TL w (.pointer p) X) (hne : X ≠ []) : ∃ b, p = some b := by
  cases h with
  | nil => exact absurd rfl hne
  | node => exact ⟨_, rfl⟩

set_option maxRecDepth 100000 in
theorem size_any (p : Value) (L : List (ByteArray × (Option Addr × Nat × Nat))) (w : World) (h : TL w p L) : Calls Tryd.prog 114 #[p] w fun e w' => e = .returned (.int .i64 (L.length : Nat)) ∧ w' = w := by
  cases h with
  | nil =>
    go_enter Tryd.func114, Tryd.ntmps114
    go_wp2_with fail
    go_ret
    exact ⟨rfl, rfl⟩
  | node hb hl hr =>
    obtain ⟨c0, c1, c2, c3, c4⟩ := cells5 hb
    rename_i b k v p q L R
    have e : (L ++ (k, v) :: R).length = L.length + 1 + R.length := by simp; omega
    rw [e]
    generalize L.length + 1 + R.length = n at *
    go_enter Tryd.func114, Tryd.ntmps114
    go_wp2_with fail
    go_ret
    exact ⟨rfl, rfl⟩

end Go.Proofs.YtamfcmmhmfhhkaaDoor.LM

namespace Go.Proofs.YtamfcmmhmfhhkaaDoor.LM
open Go.RowKit

/-- So many keys can be counted, and thrice as many. -/
structure Low (n : Nat) : Prop where
  le : n ≤ 1152921504606846976

/-- A node's own cells. -/
def Nd (w : World) (b : Nat) (k : ByteArray) (v : (Option Addr × Nat × Nat)) (p q : Option Addr) : Prop :=
  ∃ n : Int, w.heap[b]? = some (.cells #[.string k, .slice v.1 v.2.1 v.2.2, .int .i64 n, .pointer p, .pointer q] 117 (0, 0))

theorem Nd.calm {w w' : World} {b : Nat} {k : ByteArray} {v : (Option Addr × Nat × Nat)} {p q : Option Addr} (h : Nd w b k v p q) (ht : Calm w w') : Nd w' b k v p q := by
  obtain ⟨n, h⟩ := h
  exact ⟨n, ht.at h⟩

/-- What stands in order: A on side s, B on the other one. -/
def row (s : Int) (x : ByteArray × (Option Addr × Nat × Nat)) (A B : List (ByteArray × (Option Addr × Nat × Nat))) : List (ByteArray × (Option Addr × Nat × Nat)) := if s = 0 then A ++ x :: B else B ++ x :: A

theorem row0 (x : ByteArray × (Option Addr × Nat × Nat)) (A B : List (ByteArray × (Option Addr × Nat × Nat))) : row 0 x A B = A ++ x :: B := rfl
theorem row1 (x : ByteArray × (Option Addr × Nat × Nat)) (A B : List (ByteArray × (Option Addr × Nat × Nat))) : row 1 x A B = B ++ x :: A := rfl

theorem wrap_1 {n : Nat} (h : n + 1 < 9223372036854775808) : wrap64 ((n : Int) + 1) = ((n + 1 : Nat) : Int) := by unfold wrap64; omega

set_option maxRecDepth 100000 in
theorem weight_any (p : Value) (L : List (ByteArray × (Option Addr × Nat × Nat))) (w : World) (h : TL w p L) (hl : Low L.length) : Calls Tryd.prog 111 #[p] w fun e w' => e = .returned (.int .i64 (L.length + 1 : Nat)) ∧ w' = w := by
  have S := hide (size_any p L w h)
  have W := hide (wrap_1 (n := L.length) (by have := hl.le; omega))
  obtain ⟨a, rfl⟩ := h.ptr
  clear h hl
  generalize L.length = n at *
  go_enter Tryd.func111, Tryd.ntmps111
  go_wp2_with fail
  refine S.out.mono ?_
  rintro e w' ⟨rfl, rfl⟩
  go_wp2_with fail
  go_ret
  exact ⟨by rw [W.out]; rfl, rfl⟩

set_option maxRecDepth 100000 in
theorem pair0_any (p q : Option Addr) (w : World) : Calls Tryd.prog 107 #[.int .i64 0, .pointer p, .pointer q] w fun e w' => e = .returned (.agg #[.pointer p, .pointer q]) ∧ Calm w w' := by
  go_enter Tryd.func107, Tryd.ntmps107
  go_wp2_with fail
  refine bodyPost_ret (results_cell_row rfl _ _ _ _ _ _ _ rfl ((Below.heap_alloc _ _ _ (by simp)).trans (heap_alloc_last w _)) Tryd.underlying115 rfl (by kernel_rfl)) rfl ?_
  exact ⟨rfl, ((Touch.refl _ _).alloc _).alloc _⟩

set_option maxRecDepth 100000 in
theorem pair1_any (p q : Option Addr) (w : World) : Calls Tryd.prog 107 #[.int .i64 1, .pointer p, .pointer q] w fun e w' => e = .returned (.agg #[.pointer q, .pointer p]) ∧ Calm w w' := by
  go_enter Tryd.func107, Tryd.ntmps107
  go_wp2_with fail
  refine bodyPost_ret (results_cell_row rfl _ _ _ _ _ _ _ rfl ((Below.heap_alloc _ _ _ (by simp)).trans (heap_alloc_last w _)) Tryd.underlying115 rfl (by kernel_rfl)) rfl ?_
  exact ⟨rfl, ((Touch.refl _ _).alloc _).alloc _⟩

theorem over_sum {l r : Nat} (h : Low (l + 1 + r)) : wrap64 (wrap64 ((l : Int) + 1) + (r : Int)) = ((l + 1 + r : Nat) : Int) := by have := h.le; unfold wrap64; omega

set_option maxRecDepth 100000 in
set_option maxHeartbeats 2000000 in
theorem over_any (b : Nat) (k : ByteArray) (v : (Option Addr × Nat × Nat)) (x y p q : Option Addr) (L R : List (ByteArray × (Option Addr × Nat × Nat))) (w : World) (hn : Nd w b k v x y) (hp : TL w (.pointer p) L) (hq : TL w (.pointer q) R) (hl : Low (L.length + 1 + R.length)) :
    Calls Tryd.prog 113 #[.pointer (some ⟨b, 0, none⟩), .agg #[.pointer p, .pointer q]] w fun e w' => ∃ b', e = .returned (.pointer (some ⟨b', 0, none⟩)) ∧ TL w' (.pointer (some ⟨b', 0, none⟩)) (L ++ (k, v) :: R) ∧ Nd w' b' k v p q ∧ Calm w w' := by
  have W := hide (over_sum hl)
  have SP := hide (fun (W : World) (h : Calm w W) => size_any (.pointer p) L W (hp.calm h))
  have SQ := hide (fun (W : World) (h : Calm w W) => size_any (.pointer q) R W (hq.calm h))
  have HP := hide hp
  have HQ := hide hq
  have T := hide ((Touch.refl (fun _ => False) w).alloc (.cells #[.pointer p, .pointer q] 115))
  obtain ⟨n, hb⟩ := hn
  have HB0 := hide hb
  clear hp hq hl hb
  generalize hll : L.length = l at *
  generalize hrr : R.length = r at *
  have HL := hide hll
  have HR := hide hrr
  clear hll hrr
  go_enter Tryd.func113, Tryd.ntmps113
  go_wp2_with fail
  have HA0 : Hid ((w.alloc (.cells #[.pointer p, .pointer q] 115)).heap[w.heap.size]? = some (.cells #[.pointer p, .pointer q] 115 (0, 0))) := hide (heap_alloc_last w _)
  generalize w.alloc (.cells #[.pointer p, .pointer q] 115) = w0 at *
  refine wp_region_held (S := Calm w0) (by kernel_rfl) ?_
  have hT0 : Calm w0 { w0 with drawn := w0.drawn + 1 } := (Touch.refl (fun _ => False) w0).drew
  refine wpAnyH_yield 0 6 (.pointer (some ⟨w.heap.size, 0, none⟩)) rfl rfl (by kernel_rfl) (by kernel_rfl) (by kernel_rfl) (fun _ _ _ h => h) (by kernel_rfl) (fun W hW => by go_simp) (by assumption) rfl rfl ?_
  simp only [Act.put, List.setIfInBounds_toArray, List.set_cons_zero, List.set_cons_succ]
  refine wpAnyH_yield 1 7 (.pointer p) rfl rfl (by kernel_rfl) (by kernel_rfl) (by kernel_rfl) (fun _ _ _ h => h) (by kernel_rfl) (fun W hW => by obtain ⟨c0, c1⟩ := cells2 (hW.at HA0.out); go_simp) (by assumption) rfl rfl ?_
  simp only [Act.put, List.setIfInBounds_toArray, List.set_cons_zero, List.set_cons_succ]
  refine wpAnyH_yield 4 10 (.pointer (some ⟨w.heap.size, 1, none⟩)) rfl rfl (by kernel_rfl) (by kernel_rfl) (by kernel_rfl) (fun _ _ _ h => h) (by kernel_rfl) (fun W hW => by go_simp) (by assumption) rfl rfl ?_
  simp only [Act.put, List.setIfInBounds_toArray, List.set_cons_zero, List.set_cons_succ]
  refine wpAnyH_yield 5 11 (.pointer q) rfl rfl (by kernel_rfl) (by kernel_rfl) (by kernel_rfl) (fun _ _ _ h => h) (by kernel_rfl) (fun W hW => by obtain ⟨c0, c1⟩ := cells2 (hW.at HA0.out); go_simp) (by assumption) rfl rfl ?_
  simp only [Act.put, List.setIfInBounds_toArray, List.set_cons_zero, List.set_cons_succ]
  refine wpAnyH_enter 2 8 114 #[.pointer p] rfl rfl (by kernel_rfl) (by kernel_rfl) (by kernel_rfl) ?_
  refine (SP.out _ (T.out.tr hT0)).mono ?_
  rintro r _ ⟨rfl, rfl⟩
  refine ⟨_, rfl, hT0, ?_⟩
  simp only [Act.put, List.setIfInBounds_toArray, List.set_cons_zero, List.set_cons_succ]
  refine wpAnyH_yield 3 9 (.int .i64 (wrap64 ((l : Int) + 1))) rfl rfl (by kernel_rfl) (by kernel_rfl) (by kernel_rfl) (fun _ _ _ h => h) (by kernel_rfl) (fun W hW => by go_simp; rw [wrapEq]) (by assumption) rfl rfl ?_
  simp only [Act.put, List.setIfInBounds_toArray, List.set_cons_zero, List.set_cons_succ]
  refine wpAnyH_enter 6 12 114 #[.pointer q] rfl rfl (by kernel_rfl) (by kernel_rfl) (by kernel_rfl) ?_
  refine (SQ.out _ (T.out.tr hT0)).mono ?_
  rintro r _ ⟨rfl, rfl⟩
  refine ⟨_, rfl, hT0, ?_⟩
  simp only [Act.put, List.setIfInBounds_toArray, List.set_cons_zero, List.set_cons_succ]
  refine wpAnyH_yield 7 13 (.int .i64 (wrap64 (wrap64 ((l : Int) + 1) + (r : Int)))) rfl rfl (by kernel_rfl) (by kernel_rfl) (by kernel_rfl) (fun _ _ _ h => h) (by kernel_rfl) (fun W hW => by go_simp; rw [wrapEq]) (by assumption) rfl rfl ?_
  simp only [Act.put, List.setIfInBounds_toArray, List.set_cons_zero, List.set_cons_succ]
  refine wpAnyH_yield 8 5 (.int .i64 (wrap64 (wrap64 ((l : Int) + 1) + (r : Int)))) rfl rfl (by kernel_rfl) (by kernel_rfl) (by kernel_rfl) (fun _ _ _ h => h) (by kernel_rfl) (fun W hW => by kernel_rfl) (by assumption) rfl rfl ?_
  simp only [Act.put, List.setIfInBounds_toArray, List.set_cons_zero, List.set_cons_succ]
  refine wpAnyH_done (by kernel_rfl) ?_ _
  rw [W.out]
  have T1 := T.out.tr hT0
  have HA := hide (hT0.at HA0.out)
  generalize ({ w0 with drawn := w0.drawn + 1 } : World) = w1 at *
  clear hT0 T
  go_wp2_with fail
  have HB := hide (T1.at HB0.out)
  generalize hm : l + 1 + r = m at *
  refine wp_region_held (S := Calm w1) (by kernel_rfl) ?_
  have hT : Calm w1 { w1 with drawn := w1.drawn + 1 } := (Touch.refl (fun _ => False) w1).drew
  refine wpAnyH_yield 0 14 (.pointer (some ⟨b, 0, none⟩)) rfl rfl (by kernel_rfl) (by kernel_rfl) (by kernel_rfl) (fun _ _ _ h => h) (by kernel_rfl) (fun W hW => by kernel_rfl) (by assumption) rfl rfl ?_
  simp only [Act.put, List.setIfInBounds_toArray, List.set_cons_zero, List.set_cons_succ]
  refine wpAnyH_yield 1 15 (.pointer (some ⟨b, 0, none⟩)) rfl rfl (by kernel_rfl) (by kernel_rfl) (by kernel_rfl) (fun _ _ _ h => h) (by kernel_rfl) (fun W hW => by kernel_rfl) (by assumption) rfl rfl ?_
  simp only [Act.put, List.setIfInBounds_toArray, List.set_cons_zero, List.set_cons_succ]
  refine wpAnyH_yield 2 16 (.pointer (some ⟨b, 0, none⟩)) rfl rfl (by kernel_rfl) (by kernel_rfl) (by kernel_rfl) (fun _ _ _ h => h) (by kernel_rfl) (fun W hW => by go_simp) (by assumption) rfl rfl ?_
  simp only [Act.put, List.setIfInBounds_toArray, List.set_cons_zero, List.set_cons_succ]
  refine wpAnyH_yield 3 17 (.string k) rfl rfl (by kernel_rfl) (by kernel_rfl) (by kernel_rfl) (fun _ _ _ h => h) (by kernel_rfl) (fun W hW => by obtain ⟨c0, c1, c2, c3, c4⟩ := cells5 (hW.at HB.out); go_simp) (by assumption) rfl rfl ?_
  simp only [Act.put, List.setIfInBounds_toArray, List.set_cons_zero, List.set_cons_succ]
  refine wpAnyH_yield 4 18 (.pointer (some ⟨b, 0, none⟩)) rfl rfl (by kernel_rfl) (by kernel_rfl) (by kernel_rfl) (fun _ _ _ h => h) (by kernel_rfl) (fun W hW => by kernel_rfl) (by assumption) rfl rfl ?_
  simp only [Act.put, List.setIfInBounds_toArray, List.set_cons_zero, List.set_cons_succ]
  refine wpAnyH_yield 5 19 (.pointer (some ⟨b, 0, none⟩)) rfl rfl (by kernel_rfl) (by kernel_rfl) (by kernel_rfl) (fun _ _ _ h => h) (by kernel_rfl) (fun W hW => by kernel_rfl) (by assumption) rfl rfl ?_
  simp only [Act.put, List.setIfInBounds_toArray, List.set_cons_zero, List.set_cons_succ]
  refine wpAnyH_yield 6 20 (.pointer (some ⟨b, 1, none⟩)) rfl rfl (by kernel_rfl) (by kernel_rfl) (by kernel_rfl) (fun _ _ _ h => h) (by kernel_rfl) (fun W hW => by go_simp) (by assumption) rfl rfl ?_
  simp only [Act.put, List.setIfInBounds_toArray, List.set_cons_zero, List.set_cons_succ]
  refine wpAnyH_yield 7 21 (.slice v.1 v.2.1 v.2.2) rfl rfl (by kernel_rfl) (by kernel_rfl) (by kernel_rfl) (fun _ _ _ h => h) (by kernel_rfl) (fun W hW => by obtain ⟨c0, c1, c2, c3, c4⟩ := cells5 (hW.at HB.out); go_simp) (by assumption) rfl rfl ?_
  simp only [Act.put, List.setIfInBounds_toArray, List.set_cons_zero, List.set_cons_succ]
  refine wpAnyH_yield 8 22 (.int .i64 (m : Int)) rfl rfl (by kernel_rfl) (by kernel_rfl) (by kernel_rfl) (fun _ _ _ h => h) (by kernel_rfl) (fun W hW => by kernel_rfl) (by assumption) rfl rfl ?_
  simp only [Act.put, List.setIfInBounds_toArray, List.set_cons_zero, List.set_cons_succ]
  refine wpAnyH_yield 9 23 (.agg #[.pointer p, .pointer q]) rfl rfl (by kernel_rfl) (by kernel_rfl) (by kernel_rfl) (fun _ _ _ h => h) (by kernel_rfl) (fun W hW => by obtain ⟨c0, c1⟩ := cells2 (hW.at HA.out); go_simp) (by assumption) rfl rfl ?_
  simp only [Act.put, List.setIfInBounds_toArray, List.set_cons_zero, List.set_cons_succ]
  refine wpAnyH_yield 10 24 (.agg #[.string k, .slice v.1 v.2.1 v.2.2, .int .i64 (m : Int), .pointer p, .pointer q]) rfl rfl (by kernel_rfl) (by kernel_rfl) (by kernel_rfl) (fun _ _ _ h => h) (by kernel_rfl) (fun W hW => by go_simp) (by assumption) rfl rfl ?_
  simp only [Act.put, List.setIfInBounds_toArray, List.set_cons_zero, List.set_cons_succ]
  refine wpAnyH_value 11 25 (.pointer (some ⟨w1.heap.size, 0, none⟩)) (w' := w1.drew.alloc (.cells #[.string k, .slice v.1 v.2.1 v.2.2, .int .i64 (m : Int), .pointer p, .pointer q] 117)) rfl rfl (by kernel_rfl) (by kernel_rfl) (by go_simp) (((Touch.refl (fun _ => False) w1).drew).alloc _) ?_
  simp only [Act.put, List.setIfInBounds_toArray, List.set_cons_zero, List.set_cons_succ]
  have hT2 : Calm w1 (w1.drew.alloc (.cells #[.string k, .slice v.1 v.2.1 v.2.2, .int .i64 (m : Int), .pointer p, .pointer q] 117)) := ((Touch.refl (fun _ => False) w1).drew).alloc _
  have hN2 : (w1.drew.alloc (.cells #[.string k, .slice v.1 v.2.1 v.2.2, .int .i64 (m : Int), .pointer p, .pointer q] 117)).heap[w1.heap.size]? = some (.cells #[.string k, .slice v.1 v.2.1 v.2.2, .int .i64 (m : Int), .pointer p, .pointer q] 117 (0, 0)) := heap_alloc_last w1.drew _
  generalize w1.drew.alloc (.cells #[.string k, .slice v.1 v.2.1 v.2.2, .int .i64 (m : Int), .pointer p, .pointer q] 117) = w2 at *
  refine wpAnyH_yield 12 4 (.pointer (some ⟨w1.heap.size, 0, none⟩)) rfl rfl (by kernel_rfl) (by kernel_rfl) (by kernel_rfl) (fun _ _ _ h => h) (by kernel_rfl) (fun W hW => by kernel_rfl) (by assumption) rfl rfl ?_
  simp only [Act.put, List.setIfInBounds_toArray, List.set_cons_zero, List.set_cons_succ]
  refine wpAnyH_done (by kernel_rfl) ?_ _
  go_wp2_with fail
  go_ret
  have T2 := T1.tr hT2
  refine ⟨_, rfl, .node ?_ (HP.out.calm T2) (HQ.out.calm T2), ⟨_, hN2⟩, T2⟩
  rw [HL.out, HR.out, hm]
  exact hN2

end Go.Proofs.YtamfcmmhmfhhkaaDoor.LM
