/- The program's Join. -/
import Derived.Test.YtbhofihikimgeaaRRPC
import Derived.Test.YtbhofihikimgeaaRRPD
import Derived.Test.YtbhofihikimgeaaRRPE
namespace Go.Proofs.YtbhofihikimgeaaRR
open Go.RowKit

/-- x[f:f+c]. -/
theorem Rc.Sl.mid {α : Type} {E : Rc.Enc α} {P : Program} {t e : TypeId} {i : TypeInfo} (ht : P.underlying t = some (.slice e)) (he : P.elem t = e) (hi : P.info? e = some i) (hs : i.size = E.n) {w : World} {ao : Option Addr} {cap f c : Nat} {L : List α} (h : E.Sl w ao cap L) (hk : f + c ≤ L.length) :
    ∃ so sc, (∀ W, (Instr.slice t (.slice ao L.length cap) (some (.int .i64 (f : Nat))) (some (.int .i64 ((f + c : Nat) : Int))) none).run P W = .ok (.slice so c sc) W) ∧ E.Mem w so ((L.drop f).take c) := by
  have hc := h.cap
  refine ⟨if cap = f then ao else ao.map fun x => x.add (f * E.n), cap - f, fun W => ?_, ?_⟩
  · rw [run_slice_lh W t ao L.length cap (by rw [he]; exact ht) .i64 .i64 (f : Nat) ((f + c : Nat) : Int) (by omega) (by omega) (by omega), he]
    simp only [sizeOf, typeInfo]
    simp [hi, hs, sliced]
    omega
  · by_cases hck : cap = f
    · rw [if_pos hck, List.drop_of_length_le (by omega), List.take_nil]; exact Rc.Mem.nil _ _
    · rw [if_neg hck]; exact Rc.Mem.take (Rc.Mem.off h.mem f) c

theorem made_next (m : Int) (s : Sp) (h : Int) (M : List Wn) (k : Nat) (hk : k < M.length) : madeW m s h (M.take (k + 1)) = grW m (madeW m s h (M.take k)) (M.getD k wn0) := by
  have e : M.take (k + 1) = M.take k ++ [M.getD k wn0] := by
    rw [List.take_succ_eq_append_getElem hk, List.getD_eq_getElem?_getD, List.getElem?_eq_getElem hk]; rfl
  rw [e]
  generalize M.take k = A
  generalize M.getD k wn0 = y
  have ej : joinT [joinT (A.map Wn.t), y.t] = joinT (A.map Wn.t ++ [y.t]) := joinT_nest _ _
  have ea : accL m s h (A ++ [y]) = accW m (accL m s h A) y := by unfold accL; rw [List.foldl_append]; rfl
  unfold madeW grW
  rw [ea, List.map_append]
  simp only [List.map_cons, List.map_nil, ej]
  rfl

theorem made_lt (m : Int) {s : Sp} (hs : s.a < s.b) (h : Int) (M : List Wn) : (madeW m s h M).a < (madeW m s h M).b := by
  have key : ∀ (M : List Wn) (x : Wn), x.a < x.b → (M.foldl (accW m) x).a < (M.foldl (accW m) x).b := by
    intro M
    induction M with
    | nil => intro x hx; exact hx
    | cons y M ih => intro x hx; refine ih _ ?_; unfold accW; simp only; omega
  exact key M ⟨s.a, s.b, h, tl0, 0, 0⟩ hs

theorem made_in (m : Int) (s : Sp) (h : Int) (M : List Wn) (hM : ∀ x ∈ M, inC x.n = true ∧ inC x.p = true) : inC (madeW m s h M).n = true ∧ inC (madeW m s h M).p = true :=
  accL_in m s h M hM ⟨s.a, s.b, h, tl0, 0, 0⟩ ⟨(by decide : inC 0 = true), (by decide : inC 0 = true)⟩

theorem concat3_any (w w5 : World) (T : Calm w w5) (so1 so2 : Option Addr) (sc1 sc2 : Nat) (A B : List Wn) (X : Wn) (mA : encW.Mem w so1 A) (nA : so1 = none → sc1 = 0) (mB : encW.Mem w so2 B) (nB : so2 = none → sc2 = 0) (hl : A.length + 1 + B.length ≤ 1000001) :
    Calls Try.prog 21 #[.slice (some ⟨w5.heap.size + 1, 0, none⟩) 3 3] ((w5.alloc (.cells (wnc X) 43)).alloc (.cells #[.slice so1 A.length sc1, .slice (some ⟨w5.heap.size, 0, none⟩) 1 1, .slice so2 B.length sc2] 22)) fun e w' =>
      ∃ ao c, e = .returned (.slice ao (A ++ [X] ++ B).length c) ∧ encW.Own 43 w' w.heap.size (.slice ao (A ++ [X] ++ B).length c) (A ++ [X] ++ B) ∧ Calm w w' ∧ Calm w5 w' := by
  have T7 : Calm w ((w5.alloc (.cells (wnc X) 43)).alloc (.cells #[.slice so1 A.length sc1, .slice (some ⟨w5.heap.size, 0, none⟩) 1 1, .slice so2 B.length sc2] 22)) := (T.alloc _).alloc _
  have A1 := (al1 w5 (.cells (wnc X) 43) (.cells #[.slice so1 A.length sc1, .slice (some ⟨w5.heap.size, 0, none⟩) 1 1, .slice so2 B.length sc2] 22)).2
  have mX : encW.Mem ((w5.alloc (.cells (wnc X) 43)).alloc (.cells #[.slice so1 A.length sc1, .slice (some ⟨w5.heap.size, 0, none⟩) 1 1, .slice so2 B.length sc2] 22)) (some ⟨w5.heap.size, 0, none⟩) [X] := Rc.Mem.calm (Rc.Mem.new w5 [X] 43) ((Touch.refl (fun _ => False) _).alloc _)
  have T5 : Calm w5 ((w5.alloc (.cells (wnc X) 43)).alloc (.cells #[.slice so1 A.length sc1, .slice (some ⟨w5.heap.size, 0, none⟩) 1 1, .slice so2 B.length sc2] 22)) := ((Touch.refl (fun _ => False) w5).alloc _).alloc _
  have hsz := T7.size
  generalize (w5.alloc (.cells (wnc X) 43)).alloc (.cells #[.slice so1 A.length sc1, .slice (some ⟨w5.heap.size, 0, none⟩) 1 1, .slice so2 B.length sc2] 22) = w7 at *
  have ea : allW [⟨so1, A, sc1⟩, ⟨some ⟨w5.heap.size, 0, none⟩, [X], 1⟩, ⟨so2, B, sc2⟩] = A ++ [X] ++ B := by simp [allW]
  have := concat_any (w5.heap.size + 1) 3 [⟨so1, A, sc1⟩, ⟨some ⟨w5.heap.size, 0, none⟩, [X], 1⟩, ⟨so2, B, sc2⟩] w7 (fun W hW k hk => by
      have hA := hW.at A1
      have : k = 0 ∨ k = 1 ∨ k = 2 := by simp at hk; omega
      rcases this with rfl | rfl | rfl <;> simp [World.cell?, hA, Ws.val])
    (fun t ht => by
      simp only [List.mem_cons, List.not_mem_nil, or_false] at ht
      rcases ht with rfl | rfl | rfl
      · exact ⟨Rc.Mem.calm mA T7, nA⟩
      · exact ⟨mX, fun h => (nomatch h)⟩
      · exact ⟨Rc.Mem.calm mB T7, nB⟩) (by simp) (by rw [ea]; simp; omega) (by rw [ea]; simp; omega)
  rw [ea] at this
  refine this.mono ?_
  rintro e w' ⟨ao, c, rfl, ow, tw⟩
  exact ⟨ao, c, rfl, Rc.Own.base ow hsz, T7.tr tw, T5.tr tw⟩

set_option maxRecDepth 100000 in
set_option maxHeartbeats 4000000 in
theorem join9_any (ao : Option Addr) (cap : Nat) (L : List Wn) (s : Sp) (m h : Int) (w : World) (hs : encW.Sl w ao cap L) (hn : L.length ≤ 1000000) :
    Calls Try.prog 9 #[.slice ao L.length cap, spv s, .int .i64 m, .int .i64 h] w fun e w' => RetJ w e w' L s m h := by
  have T0 : Calm w (w.alloc (.cells (spc s) 24)) := (Touch.refl _ _).alloc _
  have A0 := al_new w (.cells (spc s) 24)
  cases hb : badT L s with
  | true =>
    have CT : ∀ w', Calm w w' → Hid (Calls Try.prog 7 #[.slice ao L.length cap, spv s] w' fun e w'' => e = .returned (.tuple #[.int .i64 0, .int .i64 0, .int .i64 190]) ∧ Calm w' w'') := fun w' hc => hide (by
      have := touch_any ao cap L s w' (Rc.Mem.calm hs.mem hc) (by omega)
      unfold tch1 tch2 tch3 at this
      rw [hb] at this
      exact this)
    have HR : Hid (∀ W, Calm w W → RetJ w (.returned (.tuple #[.slice none 0 0, .int .i64 0, .int .i64 190])) W L s m h) := hide fun W hW => ⟨fun _ => ⟨rfl, hW⟩, fun h => (by rw [hb] at h; cases h)⟩
    have HT := hide T0
    generalize hN : L.length = n at *
    clear hb hs hn A0 T0 hN
    go_enter Try.func9, Try.ntmps9
    go_wp2_with fail
    refine (CT _ HT.out).out.mono ?_
    rintro e w1 ⟨rfl, T1⟩
    have HU := hide (HT.out.tr T1)
    clear T1
    go_wp2_with fail
    go_ret3
    exact HR.out _ HU.out
  | false =>
    have CT : ∀ w', Calm w w' → Hid (Calls Try.prog 7 #[.slice ao L.length cap, spv s] w' fun e w'' => e = .returned (.tuple #[.int .i64 (fromR L s : Nat), .int .i64 ((fromR L s + ovR L s : Nat) : Int), .int .i64 0]) ∧ Calm w' w'') := fun w' hc => hide (by
      have := touch_any ao cap L s w' (Rc.Mem.calm hs.mem hc) (by omega)
      unfold tch1 tch2 tch3 at this
      rw [hb] at this
      exact this)
    have hap : apartR L = true ∧ s.a < s.b := by
      unfold badT at hb
      simp only [Bool.not_eq_eq_eq_not, Bool.not_false, Bool.and_eq_true, decide_eq_true_eq] at hb
      exact hb
    have hfc := fromR_ovR L s
    have HR : Hid (∀ ao' cap' W, encW.Own 43 W w.heap.size (.slice ao' (joinL L s m h).length cap') (joinL L s m h) → Calm w W → RetJ w (.returned (.tuple #[.slice ao' (joinL L s m h).length cap', .int .i64 (fromR L s : Nat), .int .i64 0])) W L s m h) := hide fun ao' cap' W hO hW => ⟨fun h => (by rw [hb] at h; cases h), fun _ => ⟨ao', cap', rfl, hO, hW⟩⟩
    have HL : Hid (joinL L s m h = L.take (fromR L s) ++ [madeW m s h ((L.drop (fromR L s)).take (ovR L s))] ++ L.drop (fromR L s + ovR L s)) := hide rfl
    obtain ⟨i0, hi, hz, hsz, hby⟩ := Rc.info_parts infoWin
    obtain ⟨so1, sc1, sl1, mA, nA⟩ := Rc.Sl.to Try.underlying22 elemWin hi (k := fromR L s) hs (by omega)
    obtain ⟨so2, sc2, sl2, mB, nB⟩ := Rc.Sl.from Try.underlying22 elemWin hi hsz (k := fromR L s + ovR L s) hs hfc
    obtain ⟨so3, sc3, sl3, mM⟩ := Rc.Sl.mid Try.underlying22 elemWin hi hsz (f := fromR L s) (c := ovR L s) hs hfc
    generalize joinL L s m h = J at *
    generalize fromR L s = f at *
    generalize ovR L s = c at *
    obtain ⟨M, hM⟩ : ∃ M, M = (L.drop f).take c := ⟨_, rfl⟩
    rw [← hM] at mM HL
    have lM : M.length = c := by rw [hM, List.length_take, List.length_drop]; omega
    have sub : ∀ x ∈ M, x ∈ L := fun x hx => by rw [hM] at hx; exact List.mem_of_mem_drop (List.mem_of_mem_take hx)
    have okM : ∀ x ∈ M, x.a < x.b ∧ inC x.n = true ∧ inC x.p = true := fun x hx => ⟨okW_lt ((apart_rise hap.1).2 x (sub x hx)), apart_in hap.1 x (sub x hx)⟩
    have CG : Hid (∀ k, k < c → ∀ w, Calls Try.prog 20 #[wnv (madeW m s h (M.take k)), wnv (M.getD k wn0), .int .i64 m] w fun e w' => e = .returned (wnv (madeW m s h (M.take (k + 1)))) ∧ Calm w w') := hide fun k hk w => by
      have hk' : k < M.length := by omega
      rw [made_next m s h M k hk']
      have hy : M.getD k wn0 ∈ M := by rw [List.getD_eq_getElem?_getD, List.getElem?_eq_getElem hk']; exact List.getElem_mem hk'
      obtain ⟨y1, y2, y3⟩ := okM _ hy
      obtain ⟨x2, x3⟩ := made_in m s h (M.take k) fun x hx => (okM x (List.mem_of_mem_take hx)).2
      exact grown_any m _ _ (made_lt m hap.2 h _) y1 x2 x3 y2 y3 w
    have AT : Hid (∀ k, k < c → ∀ W, Calm w W → _) := hide fun k hk W hW => wn_at (Rc.Mem.calm mM hW) k (by omega)
    have ZM : Hid (madeW m s h (M.take 0) = ⟨s.a, s.b, h, tl0, 0, 0⟩) := hide rfl
    have EM : Hid (madeW m s h (M.take c) = madeW m s h M) := hide (by rw [← lM, List.take_length])
    have C3 : Hid (∀ w5, Calm w w5 → Calls Try.prog 21 #[.slice (some ⟨w5.heap.size + 1, 0, none⟩) 3 3] ((w5.alloc (.cells (wnc (madeW m s h M)) 43)).alloc (.cells #[.slice so1 f sc1, .slice (some ⟨w5.heap.size, 0, none⟩) 1 1, .slice so2 (L.length - (f + c)) sc2] 22)) fun e w' =>
        ∃ ao c, e = .returned (.slice ao J.length c) ∧ encW.Own 43 w' w.heap.size (.slice ao J.length c) J ∧ Calm w w' ∧ Calm w5 w') := hide fun w5 T => by
      have := concat3_any w w5 T so1 so2 sc1 sc2 (L.take f) (L.drop (f + c)) (madeW m s h M) mA nA mB nB (by rw [List.length_take, List.length_drop]; omega)
      rw [← HL.out, List.length_take, List.length_drop, Nat.min_eq_left (by omega)] at this
      exact this
    generalize hE : f + c = e at *
    have HE := hide hE
    have hcn : c ≤ L.length := by omega
    clear hE hfc
    generalize hN : L.length = n at *
    clear hb hs hap hN hi hz hsz hby mA mB mM nA nB HL okM sub hM lM
    generalize J.length = u at *
    have HT := hide T0
    have HD0 := hide A0
    clear T0 A0
    go_enter Try.func9, Try.ntmps9
    go_wp2_with fail
    refine (CT _ HT.out).out.mono ?_
    rintro e' w1 ⟨rfl, T1⟩
    obtain ⟨c0, c1⟩ := sp_cells (T1.at HD0.out)
    have HU := hide (HT.out.tr T1)
    clear T1 CT
    have hsz1 : Hid (w.heap.size ≤ w1.heap.size) := hide HU.out.size
    go_wp2_with fail
    clear c0 c1
    have A1 := al_new w1 (.cells (wnc ⟨s.a, s.b, h, tl0, 0, 0⟩) 43)
    have T1 : Calm w (w1.alloc (.cells (wnc ⟨s.a, s.b, h, tl0, 0, 0⟩) 43)) := HU.out.alloc _
    generalize w1.alloc (.cells (wnc ⟨s.a, s.b, h, tl0, 0, 0⟩) 43) = w2 at *
    generalize w1.heap.size = D at *
    have HA1 := hide A1
    have HT1 := hide T1
    clear A1 T1 HU HT HD0
    go_loopw [35] (fun i wr => ∃ k : Nat, i = .int .i64 k ∧ k ≤ c ∧ wr.heap[D]? = some (.cells (wnc (madeW m s h (M.take k))) 43 (0, 0)) ∧ Calm w wr) (fun i _ => c - (intOf i).toNat)
    case atStart => exact ⟨0, rfl, Nat.zero_le _, by rw [ZM.out]; exact HA1.out, HT1.out⟩
    case round =>
      obtain ⟨k, rfl, hk, A, T⟩ := hrel
      by_cases hlt : k < c
      · obtain ⟨b, off, rfl, ⟨k0, k1, k2⟩, ⟨k3, k4, k5, k6⟩, k7, k8⟩ := AT.out k hlt wr T
        have C1 := hide (CG.out k hlt)
        generalize M.getD k wn0 = y at *
        generalize madeW m s h (M.take k) = x at *
        generalize hr : madeW m s h (M.take (k + 1)) = r at *
        have HRr := hide hr
        clear hr
        obtain ⟨⟨c0, c1, c2⟩, ⟨c3, c4, c5, c6⟩, c7, c8⟩ := wn_cells (al_old A (.cells #[.int .i64 y.a, .int .i64 y.b, .int .i64 y.h, .int .i64 y.t.c, .int .i64 y.t.s, .int .i64 y.t.m, .int .i64 y.t.x, .int .i64 y.n, .int .i64 y.p] 43))
        have HA := hide A
        have HT := hide T
        clear A T AT CG
        go_wp2_with fail
        refine (C1.out _).mono ?_
        rintro e w3 ⟨rfl, T3⟩
        have B0 := T3.at (al_old HA.out (.cells (wnc y) 43))
        have TW : Calm w w3 := (HT.out.alloc (.cells (wnc y) 43)).tr T3
        clear T3 HA HT C1 c0 c1 c2 c3 c4 c5 c6 c7 c8 k0 k1 k2 k3 k4 k5 k6 k7 k8
        obtain ⟨⟨c0, c1, c2⟩, ⟨c3, c4, c5, c6⟩, c7, c8⟩ := wn_cells B0
        have y0 := wn_frozen B0 0
        have y1 := wn_frozen B0 1
        have y2 := wn_frozen B0 2
        have y3 := wn_frozen B0 3
        have y4 := wn_frozen B0 4
        have y5 := wn_frozen B0 5
        have y6 := wn_frozen B0 6
        have y7 := wn_frozen B0 7
        have y8 := wn_frozen B0 8
        obtain ⟨e0, e1⟩ := wn_all r B0
        have H9 := hide e0
        have HT := hide (Touch.trans TW e1 (fun k hk e => by have := hsz1.out; omega))
        clear e0 e1 TW B0
        go_wp2_with fail
        go_roundw
        case rel => exact ⟨k + 1, by go_num, by omega, by rw [HRr.out]; exact H9.out, HT.out⟩
        case measure => simp [intOf]; omega
      · have e : k = c := by omega
        subst e
        rw [EM.out] at A
        generalize madeW m s h M = X at *
        have HA := hide A
        have HT := hide T
        clear A T AT CG HA1 HT1 ZM EM
        go_wp2_with fail
        refine wp_region_held (S := Calm wr) (by kernel_rfl) ?_
        have hT0 : Calm wr { wr with drawn := wr.drawn + 1 } := (Touch.refl (fun _ => False) wr).drew
        have CC := hide (C3.out { wr with drawn := wr.drawn + 1 } (HT.out.tr hT0))
        refine wpAnyH_yield 0 44 (.slice ao n cap) rfl rfl (by kernel_rfl) (by kernel_rfl) (by kernel_rfl) (fun _ _ _ h => h) (by kernel_rfl) (fun W hW => by kernel_rfl) (by assumption) rfl rfl ?_
        simp only [Act.put, List.setIfInBounds_toArray, List.set_cons_zero, List.set_cons_succ]
        refine wpAnyH_yield 1 45 (.int .i64 (f : Int)) rfl rfl (by kernel_rfl) (by kernel_rfl) (by kernel_rfl) (fun _ _ _ h => h) (by kernel_rfl) (fun W hW => by kernel_rfl) (by assumption) rfl rfl ?_
        simp only [Act.put, List.setIfInBounds_toArray, List.set_cons_zero, List.set_cons_succ]
        refine wpAnyH_yield 2 46 (.slice so1 f sc1) rfl rfl (by kernel_rfl) (by kernel_rfl) (by kernel_rfl) (fun _ _ _ h => h) (by kernel_rfl) (fun W hW => by go_simp) (by assumption) rfl rfl ?_
        simp only [Act.put, List.setIfInBounds_toArray, List.set_cons_zero, List.set_cons_succ]
        refine wpAnyH_yield 3 47 (wnv X) rfl rfl (by kernel_rfl) (by kernel_rfl) (by kernel_rfl) (fun _ _ _ h => h) (by kernel_rfl) (fun W hW => by obtain ⟨⟨c0, c1, c2⟩, ⟨c3, c4, c5, c6⟩, c7, c8⟩ := wn_cells (hW.at HA.out); go_simp) (by assumption) rfl rfl ?_
        simp only [Act.put, List.setIfInBounds_toArray, List.set_cons_zero, List.set_cons_succ]
        refine wpAnyH_yield 5 49 (.slice ao n cap) rfl rfl (by kernel_rfl) (by kernel_rfl) (by kernel_rfl) (fun _ _ _ h => h) (by kernel_rfl) (fun W hW => by kernel_rfl) (by assumption) rfl rfl ?_
        simp only [Act.put, List.setIfInBounds_toArray, List.set_cons_zero, List.set_cons_succ]
        refine wpAnyH_yield 6 50 (.int .i64 (e : Int)) rfl rfl (by kernel_rfl) (by kernel_rfl) (by kernel_rfl) (fun _ _ _ h => h) (by kernel_rfl) (fun W hW => by kernel_rfl) (by assumption) rfl rfl ?_
        simp only [Act.put, List.setIfInBounds_toArray, List.set_cons_zero, List.set_cons_succ]
        refine wpAnyH_yield 7 51 (.slice so2 (n - e) sc2) rfl rfl (by kernel_rfl) (by kernel_rfl) (by kernel_rfl) (fun _ _ _ h => h) (by kernel_rfl) (fun W hW => by go_simp) (by assumption) rfl rfl ?_
        simp only [Act.put, List.setIfInBounds_toArray, List.set_cons_zero, List.set_cons_succ]
        refine wpAnyH_yield 10 54 (.int .i64 (f : Int)) rfl rfl (by kernel_rfl) (by kernel_rfl) (by kernel_rfl) (fun _ _ _ h => h) (by kernel_rfl) (fun W hW => by kernel_rfl) (by assumption) rfl rfl ?_
        simp only [Act.put, List.setIfInBounds_toArray, List.set_cons_zero, List.set_cons_succ]
        have hT1 : Calm wr (({ wr with drawn := wr.drawn + 1 } : World).alloc (.cells (wnc X) 43)) := hT0.alloc _
        have hT2 : Calm wr ((({ wr with drawn := wr.drawn + 1 } : World).alloc (.cells (wnc X) 43)).alloc (.cells #[.slice so1 f sc1, .slice (some ⟨wr.heap.size, 0, none⟩) 1 1, .slice so2 (n - e) sc2] 22)) := hT1.alloc _
        refine wpAnyH_value 4 48 (.slice (some ⟨wr.heap.size, 0, none⟩) 1 1) (w' := ({ wr with drawn := wr.drawn + 1 } : World).alloc (.cells (wnc X) 43)) rfl rfl (by kernel_rfl) (by kernel_rfl) (by go_simp) hT1 ?_
        simp only [Act.put, List.setIfInBounds_toArray, List.set_cons_zero, List.set_cons_succ]
        refine wpAnyH_value 8 52 (.slice (some ⟨wr.heap.size + 1, 0, none⟩) 3 3) (w' := (({ wr with drawn := wr.drawn + 1 } : World).alloc (.cells (wnc X) 43)).alloc (.cells #[.slice so1 f sc1, .slice (some ⟨wr.heap.size, 0, none⟩) 1 1, .slice so2 (n - e) sc2] 22)) rfl rfl (by kernel_rfl) (by kernel_rfl) (by go_simp) hT2 ?_
        simp only [Act.put, List.setIfInBounds_toArray, List.set_cons_zero, List.set_cons_succ]
        refine wpAnyH_enter 9 53 21 #[.slice (some ⟨wr.heap.size + 1, 0, none⟩) 3 3] rfl rfl (by kernel_rfl) (by kernel_rfl) (by kernel_rfl) ?_
        refine (CC.out).mono ?_
        rintro r w6 ⟨ra, rc, rfl, ow, T6, T5⟩
        have h6 : Calm wr w6 := hT0.tr T5
        refine ⟨_, rfl, h6, ?_⟩
        simp only [Act.put, List.setIfInBounds_toArray, List.set_cons_zero, List.set_cons_succ]
        refine wpAnyH_yield 11 8 (.slice ra u rc) rfl rfl (by kernel_rfl) (by kernel_rfl) (by kernel_rfl) (fun _ _ _ h => h) (by kernel_rfl) (fun W hW => by kernel_rfl) (by assumption) rfl rfl ?_
        simp only [Act.put, List.setIfInBounds_toArray, List.set_cons_zero, List.set_cons_succ]
        refine wpAnyH_yield 12 9 (.int .i64 (f : Int)) rfl rfl (by kernel_rfl) (by kernel_rfl) (by kernel_rfl) (fun _ _ _ h => h) (by kernel_rfl) (fun W hW => by kernel_rfl) (by assumption) rfl rfl ?_
        simp only [Act.put, List.setIfInBounds_toArray, List.set_cons_zero, List.set_cons_succ]
        refine wpAnyH_yield 13 10 (.int .i64 0) rfl rfl (by kernel_rfl) (by kernel_rfl) (by kernel_rfl) (fun _ _ _ h => h) (by kernel_rfl) (fun W hW => by kernel_rfl) (by assumption) rfl rfl ?_
        simp only [Act.put, List.setIfInBounds_toArray, List.set_cons_zero, List.set_cons_succ]
        refine wpAnyH_done (by kernel_rfl) ?_ _
        have HZ := hide (HR.out ra rc w6 ow T6)
        clear hT0 hT1 hT2 ow T6 T5 h6 CC HR
        go_wp2_with fail
        go_ret3
        exact HZ.out

end Go.Proofs.YtbhofihikimgeaaRR
