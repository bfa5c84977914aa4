/- The verifier's step: kind 4. -/
import Derived.Test.YtlnblhajcbmmkaaTStp1
namespace Go.Proofs.Ytlnblhajcbmmkaa
open Go.RowKit

theorem Wd.head {w : World} {b k q : Nat} {F : Nat → Prop} {V L : List Tm} {lo : Option Addr} {lc : Nat} {x y u v : Value} (h : Wd w b k q F V L lo lc x y u v) (hn : L ≠ []) : ∃ y0, (∀ h0 : 0 < L.length, L[0] = y0) ∧ 0 < V.length ∧ nth V 0 = y0 := by
  have hp : 0 < V.length := by rw [h.len]; exact List.length_pos_iff.2 hn
  cases L with
  | nil => exact absurd rfl hn
  | cons l0 L =>
    refine ⟨l0, fun _ => rfl, hp, Classical.byContradiction fun hne => ?_⟩
    have h1 := h.tq.first l0 ((h.mem l0).2 (by simp)) (fun e => hne e.symm)
    have h2 : nth V 0 ∈ l0 :: L := (h.mem _).1 (mem_nth.2 ⟨0, hp, rfl⟩)
    have h3 : nth V 0 ∈ L := (List.mem_cons.1 h2).resolve_left hne
    have h4 := (List.pairwise_cons.1 h.srt).1 _ h3
    have h5 := cmpT_ord.anti l0 (nth V 0)
    omega

set_option maxRecDepth 100000 in
set_option maxHeartbeats 2000000 in
theorem step4a_0 (b q : Nat) (F : Nat → Prop) (V L : List Tm) (lo : Option Addr) (lc : Nat) (x y u v : Value) (on leave : Int) (t tu : Tm) (upto : Int) (w : World) (h : Wd w b 0 q F V L lo lc x y u v) (hk : kOf on = 0) (gt : Good t) (gu : Good tu) (hne : L = []) (hl : L.length < 3518437208780) :
    Calls Try.prog 11 #[.pointer (some ⟨b, 0, none⟩), sv ⟨4, on, leave, t, tu, upto⟩] w (StpR w b 0 q F L lo x y u v) := by
  obtain ⟨s, es⟩ : ∃ s : Sp, s = ⟨4, on, leave, t, tu, upto⟩ := ⟨_, rfl⟩
  have hB := heap_alloc_last w (.cells (sc ⟨4, on, leave, t, tu, upto⟩) 41)
  have tA : Calm w (w.alloc (.cells (sc ⟨4, on, leave, t, tu, upto⟩) 41)) := (Touch.refl _ _).alloc _
  have HVL := hide h.len
  have HW := hide h
  have HLT : Hid (¬ F w.heap.size) := hide (fun e => by have := h.tq.lt _ e; omega)
  have edt : ∀ z, decide (z ∈ V) = decide (z ∈ L) := fun z => decide_eq_decide.2 (h.mem z)
  have HL9 := hide hl
  have HTA := hide tA
  have HHB := hide hB
  have hlv : V.length < 3518437208790 := by have := h.len; omega
  have hV : V = [] := List.eq_nil_of_length_eq_zero (by rw [h.len, hne]; rfl)
  have NX : Hid (Calls Try.prog 19 #[.pointer (some ⟨q, 0, none⟩)] (w.alloc (.cells (sc ⟨4, on, leave, t, tu, upto⟩) 41)) fun e w' => e = .returned (.tuple #[.agg #[.int .i64 0, .string { data := #[] }, .int .i64 0, .int .i64 0], .bool false]) ∧ Calm (w.alloc (.cells (sc ⟨4, on, leave, t, tu, upto⟩) 41)) w') := hide (next_none q F (w.alloc (.cells (sc ⟨4, on, leave, t, tu, upto⟩) 41)) (by rw [← hV]; exact h.tq.calm tA))
  have HN0 : Hid (L.length = 0) := hide (by rw [hne]; rfl)
  clear hV hne
  obtain ⟨n, hn⟩ : ∃ n, L.length = n := ⟨_, rfl⟩
  have HN := hide hn
  obtain ⟨d0, d1, d2, ⟨d3, d4, d5, d6⟩, ⟨d7, d8, d9, d10⟩, d11⟩ := cells12 hB
  obtain ⟨e0, e1, e2, e3, e4, e5⟩ := cells6 (show (w.alloc (.cells (sc ⟨4, on, leave, t, tu, upto⟩) 41)).heap[b]? = some (.cells #[.pointer (some ⟨q, 0, none⟩), x, .slice lo n lc, y, u, v] 31 (0, 0)) from by have h9 := tA.at h.own; rw [hn] at h9; exact h9)
  have HGT := hide gt
  have HGU := hide gu
  unfold kOf at hk
  simp only at d0 d1 d2 d3 d4 d5 d6 d7 d8 d9 d10 d11
  clear h hB tA hl hlv gt gu hn es s
  go_enter Try.func11, Try.ntmps11
  go_wp2_with fail
  refine NX.out.mono ?_
  rintro e w1 ⟨rfl, t1⟩
  have T1 := hide (HTA.out.tr t1)
  have HS1 : Hid (w1.heap[w.heap.size]? = some (.cells (sc ⟨4, on, leave, t, tu, upto⟩) 41 (0, 0))) := hide (t1.at HHB.out)
  clear t1 NX d0 d1 d2 d3 d4 d5 d6 d7 d8 d9 d10 d11 e0 e1 e2 e3 e4 e5
  obtain ⟨B, eB⟩ : ∃ B, B = w.heap.size := ⟨_, rfl⟩
  rw [← eB] at HS1 ⊢
  clear eB
  have tB : Calm w1 (w1.alloc (.cells #[.int .i64 0, .string { data := #[] }, .int .i64 0, .int .i64 0] 35)) := (Touch.refl _ _).alloc _
  have TB := hide tB
  obtain ⟨⟨q0, q1, q2, q3⟩, -⟩ := cells4 (heap_alloc_last w1 (.cells #[.int .i64 0, .string { data := #[] }, .int .i64 0, .int .i64 0] 35))
  have hn0 : n = 0 := by rw [← HN.out]; exact HN0.out
  subst hn0
  clear tB
  go_wp2_with fail
  go_quiet (fail)
  rename_i nq
  clear q0 q1 q2 q3
  go_wp2_with fail
  obtain ⟨w2, ew2⟩ : ∃ w2, w2 = (w1.alloc (.cells #[.int .i64 0, .string { data := #[] }, .int .i64 0, .int .i64 0] 35)).drewN nq := ⟨_, rfl⟩
  have T12 : Hid (Calm w w2) := hide (by rw [ew2]; exact (T1.out.tr TB.out).drewN nq)
  have HS2 : Hid (w2.heap[B]? = some (.cells (sc ⟨4, on, leave, t, tu, upto⟩) 41 (0, 0))) := hide (by rw [ew2]; exact ((TB.out.drewN nq).at HS1.out))
  rw [← ew2]
  clear ew2 TB HS1 T1
  have HAS := hide (fun W (hW : Calm w2 W) => has_any q F V t W (HW.out.tq.calm (T12.out.tr hW)) HGT.out)
  have RH := hide (fun W (hW : Calm w2 W) => rhas_any lo lc L t W ((HW.out.rl.calm (T12.out.tr hW)).tms) HW.out.srt (by have := HL9.out; omega))
  have LEN := hide (fun W (hW : Calm w2 W) => len_any q F V W (HW.out.tq.calm (T12.out.tr hW)))
  rw [HVL.out, HN.out] at LEN
  rw [HN.out] at RH
  obtain ⟨c, ec⟩ : ∃ c, decide (t ∈ L) = c := ⟨_, rfl⟩
  have EC := hide ec
  have EDT := hide (edt t)
  rw [ec] at EDT
  clear ec edt
  refine wp_only ?_
  refine wp_region_held (S := Calm w2) (by kernel_rfl) ?_
  have ty0 : Calm w2 { w2 with drawn := w2.drawn + 1 } := (Touch.refl (fun _ => False) w2).drew
  refine wpAnyH_yield 0 159 (.pointer (some ⟨q, 0, none⟩)) rfl rfl (by kernel_rfl) (by kernel_rfl) (by kernel_rfl) (fun _ _ _ h => h) (by kernel_rfl) (fun W hW => by kernel_rfl) (by assumption) rfl rfl ?_
  simp only [Act.put, List.setIfInBounds_toArray, List.set_cons_zero, List.set_cons_succ]
  refine wpAnyH_yield 1 160 (.pointer (some ⟨B, 3, none⟩)) rfl rfl (by kernel_rfl) (by kernel_rfl) (by kernel_rfl) (fun _ _ _ h => h) (by kernel_rfl) (fun W hW => by go_simp) (by assumption) rfl rfl ?_
  simp only [Act.put, List.setIfInBounds_toArray, List.set_cons_zero, List.set_cons_succ]
  refine wpAnyH_yield 2 161 (tv t) rfl rfl (by kernel_rfl) (by kernel_rfl) (by kernel_rfl) (fun _ _ _ h => h) (by kernel_rfl) (fun W hW => by obtain ⟨-, -, -, ⟨d3, d4, d5, d6⟩, -⟩ := cells12 (hW.at HS2.out); go_simp) (by assumption) rfl rfl ?_
  simp only [Act.put, List.setIfInBounds_toArray, List.set_cons_zero, List.set_cons_succ]
  refine wpAnyH_yield 4 163 (.slice lo 0 lc) rfl rfl (by kernel_rfl) (by kernel_rfl) (by kernel_rfl) (fun _ _ _ h => h) (by kernel_rfl) (fun W hW => by kernel_rfl) (by assumption) rfl rfl ?_
  simp only [Act.put, List.setIfInBounds_toArray, List.set_cons_zero, List.set_cons_succ]
  refine wpAnyH_yield 5 164 (.pointer (some ⟨B, 3, none⟩)) rfl rfl (by kernel_rfl) (by kernel_rfl) (by kernel_rfl) (fun _ _ _ h => h) (by kernel_rfl) (fun W hW => by go_simp) (by assumption) rfl rfl ?_
  simp only [Act.put, List.setIfInBounds_toArray, List.set_cons_zero, List.set_cons_succ]
  refine wpAnyH_yield 6 165 (tv t) rfl rfl (by kernel_rfl) (by kernel_rfl) (by kernel_rfl) (fun _ _ _ h => h) (by kernel_rfl) (fun W hW => by obtain ⟨-, -, -, ⟨d3, d4, d5, d6⟩, -⟩ := cells12 (hW.at HS2.out); go_simp) (by assumption) rfl rfl ?_
  simp only [Act.put, List.setIfInBounds_toArray, List.set_cons_zero, List.set_cons_succ]
  refine wpAnyH_enter 3 162 20 #[.pointer (some ⟨q, 0, none⟩), tv t] rfl rfl (by kernel_rfl) (by kernel_rfl) (by kernel_rfl) ?_
  refine (HAS.out _ ty0).mono ?_
  rintro e y1 ⟨he, h1⟩
  rw [EDT.out] at he
  have ty1 : Calm w2 y1 := ty0.tr h1
  refine ⟨_, he, ty1, ?_⟩
  simp only [Act.put, List.setIfInBounds_toArray, List.set_cons_zero, List.set_cons_succ]
  refine wpAnyH_enter 7 166 24 #[.slice lo 0 lc, tv t] rfl rfl (by kernel_rfl) (by kernel_rfl) (by kernel_rfl) ?_
  refine (RH.out _ ty1).mono ?_
  rintro e y2 ⟨he, h2⟩
  rw [EC.out] at he
  have ty2 : Calm w2 y2 := ty1.tr h2
  refine ⟨_, he, ty2, ?_⟩
  simp only [Act.put, List.setIfInBounds_toArray, List.set_cons_zero, List.set_cons_succ]
  refine wpAnyH_yield 8 167 (.bool true) rfl rfl (by kernel_rfl) (by kernel_rfl) (by kernel_rfl) (fun _ _ _ h => h) (by kernel_rfl) (fun W hW => by cases c <;> go_simp) (by assumption) rfl rfl ?_
  simp only [Act.put, List.setIfInBounds_toArray, List.set_cons_zero, List.set_cons_succ]
  refine wpAnyH_yield 9 168 (.bool true) rfl rfl (by kernel_rfl) (by kernel_rfl) (by kernel_rfl) (fun _ _ _ h => h) (by kernel_rfl) (fun W hW => by kernel_rfl) (by assumption) rfl rfl ?_
  simp only [Act.put, List.setIfInBounds_toArray, List.set_cons_zero, List.set_cons_succ]
  refine wpAnyH_yield 10 169 (.pointer (some ⟨q, 0, none⟩)) rfl rfl (by kernel_rfl) (by kernel_rfl) (by kernel_rfl) (fun _ _ _ h => h) (by kernel_rfl) (fun W hW => by kernel_rfl) (by assumption) rfl rfl ?_
  simp only [Act.put, List.setIfInBounds_toArray, List.set_cons_zero, List.set_cons_succ]
  refine wpAnyH_yield 12 171 (.slice lo 0 lc) rfl rfl (by kernel_rfl) (by kernel_rfl) (by kernel_rfl) (fun _ _ _ h => h) (by kernel_rfl) (fun W hW => by kernel_rfl) (by assumption) rfl rfl ?_
  simp only [Act.put, List.setIfInBounds_toArray, List.set_cons_zero, List.set_cons_succ]
  refine wpAnyH_yield 13 172 (.int .i64 0) rfl rfl (by kernel_rfl) (by kernel_rfl) (by kernel_rfl) (fun _ _ _ h => h) (by kernel_rfl) (fun W hW => by kernel_rfl) (by assumption) rfl rfl ?_
  simp only [Act.put, List.setIfInBounds_toArray, List.set_cons_zero, List.set_cons_succ]
  refine wpAnyH_enter 11 170 14 #[.pointer (some ⟨q, 0, none⟩)] rfl rfl (by kernel_rfl) (by kernel_rfl) (by kernel_rfl) ?_
  refine (LEN.out _ ty2).mono ?_
  rintro e y3 ⟨rfl, h3⟩
  have ty3 : Calm w2 y3 := by rw [h3]; exact ty2
  refine ⟨_, rfl, ty3, ?_⟩
  simp only [Act.put, List.setIfInBounds_toArray, List.set_cons_zero, List.set_cons_succ]
  refine wpAnyH_yield 14 173 (.bool true) rfl rfl (by kernel_rfl) (by kernel_rfl) (by kernel_rfl) (fun _ _ _ h => h) (by kernel_rfl) (fun W hW => by go_simp) (by assumption) rfl rfl ?_
  simp only [Act.put, List.setIfInBounds_toArray, List.set_cons_zero, List.set_cons_succ]
  refine wpAnyH_yield 15 174 (.bool true) rfl rfl (by kernel_rfl) (by kernel_rfl) (by kernel_rfl) (fun _ _ _ h => h) (by kernel_rfl) (fun W hW => by kernel_rfl) (by assumption) rfl rfl ?_
  simp only [Act.put, List.setIfInBounds_toArray, List.set_cons_zero, List.set_cons_succ]
  refine wpAnyH_yield 16 4 (.bool true) rfl rfl (by kernel_rfl) (by kernel_rfl) (by kernel_rfl) (fun _ _ _ h => h) (by kernel_rfl) (fun W hW => by kernel_rfl) (by assumption) rfl rfl ?_
  simp only [Act.put, List.setIfInBounds_toArray, List.set_cons_zero, List.set_cons_succ]
  refine wpAnyH_done (by kernel_rfl) ?_ _
  rw [onlyN_normal]
  have RES := hide (HW.out.same (T12.out.tr ty3))
  clear ty0 ty1 ty2 ty3 h1 h2 h3 he
  go_wp2_with fail
  go_ret
  exact RES.out

set_option maxRecDepth 100000 in
set_option maxHeartbeats 2000000 in
theorem step4b_0 (b q : Nat) (F : Nat → Prop) (V L : List Tm) (lo : Option Addr) (lc : Nat) (x y u v : Value) (on leave : Int) (t tu : Tm) (upto : Int) (w : World) (h : Wd w b 0 q F V L lo lc x y u v) (hk : kOf on = 0) (gt : Good t) (gu : Good tu) (hne : L ≠ []) (hl : L.length < 3518437208780) :
    Calls Try.prog 11 #[.pointer (some ⟨b, 0, none⟩), sv ⟨4, on, leave, t, tu, upto⟩] w (StpR w b 0 q F L lo x y u v) := by
  obtain ⟨s, es⟩ : ∃ s : Sp, s = ⟨4, on, leave, t, tu, upto⟩ := ⟨_, rfl⟩
  have hB := heap_alloc_last w (.cells (sc ⟨4, on, leave, t, tu, upto⟩) 41)
  have tA : Calm w (w.alloc (.cells (sc ⟨4, on, leave, t, tu, upto⟩) 41)) := (Touch.refl _ _).alloc _
  have HVL := hide h.len
  have HW := hide h
  have HLT : Hid (¬ F w.heap.size) := hide (fun e => by have := h.tq.lt _ e; omega)
  have edt : ∀ z, decide (z ∈ V) = decide (z ∈ L) := fun z => decide_eq_decide.2 (h.mem z)
  have HL9 := hide hl
  have HTA := hide tA
  have HHB := hide hB
  have hlv : V.length < 3518437208790 := by have := h.len; omega
  obtain ⟨y0, hy0, hV0, hfst⟩ := h.head hne
  have NX := hide (next_any q F V _ (h.tq.calm tA) hV0)
  rw [hfst] at NX
  have HY0 := hide hy0
  have HNP : Hid (0 < L.length) := hide (List.length_pos_iff.2 hne)
  clear hy0 hV0 hfst hne
  obtain ⟨n, hn⟩ : ∃ n, L.length = n := ⟨_, rfl⟩
  have HN := hide hn
  obtain ⟨d0, d1, d2, ⟨d3, d4, d5, d6⟩, ⟨d7, d8, d9, d10⟩, d11⟩ := cells12 hB
  obtain ⟨e0, e1, e2, e3, e4, e5⟩ := cells6 (show (w.alloc (.cells (sc ⟨4, on, leave, t, tu, upto⟩) 41)).heap[b]? = some (.cells #[.pointer (some ⟨q, 0, none⟩), x, .slice lo n lc, y, u, v] 31 (0, 0)) from by have h9 := tA.at h.own; rw [hn] at h9; exact h9)
  have HGT := hide gt
  have HGU := hide gu
  unfold kOf at hk
  simp only at d0 d1 d2 d3 d4 d5 d6 d7 d8 d9 d10 d11
  clear h hB tA hl hlv gt gu hn es s
  go_enter Try.func11, Try.ntmps11
  go_wp2_with fail
  refine NX.out.mono ?_
  rintro e w1 ⟨rfl, t1⟩
  have T1 := hide (HTA.out.tr t1)
  have HS1 : Hid (w1.heap[w.heap.size]? = some (.cells (sc ⟨4, on, leave, t, tu, upto⟩) 41 (0, 0))) := hide (t1.at HHB.out)
  clear t1 NX d0 d1 d2 d3 d4 d5 d6 d7 d8 d9 d10 d11 e0 e1 e2 e3 e4 e5
  obtain ⟨B, eB⟩ : ∃ B, B = w.heap.size := ⟨_, rfl⟩
  rw [← eB] at HS1 ⊢
  clear eB
  have tB : Calm w1 (w1.alloc (.cells (tc y0) 35)) := (Touch.refl _ _).alloc _
  have TB := hide tB
  obtain ⟨⟨q0, q1, q2, q3⟩, -⟩ := cells4 (heap_alloc_last w1 (.cells (tc y0) 35))
  obtain ⟨b0, off, hlo, p0, p1, p2, p3⟩ := (HW.out.rl.calm (T1.out.tr TB.out)).tms 0 HNP.out
  have hl0 : L[0]'(HNP.out) = y0 := HY0.out HNP.out
  rw [hl0] at p0 p1 p2 p3
  simp only [Nat.zero_mul, Nat.add_zero] at p0 p1 p2 p3
  subst hlo
  have hnp : 0 < n := by rw [← HN.out]; exact HNP.out
  have hnp' : (0 : Int) < (n : Int) := by omega
  have hd1 : decide ((0 : Int) < (n : Int)) = true := decide_eq_true hnp'
  have hd2 : decide (0 < n) = true := decide_eq_true hnp
  clear hl0 tB
  go_wp2_with fail
  go_quiet (fail)
  rename_i nq
  clear q0 q1 q2 q3
  clear p0 p1 p2 p3 hd1 hd2 hnp hnp'
  go_wp2_with fail
  obtain ⟨w2, ew2⟩ : ∃ w2, w2 = (w1.alloc (.cells (tc y0) 35)).drewN nq := ⟨_, rfl⟩
  have T12 : Hid (Calm w w2) := hide (by rw [ew2]; exact (T1.out.tr TB.out).drewN nq)
  have HS2 : Hid (w2.heap[B]? = some (.cells (sc ⟨4, on, leave, t, tu, upto⟩) 41 (0, 0))) := hide (by rw [ew2]; exact ((TB.out.drewN nq).at HS1.out))
  rw [← ew2]
  clear ew2 TB HS1 T1
  have HAS := hide (fun W (hW : Calm w2 W) => has_any q F V t W (HW.out.tq.calm (T12.out.tr hW)) HGT.out)
  have RH := hide (fun W (hW : Calm w2 W) => rhas_any (some ⟨b0, off, none⟩) lc L t W ((HW.out.rl.calm (T12.out.tr hW)).tms) HW.out.srt (by have := HL9.out; omega))
  have LEN := hide (fun W (hW : Calm w2 W) => len_any q F V W (HW.out.tq.calm (T12.out.tr hW)))
  rw [HVL.out, HN.out] at LEN
  rw [HN.out] at RH
  obtain ⟨c, ec⟩ : ∃ c, decide (t ∈ L) = c := ⟨_, rfl⟩
  have EC := hide ec
  have EDT := hide (edt t)
  rw [ec] at EDT
  clear ec edt
  refine wp_only ?_
  refine wp_region_held (S := Calm w2) (by kernel_rfl) ?_
  have ty0 : Calm w2 { w2 with drawn := w2.drawn + 1 } := (Touch.refl (fun _ => False) w2).drew
  refine wpAnyH_yield 0 159 (.pointer (some ⟨q, 0, none⟩)) rfl rfl (by kernel_rfl) (by kernel_rfl) (by kernel_rfl) (fun _ _ _ h => h) (by kernel_rfl) (fun W hW => by kernel_rfl) (by assumption) rfl rfl ?_
  simp only [Act.put, List.setIfInBounds_toArray, List.set_cons_zero, List.set_cons_succ]
  refine wpAnyH_yield 1 160 (.pointer (some ⟨B, 3, none⟩)) rfl rfl (by kernel_rfl) (by kernel_rfl) (by kernel_rfl) (fun _ _ _ h => h) (by kernel_rfl) (fun W hW => by go_simp) (by assumption) rfl rfl ?_
  simp only [Act.put, List.setIfInBounds_toArray, List.set_cons_zero, List.set_cons_succ]
  refine wpAnyH_yield 2 161 (tv t) rfl rfl (by kernel_rfl) (by kernel_rfl) (by kernel_rfl) (fun _ _ _ h => h) (by kernel_rfl) (fun W hW => by obtain ⟨-, -, -, ⟨d3, d4, d5, d6⟩, -⟩ := cells12 (hW.at HS2.out); go_simp) (by assumption) rfl rfl ?_
  simp only [Act.put, List.setIfInBounds_toArray, List.set_cons_zero, List.set_cons_succ]
  refine wpAnyH_yield 4 163 (.slice (some ⟨b0, off, none⟩) n lc) rfl rfl (by kernel_rfl) (by kernel_rfl) (by kernel_rfl) (fun _ _ _ h => h) (by kernel_rfl) (fun W hW => by kernel_rfl) (by assumption) rfl rfl ?_
  simp only [Act.put, List.setIfInBounds_toArray, List.set_cons_zero, List.set_cons_succ]
  refine wpAnyH_yield 5 164 (.pointer (some ⟨B, 3, none⟩)) rfl rfl (by kernel_rfl) (by kernel_rfl) (by kernel_rfl) (fun _ _ _ h => h) (by kernel_rfl) (fun W hW => by go_simp) (by assumption) rfl rfl ?_
  simp only [Act.put, List.setIfInBounds_toArray, List.set_cons_zero, List.set_cons_succ]
  refine wpAnyH_yield 6 165 (tv t) rfl rfl (by kernel_rfl) (by kernel_rfl) (by kernel_rfl) (fun _ _ _ h => h) (by kernel_rfl) (fun W hW => by obtain ⟨-, -, -, ⟨d3, d4, d5, d6⟩, -⟩ := cells12 (hW.at HS2.out); go_simp) (by assumption) rfl rfl ?_
  simp only [Act.put, List.setIfInBounds_toArray, List.set_cons_zero, List.set_cons_succ]
  refine wpAnyH_enter 3 162 20 #[.pointer (some ⟨q, 0, none⟩), tv t] rfl rfl (by kernel_rfl) (by kernel_rfl) (by kernel_rfl) ?_
  refine (HAS.out _ ty0).mono ?_
  rintro e y1 ⟨he, h1⟩
  rw [EDT.out] at he
  have ty1 : Calm w2 y1 := ty0.tr h1
  refine ⟨_, he, ty1, ?_⟩
  simp only [Act.put, List.setIfInBounds_toArray, List.set_cons_zero, List.set_cons_succ]
  refine wpAnyH_enter 7 166 24 #[.slice (some ⟨b0, off, none⟩) n lc, tv t] rfl rfl (by kernel_rfl) (by kernel_rfl) (by kernel_rfl) ?_
  refine (RH.out _ ty1).mono ?_
  rintro e y2 ⟨he, h2⟩
  rw [EC.out] at he
  have ty2 : Calm w2 y2 := ty1.tr h2
  refine ⟨_, he, ty2, ?_⟩
  simp only [Act.put, List.setIfInBounds_toArray, List.set_cons_zero, List.set_cons_succ]
  refine wpAnyH_yield 8 167 (.bool true) rfl rfl (by kernel_rfl) (by kernel_rfl) (by kernel_rfl) (fun _ _ _ h => h) (by kernel_rfl) (fun W hW => by cases c <;> go_simp) (by assumption) rfl rfl ?_
  simp only [Act.put, List.setIfInBounds_toArray, List.set_cons_zero, List.set_cons_succ]
  refine wpAnyH_yield 9 168 (.bool true) rfl rfl (by kernel_rfl) (by kernel_rfl) (by kernel_rfl) (fun _ _ _ h => h) (by kernel_rfl) (fun W hW => by kernel_rfl) (by assumption) rfl rfl ?_
  simp only [Act.put, List.setIfInBounds_toArray, List.set_cons_zero, List.set_cons_succ]
  refine wpAnyH_yield 10 169 (.pointer (some ⟨q, 0, none⟩)) rfl rfl (by kernel_rfl) (by kernel_rfl) (by kernel_rfl) (fun _ _ _ h => h) (by kernel_rfl) (fun W hW => by kernel_rfl) (by assumption) rfl rfl ?_
  simp only [Act.put, List.setIfInBounds_toArray, List.set_cons_zero, List.set_cons_succ]
  refine wpAnyH_yield 12 171 (.slice (some ⟨b0, off, none⟩) n lc) rfl rfl (by kernel_rfl) (by kernel_rfl) (by kernel_rfl) (fun _ _ _ h => h) (by kernel_rfl) (fun W hW => by kernel_rfl) (by assumption) rfl rfl ?_
  simp only [Act.put, List.setIfInBounds_toArray, List.set_cons_zero, List.set_cons_succ]
  refine wpAnyH_yield 13 172 (.int .i64 (n : Int)) rfl rfl (by kernel_rfl) (by kernel_rfl) (by kernel_rfl) (fun _ _ _ h => h) (by kernel_rfl) (fun W hW => by kernel_rfl) (by assumption) rfl rfl ?_
  simp only [Act.put, List.setIfInBounds_toArray, List.set_cons_zero, List.set_cons_succ]
  refine wpAnyH_enter 11 170 14 #[.pointer (some ⟨q, 0, none⟩)] rfl rfl (by kernel_rfl) (by kernel_rfl) (by kernel_rfl) ?_
  refine (LEN.out _ ty2).mono ?_
  rintro e y3 ⟨rfl, h3⟩
  have ty3 : Calm w2 y3 := by rw [h3]; exact ty2
  refine ⟨_, rfl, ty3, ?_⟩
  simp only [Act.put, List.setIfInBounds_toArray, List.set_cons_zero, List.set_cons_succ]
  refine wpAnyH_yield 14 173 (.bool true) rfl rfl (by kernel_rfl) (by kernel_rfl) (by kernel_rfl) (fun _ _ _ h => h) (by kernel_rfl) (fun W hW => by go_simp) (by assumption) rfl rfl ?_
  simp only [Act.put, List.setIfInBounds_toArray, List.set_cons_zero, List.set_cons_succ]
  refine wpAnyH_yield 15 174 (.bool true) rfl rfl (by kernel_rfl) (by kernel_rfl) (by kernel_rfl) (fun _ _ _ h => h) (by kernel_rfl) (fun W hW => by kernel_rfl) (by assumption) rfl rfl ?_
  simp only [Act.put, List.setIfInBounds_toArray, List.set_cons_zero, List.set_cons_succ]
  refine wpAnyH_yield 16 4 (.bool true) rfl rfl (by kernel_rfl) (by kernel_rfl) (by kernel_rfl) (fun _ _ _ h => h) (by kernel_rfl) (fun W hW => by kernel_rfl) (by assumption) rfl rfl ?_
  simp only [Act.put, List.setIfInBounds_toArray, List.set_cons_zero, List.set_cons_succ]
  refine wpAnyH_done (by kernel_rfl) ?_ _
  rw [onlyN_normal]
  have RES := hide (HW.out.same (T12.out.tr ty3))
  clear ty0 ty1 ty2 ty3 h1 h2 h3 he
  go_wp2_with fail
  go_ret
  exact RES.out

set_option maxRecDepth 100000 in
set_option maxHeartbeats 2000000 in
theorem step4a_1 (b q : Nat) (F : Nat → Prop) (V L : List Tm) (lo : Option Addr) (lc : Nat) (x y u v : Value) (on leave : Int) (t tu : Tm) (upto : Int) (w : World) (h : Wd w b 1 q F V L lo lc x y u v) (hk : kOf on = 1) (gt : Good t) (gu : Good tu) (hne : L = []) (hl : L.length < 3518437208780) :
    Calls Try.prog 11 #[.pointer (some ⟨b, 0, none⟩), sv ⟨4, on, leave, t, tu, upto⟩] w (StpR w b 1 q F L lo x y u v) := by
  obtain ⟨s, es⟩ : ∃ s : Sp, s = ⟨4, on, leave, t, tu, upto⟩ := ⟨_, rfl⟩
  have hB := heap_alloc_last w (.cells (sc ⟨4, on, leave, t, tu, upto⟩) 41)
  have tA : Calm w (w.alloc (.cells (sc ⟨4, on, leave, t, tu, upto⟩) 41)) := (Touch.refl _ _).alloc _
  have HVL := hide h.len
  have HW := hide h
  have HLT : Hid (¬ F w.heap.size) := hide (fun e => by have := h.tq.lt _ e; omega)
  have edt : ∀ z, decide (z ∈ V) = decide (z ∈ L) := fun z => decide_eq_decide.2 (h.mem z)
  have HL9 := hide hl
  have HTA := hide tA
  have HHB := hide hB
  have hlv : V.length < 3518437208790 := by have := h.len; omega
  have hV : V = [] := List.eq_nil_of_length_eq_zero (by rw [h.len, hne]; rfl)
  have NX : Hid (Calls Try.prog 19 #[.pointer (some ⟨q, 0, none⟩)] (w.alloc (.cells (sc ⟨4, on, leave, t, tu, upto⟩) 41)) fun e w' => e = .returned (.tuple #[.agg #[.int .i64 0, .string { data := #[] }, .int .i64 0, .int .i64 0], .bool false]) ∧ Calm (w.alloc (.cells (sc ⟨4, on, leave, t, tu, upto⟩) 41)) w') := hide (next_none q F (w.alloc (.cells (sc ⟨4, on, leave, t, tu, upto⟩) 41)) (by rw [← hV]; exact h.tq.calm tA))
  have HN0 : Hid (L.length = 0) := hide (by rw [hne]; rfl)
  clear hV hne
  obtain ⟨n, hn⟩ : ∃ n, L.length = n := ⟨_, rfl⟩
  have HN := hide hn
  obtain ⟨d0, d1, d2, ⟨d3, d4, d5, d6⟩, ⟨d7, d8, d9, d10⟩, d11⟩ := cells12 hB
  obtain ⟨e0, e1, e2, e3, e4, e5⟩ := cells6 (show (w.alloc (.cells (sc ⟨4, on, leave, t, tu, upto⟩) 41)).heap[b]? = some (.cells #[x, .pointer (some ⟨q, 0, none⟩), y, .slice lo n lc, u, v] 31 (0, 0)) from by have h9 := tA.at h.own; rw [hn] at h9; exact h9)
  have HGT := hide gt
  have HGU := hide gu
  unfold kOf at hk
  simp only at d0 d1 d2 d3 d4 d5 d6 d7 d8 d9 d10 d11
  clear h hB tA hl hlv gt gu hn es s
  go_enter Try.func11, Try.ntmps11
  go_wp2_with fail
  refine NX.out.mono ?_
  rintro e w1 ⟨rfl, t1⟩
  have T1 := hide (HTA.out.tr t1)
  have HS1 : Hid (w1.heap[w.heap.size]? = some (.cells (sc ⟨4, on, leave, t, tu, upto⟩) 41 (0, 0))) := hide (t1.at HHB.out)
  clear t1 NX d0 d1 d2 d3 d4 d5 d6 d7 d8 d9 d10 d11 e0 e1 e2 e3 e4 e5
  obtain ⟨B, eB⟩ : ∃ B, B = w.heap.size := ⟨_, rfl⟩
  rw [← eB] at HS1 ⊢
  clear eB
  have tB : Calm w1 (w1.alloc (.cells #[.int .i64 0, .string { data := #[] }, .int .i64 0, .int .i64 0] 35)) := (Touch.refl _ _).alloc _
  have TB := hide tB
  obtain ⟨⟨q0, q1, q2, q3⟩, -⟩ := cells4 (heap_alloc_last w1 (.cells #[.int .i64 0, .string { data := #[] }, .int .i64 0, .int .i64 0] 35))
  have hn0 : n = 0 := by rw [← HN.out]; exact HN0.out
  subst hn0
  clear tB
  go_wp2_with fail
  go_quiet (fail)
  rename_i nq
  clear q0 q1 q2 q3
  go_wp2_with fail
  obtain ⟨w2, ew2⟩ : ∃ w2, w2 = (w1.alloc (.cells #[.int .i64 0, .string { data := #[] }, .int .i64 0, .int .i64 0] 35)).drewN nq := ⟨_, rfl⟩
  have T12 : Hid (Calm w w2) := hide (by rw [ew2]; exact (T1.out.tr TB.out).drewN nq)
  have HS2 : Hid (w2.heap[B]? = some (.cells (sc ⟨4, on, leave, t, tu, upto⟩) 41 (0, 0))) := hide (by rw [ew2]; exact ((TB.out.drewN nq).at HS1.out))
  rw [← ew2]
  clear ew2 TB HS1 T1
  have HAS := hide (fun W (hW : Calm w2 W) => has_any q F V t W (HW.out.tq.calm (T12.out.tr hW)) HGT.out)
  have RH := hide (fun W (hW : Calm w2 W) => rhas_any lo lc L t W ((HW.out.rl.calm (T12.out.tr hW)).tms) HW.out.srt (by have := HL9.out; omega))
  have LEN := hide (fun W (hW : Calm w2 W) => len_any q F V W (HW.out.tq.calm (T12.out.tr hW)))
  rw [HVL.out, HN.out] at LEN
  rw [HN.out] at RH
  obtain ⟨c, ec⟩ : ∃ c, decide (t ∈ L) = c := ⟨_, rfl⟩
  have EC := hide ec
  have EDT := hide (edt t)
  rw [ec] at EDT
  clear ec edt
  refine wp_only ?_
  refine wp_region_held (S := Calm w2) (by kernel_rfl) ?_
  have ty0 : Calm w2 { w2 with drawn := w2.drawn + 1 } := (Touch.refl (fun _ => False) w2).drew
  refine wpAnyH_yield 0 159 (.pointer (some ⟨q, 0, none⟩)) rfl rfl (by kernel_rfl) (by kernel_rfl) (by kernel_rfl) (fun _ _ _ h => h) (by kernel_rfl) (fun W hW => by kernel_rfl) (by assumption) rfl rfl ?_
  simp only [Act.put, List.setIfInBounds_toArray, List.set_cons_zero, List.set_cons_succ]
  refine wpAnyH_yield 1 160 (.pointer (some ⟨B, 3, none⟩)) rfl rfl (by kernel_rfl) (by kernel_rfl) (by kernel_rfl) (fun _ _ _ h => h) (by kernel_rfl) (fun W hW => by go_simp) (by assumption) rfl rfl ?_
  simp only [Act.put, List.setIfInBounds_toArray, List.set_cons_zero, List.set_cons_succ]
  refine wpAnyH_yield 2 161 (tv t) rfl rfl (by kernel_rfl) (by kernel_rfl) (by kernel_rfl) (fun _ _ _ h => h) (by kernel_rfl) (fun W hW => by obtain ⟨-, -, -, ⟨d3, d4, d5, d6⟩, -⟩ := cells12 (hW.at HS2.out); go_simp) (by assumption) rfl rfl ?_
  simp only [Act.put, List.setIfInBounds_toArray, List.set_cons_zero, List.set_cons_succ]
  refine wpAnyH_yield 4 163 (.slice lo 0 lc) rfl rfl (by kernel_rfl) (by kernel_rfl) (by kernel_rfl) (fun _ _ _ h => h) (by kernel_rfl) (fun W hW => by kernel_rfl) (by assumption) rfl rfl ?_
  simp only [Act.put, List.setIfInBounds_toArray, List.set_cons_zero, List.set_cons_succ]
  refine wpAnyH_yield 5 164 (.pointer (some ⟨B, 3, none⟩)) rfl rfl (by kernel_rfl) (by kernel_rfl) (by kernel_rfl) (fun _ _ _ h => h) (by kernel_rfl) (fun W hW => by go_simp) (by assumption) rfl rfl ?_
  simp only [Act.put, List.setIfInBounds_toArray, List.set_cons_zero, List.set_cons_succ]
  refine wpAnyH_yield 6 165 (tv t) rfl rfl (by kernel_rfl) (by kernel_rfl) (by kernel_rfl) (fun _ _ _ h => h) (by kernel_rfl) (fun W hW => by obtain ⟨-, -, -, ⟨d3, d4, d5, d6⟩, -⟩ := cells12 (hW.at HS2.out); go_simp) (by assumption) rfl rfl ?_
  simp only [Act.put, List.setIfInBounds_toArray, List.set_cons_zero, List.set_cons_succ]
  refine wpAnyH_enter 3 162 20 #[.pointer (some ⟨q, 0, none⟩), tv t] rfl rfl (by kernel_rfl) (by kernel_rfl) (by kernel_rfl) ?_
  refine (HAS.out _ ty0).mono ?_
  rintro e y1 ⟨he, h1⟩
  rw [EDT.out] at he
  have ty1 : Calm w2 y1 := ty0.tr h1
  refine ⟨_, he, ty1, ?_⟩
  simp only [Act.put, List.setIfInBounds_toArray, List.set_cons_zero, List.set_cons_succ]
  refine wpAnyH_enter 7 166 24 #[.slice lo 0 lc, tv t] rfl rfl (by kernel_rfl) (by kernel_rfl) (by kernel_rfl) ?_
  refine (RH.out _ ty1).mono ?_
  rintro e y2 ⟨he, h2⟩
  rw [EC.out] at he
  have ty2 : Calm w2 y2 := ty1.tr h2
  refine ⟨_, he, ty2, ?_⟩
  simp only [Act.put, List.setIfInBounds_toArray, List.set_cons_zero, List.set_cons_succ]
  refine wpAnyH_yield 8 167 (.bool true) rfl rfl (by kernel_rfl) (by kernel_rfl) (by kernel_rfl) (fun _ _ _ h => h) (by kernel_rfl) (fun W hW => by cases c <;> go_simp) (by assumption) rfl rfl ?_
  simp only [Act.put, List.setIfInBounds_toArray, List.set_cons_zero, List.set_cons_succ]
  refine wpAnyH_yield 9 168 (.bool true) rfl rfl (by kernel_rfl) (by kernel_rfl) (by kernel_rfl) (fun _ _ _ h => h) (by kernel_rfl) (fun W hW => by kernel_rfl) (by assumption) rfl rfl ?_
  simp only [Act.put, List.setIfInBounds_toArray, List.set_cons_zero, List.set_cons_succ]
  refine wpAnyH_yield 10 169 (.pointer (some ⟨q, 0, none⟩)) rfl rfl (by kernel_rfl) (by kernel_rfl) (by kernel_rfl) (fun _ _ _ h => h) (by kernel_rfl) (fun W hW => by kernel_rfl) (by assumption) rfl rfl ?_
  simp only [Act.put, List.setIfInBounds_toArray, List.set_cons_zero, List.set_cons_succ]
  refine wpAnyH_yield 12 171 (.slice lo 0 lc) rfl rfl (by kernel_rfl) (by kernel_rfl) (by kernel_rfl) (fun _ _ _ h => h) (by kernel_rfl) (fun W hW => by kernel_rfl) (by assumption) rfl rfl ?_
  simp only [Act.put, List.setIfInBounds_toArray, List.set_cons_zero, List.set_cons_succ]
  refine wpAnyH_yield 13 172 (.int .i64 0) rfl rfl (by kernel_rfl) (by kernel_rfl) (by kernel_rfl) (fun _ _ _ h => h) (by kernel_rfl) (fun W hW => by kernel_rfl) (by assumption) rfl rfl ?_
  simp only [Act.put, List.setIfInBounds_toArray, List.set_cons_zero, List.set_cons_succ]
  refine wpAnyH_enter 11 170 14 #[.pointer (some ⟨q, 0, none⟩)] rfl rfl (by kernel_rfl) (by kernel_rfl) (by kernel_rfl) ?_
  refine (LEN.out _ ty2).mono ?_
  rintro e y3 ⟨rfl, h3⟩
  have ty3 : Calm w2 y3 := by rw [h3]; exact ty2
  refine ⟨_, rfl, ty3, ?_⟩
  simp only [Act.put, List.setIfInBounds_toArray, List.set_cons_zero, List.set_cons_succ]
  refine wpAnyH_yield 14 173 (.bool true) rfl rfl (by kernel_rfl) (by kernel_rfl) (by kernel_rfl) (fun _ _ _ h => h) (by kernel_rfl) (fun W hW => by go_simp) (by assumption) rfl rfl ?_
  simp only [Act.put, List.setIfInBounds_toArray, List.set_cons_zero, List.set_cons_succ]
  refine wpAnyH_yield 15 174 (.bool true) rfl rfl (by kernel_rfl) (by kernel_rfl) (by kernel_rfl) (fun _ _ _ h => h) (by kernel_rfl) (fun W hW => by kernel_rfl) (by assumption) rfl rfl ?_
  simp only [Act.put, List.setIfInBounds_toArray, List.set_cons_zero, List.set_cons_succ]
  refine wpAnyH_yield 16 4 (.bool true) rfl rfl (by kernel_rfl) (by kernel_rfl) (by kernel_rfl) (fun _ _ _ h => h) (by kernel_rfl) (fun W hW => by kernel_rfl) (by assumption) rfl rfl ?_
  simp only [Act.put, List.setIfInBounds_toArray, List.set_cons_zero, List.set_cons_succ]
  refine wpAnyH_done (by kernel_rfl) ?_ _
  rw [onlyN_normal]
  have RES := hide (HW.out.same (T12.out.tr ty3))
  clear ty0 ty1 ty2 ty3 h1 h2 h3 he
  go_wp2_with fail
  go_ret
  exact RES.out

set_option maxRecDepth 100000 in
set_option maxHeartbeats 2000000 in
theorem step4b_1 (b q : Nat) (F : Nat → Prop) (V L : List Tm) (lo : Option Addr) (lc : Nat) (x y u v : Value) (on leave : Int) (t tu : Tm) (upto : Int) (w : World) (h : Wd w b 1 q F V L lo lc x y u v) (hk : kOf on = 1) (gt : Good t) (gu : Good tu) (hne : L ≠ []) (hl : L.length < 3518437208780) :
    Calls Try.prog 11 #[.pointer (some ⟨b, 0, none⟩), sv ⟨4, on, leave, t, tu, upto⟩] w (StpR w b 1 q F L lo x y u v) := by
  obtain ⟨s, es⟩ : ∃ s : Sp, s = ⟨4, on, leave, t, tu, upto⟩ := ⟨_, rfl⟩
  have hB := heap_alloc_last w (.cells (sc ⟨4, on, leave, t, tu, upto⟩) 41)
  have tA : Calm w (w.alloc (.cells (sc ⟨4, on, leave, t, tu, upto⟩) 41)) := (Touch.refl _ _).alloc _
  have HVL := hide h.len
  have HW := hide h
  have HLT : Hid (¬ F w.heap.size) := hide (fun e => by have := h.tq.lt _ e; omega)
  have edt : ∀ z, decide (z ∈ V) = decide (z ∈ L) := fun z => decide_eq_decide.2 (h.mem z)
  have HL9 := hide hl
  have HTA := hide tA
  have HHB := hide hB
  have hlv : V.length < 3518437208790 := by have := h.len; omega
  obtain ⟨y0, hy0, hV0, hfst⟩ := h.head hne
  have NX := hide (next_any q F V _ (h.tq.calm tA) hV0)
  rw [hfst] at NX
  have HY0 := hide hy0
  have HNP : Hid (0 < L.length) := hide (List.length_pos_iff.2 hne)
  clear hy0 hV0 hfst hne
  obtain ⟨n, hn⟩ : ∃ n, L.length = n := ⟨_, rfl⟩
  have HN := hide hn
  obtain ⟨d0, d1, d2, ⟨d3, d4, d5, d6⟩, ⟨d7, d8, d9, d10⟩, d11⟩ := cells12 hB
  obtain ⟨e0, e1, e2, e3, e4, e5⟩ := cells6 (show (w.alloc (.cells (sc ⟨4, on, leave, t, tu, upto⟩) 41)).heap[b]? = some (.cells #[x, .pointer (some ⟨q, 0, none⟩), y, .slice lo n lc, u, v] 31 (0, 0)) from by have h9 := tA.at h.own; rw [hn] at h9; exact h9)
  have HGT := hide gt
  have HGU := hide gu
  unfold kOf at hk
  simp only at d0 d1 d2 d3 d4 d5 d6 d7 d8 d9 d10 d11
  clear h hB tA hl hlv gt gu hn es s
  go_enter Try.func11, Try.ntmps11
  go_wp2_with fail
  refine NX.out.mono ?_
  rintro e w1 ⟨rfl, t1⟩
  have T1 := hide (HTA.out.tr t1)
  have HS1 : Hid (w1.heap[w.heap.size]? = some (.cells (sc ⟨4, on, leave, t, tu, upto⟩) 41 (0, 0))) := hide (t1.at HHB.out)
  clear t1 NX d0 d1 d2 d3 d4 d5 d6 d7 d8 d9 d10 d11 e0 e1 e2 e3 e4 e5
  obtain ⟨B, eB⟩ : ∃ B, B = w.heap.size := ⟨_, rfl⟩
  rw [← eB] at HS1 ⊢
  clear eB
  have tB : Calm w1 (w1.alloc (.cells (tc y0) 35)) := (Touch.refl _ _).alloc _
  have TB := hide tB
  obtain ⟨⟨q0, q1, q2, q3⟩, -⟩ := cells4 (heap_alloc_last w1 (.cells (tc y0) 35))
  obtain ⟨b0, off, hlo, p0, p1, p2, p3⟩ := (HW.out.rl.calm (T1.out.tr TB.out)).tms 0 HNP.out
  have hl0 : L[0]'(HNP.out) = y0 := HY0.out HNP.out
  rw [hl0] at p0 p1 p2 p3
  simp only [Nat.zero_mul, Nat.add_zero] at p0 p1 p2 p3
  subst hlo
  have hnp : 0 < n := by rw [← HN.out]; exact HNP.out
  have hnp' : (0 : Int) < (n : Int) := by omega
  have hd1 : decide ((0 : Int) < (n : Int)) = true := decide_eq_true hnp'
  have hd2 : decide (0 < n) = true := decide_eq_true hnp
  clear hl0 tB
  go_wp2_with fail
  go_quiet (fail)
  rename_i nq
  clear q0 q1 q2 q3
  clear p0 p1 p2 p3 hd1 hd2 hnp hnp'
  go_wp2_with fail
  obtain ⟨w2, ew2⟩ : ∃ w2, w2 = (w1.alloc (.cells (tc y0) 35)).drewN nq := ⟨_, rfl⟩
  have T12 : Hid (Calm w w2) := hide (by rw [ew2]; exact (T1.out.tr TB.out).drewN nq)
  have HS2 : Hid (w2.heap[B]? = some (.cells (sc ⟨4, on, leave, t, tu, upto⟩) 41 (0, 0))) := hide (by rw [ew2]; exact ((TB.out.drewN nq).at HS1.out))
  rw [← ew2]
  clear ew2 TB HS1 T1
  have HAS := hide (fun W (hW : Calm w2 W) => has_any q F V t W (HW.out.tq.calm (T12.out.tr hW)) HGT.out)
  have RH := hide (fun W (hW : Calm w2 W) => rhas_any (some ⟨b0, off, none⟩) lc L t W ((HW.out.rl.calm (T12.out.tr hW)).tms) HW.out.srt (by have := HL9.out; omega))
  have LEN := hide (fun W (hW : Calm w2 W) => len_any q F V W (HW.out.tq.calm (T12.out.tr hW)))
  rw [HVL.out, HN.out] at LEN
  rw [HN.out] at RH
  obtain ⟨c, ec⟩ : ∃ c, decide (t ∈ L) = c := ⟨_, rfl⟩
  have EC := hide ec
  have EDT := hide (edt t)
  rw [ec] at EDT
  clear ec edt
  refine wp_only ?_
  refine wp_region_held (S := Calm w2) (by kernel_rfl) ?_
  have ty0 : Calm w2 { w2 with drawn := w2.drawn + 1 } := (Touch.refl (fun _ => False) w2).drew
  refine wpAnyH_yield 0 159 (.pointer (some ⟨q, 0, none⟩)) rfl rfl (by kernel_rfl) (by kernel_rfl) (by kernel_rfl) (fun _ _ _ h => h) (by kernel_rfl) (fun W hW => by kernel_rfl) (by assumption) rfl rfl ?_
  simp only [Act.put, List.setIfInBounds_toArray, List.set_cons_zero, List.set_cons_succ]
  refine wpAnyH_yield 1 160 (.pointer (some ⟨B, 3, none⟩)) rfl rfl (by kernel_rfl) (by kernel_rfl) (by kernel_rfl) (fun _ _ _ h => h) (by kernel_rfl) (fun W hW => by go_simp) (by assumption) rfl rfl ?_
  simp only [Act.put, List.setIfInBounds_toArray, List.set_cons_zero, List.set_cons_succ]
  refine wpAnyH_yield 2 161 (tv t) rfl rfl (by kernel_rfl) (by kernel_rfl) (by kernel_rfl) (fun _ _ _ h => h) (by kernel_rfl) (fun W hW => by obtain ⟨-, -, -, ⟨d3, d4, d5, d6⟩, -⟩ := cells12 (hW.at HS2.out); go_simp) (by assumption) rfl rfl ?_
  simp only [Act.put, List.setIfInBounds_toArray, List.set_cons_zero, List.set_cons_succ]
  refine wpAnyH_yield 4 163 (.slice (some ⟨b0, off, none⟩) n lc) rfl rfl (by kernel_rfl) (by kernel_rfl) (by kernel_rfl) (fun _ _ _ h => h) (by kernel_rfl) (fun W hW => by kernel_rfl) (by assumption) rfl rfl ?_
  simp only [Act.put, List.setIfInBounds_toArray, List.set_cons_zero, List.set_cons_succ]
  refine wpAnyH_yield 5 164 (.pointer (some ⟨B, 3, none⟩)) rfl rfl (by kernel_rfl) (by kernel_rfl) (by kernel_rfl) (fun _ _ _ h => h) (by kernel_rfl) (fun W hW => by go_simp) (by assumption) rfl rfl ?_
  simp only [Act.put, List.setIfInBounds_toArray, List.set_cons_zero, List.set_cons_succ]
  refine wpAnyH_yield 6 165 (tv t) rfl rfl (by kernel_rfl) (by kernel_rfl) (by kernel_rfl) (fun _ _ _ h => h) (by kernel_rfl) (fun W hW => by obtain ⟨-, -, -, ⟨d3, d4, d5, d6⟩, -⟩ := cells12 (hW.at HS2.out); go_simp) (by assumption) rfl rfl ?_
  simp only [Act.put, List.setIfInBounds_toArray, List.set_cons_zero, List.set_cons_succ]
  refine wpAnyH_enter 3 162 20 #[.pointer (some ⟨q, 0, none⟩), tv t] rfl rfl (by kernel_rfl) (by kernel_rfl) (by kernel_rfl) ?_
  refine (HAS.out _ ty0).mono ?_
  rintro e y1 ⟨he, h1⟩
  rw [EDT.out] at he
  have ty1 : Calm w2 y1 := ty0.tr h1
  refine ⟨_, he, ty1, ?_⟩
  simp only [Act.put, List.setIfInBounds_toArray, List.set_cons_zero, List.set_cons_succ]
  refine wpAnyH_enter 7 166 24 #[.slice (some ⟨b0, off, none⟩) n lc, tv t] rfl rfl (by kernel_rfl) (by kernel_rfl) (by kernel_rfl) ?_
  refine (RH.out _ ty1).mono ?_
  rintro e y2 ⟨he, h2⟩
  rw [EC.out] at he
  have ty2 : Calm w2 y2 := ty1.tr h2
  refine ⟨_, he, ty2, ?_⟩
  simp only [Act.put, List.setIfInBounds_toArray, List.set_cons_zero, List.set_cons_succ]
  refine wpAnyH_yield 8 167 (.bool true) rfl rfl (by kernel_rfl) (by kernel_rfl) (by kernel_rfl) (fun _ _ _ h => h) (by kernel_rfl) (fun W hW => by cases c <;> go_simp) (by assumption) rfl rfl ?_
  simp only [Act.put, List.setIfInBounds_toArray, List.set_cons_zero, List.set_cons_succ]
  refine wpAnyH_yield 9 168 (.bool true) rfl rfl (by kernel_rfl) (by kernel_rfl) (by kernel_rfl) (fun _ _ _ h => h) (by kernel_rfl) (fun W hW => by kernel_rfl) (by assumption) rfl rfl ?_
  simp only [Act.put, List.setIfInBounds_toArray, List.set_cons_zero, List.set_cons_succ]
  refine wpAnyH_yield 10 169 (.pointer (some ⟨q, 0, none⟩)) rfl rfl (by kernel_rfl) (by kernel_rfl) (by kernel_rfl) (fun _ _ _ h => h) (by kernel_rfl) (fun W hW => by kernel_rfl) (by assumption) rfl rfl ?_
  simp only [Act.put, List.setIfInBounds_toArray, List.set_cons_zero, List.set_cons_succ]
  refine wpAnyH_yield 12 171 (.slice (some ⟨b0, off, none⟩) n lc) rfl rfl (by kernel_rfl) (by kernel_rfl) (by kernel_rfl) (fun _ _ _ h => h) (by kernel_rfl) (fun W hW => by kernel_rfl) (by assumption) rfl rfl ?_
  simp only [Act.put, List.setIfInBounds_toArray, List.set_cons_zero, List.set_cons_succ]
  refine wpAnyH_yield 13 172 (.int .i64 (n : Int)) rfl rfl (by kernel_rfl) (by kernel_rfl) (by kernel_rfl) (fun _ _ _ h => h) (by kernel_rfl) (fun W hW => by kernel_rfl) (by assumption) rfl rfl ?_
  simp only [Act.put, List.setIfInBounds_toArray, List.set_cons_zero, List.set_cons_succ]
  refine wpAnyH_enter 11 170 14 #[.pointer (some ⟨q, 0, none⟩)] rfl rfl (by kernel_rfl) (by kernel_rfl) (by kernel_rfl) ?_
  refine (LEN.out _ ty2).mono ?_
  rintro e y3 ⟨rfl, h3⟩
  have ty3 : Calm w2 y3 := by rw [h3]; exact ty2
  refine ⟨_, rfl, ty3, ?_⟩
  simp only [Act.put, List.setIfInBounds_toArray, List.set_cons_zero, List.set_cons_succ]
  refine wpAnyH_yield 14 173 (.bool true) rfl rfl (by kernel_rfl) (by kernel_rfl) (by kernel_rfl) (fun _ _ _ h => h) (by kernel_rfl) (fun W hW => by go_simp) (by assumption) rfl rfl ?_
  simp only [Act.put, List.setIfInBounds_toArray, List.set_cons_zero, List.set_cons_succ]
  refine wpAnyH_yield 15 174 (.bool true) rfl rfl (by kernel_rfl) (by kernel_rfl) (by kernel_rfl) (fun _ _ _ h => h) (by kernel_rfl) (fun W hW => by kernel_rfl) (by assumption) rfl rfl ?_
  simp only [Act.put, List.setIfInBounds_toArray, List.set_cons_zero, List.set_cons_succ]
  refine wpAnyH_yield 16 4 (.bool true) rfl rfl (by kernel_rfl) (by kernel_rfl) (by kernel_rfl) (fun _ _ _ h => h) (by kernel_rfl) (fun W hW => by kernel_rfl) (by assumption) rfl rfl ?_
  simp only [Act.put, List.setIfInBounds_toArray, List.set_cons_zero, List.set_cons_succ]
  refine wpAnyH_done (by kernel_rfl) ?_ _
  rw [onlyN_normal]
  have RES := hide (HW.out.same (T12.out.tr ty3))
  clear ty0 ty1 ty2 ty3 h1 h2 h3 he
  go_wp2_with fail
  go_ret
  exact RES.out

end Go.Proofs.Ytlnblhajcbmmkaa
