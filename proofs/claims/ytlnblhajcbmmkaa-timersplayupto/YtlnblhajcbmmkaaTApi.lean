/- What is asked of timers. -/
import Derived.Test.YtlnblhajcbmmkaaTTake
namespace Go.Proofs.Ytlnblhajcbmmkaa
open Go.RowKit

theorem Heap.has {V : List Tm} {f : Tm → Option Nat} (h : Heap V f) (t : Tm) : (f t).isSome = decide (t ∈ V) := by
  by_cases ht : t ∈ V
  · obtain ⟨i, hi, e⟩ := mem_nth.1 ht
    rw [← e, h.pl i hi, e]; simp [ht]
  · cases hf : (f t).isSome with
    | true => exact absurd (h.dom t hf) ht
    | false => simp [ht]

theorem map_there (m : Option Nat) (W : World) : (binOp .neq 57 (.map m) (.map none)).run Try.prog W = .ok (.bool m.isSome) W := by
  have e : binOp .neq 57 (.map m) (.map none) = (do pure (.bool (!(← Op.equalIn (9999 + 1) 57 (.map m) (.map none))))) := rfl
  rw [e]
  unfold Op.equalIn
  cases m <;> simp [Sem.run_bind, run_underlying Try.underlying57, Result.andThen_ok, go_sem]

set_option maxRecDepth 100000 in
theorem isThere_any (q : Nat) (F : Nat → Prop) (V : List Tm) (w : World) (h : Tq w q F V) :
    Calls Try.prog 31 #[.pointer (some ⟨q, 0, none⟩)] w fun e w' => e = .returned (.bool true) ∧ w' = w := by
  obtain ⟨ao, cap, mb, f, qm, -⟩ := h.ex
  obtain ⟨c0, c1⟩ := qm.cells
  have hx := map_there (some mb) w
  clear qm h
  go_enter Try.func31, Try.ntmps31
  go_wp2_with fail
  go_ret
  exact ⟨rfl, rfl⟩

set_option maxRecDepth 100000 in
theorem isThere_nil (w : World) : Calls Try.prog 31 #[.pointer none] w fun e w' => e = .returned (.bool false) ∧ w' = w := by
  go_enter Try.func31, Try.ntmps31
  go_wp2_with fail
  go_ret
  exact ⟨rfl, rfl⟩

set_option maxRecDepth 100000 in
theorem isThere_zero (q : Nat) (w : World) (h : w.heap[q]? = some (.cells #[.slice none 0 0, .map none] 59 (0, 0))) : Calls Try.prog 31 #[.pointer (some ⟨q, 0, none⟩)] w fun e w' => e = .returned (.bool false) ∧ w' = w := by
  obtain ⟨c0, c1⟩ := cells2 h
  have hx := map_there none w
  clear h
  go_enter Try.func31, Try.ntmps31
  go_wp2_with fail
  go_ret
  exact ⟨rfl, rfl⟩

set_option maxRecDepth 100000 in
theorem len_any (q : Nat) (F : Nat → Prop) (V : List Tm) (w : World) (h : Tq w q F V) :
    Calls Try.prog 14 #[.pointer (some ⟨q, 0, none⟩)] w fun e w' => e = .returned (.int .i64 (V.length : Int)) ∧ w' = w := by
  have IT := hide (isThere_any q F V w h)
  obtain ⟨ao, cap, mb, f, qm, -⟩ := h.ex
  obtain ⟨c0, c1⟩ := qm.cells
  clear qm h
  generalize V.length = L at *
  go_enter Try.func14, Try.ntmps14
  go_wp2_with fail
  refine IT.out.mono ?_
  rintro e w' ⟨rfl, hq⟩
  subst hq
  go_wp2_with fail
  go_ret
  exact ⟨rfl, rfl⟩

set_option maxRecDepth 100000 in
set_option maxHeartbeats 1000000 in
theorem has_any (q : Nat) (F : Nat → Prop) (V : List Tm) (t : Tm) (w : World) (h : Tq w q F V) (gt : Good t) :
    Calls Try.prog 20 #[.pointer (some ⟨q, 0, none⟩), tv t] w fun e w' => e = .returned (.bool (decide (t ∈ V))) ∧ Calm w w' := by
  have IT := hide (fun W (hW : Calm w W) => isThere_any q F V W (h.calm hW))
  obtain ⟨ao, cap, mb, f, qm, hp, -⟩ := h.ex
  have HQ := hide qm
  have GT := hide gt
  have HAS := hide (hp.has t)
  generalize decide (t ∈ V) = b at *
  clear qm h gt hp
  go_enter Try.func20, Try.ntmps20
  go_wp2_with fail
  have tA : Calm w (w.alloc (.cells #[.int .i64 t.at_, .string t.key, .int .i64 t.start, .int .i64 t.stop] 35)) := (Touch.refl _ _).alloc _
  refine (IT.out _ tA).mono ?_
  rintro e w' ⟨rfl, hq⟩
  subst hq
  have HA := hide (heap_alloc_last w (.cells (tc t) 35))
  have Q0 := hide (HQ.out.calm tA)
  go_wp2_with fail
  generalize w.alloc (.cells #[.int .i64 t.at_, .string t.key, .int .i64 t.start, .int .i64 t.stop] 35) = w0 at *
  generalize w.heap.size = A at *
  refine wp_only ?_
  refine wp_region_held (S := Calm w0) (by kernel_rfl) ?_
  have hT0 : Calm w0 { w0 with drawn := w0.drawn + 1 } := (Touch.refl (fun _ => False) w0).drew
  refine wpAnyH_yield 0 11 (.pointer (some ⟨q, 0, none⟩)) rfl rfl (by kernel_rfl) (by kernel_rfl) (by kernel_rfl) (fun _ _ _ h => h) (by kernel_rfl) (fun W hW => by kernel_rfl) (by assumption) rfl rfl ?_
  simp only [Act.put, List.setIfInBounds_toArray, List.set_cons_zero, List.set_cons_succ]
  refine wpAnyH_yield 1 12 (.pointer (some ⟨q, 0, none⟩)) rfl rfl (by kernel_rfl) (by kernel_rfl) (by kernel_rfl) (fun _ _ _ h => h) (by kernel_rfl) (fun W hW => by kernel_rfl) (by assumption) rfl rfl ?_
  simp only [Act.put, List.setIfInBounds_toArray, List.set_cons_zero, List.set_cons_succ]
  refine wpAnyH_yield 2 13 (.pointer (some ⟨q, 1, none⟩)) rfl rfl (by kernel_rfl) (by kernel_rfl) (by kernel_rfl) (fun _ _ _ h => h) (by kernel_rfl) (fun W hW => by go_simp) (by assumption) rfl rfl ?_
  simp only [Act.put, List.setIfInBounds_toArray, List.set_cons_zero, List.set_cons_succ]
  refine wpAnyH_yield 3 14 (.map (some mb)) rfl rfl (by kernel_rfl) (by kernel_rfl) (by kernel_rfl) (fun _ _ _ h => h) (by kernel_rfl) (fun W hW => by obtain ⟨c0, c1⟩ := (Q0.out.calm hW).cells; go_simp) (by assumption) rfl rfl ?_
  simp only [Act.put, List.setIfInBounds_toArray, List.set_cons_zero, List.set_cons_succ]
  refine wpAnyH_yield 4 15 (tv t) rfl rfl (by kernel_rfl) (by kernel_rfl) (by kernel_rfl) (fun _ _ _ h => h) (by kernel_rfl) (fun W hW => by obtain ⟨⟨c0, c1, c2, c3⟩, -⟩ := cells4 (hW.at HA.out); go_simp) (by assumption) rfl rfl ?_
  simp only [Act.put, List.setIfInBounds_toArray, List.set_cons_zero, List.set_cons_succ]
  refine wpAnyH_yield 5 16 (.tuple #[.int .i64 (((f t).getD 0 : Nat) : Int), .bool b]) rfl rfl (by kernel_rfl) (by kernel_rfl) (by kernel_rfl) (fun _ _ _ h => h) (by kernel_rfl) (fun W hW => by have hl := (Q0.out.calm hW).map.look GT.out; rw [HAS.out] at hl; go_simp) (by assumption) rfl rfl ?_
  simp only [Act.put, List.setIfInBounds_toArray, List.set_cons_zero, List.set_cons_succ]
  refine wpAnyH_yield 6 10 (.tuple #[.int .i64 (((f t).getD 0 : Nat) : Int), .bool b]) rfl rfl (by kernel_rfl) (by kernel_rfl) (by kernel_rfl) (fun _ _ _ h => h) (by kernel_rfl) (fun W hW => by kernel_rfl) (by assumption) rfl rfl ?_
  simp only [Act.put, List.setIfInBounds_toArray, List.set_cons_zero, List.set_cons_succ]
  refine wpAnyH_yield 7 17 (.int .i64 (((f t).getD 0 : Nat) : Int)) rfl rfl (by kernel_rfl) (by kernel_rfl) (by kernel_rfl) (fun _ _ _ h => h) (by kernel_rfl) (fun W hW => by kernel_rfl) (by assumption) rfl rfl ?_
  simp only [Act.put, List.setIfInBounds_toArray, List.set_cons_zero, List.set_cons_succ]
  refine wpAnyH_yield 8 18 (.bool b) rfl rfl (by kernel_rfl) (by kernel_rfl) (by kernel_rfl) (fun _ _ _ h => h) (by kernel_rfl) (fun W hW => by kernel_rfl) (by assumption) rfl rfl ?_
  simp only [Act.put, List.setIfInBounds_toArray, List.set_cons_zero, List.set_cons_succ]
  refine wpAnyH_yield 9 5 (.int .i64 (((f t).getD 0 : Nat) : Int)) rfl rfl (by kernel_rfl) (by kernel_rfl) (by kernel_rfl) (fun _ _ _ h => h) (by kernel_rfl) (fun W hW => by kernel_rfl) (by assumption) rfl rfl ?_
  simp only [Act.put, List.setIfInBounds_toArray, List.set_cons_zero, List.set_cons_succ]
  refine wpAnyH_yield 10 6 (.bool b) rfl rfl (by kernel_rfl) (by kernel_rfl) (by kernel_rfl) (fun _ _ _ h => h) (by kernel_rfl) (fun W hW => by kernel_rfl) (by assumption) rfl rfl ?_
  simp only [Act.put, List.setIfInBounds_toArray, List.set_cons_zero, List.set_cons_succ]
  refine wpAnyH_done (by kernel_rfl) ?_ _
  rw [onlyN_normal]
  have T9 := hide (tA.tr hT0)
  clear hT0 tA
  go_wp2_with fail
  go_ret
  exact ⟨rfl, T9.out⟩

/-- What Set does. -/
def SetR (w : World) (q : Nat) (F : Nat → Prop) (V : List Tm) (t : Tm) (e : Ending) (w' : World) : Prop :=
  e = .returned (.tuple #[.bool (!decide (t ∈ V)), .int .i64 0]) ∧ (∃ V', Tq w' q (more F w w') V' ∧ ∀ x, x ∈ V' ↔ x ∈ V ∨ x = t) ∧ Touch F w w'

theorem more_mono {F : Nat → Prop} {w w1 w2 : World} (h1 : w.heap.size ≤ w1.heap.size) (x : Nat) (h : more F w1 w2 x) : more F w w2 x := h.imp id fun h => ⟨by omega, h.2⟩

theorem Tq.wide {F G : Nat → Prop} {w : World} {q : Nat} {V : List Tm} (h : Tq w q F V) (hg : ∀ x, F x → G x) (hl : ∀ x, G x → x < w.heap.size) : Tq w q G V := by
  obtain ⟨ao, cap, mb, f, h1, h2, h3, h4, h5⟩ := h.ex
  exact ⟨⟨ao, cap, mb, f, h1, h2, hg _ h3, hg _ h4, fun a ha => hg _ (h5 a ha)⟩, hl⟩

theorem more_lt {F : Nat → Prop} {w w' : World} {q : Nat} {V : List Tm} (h : Tq w q F V) (hs : w.heap.size ≤ w'.heap.size) (x : Nat) (hx : more F w w' x) : x < w'.heap.size := by
  rcases hx with hx | hx
  · exact Nat.lt_of_lt_of_le (h.lt x hx) hs
  · exact hx.2

set_option maxRecDepth 100000 in
set_option maxHeartbeats 1000000 in
theorem set_any (q : Nat) (F : Nat → Prop) (V : List Tm) (t : Tm) (w : World) (h : Tq w q F V) (gt : Good t) (hb : V.length < 3518437208790) :
    Calls Try.prog 23 #[.pointer (some ⟨q, 0, none⟩), tv t] w (SetR w q F V t) := by
  have IT := hide (fun W (hW : Calm w W) => isThere_any q F V W (h.calm hW))
  have HS := hide (fun W (hW : Calm w W) => has_any q F V t W (h.calm hW) gt)
  have AP := hide (fun W => apart_any t W gt)
  have H := hide h
  have GT := hide gt
  have HB := hide hb
  clear h gt hb
  have tA : Calm w (w.alloc (.cells #[.int .i64 t.at_, .string t.key, .int .i64 t.start, .int .i64 t.stop] 35)) := (Touch.refl _ _).alloc _
  have HA := hide (heap_alloc_last w (.cells (tc t) 35))
  by_cases ht : t ∈ V
  · unfold SetR
    have hd : decide (t ∈ V) = true := decide_eq_true ht
    rw [hd] at HS
    go_enter Try.func23, Try.ntmps23
    go_wp2_with fail
    refine (IT.out _ tA).mono ?_
    rintro e w' ⟨rfl, hq⟩
    subst hq
    obtain ⟨⟨c0, c1, c2, c3⟩, -⟩ := cells4 HA.out
    go_wp2_with fail
    refine (HS.out _ tA).mono ?_
    rintro e w2 ⟨rfl, t2⟩
    have T2 := hide (tA.tr t2)
    clear t2 tA c0 c1 c2 c3
    go_wp2_with fail
    go_ret2
    refine ⟨by rw [hd]; rfl, ⟨V, (H.out.calm T2.out).wide (fun _ h => .inl h) (more_lt H.out T2.out.size), fun x => ⟨.inl, fun h => h.elim id (fun e => e ▸ ht)⟩⟩, T2.out.mono (fun _ _ h => h.elim)⟩
  · unfold SetR
    have hd : decide (t ∈ V) = false := decide_eq_false ht
    rw [hd] at HS
    have HT := hide ht
    clear ht
    go_enter Try.func23, Try.ntmps23
    go_wp2_with fail
    refine (IT.out _ tA).mono ?_
    rintro e w' ⟨rfl, hq⟩
    subst hq
    obtain ⟨⟨c0, c1, c2, c3⟩, -⟩ := cells4 HA.out
    go_wp2_with fail
    refine (HS.out _ tA).mono ?_
    rintro e w2 ⟨rfl, t2⟩
    obtain ⟨⟨d0, d1, d2, d3⟩, -⟩ := cells4 (t2.at HA.out)
    have T2 := hide (tA.tr t2)
    clear t2 tA c0 c1 c2 c3
    go_wp2_with fail
    refine (AP.out _).mono ?_
    rintro e w3 ⟨rfl, t3⟩
    have T3 := hide (T2.out.tr t3)
    clear t3 d0 d1 d2 d3
    go_wp2_with fail
    refine (put_any q F V t w3 (H.out.calm T3.out) HT.out GT.out HB.out).mono ?_
    rintro e w4 ⟨⟨v4, rfl⟩, ⟨V4, tq4, m4⟩, t4⟩
    have T4 : Hid (Touch F w w4) := hide ((T3.out.mono (fun _ _ h => h.elim)).trans t4 (fun _ _ h => h))
    have RES : Hid (∃ V', Tq w4 q (more F w w4) V' ∧ ∀ x, x ∈ V' ↔ x ∈ V ∨ x = t) := hide ⟨V4, tq4.wide (more_mono T3.out.size) (more_lt H.out T4.out.size), m4⟩
    clear tq4 m4 t4
    go_wp2_with fail
    go_ret2
    exact ⟨by rw [hd]; rfl, RES.out, T4.out⟩

end Go.Proofs.Ytlnblhajcbmmkaa
