/- The verifier's step: kind 0. The verifier's step: kind 6. The verifier's step, every kind but 7. -/
import Derived.Test.YtlnblhajcbmmkaaTStp1
import Derived.Test.YtlnblhajcbmmkaaTStp2
import Derived.Test.YtlnblhajcbmmkaaTStp3
import Derived.Test.YtlnblhajcbmmkaaTStp4
import Derived.Test.YtlnblhajcbmmkaaTStp5
namespace Go.Proofs.Ytlnblhajcbmmkaa
open Go.RowKit

set_option maxRecDepth 100000 in
set_option maxHeartbeats 2000000 in
theorem step0_0 (b q : Nat) (F : Nat → Prop) (V L : List Tm) (lo : Option Addr) (lc : Nat) (x y u v : Value) (kind on leave : Int) (hK : ∀ i : Int, 1 ≤ i → i ≤ 7 → kind ≠ i) (t tu : Tm) (upto : Int) (w : World) (h : Wd w b 0 q F V L lo lc x y u v) (hk : kOf on = 0) (gt : Good t) (gu : Good tu) (hl : L.length < 3518437208780) :
    Calls Try.prog 11 #[.pointer (some ⟨b, 0, none⟩), sv ⟨kind, on, leave, t, tu, upto⟩] w (StpR w b 0 q F L lo x y u v) := by
  obtain ⟨s, es⟩ : ∃ s : Sp, s = ⟨kind, on, leave, t, tu, upto⟩ := ⟨_, rfl⟩
  have hB := heap_alloc_last w (.cells (sc ⟨kind, on, leave, t, tu, upto⟩) 41)
  have tA : Calm w (w.alloc (.cells (sc ⟨kind, on, leave, t, tu, upto⟩) 41)) := (Touch.refl _ _).alloc _
  have HVL := hide h.len
  have HW := hide h
  have HLT : Hid (¬ F w.heap.size) := hide (fun e => by have := h.tq.lt _ e; omega)
  have edt : ∀ z, decide (z ∈ V) = decide (z ∈ L) := fun z => decide_eq_decide.2 (h.mem z)
  have HL9 := hide hl
  have HTA := hide tA
  have HHB := hide hB
  have hlv : V.length < 3518437208790 := by have := h.len; omega
  obtain ⟨n, hn⟩ : ∃ n, L.length = n := ⟨_, rfl⟩
  have HN := hide hn
  obtain ⟨d0, d1, d2, ⟨d3, d4, d5, d6⟩, ⟨d7, d8, d9, d10⟩, d11⟩ := cells12 hB
  obtain ⟨e0, e1, e2, e3, e4, e5⟩ := cells6 (show (w.alloc (.cells (sc ⟨kind, on, leave, t, tu, upto⟩) 41)).heap[b]? = some (.cells #[.pointer (some ⟨q, 0, none⟩), x, .slice lo n lc, y, u, v] 31 (0, 0)) from by have h9 := tA.at h.own; rw [hn] at h9; exact h9)
  have HGT := hide gt
  have HGU := hide gu
  unfold kOf at hk
  have k1 : ¬ kind = 1 := hK 1 (by decide) (by decide)
  have k2 : ¬ kind = 2 := hK 2 (by decide) (by decide)
  have k3 : ¬ kind = 3 := hK 3 (by decide) (by decide)
  have k4 : ¬ kind = 4 := hK 4 (by decide) (by decide)
  have k5 : ¬ kind = 5 := hK 5 (by decide) (by decide)
  have k6 : ¬ kind = 6 := hK 6 (by decide) (by decide)
  have k7 : ¬ kind = 7 := hK 7 (by decide) (by decide)
  simp only at d0 d1 d2 d3 d4 d5 d6 d7 d8 d9 d10 d11
  clear h hB tA hl hlv gt gu hn es s
  go_enter Try.func11, Try.ntmps11
  go_wp2_with fail
  go_ret
  exact HW.out.same HTA.out

set_option maxRecDepth 100000 in
set_option maxHeartbeats 2000000 in
theorem step0_1 (b q : Nat) (F : Nat → Prop) (V L : List Tm) (lo : Option Addr) (lc : Nat) (x y u v : Value) (kind on leave : Int) (hK : ∀ i : Int, 1 ≤ i → i ≤ 7 → kind ≠ i) (t tu : Tm) (upto : Int) (w : World) (h : Wd w b 1 q F V L lo lc x y u v) (hk : kOf on = 1) (gt : Good t) (gu : Good tu) (hl : L.length < 3518437208780) :
    Calls Try.prog 11 #[.pointer (some ⟨b, 0, none⟩), sv ⟨kind, on, leave, t, tu, upto⟩] w (StpR w b 1 q F L lo x y u v) := by
  obtain ⟨s, es⟩ : ∃ s : Sp, s = ⟨kind, on, leave, t, tu, upto⟩ := ⟨_, rfl⟩
  have hB := heap_alloc_last w (.cells (sc ⟨kind, on, leave, t, tu, upto⟩) 41)
  have tA : Calm w (w.alloc (.cells (sc ⟨kind, on, leave, t, tu, upto⟩) 41)) := (Touch.refl _ _).alloc _
  have HVL := hide h.len
  have HW := hide h
  have HLT : Hid (¬ F w.heap.size) := hide (fun e => by have := h.tq.lt _ e; omega)
  have edt : ∀ z, decide (z ∈ V) = decide (z ∈ L) := fun z => decide_eq_decide.2 (h.mem z)
  have HL9 := hide hl
  have HTA := hide tA
  have HHB := hide hB
  have hlv : V.length < 3518437208790 := by have := h.len; omega
  obtain ⟨n, hn⟩ : ∃ n, L.length = n := ⟨_, rfl⟩
  have HN := hide hn
  obtain ⟨d0, d1, d2, ⟨d3, d4, d5, d6⟩, ⟨d7, d8, d9, d10⟩, d11⟩ := cells12 hB
  obtain ⟨e0, e1, e2, e3, e4, e5⟩ := cells6 (show (w.alloc (.cells (sc ⟨kind, on, leave, t, tu, upto⟩) 41)).heap[b]? = some (.cells #[x, .pointer (some ⟨q, 0, none⟩), y, .slice lo n lc, u, v] 31 (0, 0)) from by have h9 := tA.at h.own; rw [hn] at h9; exact h9)
  have HGT := hide gt
  have HGU := hide gu
  unfold kOf at hk
  have k1 : ¬ kind = 1 := hK 1 (by decide) (by decide)
  have k2 : ¬ kind = 2 := hK 2 (by decide) (by decide)
  have k3 : ¬ kind = 3 := hK 3 (by decide) (by decide)
  have k4 : ¬ kind = 4 := hK 4 (by decide) (by decide)
  have k5 : ¬ kind = 5 := hK 5 (by decide) (by decide)
  have k6 : ¬ kind = 6 := hK 6 (by decide) (by decide)
  have k7 : ¬ kind = 7 := hK 7 (by decide) (by decide)
  simp only at d0 d1 d2 d3 d4 d5 d6 d7 d8 d9 d10 d11
  clear h hB tA hl hlv gt gu hn es s
  go_enter Try.func11, Try.ntmps11
  go_wp2_with fail
  go_ret
  exact HW.out.same HTA.out

end Go.Proofs.Ytlnblhajcbmmkaa

namespace Go.Proofs.Ytlnblhajcbmmkaa
open Go.RowKit

set_option maxRecDepth 100000 in
set_option maxHeartbeats 2000000 in
theorem step6_0 (b q : Nat) (F : Nat → Prop) (V L : List Tm) (lo : Option Addr) (lc : Nat) (x y u v : Value) (on leave : Int) (t tu : Tm) (upto : Int) (w : World) (h : Wd w b 0 q F V L lo lc x y u v) (hk : kOf on = 0) (gt : Good t) (gu : Good tu) (hl : L.length < 3518437208780) :
    Calls Try.prog 11 #[.pointer (some ⟨b, 0, none⟩), sv ⟨6, on, leave, t, tu, upto⟩] w (StpR w b 0 q F L lo x y u v) := by
  obtain ⟨s, es⟩ : ∃ s : Sp, s = ⟨6, on, leave, t, tu, upto⟩ := ⟨_, rfl⟩
  have hB := heap_alloc_last w (.cells (sc ⟨6, on, leave, t, tu, upto⟩) 41)
  have tA : Calm w (w.alloc (.cells (sc ⟨6, on, leave, t, tu, upto⟩) 41)) := (Touch.refl _ _).alloc _
  have HVL := hide h.len
  have HW := hide h
  have HLT : Hid (¬ F w.heap.size) := hide (fun e => by have := h.tq.lt _ e; omega)
  have edt : ∀ z, decide (z ∈ V) = decide (z ∈ L) := fun z => decide_eq_decide.2 (h.mem z)
  have HL9 := hide hl
  have HTA := hide tA
  have HHB := hide hB
  have hlv : V.length < 3518437208790 := by have := h.len; omega
  have AL := hide (all_any (some ⟨q, 0, none⟩) (w.alloc (.cells (sc ⟨6, on, leave, t, tu, upto⟩) 41)))
  obtain ⟨n, hn⟩ : ∃ n, L.length = n := ⟨_, rfl⟩
  have HN := hide hn
  obtain ⟨d0, d1, d2, ⟨d3, d4, d5, d6⟩, ⟨d7, d8, d9, d10⟩, d11⟩ := cells12 hB
  obtain ⟨e0, e1, e2, e3, e4, e5⟩ := cells6 (show (w.alloc (.cells (sc ⟨6, on, leave, t, tu, upto⟩) 41)).heap[b]? = some (.cells #[.pointer (some ⟨q, 0, none⟩), x, .slice lo n lc, y, u, v] 31 (0, 0)) from by have h9 := tA.at h.own; rw [hn] at h9; exact h9)
  have HGT := hide gt
  have HGU := hide gu
  unfold kOf at hk
  simp only at d0 d1 d2 d3 d4 d5 d6 d7 d8 d9 d10 d11
  clear h hB tA hl hlv gt gu hn es s
  go_enter Try.func11, Try.ntmps11
  go_wp2_with fail
  refine AL.out.mono ?_
  rintro e w1 ⟨rfl, ew1⟩
  obtain ⟨Bx, ebx⟩ : ∃ Bx, Bx = (w.alloc (.cells (sc ⟨6, on, leave, t, tu, upto⟩) 41)).heap.size := ⟨_, rfl⟩
  have HBX : Hid (w1.heap[Bx]? = some (.cells #[.pointer (some ⟨q, 0, none⟩)] 25 (0, 0))) := hide (by rw [ew1, ebx]; exact heap_alloc_last _ _)
  have T1 : Hid (Calm w w1) := hide (by rw [ew1]; exact HTA.out.alloc _)
  have HS1 : Hid (w1.heap[w.heap.size]? = some (.cells (sc ⟨6, on, leave, t, tu, upto⟩) 41 (0, 0))) := hide (by rw [ew1]; exact (Touch.alloc (Touch.refl (fun _ => False) _) _).at HHB.out)
  rw [← ebx]
  clear ew1 ebx AL edt d0 d1 d2 d3 d4 d5 d6 d7 d8 d9 d10 d11 e0 e1 e2 e3 e4 e5
  have WLK := hide (fun (lv : Int) W (hW : Calm w1 W) => twalk_any #[.pointer (some ⟨Bx, 0, none⟩)] (AllA Bx q L) L (fun j z => L[j]? = some z) (fun _ _ h => h) (all_seq 59 Bx q L HW.out.srt (by have := HL9.out; omega)) lo lc lv W (fun W' hW' => ⟨(hW.tr hW').at HBX.out, F, V, HW.out.tq.calm (T1.out.tr (hW.tr hW')), HW.out.mem⟩) ((HW.out.rl.calm (T1.out.tr hW)).tms) (by have := HL9.out; omega))
  rw [HN.out] at WLK
  obtain ⟨d0, d1, d2, -⟩ := cells12 HS1.out
  simp only at d0 d1 d2
  go_wp2_with fail
  refine (WLK.out leave w1 (Touch.refl _ _)).mono ?_
  rintro e w2 ⟨rfl, t2⟩
  have T2 := hide t2
  clear t2 d0 d1 d2
  go_wp2_with fail
  refine (WLK.out 0 w2 T2.out).mono ?_
  rintro e w3 ⟨rfl, t3⟩
  have T3 := hide (T2.out.tr t3)
  clear t3
  go_wp2_with fail
  go_ret
  exact HW.out.same (T1.out.tr T3.out)

set_option maxRecDepth 100000 in
set_option maxHeartbeats 2000000 in
theorem step6_1 (b q : Nat) (F : Nat → Prop) (V L : List Tm) (lo : Option Addr) (lc : Nat) (x y u v : Value) (on leave : Int) (t tu : Tm) (upto : Int) (w : World) (h : Wd w b 1 q F V L lo lc x y u v) (hk : kOf on = 1) (gt : Good t) (gu : Good tu) (hl : L.length < 3518437208780) :
    Calls Try.prog 11 #[.pointer (some ⟨b, 0, none⟩), sv ⟨6, on, leave, t, tu, upto⟩] w (StpR w b 1 q F L lo x y u v) := by
  obtain ⟨s, es⟩ : ∃ s : Sp, s = ⟨6, on, leave, t, tu, upto⟩ := ⟨_, rfl⟩
  have hB := heap_alloc_last w (.cells (sc ⟨6, on, leave, t, tu, upto⟩) 41)
  have tA : Calm w (w.alloc (.cells (sc ⟨6, on, leave, t, tu, upto⟩) 41)) := (Touch.refl _ _).alloc _
  have HVL := hide h.len
  have HW := hide h
  have HLT : Hid (¬ F w.heap.size) := hide (fun e => by have := h.tq.lt _ e; omega)
  have edt : ∀ z, decide (z ∈ V) = decide (z ∈ L) := fun z => decide_eq_decide.2 (h.mem z)
  have HL9 := hide hl
  have HTA := hide tA
  have HHB := hide hB
  have hlv : V.length < 3518437208790 := by have := h.len; omega
  have AL := hide (all_any (some ⟨q, 0, none⟩) (w.alloc (.cells (sc ⟨6, on, leave, t, tu, upto⟩) 41)))
  obtain ⟨n, hn⟩ : ∃ n, L.length = n := ⟨_, rfl⟩
  have HN := hide hn
  obtain ⟨d0, d1, d2, ⟨d3, d4, d5, d6⟩, ⟨d7, d8, d9, d10⟩, d11⟩ := cells12 hB
  obtain ⟨e0, e1, e2, e3, e4, e5⟩ := cells6 (show (w.alloc (.cells (sc ⟨6, on, leave, t, tu, upto⟩) 41)).heap[b]? = some (.cells #[x, .pointer (some ⟨q, 0, none⟩), y, .slice lo n lc, u, v] 31 (0, 0)) from by have h9 := tA.at h.own; rw [hn] at h9; exact h9)
  have HGT := hide gt
  have HGU := hide gu
  unfold kOf at hk
  simp only at d0 d1 d2 d3 d4 d5 d6 d7 d8 d9 d10 d11
  clear h hB tA hl hlv gt gu hn es s
  go_enter Try.func11, Try.ntmps11
  go_wp2_with fail
  refine AL.out.mono ?_
  rintro e w1 ⟨rfl, ew1⟩
  obtain ⟨Bx, ebx⟩ : ∃ Bx, Bx = (w.alloc (.cells (sc ⟨6, on, leave, t, tu, upto⟩) 41)).heap.size := ⟨_, rfl⟩
  have HBX : Hid (w1.heap[Bx]? = some (.cells #[.pointer (some ⟨q, 0, none⟩)] 25 (0, 0))) := hide (by rw [ew1, ebx]; exact heap_alloc_last _ _)
  have T1 : Hid (Calm w w1) := hide (by rw [ew1]; exact HTA.out.alloc _)
  have HS1 : Hid (w1.heap[w.heap.size]? = some (.cells (sc ⟨6, on, leave, t, tu, upto⟩) 41 (0, 0))) := hide (by rw [ew1]; exact (Touch.alloc (Touch.refl (fun _ => False) _) _).at HHB.out)
  rw [← ebx]
  clear ew1 ebx AL edt d0 d1 d2 d3 d4 d5 d6 d7 d8 d9 d10 d11 e0 e1 e2 e3 e4 e5
  have WLK := hide (fun (lv : Int) W (hW : Calm w1 W) => twalk_any #[.pointer (some ⟨Bx, 0, none⟩)] (AllA Bx q L) L (fun j z => L[j]? = some z) (fun _ _ h => h) (all_seq 59 Bx q L HW.out.srt (by have := HL9.out; omega)) lo lc lv W (fun W' hW' => ⟨(hW.tr hW').at HBX.out, F, V, HW.out.tq.calm (T1.out.tr (hW.tr hW')), HW.out.mem⟩) ((HW.out.rl.calm (T1.out.tr hW)).tms) (by have := HL9.out; omega))
  rw [HN.out] at WLK
  obtain ⟨d0, d1, d2, -⟩ := cells12 HS1.out
  simp only at d0 d1 d2
  go_wp2_with fail
  refine (WLK.out leave w1 (Touch.refl _ _)).mono ?_
  rintro e w2 ⟨rfl, t2⟩
  have T2 := hide t2
  clear t2 d0 d1 d2
  go_wp2_with fail
  refine (WLK.out 0 w2 T2.out).mono ?_
  rintro e w3 ⟨rfl, t3⟩
  have T3 := hide (T2.out.tr t3)
  clear t3
  go_wp2_with fail
  go_ret
  exact HW.out.same (T1.out.tr T3.out)

end Go.Proofs.Ytlnblhajcbmmkaa

namespace Go.Proofs.Ytlnblhajcbmmkaa
open Go.RowKit

set_option maxRecDepth 100000 in
theorem step_any (b k q : Nat) (F : Nat → Prop) (V L : List Tm) (lo : Option Addr) (lc : Nat) (x y u v : Value) (s : Sp) (w : World) (h : Wd w b k q F V L lo lc x y u v) (hk : kOf s.on = (k : Int)) (h7 : s.kind ≠ 7) (gt : Good s.t) (gu : Good s.u) (hl : L.length < 3518437208780) :
    Calls Try.prog 11 #[.pointer (some ⟨b, 0, none⟩), sv s] w (StpR w b k q F L lo x y u v) := by
  obtain ⟨kind, on, leave, t, tu, upto⟩ := s
  simp only at hk h7 gt gu
  have hk2 : k = 0 ∨ k = 1 := by
    rcases kOf_two on with e | e <;> rw [e] at hk <;> omega
  by_cases k1 : kind = 1
  · subst k1
    rcases hk2 with rfl | rfl
    · exact step1_0 b q F V L lo lc x y u v on leave t tu upto w h hk gt gu hl
    · exact step1_1 b q F V L lo lc x y u v on leave t tu upto w h hk gt gu hl
  by_cases k2 : kind = 2
  · subst k2
    rcases hk2 with rfl | rfl
    · exact step2_0 b q F V L lo lc x y u v on leave t tu upto w h hk gt gu hl
    · exact step2_1 b q F V L lo lc x y u v on leave t tu upto w h hk gt gu hl
  by_cases k3 : kind = 3
  · subst k3
    rcases hk2 with rfl | rfl
    · exact step3_0 b q F V L lo lc x y u v on leave t tu upto w h hk gt gu hl
    · exact step3_1 b q F V L lo lc x y u v on leave t tu upto w h hk gt gu hl
  by_cases k4 : kind = 4
  · subst k4
    by_cases hn : L = []
    · rcases hk2 with rfl | rfl
      · exact step4a_0 b q F V L lo lc x y u v on leave t tu upto w h hk gt gu hn hl
      · exact step4a_1 b q F V L lo lc x y u v on leave t tu upto w h hk gt gu hn hl
    · rcases hk2 with rfl | rfl
      · exact step4b_0 b q F V L lo lc x y u v on leave t tu upto w h hk gt gu hn hl
      · exact step4b_1 b q F V L lo lc x y u v on leave t tu upto w h hk gt gu hn hl
  by_cases k5 : kind = 5
  · subst k5
    rcases hk2 with rfl | rfl
    · exact step5_0 b q F V L lo lc x y u v on leave t tu upto w h hk gt gu hl
    · exact step5_1 b q F V L lo lc x y u v on leave t tu upto w h hk gt gu hl
  by_cases k6 : kind = 6
  · subst k6
    rcases hk2 with rfl | rfl
    · exact step6_0 b q F V L lo lc x y u v on leave t tu upto w h hk gt gu hl
    · exact step6_1 b q F V L lo lc x y u v on leave t tu upto w h hk gt gu hl
  have hK : ∀ i : Int, 1 ≤ i → i ≤ 7 → kind ≠ i := fun i h1 h2 e => by omega
  rcases hk2 with rfl | rfl
  · exact step0_0 b q F V L lo lc x y u v kind on leave hK t tu upto w h hk gt gu hl
  · exact step0_1 b q F V L lo lc x y u v kind on leave hK t tu upto w h hk gt gu hl

end Go.Proofs.Ytlnblhajcbmmkaa
