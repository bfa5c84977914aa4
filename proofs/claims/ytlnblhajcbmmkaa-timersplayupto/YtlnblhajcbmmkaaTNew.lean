/- New timers. -/
import Derived.Test.YtlnblhajcbmmkaaTApi
namespace Go.Proofs.Ytlnblhajcbmmkaa
open Go.RowKit

theorem Heap.nil : Heap [] (fun _ => none) := ⟨fun i _ h => by simp at h, fun i j h => by simp at h, fun i h => by simp at h, fun x h => by simp at h⟩

/-- What New does. -/
def NewR (w : World) (l : List Tm) (e : Ending) (w' : World) : Prop :=
  ∃ q F V, e = .returned (.pointer (some ⟨q, 0, none⟩)) ∧ Tq w' q F V ∧ (∀ x, x ∈ V ↔ x ∈ l) ∧ (∀ g, F g → w.heap.size ≤ g) ∧ Calm w w'

theorem take_mem {l : List Tm} {k : Nat} (hk : k < l.length) (x : Tm) : x ∈ l.take (k + 1) ↔ x ∈ l.take k ∨ x = nth l k := by
  rw [List.take_succ_eq_append_getElem hk, List.mem_append, List.mem_singleton, nth_eq hk]

theorem run_made (n : Int) (W : World) : (Instr.makeMap 57 (some (.int .i64 n))).run Try.prog W = .ok (.map (some W.heap.size)) (W.alloc (.map #[] 0)) := by kernel_rfl

set_option maxRecDepth 100000 in
set_option maxHeartbeats 1000000 in
theorem new_any (ao : Option Addr) (cap : Nat) (l : List Tm) (w : World) (hl : Tms w ao l) (hg : ∀ t ∈ l, Good t) (hb : l.length < 3518437208790) :
    Calls Try.prog 8 #[.slice ao l.length cap] w (NewR w l) := by
  have HL := hide hl
  have HG := hide hg
  have HB := hide hb
  have hmm := run_made (l.length : Int) w
  clear hl hg hb
  obtain ⟨n, hn⟩ : ∃ n, l.length = n := ⟨_, rfl⟩
  have HN := hide hn
  rw [hn] at hmm ⊢
  clear hn
  go_enter Try.func8, Try.ntmps8
  go_wp2_with fail
  obtain ⟨q, eq⟩ : ∃ q, q = w.heap.size + 1 := ⟨_, rfl⟩
  obtain ⟨w0, ew0⟩ : ∃ w0, w0 = (w.alloc (.map #[] 0)).alloc (.cells #[.slice none 0 0, .map (some w.heap.size)] 59) := ⟨_, rfl⟩
  have t0 : Calm w w0 := by rw [ew0]; exact ((Touch.refl _ _).alloc _).alloc _
  have o0 : w0.heap[q]? = some (.cells #[.slice none 0 0, .map (some w.heap.size)] 59 (0, 0)) := by rw [ew0, eq]; have := heap_alloc_last (w.alloc (.map #[] 0)) (.cells #[.slice none 0 0, .map (some w.heap.size)] 59); simpa using this
  have s0 : w0.heap.size = w.heap.size + 2 := by rw [ew0]; simp
  have tA : Calm (w.alloc (.map #[] 0)) w0 := by rw [ew0]; exact (Touch.refl _ _).alloc _
  have TQ0 : Hid (Tq w0 q (fun g => w.heap.size ≤ g ∧ g < w0.heap.size) []) := hide ⟨⟨none, 0, w.heap.size, fun _ => none, ⟨o0, World.ownsRow_nil _ _ _ _, (Mp.new w).calm tA, fun _ h => (nomatch h)⟩, Heap.nil, by omega, by omega, fun _ h => (nomatch h)⟩, fun g hg => hg.2⟩
  have T0 := hide t0
  rw [← eq, ← ew0]
  clear eq ew0 t0 o0 s0 tA hmm
  go_loopw [13] (fun v wr => ∃ (k : Nat) (F : Nat → Prop) (V : List Tm), v = .int .i64 (k : Int) ∧ k ≤ n ∧ Tq wr q F V ∧ (∀ x, x ∈ V ↔ x ∈ l.take k) ∧ (∀ g, F g → w.heap.size ≤ g) ∧ Calm w wr) (fun v _ => n - (intOf v).toNat)
  case atStart => exact ⟨0, _, [], rfl, Nat.zero_le _, TQ0.out, fun x => by simp, fun g hg => hg.1, T0.out⟩
  case round =>
    clear TQ0 T0
    obtain ⟨k, F, V, rfl, hk, tq, hm, hf, tr⟩ := hrel
    have TQ := hide tq
    have HM := hide hm
    have HF := hide hf
    have TR := hide tr
    by_cases hlt : k < n
    · have hki : (k : Int) < (n : Int) := by omega
      obtain ⟨b, off, e, c0, c1, c2, c3⟩ := HL.out.calm tr k (by rw [HN.out]; exact hlt)
      subst e
      have enk : l[k]'(by rw [HN.out]; exact hlt) = nth l k := (nth_eq _).symm
      rw [enk] at c0 c1 c2 c3
      have GK : Hid (Good (nth l k)) := hide (HG.out _ (mem_nth.2 ⟨k, by rw [HN.out]; exact hlt, rfl⟩))
      have HVL : Hid (V.length < 3518437208790) := hide (by
        have h1 := sub_len (A := V) (B := l.take k) tq.nd.nodup (fun x hx => (hm x).1 hx)
        have := HB.out
        rw [List.length_take] at h1
        omega)
      have hkw : wrap64 ((k : Int) + 1) = ((k + 1 : Nat) : Int) := by have := HB.out; have := HN.out; unfold wrap64; omega
      have HKL : Hid (k < l.length) := hide (by rw [HN.out]; exact hlt)
      clear tq hm hf tr enk
      generalize hx : nth l k = x at *
      have HX := hide hx
      clear hx
      have tA : Calm wr (wr.alloc (.cells #[.int .i64 x.at_, .string x.key, .int .i64 x.start, .int .i64 x.stop] 35)) := (Touch.refl _ _).alloc _
      have SE := hide (set_any q F V x _ (TQ.out.calm tA) GK.out HVL.out)
      have TA := hide tA
      clear tA
      go_wp2_with fail
      refine SE.out.mono ?_
      rintro e w2 ⟨rfl, ⟨V2, tq2, m2⟩, t2⟩
      have hd2 := (TR.out.tr TA.out).trans t2 (fun g hg h => by have := HF.out g h; omega)
      have RES : Hid (Tq w2 q (more F _ w2) V2 ∧ (∀ y, y ∈ V2 ↔ y ∈ l.take (k + 1)) ∧ (∀ g, more F (wr.alloc (.cells #[.int .i64 x.at_, .string x.key, .int .i64 x.start, .int .i64 x.stop] 35)) w2 g → w.heap.size ≤ g) ∧ Calm w w2) := hide ⟨tq2, fun y => by rw [m2, HM.out, take_mem HKL.out, HX.out], fun g hg => by
        rcases hg with hg | hg
        · exact HF.out g hg
        · exact Nat.le_trans (TR.out.tr TA.out).size hg.1, hd2⟩
      clear tq2 m2 t2 hd2 c0 c1 c2 c3
      generalize (!decide (x ∈ V)) = bb at *
      go_wp2_with fail
      go_roundw
      case rel => exact ⟨k + 1, _, V2, by rw [hkw], hlt, RES.out⟩
      case measure => rw [hkw]; simp [intOf]; omega
    · have e : k = n := by omega
      subst e
      clear tq hm hf tr hlt hk
      go_wp2_with fail
      go_ret
      exact ⟨q, F, V, rfl, TQ.out, fun x => by rw [HM.out, List.take_of_length_le (by rw [HN.out]; exact Nat.le_refl _)], HF.out, TR.out⟩

end Go.Proofs.Ytlnblhajcbmmkaa
