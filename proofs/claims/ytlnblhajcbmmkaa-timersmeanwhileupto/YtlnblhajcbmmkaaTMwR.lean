/- TimersMeanwhile: what it keeps in memory. TimersMeanwhile: what it keeps while it begins. TimersMeanwhile: what a turn and its range keep. -/
import Derived.Test.YtlnblhajcbmmkaaTStpA
import Derived.Test.YtlnblhajcbmmkaaTUpS
import Derived.Test.YtlnblhajcbmmkaaSMark
import Derived.Test.YtlnblhajcbmmkaaTNew
import Derived.Test.YtlnblhajcbmmkaaTASeqT
namespace Go.Proofs.Ytlnblhajcbmmkaa
open Go.RowKit

/-- What the verifier keeps: boxes, its world, the queue and its list; Ks: other blocks that nothing may touch. -/
structure Mb (w : World) (B3 B4 B6 B7 B10 Bx b q : Nat) (sv : Value) (u v : Value) (F : Nat → Prop) (V L : List Tm) (lo : Option Addr) (lc t : Nat) (y0 y1 : Value) (Ks : List Nat) (W : World) : Prop where
  calm : Calm w W
  b3 : W.heap[B3]? = some (.cells #[sv] 23 (0, 0))
  b4 : W.heap[B4]? = some (.cells #[.bool false] 4 (0, 0))
  b6 : W.heap[B6]? = some (.cells #[.pointer (some ⟨b, 0, none⟩)] 24 (0, 0))
  b7 : W.heap[B7]? = some (.cells #[.slice lo L.length lc] 22 (0, 0))
  b10 : W.heap[B10]? = some (.cells #[.int .i64 (t : Int)] 3 (0, 0))
  bx : W.heap[Bx]? = some (.cells #[.pointer (some ⟨q, 0, none⟩)] 25 (0, 0))
  own : W.heap[b]? = some (.cells #[.pointer (some ⟨q, 0, none⟩), .pointer (some ⟨q, 0, none⟩), y0, y1, u, v] 31 (0, 0))
  tq : Tq W q F V
  rl : Rl W lo lc L
  srt : Srt L
  mem : ∀ z, z ∈ V ↔ z ∈ L
  row : ∀ a, lo = some a → L ≠ [] → ¬ F a.block ∧ a.block ∉ B3 :: B4 :: B6 :: B7 :: B10 :: Bx :: b :: Ks
  nf : ∀ g, F g → w.heap.size ≤ g ∧ g ∉ B3 :: B4 :: B6 :: B7 :: B10 :: Bx :: b :: Ks
  ks : ∀ g ∈ Ks, g < W.heap.size ∧ g ∉ [B3, B4, B6, B7, B10, Bx, b]
  low : w.heap.size ≤ B4 ∧ w.heap.size ≤ B7 ∧ w.heap.size ≤ B10 ∧ w.heap.size ≤ b

section
variable {w W W' : World} {B3 B4 B6 B7 B10 Bx b q lc t : Nat} {sv u v y0 y1 : Value} {F S : Nat → Prop} {V L : List Tm} {lo : Option Addr} {Ks : List Nat}

theorem Mb.turn (h : Mb w B3 B4 B6 B7 B10 Bx b q sv u v F V L lo lc t y0 y1 Ks W) (ht : Touch S W W') (hS : ∀ g, S g → w.heap.size ≤ g ∧ g ∉ [B3, B4, B6, B7, B10, Bx, b] ∧ ¬ F g ∧ ∀ a, lo = some a → L ≠ [] → a.block ≠ g) : Mb w B3 B4 B6 B7 B10 Bx b q sv u v F V L lo lc t y0 y1 Ks W' := by
  have n : ∀ g, g ∈ [B3, B4, B6, B7, B10, Bx, b] → ¬ S g := fun g hg hs => (hS g hs).2.1 hg
  exact ⟨h.calm.trans ht (fun g hg hs => by have := (hS g hs).1; omega), ht.heap h.b3 (n _ (by simp)), ht.heap h.b4 (n _ (by simp)), ht.heap h.b6 (n _ (by simp)), ht.heap h.b7 (n _ (by simp)), ht.heap h.b10 (n _ (by simp)), ht.heap h.bx (n _ (by simp)), ht.heap h.own (n _ (by simp)),
    h.tq.touch ht (fun g hg => (hS g hg).2.2.1), h.rl.touch ht (fun a ha hn hs => (hS _ hs).2.2.2 a ha hn rfl), h.srt, h.mem, h.row, h.nf, fun g hg => ⟨Nat.lt_of_lt_of_le (h.ks g hg).1 ht.size, (h.ks g hg).2⟩, h.low⟩

theorem Mb.still (h : Mb w B3 B4 B6 B7 B10 Bx b q sv u v F V L lo lc t y0 y1 Ks W) (ht : Calm W W') : Mb w B3 B4 B6 B7 B10 Bx b q sv u v F V L lo lc t y0 y1 Ks W' := h.turn ht fun _ h => h.elim

/-- A block among Ks turns. -/
theorem Mb.side (h : Mb w B3 B4 B6 B7 B10 Bx b q sv u v F V L lo lc t y0 y1 Ks W) {K : Nat} (hK : K ∈ Ks) (hw : w.heap.size ≤ K) (ht : Touch (fun g => g = K) W W') : Mb w B3 B4 B6 B7 B10 Bx b q sv u v F V L lo lc t y0 y1 Ks W' :=
  h.turn ht fun g e => by
    subst e
    exact ⟨hw, (h.ks _ hK).2, fun hf => (h.nf _ hf).2 (by simp [hK]), fun a ha hn e => (h.row a ha hn).2 (by rw [e]; simp [hK])⟩

/-- One more block is kept. -/
theorem Mb.push (h : Mb w B3 B4 B6 B7 B10 Bx b q sv u v F V L lo lc t y0 y1 Ks W) {K : Nat} (hK : K < W.heap.size ∧ K ∉ [B3, B4, B6, B7, B10, Bx, b]) (hF : ¬ F K) (hr : ∀ a, lo = some a → L ≠ [] → a.block ≠ K) : Mb w B3 B4 B6 B7 B10 Bx b q sv u v F V L lo lc t y0 y1 (K :: Ks) W :=
  ⟨h.calm, h.b3, h.b4, h.b6, h.b7, h.b10, h.bx, h.own, h.tq, h.rl, h.srt, h.mem, fun a ha hn => ⟨(h.row a ha hn).1, fun hm => (h.row a ha hn).2 (by
      have h9 := hr a ha hn
      simp only [List.mem_cons] at hm ⊢
      rcases hm with e | e | e | e | e | e | e | e | e <;> simp_all)⟩, fun g hg => ⟨(h.nf g hg).1, fun hm => (h.nf g hg).2 (by
      have h9 : g ≠ K := fun e => hF (e ▸ hg)
      simp only [List.mem_cons] at hm ⊢
      rcases hm with e | e | e | e | e | e | e | e | e <;> simp_all)⟩, fun g hg => by
    rcases List.mem_cons.1 hg with rfl | hg
    · exact hK
    · exact h.ks g hg, h.low⟩

/-- A block made since is kept. -/
theorem Mb.fresh (h : Mb w B3 B4 B6 B7 B10 Bx b q sv u v F V L lo lc t y0 y1 Ks W) (ht : Calm W W') {K : Nat} (h1 : W.heap.size ≤ K) (h2 : K < W'.heap.size) : Mb w B3 B4 B6 B7 B10 Bx b q sv u v F V L lo lc t y0 y1 (K :: Ks) W' := by
  refine (h.still ht).push ⟨h2, fun hm => ?_⟩ (fun hf => ?_) (fun a ha hn e => ?_)
  · simp only [List.mem_cons, List.not_mem_nil, or_false] at hm
    have := lt_of_heap h.b3; have := lt_of_heap h.b4; have := lt_of_heap h.b6; have := lt_of_heap h.b7; have := lt_of_heap h.b10; have := lt_of_heap h.bx; have := lt_of_heap h.own
    omega
  · have := h.tq.lt _ hf; omega
  · have := h.rl.tms.lt a ha hn; omega

/-- So many are kept. -/
theorem Mb.less (h : Mb w B3 B4 B6 B7 B10 Bx b q sv u v F V L lo lc t y0 y1 Ks W) {Ks' : List Nat} (hk : ∀ g ∈ Ks', g ∈ Ks) : Mb w B3 B4 B6 B7 B10 Bx b q sv u v F V L lo lc t y0 y1 Ks' W :=
  ⟨h.calm, h.b3, h.b4, h.b6, h.b7, h.b10, h.bx, h.own, h.tq, h.rl, h.srt, h.mem, fun a ha hn => ⟨(h.row a ha hn).1, fun hm => (h.row a ha hn).2 (by
      simp only [List.mem_cons] at hm ⊢
      rcases hm with e | e | e | e | e | e | e | e <;> first | (have := hk _ e; simp_all) | simp_all)⟩, fun g hg => ⟨(h.nf g hg).1, fun hm => (h.nf g hg).2 (by
      simp only [List.mem_cons] at hm ⊢
      rcases hm with e | e | e | e | e | e | e | e <;> first | (have := hk _ e; simp_all) | simp_all)⟩, fun g hg => h.ks g (hk g hg), h.low⟩

/-- 'at' is told anew. -/
theorem Mb.tick (h : Mb w B3 B4 B6 B7 B10 Bx b q sv u v F V L lo lc t y0 y1 Ks W) (t' : Nat) :
    Mb w B3 B4 B6 B7 B10 Bx b q sv u v F V L lo lc t' y0 y1 Ks (W.setCell ⟨B10, 0, none⟩ (.int .i64 (t' : Int))) ∧ Touch (fun g => g = B10) W (W.setCell ⟨B10, 0, none⟩ (.int .i64 (t' : Int))) := by
  have ht : Touch (fun g => g = B10) W (W.setCell ⟨B10, 0, none⟩ (.int .i64 (t' : Int))) := (Touch.refl (fun g => g = B10) W).setCell (p := ⟨B10, 0, none⟩) (fun _ => rfl) _
  exact ⟨⟨h.calm.trans ht (fun g hg e => by have := h.low; omega), ht.heap h.b3 (fun e => tags h.b3 h.b10 (by decide) e), ht.heap h.b4 (fun e => tags h.b4 h.b10 (by decide) e), ht.heap h.b6 (fun e => tags h.b6 h.b10 (by decide) e), ht.heap h.b7 (fun e => tags h.b7 h.b10 (by decide) e), set_one _ h.b10, ht.heap h.bx (fun e => tags h.bx h.b10 (by decide) e), ht.heap h.own (fun e => tags h.own h.b10 (by decide) e),
    h.tq.touch ht (fun g e hf => (h.nf g hf).2 (by rw [e]; simp)), h.rl.touch ht (fun a ha hn e => (h.row a ha hn).2 (by rw [e]; simp)), h.srt, h.mem, h.row, h.nf, fun g hg => ⟨Nat.lt_of_lt_of_le (h.ks g hg).1 ht.size, (h.ks g hg).2⟩, h.low⟩, ht⟩

/-- Both sides' lists are the list. -/
theorem Mb.laid (h : Mb w B3 B4 B6 B7 B10 Bx b q sv u v F V L lo lc t y0 y1 Ks W) :
    Mb w B3 B4 B6 B7 B10 Bx b q sv u v F V L lo lc t (.slice lo L.length lc) (.slice lo L.length lc) Ks ((W.setCell ⟨b, 2, none⟩ (.slice lo L.length lc)).setCell ⟨b, 3, none⟩ (.slice lo L.length lc)) ∧ Touch (fun g => g = b) W ((W.setCell ⟨b, 2, none⟩ (.slice lo L.length lc)).setCell ⟨b, 3, none⟩ (.slice lo L.length lc)) := by
  have ht : Touch (fun g => g = b) W ((W.setCell ⟨b, 2, none⟩ (.slice lo L.length lc)).setCell ⟨b, 3, none⟩ (.slice lo L.length lc)) := ((Touch.refl (fun g => g = b) W).setCell (p := ⟨b, 2, none⟩) (fun _ => rfl) _).setCell (p := ⟨b, 3, none⟩) (fun _ => rfl) _
  have o1 := heap_setCell_row (i := 2) h.own (.slice lo L.length lc)
  simp at o1
  have o2 := heap_setCell_row (i := 3) o1 (.slice lo L.length lc)
  simp at o2
  exact ⟨⟨h.calm.trans ht (fun g hg e => by have := h.low; omega), ht.heap h.b3 (fun e => tags h.b3 h.own (by decide) e), ht.heap h.b4 (fun e => tags h.b4 h.own (by decide) e), ht.heap h.b6 (fun e => tags h.b6 h.own (by decide) e), ht.heap h.b7 (fun e => tags h.b7 h.own (by decide) e), ht.heap h.b10 (fun e => tags h.b10 h.own (by decide) e), ht.heap h.bx (fun e => tags h.bx h.own (by decide) e), o2,
    h.tq.touch ht (fun g e hf => (h.nf g hf).2 (by rw [e]; simp)), h.rl.touch ht (fun a ha hn e => (h.row a ha hn).2 (by rw [e]; simp)), h.srt, h.mem, h.row, h.nf, fun g hg => ⟨Nat.lt_of_lt_of_le (h.ks g hg).1 ht.size, (h.ks g hg).2⟩, h.low⟩, ht⟩

/-- The verifier's world, for its step. -/
theorem Mb.wd (h : Mb w B3 B4 B6 B7 B10 Bx b q sv u v F V L lo lc t (.slice lo L.length lc) y1 Ks W) : Wd W b 0 q F V L lo lc (.pointer (some ⟨q, 0, none⟩)) y1 u v :=
  ⟨h.own, h.tq, h.rl, h.srt, h.mem, fun a ha hn => ⟨(h.row a ha hn).1, fun e => (h.row a ha hn).2 (by rw [e]; simp)⟩, fun hf => (h.nf _ hf).2 (by simp)⟩

/-- A step has been taken, and the list is told anew. -/
theorem Mb.step {F' : Nat → Prop} {V' L' : List Tm} {lo' : Option Addr} {lc' : Nat} (h : Mb w B3 B4 B6 B7 B10 Bx b q sv u v F V L lo lc t (.slice lo L.length lc) y1 Ks W)
    (hd : Wd W' b 0 q F' V' L' lo' lc' (.pointer (some ⟨q, 0, none⟩)) y1 u v) (hF : ∀ g, F' g → F g ∨ W.heap.size ≤ g) (hlo : ∀ a, lo' = some a → (lo = some a ∧ L' = L) ∨ W.heap.size ≤ a.block) (ht : Touch (fun g => F g ∨ g = b) W W') :
    W'.heap[B6]? = some (.cells #[.pointer (some ⟨b, 0, none⟩)] 24 (0, 0)) ∧ W'.heap[b]? = some (.cells #[.pointer (some ⟨q, 0, none⟩), .pointer (some ⟨q, 0, none⟩), .slice lo' L'.length lc', y1, u, v] 31 (0, 0)) ∧ W'.heap[B7]? = some (.cells #[.slice lo L.length lc] 22 (0, 0)) ∧
    Mb w B3 B4 B6 B7 B10 Bx b q sv u v F' V' L' lo' lc' t (.slice lo' L'.length lc') y1 Ks (W'.setCell ⟨B7, 0, none⟩ (.slice lo' L'.length lc')) ∧ Touch (fun g => F g ∨ g = b ∨ g = B7) W (W'.setCell ⟨B7, 0, none⟩ (.slice lo' L'.length lc')) := by
  have n : ∀ g, g ∈ B3 :: B4 :: B6 :: B7 :: B10 :: Bx :: b :: Ks → ¬ F g := fun g hg hf => (h.nf g hf).2 hg
  have hsz : ∀ g, g ∈ B3 :: B4 :: B6 :: B7 :: B10 :: Bx :: b :: Ks → g < W.heap.size := fun g hg => by
    have h3 := lt_of_heap h.b3; have h4 := lt_of_heap h.b4; have h6 := lt_of_heap h.b6; have h7 := lt_of_heap h.b7; have h10 := lt_of_heap h.b10; have hx := lt_of_heap h.bx; have ho := lt_of_heap h.own
    simp only [List.mem_cons] at hg
    rcases hg with e | e | e | e | e | e | e | e
    · omega
    · omega
    · omega
    · omega
    · omega
    · omega
    · omega
    · exact (h.ks g e).1
  have k3 := ht.heap h.b3 (fun e => e.elim (n _ (by simp)) (fun e => tags h.b3 h.own (by decide) e))
  have k4 := ht.heap h.b4 (fun e => e.elim (n _ (by simp)) (fun e => tags h.b4 h.own (by decide) e))
  have k6 := ht.heap h.b6 (fun e => e.elim (n _ (by simp)) (fun e => tags h.b6 h.own (by decide) e))
  have k7 := ht.heap h.b7 (fun e => e.elim (n _ (by simp)) (fun e => tags h.b7 h.own (by decide) e))
  have k10 := ht.heap h.b10 (fun e => e.elim (n _ (by simp)) (fun e => tags h.b10 h.own (by decide) e))
  have kx := ht.heap h.bx (fun e => e.elim (n _ (by simp)) (fun e => tags h.bx h.own (by decide) e))
  have ts : Touch (fun g => g = B7) W' (W'.setCell ⟨B7, 0, none⟩ (.slice lo' L'.length lc')) := (Touch.refl (fun g => g = B7) W').setCell (p := ⟨B7, 0, none⟩) (fun _ => rfl) _
  have nf' : ∀ g, F' g → w.heap.size ≤ g ∧ g ∉ B3 :: B4 :: B6 :: B7 :: B10 :: Bx :: b :: Ks := fun g hg => by
    rcases hF g hg with e | e
    · exact h.nf g e
    · exact ⟨Nat.le_trans h.calm.size e, fun hm => by have := hsz g hm; omega⟩
  have row' : ∀ a, lo' = some a → L' ≠ [] → ¬ F' a.block ∧ a.block ∉ B3 :: B4 :: B6 :: B7 :: B10 :: Bx :: b :: Ks := fun a ha hn => by
    refine ⟨(hd.row a ha hn).1, ?_⟩
    rcases hlo a ha with ⟨e, e2⟩ | e
    · exact (h.row a e (e2 ▸ hn)).2
    · exact fun hm => by have := hsz _ hm; omega
  have hown : W'.heap[b]? = some (.cells #[.pointer (some ⟨q, 0, none⟩), .pointer (some ⟨q, 0, none⟩), .slice lo' L'.length lc', y1, u, v] 31 (0, 0)) := hd.own
  refine ⟨k6, hown, k7, ⟨(h.calm.trans ht (fun g hg e => ?_)).trans ts (fun g hg e => by have := h.low; omega), ts.heap k3 (fun e => tags k3 k7 (by decide) e), ts.heap k4 (fun e => tags k4 k7 (by decide) e), ts.heap k6 (fun e => tags k6 k7 (by decide) e), set_one _ k7, ts.heap k10 (fun e => tags k10 k7 (by decide) e), ts.heap kx (fun e => tags kx k7 (by decide) e), ts.heap hown (fun e => tags hown k7 (by decide) e),
    hd.tq.touch ts (fun g e hf => (nf' g hf).2 (by rw [e]; simp)), hd.rl.touch ts (fun a ha hn e => (row' a ha hn).2 (by rw [e]; simp)), hd.srt, hd.mem, row', nf', fun g hg => ⟨Nat.lt_of_lt_of_le (h.ks g hg).1 (Nat.le_trans ht.size ts.size), (h.ks g hg).2⟩, h.low⟩, ?_⟩
  · rcases e with e | e
    · have := (h.nf g e).1; omega
    · have := h.low; omega
  · exact (ht.mono (fun g _ e => e.elim .inl (fun e => .inr (.inl e)))).trans ts (fun g _ e => .inr (.inr e))

end
end Go.Proofs.Ytlnblhajcbmmkaa

namespace Go.Proofs.Ytlnblhajcbmmkaa
open Go.RowKit

structure M0 (w : World) (B3 B4 B6 B7 b q : Nat) (sv : Value) (u v : Value) (F : Nat → Prop) (V L l : List Tm) (lo : Option Addr) (lc k : Nat) (y0 y1 : Value) (W : World) : Prop where
  calm : Calm w W
  b3 : W.heap[B3]? = some (.cells #[sv] 23 (0, 0))
  b4 : W.heap[B4]? = some (.cells #[.bool false] 4 (0, 0))
  b6 : W.heap[B6]? = some (.cells #[.pointer (some ⟨b, 0, none⟩)] 24 (0, 0))
  b7 : W.heap[B7]? = some (.cells #[.slice lo L.length lc] 22 (0, 0))
  own : W.heap[b]? = some (.cells #[.pointer (some ⟨q, 0, none⟩), .pointer (some ⟨q, 0, none⟩), y0, y1, u, v] 31 (0, 0))
  tq : Tq W q F V
  vm : ∀ z, z ∈ V ↔ z ∈ l
  rl : Rl W lo lc L
  srt : Srt L
  lm : ∀ z, z ∈ L ↔ z ∈ l.take k
  row : ∀ a, lo = some a → L ≠ [] → ¬ F a.block ∧ a.block ∉ [B3, B4, B6, B7, b]
  nf : ∀ g, F g → w.heap.size ≤ g ∧ g ∉ [B3, B4, B6, B7, b]
  low : w.heap.size ≤ B4 ∧ w.heap.size ≤ B7 ∧ w.heap.size ≤ b

section
variable {w W W' : World} {B3 B4 B6 B7 b q lc k : Nat} {sv u v y0 y1 : Value} {F : Nat → Prop} {V L l : List Tm} {lo : Option Addr}

theorem M0.still (h : M0 w B3 B4 B6 B7 b q sv u v F V L l lo lc k y0 y1 W) (ht : Calm W W') : M0 w B3 B4 B6 B7 b q sv u v F V L l lo lc k y0 y1 W' :=
  ⟨h.calm.tr ht, ht.at h.b3, ht.at h.b4, ht.at h.b6, ht.at h.b7, ht.at h.own, h.tq.calm ht, h.vm, h.rl.calm ht, h.srt, h.lm, h.row, h.nf, h.low⟩

/-- One more is in the list. -/
theorem M0.set {lo' : Option Addr} {lc' : Nat} {t : Tm} (h : M0 w B3 B4 B6 B7 b q sv u v F V L l lo lc k y0 y1 W) (ht : Calm W W') (hk : k < l.length) (e : nth l k = t) (rl' : Rl W' lo' lc' (setT t L)) (loc : ∀ a, lo' = some a → (lo = some a ∧ setT t L = L) ∨ W.heap.size ≤ a.block) :
    M0 w B3 B4 B6 B7 b q sv u v F V (setT t L) l lo' lc' (k + 1) y0 y1 (W'.setCell ⟨B7, 0, none⟩ (.slice lo' (setT t L).length lc')) := by
  have k7 := ht.at h.b7
  have ts : Touch (fun g => g = B7) W' (W'.setCell ⟨B7, 0, none⟩ (.slice lo' (setT t L).length lc')) := (Touch.refl (fun g => g = B7) W').setCell (p := ⟨B7, 0, none⟩) (fun _ => rfl) _
  have hsz : ∀ g, g ∈ [B3, B4, B6, B7, b] → g < W.heap.size := fun g hg => by
    have h3 := lt_of_heap h.b3; have h4 := lt_of_heap h.b4; have h6 := lt_of_heap h.b6; have h7 := lt_of_heap h.b7; have ho := lt_of_heap h.own
    simp only [List.mem_cons, List.not_mem_nil, or_false] at hg
    omega
  have row' : ∀ a, lo' = some a → setT t L ≠ [] → ¬ F a.block ∧ a.block ∉ [B3, B4, B6, B7, b] := fun a ha hn => by
    rcases loc a ha with ⟨e, e2⟩ | e
    · exact h.row a e (e2 ▸ hn)
    · exact ⟨fun hf => by have := h.tq.lt _ hf; omega, fun hm => by have := hsz _ hm; omega⟩
  exact ⟨(h.calm.tr ht).trans ts (fun g hg e => by have := h.low; omega), ts.heap (ht.at h.b3) (fun e => tags (ht.at h.b3) k7 (by decide) e), ts.heap (ht.at h.b4) (fun e => tags (ht.at h.b4) k7 (by decide) e), ts.heap (ht.at h.b6) (fun e => tags (ht.at h.b6) k7 (by decide) e), set_one _ k7, ts.heap (ht.at h.own) (fun e => tags (ht.at h.own) k7 (by decide) e),
    (h.tq.calm ht).touch ts (fun g e hf => (h.nf g hf).2 (by rw [e]; simp)), h.vm, rl'.touch ts (fun a ha hn e => (row' a ha hn).2 (by rw [e]; simp)), h.srt.set t, fun z => by rw [setT_mem, h.lm, take_mem hk, e], row', h.nf, h.low⟩

/-- The going over has been asked for, and 'at' is there. -/
theorem M0.mb (h : M0 w B3 B4 B6 B7 b q sv u v F V L l lo lc k y0 y1 W) (hk : l.length ≤ k) (ht : Calm W W') {Bx B10 : Nat} (hx : W'.heap[Bx]? = some (.cells #[.pointer (some ⟨q, 0, none⟩)] 25 (0, 0))) (h10 : W'.heap[B10]? = some (.cells #[.int .i64 ((0 : Nat) : Int)] 3 (0, 0)))
    (nx : W.heap.size ≤ Bx) (n10 : W.heap.size ≤ B10) : Mb w B3 B4 B6 B7 B10 Bx b q sv u v F V L lo lc 0 y0 y1 [] W' := by
  have h' := h.still ht
  have ex : ∀ g, g < W.heap.size → g ∉ [B3, B4, B6, B7, b] → g ∉ [B3, B4, B6, B7, B10, Bx, b] := fun g hg hn hm => hn (by
    simp only [List.mem_cons, List.not_mem_nil, or_false] at hm ⊢
    omega)
  exact ⟨h'.calm, h'.b3, h'.b4, h'.b6, h'.b7, h10, hx, h'.own, h'.tq, h'.rl, h'.srt, fun z => by rw [h'.vm, h'.lm, List.take_of_length_le hk], fun a ha hn => ⟨(h.row a ha hn).1, ex _ (h.rl.tms.lt a ha hn) (h.row a ha hn).2⟩, fun g hg => ⟨(h.nf g hg).1, ex g (h.tq.lt g hg) (h.nf g hg).2⟩,
    fun g hg => (nomatch hg), ⟨h.low.1, h.low.2.1, Nat.le_trans h.calm.size n10, h.low.2.2⟩⟩

end
end Go.Proofs.Ytlnblhajcbmmkaa

namespace Go.Proofs.Ytlnblhajcbmmkaa
open Go.RowKit

/-- What a range keeps besides. -/
def ksR (B12 B13 : Nat) (wo : Option Addr) (Ds : List Nat) : List Nat := B13 :: B12 :: (wo.toList.map (·.block) ++ Ds)

structure Wn (B12 B13 : Nat) (wo : Option Addr) (wcap : Nat) (L0 : List Tm) (k : Nat) (Ds : List Nat) (W : World) : Prop where
  b12 : W.heap[B12]? = some (.cells #[.slice wo L0.length wcap] 22 (0, 0))
  b13 : W.heap[B13]? = some (.cells #[.int .i64 (k : Int)] 3 (0, 0))
  want : Tms W wo L0
  ds : ∀ D ∈ Ds, W.heap[D]? = some (.deferred (some []))
  ne : ∀ a, wo = some a → a.block ≠ B13

section
variable {W W' : World} {B12 B13 wcap k : Nat} {wo : Option Addr} {L0 : List Tm} {Ds : List Nat} {S : Nat → Prop}

theorem Wn.touch (h : Wn B12 B13 wo wcap L0 k Ds W) (ht : Touch S W W') (hS : ∀ g ∈ ksR B12 B13 wo Ds, ¬ S g) : Wn B12 B13 wo wcap L0 k Ds W' :=
  ⟨ht.heap h.b12 (hS _ (by simp [ksR])), ht.heap h.b13 (hS _ (by simp [ksR])), h.want.touch ht (fun a ha _ => hS _ (by subst ha; simp [ksR])), fun D hD => ht.heap (h.ds D hD) (hS _ (by simp [ksR, hD])), h.ne⟩

theorem Wn.calm (h : Wn B12 B13 wo wcap L0 k Ds W) (ht : Calm W W') : Wn B12 B13 wo wcap L0 k Ds W' := h.touch ht fun _ _ h => h

theorem Wn.count (h : Wn B12 B13 wo wcap L0 k Ds W) (k' : Nat) : Wn B12 B13 wo wcap L0 k' Ds (W.setCell ⟨B13, 0, none⟩ (.int .i64 (k' : Int))) ∧ Touch (fun g => g = B13) W (W.setCell ⟨B13, 0, none⟩ (.int .i64 (k' : Int))) := by
  have ht : Touch (fun g => g = B13) W (W.setCell ⟨B13, 0, none⟩ (.int .i64 (k' : Int))) := (Touch.refl (fun g => g = B13) W).setCell (p := ⟨B13, 0, none⟩) (fun _ => rfl) _
  exact ⟨⟨ht.heap h.b12 (fun e => tags h.b12 h.b13 (by decide) e), set_one _ h.b13, h.want.touch ht (fun a ha _ => h.ne a ha), fun D hD => ht.heap (h.ds D hD) (fun e => by
    have h1 := h.ds D hD
    rw [e, h.b13] at h1
    cases h1), h.ne⟩, ht⟩
end

/-- A range under way. -/
structure Mr (w : World) (B3 B4 B6 B7 B10 Bx b q : Nat) (sv : Value) (u v : Value) (F0 : Nat → Prop) (n0 T : Nat) (B12 B13 : Nat) (wo : Option Addr) (wcap : Nat) (L0 : List Tm) (Ds : List Nat) (F : Nat → Prop) (V L : List Tm) (lo : Option Addr) (lc t k : Nat) (y0 y1 : Value) (W : World) : Prop where
  mb : Mb w B3 B4 B6 B7 B10 Bx b q sv u v F V L lo lc t y0 y1 (ksR B12 B13 wo Ds) W
  wn : Wn B12 B13 wo wcap L0 k Ds W
  ft : ∀ g, F g → F0 g ∨ T ≤ g
  lt : ∀ a, lo = some a → L ≠ [] → a.block < n0 ∨ T ≤ a.block
  f0 : ∀ g, F0 g → g < n0
  top : n0 + 2 ≤ T ∧ T ≤ W.heap.size
  fx : ∀ g, g ∈ [B3, B4, B6, B7, B10, Bx, b] ∨ g ∈ ksR B12 B13 wo Ds → g < n0
  l13 : w.heap.size ≤ B13 ∧ w.heap.size ≤ n0

section
variable {w W W' : World} {B3 B4 B6 B7 B10 Bx b q n0 T B12 B13 wcap lc t k : Nat} {sv u v y0 y1 : Value} {F0 F S : Nat → Prop} {wo lo : Option Addr} {L0 V L : List Tm} {Ds : List Nat}

theorem Mr.turn (h : Mr w B3 B4 B6 B7 B10 Bx b q sv u v F0 n0 T B12 B13 wo wcap L0 Ds F V L lo lc t k y0 y1 W) (ht : Touch S W W') (hS : ∀ g, S g → n0 ≤ g ∧ g < T) : Mr w B3 B4 B6 B7 B10 Bx b q sv u v F0 n0 T B12 B13 wo wcap L0 Ds F V L lo lc t k y0 y1 W' := by
  refine ⟨h.mb.turn ht (fun g hg => ⟨by have := (hS g hg).1; have := h.l13; omega, fun hm => by have := h.fx g (.inl hm); have := hS g hg; omega, fun hf => ?_, fun a ha hn e => ?_⟩), h.wn.touch ht (fun g hg hs => by have := h.fx g (.inr hg); have := hS g hs; omega), h.ft, h.lt, h.f0, ⟨h.top.1, Nat.le_trans h.top.2 ht.size⟩, h.fx, h.l13⟩
  · have h1 := hS g hg
    rcases h.ft g hf with e | e
    · have := h.f0 g e; omega
    · omega
  · have h1 := hS g hg
    rcases h.lt a ha hn with e2 | e2 <;> omega

theorem Mr.still (h : Mr w B3 B4 B6 B7 B10 Bx b q sv u v F0 n0 T B12 B13 wo wcap L0 Ds F V L lo lc t k y0 y1 W) (ht : Calm W W') : Mr w B3 B4 B6 B7 B10 Bx b q sv u v F0 n0 T B12 B13 wo wcap L0 Ds F V L lo lc t k y0 y1 W' := h.turn ht fun _ h => h.elim

/-- The loop's own record turns. -/
theorem Mr.put (h : Mr w B3 B4 B6 B7 B10 Bx b q sv u v F0 n0 T B12 B13 wo wcap L0 Ds F V L lo lc t k y0 y1 W) (o : Obj) : Mr w B3 B4 B6 B7 B10 Bx b q sv u v F0 n0 T B12 B13 wo wcap L0 Ds F V L lo lc t k y0 y1 (W.putObj (n0 + 1) o) :=
  h.turn (touch_put W (n0 + 1) o) (fun g e => by have := h.top.1; omega)

/-- n is told anew. -/
theorem Mr.count (h : Mr w B3 B4 B6 B7 B10 Bx b q sv u v F0 n0 T B12 B13 wo wcap L0 Ds F V L lo lc t k y0 y1 W) (k' : Nat) : Mr w B3 B4 B6 B7 B10 Bx b q sv u v F0 n0 T B12 B13 wo wcap L0 Ds F V L lo lc t k' y0 y1 (W.setCell ⟨B13, 0, none⟩ (.int .i64 (k' : Int))) ∧ Touch (fun g => g = B13) W (W.setCell ⟨B13, 0, none⟩ (.int .i64 (k' : Int))) := by
  obtain ⟨h1, ht⟩ := h.wn.count k'
  exact ⟨⟨h.mb.side (by simp [ksR]) h.l13.1 ht, h1, h.ft, h.lt, h.f0, ⟨h.top.1, Nat.le_trans h.top.2 ht.size⟩, h.fx, h.l13⟩, ht⟩

/-- 'at' is told anew. -/
theorem Mr.tick (h : Mr w B3 B4 B6 B7 B10 Bx b q sv u v F0 n0 T B12 B13 wo wcap L0 Ds F V L lo lc t k y0 y1 W) (t' : Nat) : Mr w B3 B4 B6 B7 B10 Bx b q sv u v F0 n0 T B12 B13 wo wcap L0 Ds F V L lo lc t' k y0 y1 (W.setCell ⟨B10, 0, none⟩ (.int .i64 (t' : Int))) ∧ Touch (fun g => g = B10) W (W.setCell ⟨B10, 0, none⟩ (.int .i64 (t' : Int))) := by
  obtain ⟨h1, ht⟩ := h.mb.tick t'
  exact ⟨⟨h1, h.wn.touch ht (fun g hg e => (h.mb.ks g hg).2 (by rw [e]; simp)), h.ft, h.lt, h.f0, ⟨h.top.1, Nat.le_trans h.top.2 ht.size⟩, h.fx, h.l13⟩, ht⟩

/-- Both sides' lists are the list. -/
theorem Mr.laid (h : Mr w B3 B4 B6 B7 B10 Bx b q sv u v F0 n0 T B12 B13 wo wcap L0 Ds F V L lo lc t k y0 y1 W) :
    Mr w B3 B4 B6 B7 B10 Bx b q sv u v F0 n0 T B12 B13 wo wcap L0 Ds F V L lo lc t k (.slice lo L.length lc) (.slice lo L.length lc) ((W.setCell ⟨b, 2, none⟩ (.slice lo L.length lc)).setCell ⟨b, 3, none⟩ (.slice lo L.length lc)) ∧ Touch (fun g => g = b) W ((W.setCell ⟨b, 2, none⟩ (.slice lo L.length lc)).setCell ⟨b, 3, none⟩ (.slice lo L.length lc)) := by
  obtain ⟨h1, ht⟩ := h.mb.laid
  exact ⟨⟨h1, h.wn.touch ht (fun g hg e => (h.mb.ks g hg).2 (by rw [e]; simp)), h.ft, h.lt, h.f0, ⟨h.top.1, Nat.le_trans h.top.2 ht.size⟩, h.fx, h.l13⟩, ht⟩

/-- A step has been taken. -/
theorem Mr.step {F' : Nat → Prop} {V' L' : List Tm} {lo' : Option Addr} {lc' : Nat} (h : Mr w B3 B4 B6 B7 B10 Bx b q sv u v F0 n0 T B12 B13 wo wcap L0 Ds F V L lo lc t k (.slice lo L.length lc) y1 W)
    (hd : Wd W' b 0 q F' V' L' lo' lc' (.pointer (some ⟨q, 0, none⟩)) y1 u v) (hF : ∀ g, F' g → F g ∨ W.heap.size ≤ g) (hlo : ∀ a, lo' = some a → (lo = some a ∧ L' = L) ∨ W.heap.size ≤ a.block) (ht : Touch (fun g => F g ∨ g = b) W W') :
    W'.heap[B6]? = some (.cells #[.pointer (some ⟨b, 0, none⟩)] 24 (0, 0)) ∧ W'.heap[b]? = some (.cells #[.pointer (some ⟨q, 0, none⟩), .pointer (some ⟨q, 0, none⟩), .slice lo' L'.length lc', y1, u, v] 31 (0, 0)) ∧ W'.heap[B7]? = some (.cells #[.slice lo L.length lc] 22 (0, 0)) ∧
    Mr w B3 B4 B6 B7 B10 Bx b q sv u v F0 n0 T B12 B13 wo wcap L0 Ds F' V' L' lo' lc' t k (.slice lo' L'.length lc') y1 (W'.setCell ⟨B7, 0, none⟩ (.slice lo' L'.length lc')) ∧ Touch (fun g => (F0 g ∨ g = b ∨ g = B7) ∨ T ≤ g) W (W'.setCell ⟨B7, 0, none⟩ (.slice lo' L'.length lc')) := by
  obtain ⟨h1, h2, h3, h4, h5⟩ := h.mb.step hd hF hlo ht
  refine ⟨h1, h2, h3, ⟨h4, h.wn.touch h5 (fun g hg e => ?_), fun g hg => ?_, fun a ha hn => ?_, h.f0, ⟨h.top.1, Nat.le_trans h.top.2 h5.size⟩, h.fx, h.l13⟩, h5.mono (fun g _ e => ?_)⟩
  · rcases e with e | e | e
    · exact (h.mb.nf g e).2 (by simp [hg])
    · exact (h.mb.ks g hg).2 (by rw [e]; simp)
    · exact (h.mb.ks g hg).2 (by rw [e]; simp)
  · rcases hF g hg with e | e
    · exact h.ft g e
    · exact .inr (Nat.le_trans h.top.2 e)
  · rcases hlo a ha with ⟨e, e2⟩ | e
    · exact h.lt a e (e2 ▸ hn)
    · exact .inr (Nat.le_trans h.top.2 e)
  · rcases e with e | e
    · rcases h.ft g e with e | e
      · exact .inl (.inl e)
      · exact .inr e
    · exact .inl (.inr e)

/-- A range begins. -/
theorem Mr.begin (h : Mb w B3 B4 B6 B7 B10 Bx b q sv u v F V L lo lc t y0 y1 (ksR B12 B13 wo Ds) W) (hw : Wn B12 B13 wo wcap L0 k Ds W) (h13 : w.heap.size ≤ B13) (ht : Calm W W') (hT : W.heap.size + 2 ≤ T) (hT2 : T ≤ W'.heap.size) :
    Mr w B3 B4 B6 B7 B10 Bx b q sv u v F W.heap.size T B12 B13 wo wcap L0 Ds F V L lo lc t k y0 y1 W' :=
  ⟨h.still ht, hw.calm ht, fun g hg => .inl hg, fun a ha hn => .inl (h.rl.tms.lt a ha hn), fun g hg => h.tq.lt g hg, ⟨hT, hT2⟩, fun g hg => by
    rcases hg with hg | hg
    · have h3 := lt_of_heap h.b3; have h4 := lt_of_heap h.b4; have h6 := lt_of_heap h.b6; have h7 := lt_of_heap h.b7; have h10 := lt_of_heap h.b10; have hx := lt_of_heap h.bx; have ho := lt_of_heap h.own
      simp only [List.mem_cons, List.not_mem_nil, or_false] at hg
      omega
    · exact (h.ks g hg).1, ⟨h13, h.calm.size⟩⟩

end
end Go.Proofs.Ytlnblhajcbmmkaa
