/- TimersPlay: two queues, their lists, and what was put aside, in memory; each block has a colour. -/
import Derived.Test.YtlnblhajcbmmkaaTStpA
namespace Go.Proofs.Ytlnblhajcbmmkaa
open Go.RowKit

theorem infoPtr : (Try.prog.info? 25).map (fun i => (i.zero, i.size, i.bytes)) = some (some (.pointer none), 1, 8) := by kernel_rfl
theorem infoSl : (Try.prog.info? 22).map (fun i => (i.zero, i.size, i.bytes)) = some (some (.slice none 0 0), 1, 24) := by kernel_rfl

/-- 'append' of one value onto a row of one's own. -/
theorem run_vapp {E SL : TypeId} {z : Value} {by_ : Nat} (hu : Try.prog.underlying SL = some (.slice E)) (hinf : (Try.prog.info? E).map (fun i => (i.zero, i.size, i.bytes)) = some (some z, 1, by_)) (hzo : z.cells.size = 1) (hb0 : 0 < by_ ∧ by_ ≤ 24)
    (w : World) (base : Nat) (ty : TypeId) (v : Value) (vs : List Value) (hown : w.ownsRow base E 1 v vs.length vs) (x : Value) (hx : x.oneCell' = true) (hn : vs.length ≤ 100) (hbase : base ≤ w.heap.size) :
    ∃ ao' cap' w', (Builtin.append_ #[SL, SL] ty #[v, .slice (some ⟨w.heap.size, 0, none⟩) 1 1]).run Try.prog (w.alloc (.cells #[x] E)) = .ok (.slice ao' (vs.length + 1) cap') w' ∧ w'.ownsRow base E 1 (.slice ao' (vs.length + 1) cap') (vs.length + 1) (vs ++ [x]) ∧ Touch (fun g => v.ownBlock = some g) w w' ∧
      (∀ g, (Value.slice ao' (vs.length + 1) cap').ownBlock = some g → v.ownBlock = some g ∨ w.heap.size ≤ g) := by
  obtain ⟨i, hi, hz, hs, hby⟩ := info_parts2 hinf
  have hA := World.ownsRow.alloc hown (.cells #[x] E)
  obtain ⟨v', w', hr, h1, h2, _, h3⟩ := run_append_own_at (P := Try.prog) (w.alloc (.cells #[x] E)) base SL ty E i z 1 by_ hu hi hz hs hby hzo (by omega) v vs.length vs hA ⟨w.heap.size, 0, none⟩ 1 1 [x] rfl (new_cells1 w x E) (one_cells1 hx) (by unfold maxLen; omega) (by
    have : (vs.length + 1) * by_ ≤ 101 * 24 := Nat.mul_le_mul (by omega) hb0.2
    omega) (by simp; omega)
  obtain ⟨ao', cap', hv⟩ := own_shape h1
  refine ⟨ao', cap', w', by rw [← hv]; exact hr, by rw [← hv]; exact h1, ?_, ?_⟩
  · exact ((Touch.refl (fun g => v.ownBlock = some g) w).alloc _).trans (Touch.of_grownBy h2 |>.mono fun g _ h => h) (fun _ _ h => h)
  · rw [← hv]
    intro g hg
    rcases h3 with h3 | h3
    · exact .inl (h3 ▸ hg)
    · rw [h3] at hg; injection hg with hg; exact .inr (by simp at hg; omega)

/-- A queue and its list. -/
structure Od where
  q : Nat
  F : Nat → Prop
  V : List Tm
  L : List Tm
  lo : Option Addr
  lc : Nat

abbrev Od.ptr (o : Od) : Value := .pointer (some ⟨o.q, 0, none⟩)
abbrev Od.sl (o : Od) : Value := .slice o.lo o.L.length o.lc

/-- It lies in memory, in blocks of the colour c. -/
structure Side (W : World) (o : Od) (col : Nat → Nat) (c : Nat) : Prop where
  tq : Tq W o.q o.F o.V
  rl : Rl W o.lo o.lc o.L
  srt : Srt o.L
  mem : ∀ z, z ∈ o.V ↔ z ∈ o.L
  fc : ∀ g, o.F g → col g = c
  rc : ∀ a, o.lo = some a → o.L ≠ [] → col a.block = c ∧ ¬ o.F a.block
  bd : o.L.length < 3518437208780

theorem Side.touch {W W' : World} {o : Od} {col : Nat → Nat} {c : Nat} {S : Nat → Prop} (h : Side W o col c) (ht : Touch S W W') (hS : ∀ g, S g → col g ≠ c) : Side W' o col c :=
  ⟨h.tq.touch ht (fun g hg hf => hS g hg (h.fc g hf)), h.rl.touch ht (fun a ha hn hs => hS _ hs (h.rc a ha hn).1), h.srt, h.mem, h.fc, h.rc, h.bd⟩

theorem Side.recol {W : World} {o : Od} {col col' : Nat → Nat} {c c' : Nat} (h : Side W o col c) (hc : ∀ g, g < W.heap.size → col g = c → col' g = c') : Side W o col' c' :=
  ⟨h.tq, h.rl, h.srt, h.mem, fun g hg => hc g (h.tq.lt g hg) (h.fc g hg), fun a ha hn => ⟨hc _ (h.rl.tms.lt a ha hn) (h.rc a ha hn).1, (h.rc a ha hn).2⟩, h.bd⟩

/-- The whole. -/
structure Pw (w : World) (b k : Nat) (A B : Od) (Os : List Od) (u v : Value) (col : Nat → Nat) (W : World) : Prop where
  calm : Calm w W
  own : W.heap[b]? = some (.cells (wb k A.ptr A.sl B.ptr B.sl u v) 31 (0, 0))
  a : Side W A col k
  o : Side W B col (1 - k)
  os : ∀ i (h : i < Os.length), Side W Os[i] col (5 + i)
  ru : W.ownsRow w.heap.size 25 1 u Os.length (Os.map Od.ptr)
  rv : W.ownsRow w.heap.size 22 1 v Os.length (Os.map Od.sl)
  uc : ∀ g, u.ownBlock = some g → col g = 2
  vc : ∀ g, v.ownBlock = some g → col g = 3
  bc : col b = 4
  low : ∀ g, g < w.heap.size → col g = 99
  k2 : k < 2
  len : Os.length ≤ 30

section
variable {w W W' : World} {b k : Nat} {A B : Od} {Os : List Od} {u v : Value} {col : Nat → Nat} {S : Nat → Prop}

theorem wb_swap {k : Nat} (hk : k < 2) (a l x y u v : Value) : wb k a l x y u v = wb (1 - k) x y a l u v := by
  rcases (show k = 0 ∨ k = 1 by omega) with rfl | rfl <;> simp [wb]

theorem Pw.swap (h : Pw w b k A B Os u v col W) : Pw w b (1 - k) B A Os u v col W :=
  ⟨h.calm, by rw [← wb_swap h.k2]; exact h.own, h.o, by rw [show 1 - (1 - k) = k by have := h.k2; omega]; exact h.a, h.os, h.ru, h.rv, h.uc, h.vc, h.bc, h.low, by have := h.k2; omega, h.len⟩

/-- Blocks of no colour here turn. -/
theorem Pw.turn (h : Pw w b k A B Os u v col W) (ht : Touch S W W') (hS : ∀ g, S g → w.heap.size ≤ g ∧ 40 ≤ col g) : Pw w b k A B Os u v col W' := by
  have n : ∀ {c g : Nat}, c < 40 → S g → col g ≠ c := fun hc hs e => by have := (hS _ hs).2; omega
  have hk := h.k2
  have hl := h.len
  exact ⟨h.calm.trans ht (fun g hg hs => by have := (hS g hs).1; omega), ht.heap h.own (fun hs => n (by decide) hs h.bc), h.a.touch ht (fun g hs => n (by omega) hs), h.o.touch ht (fun g hs => n (by omega) hs), fun i hi => (h.os i hi).touch ht (fun g hs => n (by omega) hs),
    own_touch h.ru ht (fun g hg hs => n (by decide) hs (h.uc g hg)), own_touch h.rv ht (fun g hg hs => n (by decide) hs (h.vc g hg)), h.uc, h.vc, h.bc, h.low, h.k2, h.len⟩

theorem Pw.still (h : Pw w b k A B Os u v col W) (ht : Calm W W') : Pw w b k A B Os u v col W' := h.turn ht fun _ h => h.elim

/-- The verifier's world, for its step. -/
theorem Pw.wd (h : Pw w b k A B Os u v col W) : Wd W b k A.q A.F A.V A.L A.lo A.lc B.ptr B.sl u v := by
  have hk := h.k2
  have hb := h.bc
  exact ⟨h.own, h.a.tq, h.a.rl, h.a.srt, h.a.mem, fun a ha hn => ⟨(h.a.rc a ha hn).2, fun e => by have := (h.a.rc a ha hn).1; rw [e] at this; omega⟩, fun hf => by have := h.a.fc _ hf; omega⟩

/-- A step that stays has been taken. -/
theorem Pw.step {F' : Nat → Prop} {V' L' : List Tm} {lo' : Option Addr} {lc' : Nat} (h : Pw w b k A B Os u v col W)
    (hd : Wd W' b k A.q F' V' L' lo' lc' B.ptr B.sl u v) (hF : ∀ g, F' g → A.F g ∨ W.heap.size ≤ g) (hlo : ∀ a, lo' = some a → (A.lo = some a ∧ L' = A.L) ∨ W.heap.size ≤ a.block) (ht : Touch (fun g => A.F g ∨ g = b) W W') (hbd : L'.length < 3518437208780) :
    ∃ col', Pw w b k ⟨A.q, F', V', L', lo', lc'⟩ B Os u v col' W' := by
  have hk := h.k2
  have hb := h.bc
  have nc : ∀ {c g : Nat}, c ≠ k → c ≠ 4 → (A.F g ∨ g = b) → col g ≠ c := fun h1 h2 hs e => by
    rcases hs with hs | hs
    · have := h.a.fc _ hs; omega
    · rw [hs] at e; omega
  have lo' : ∀ {g : Nat}, g < W.heap.size → (if W.heap.size ≤ g then k else col g) = col g := fun hg => if_neg (by omega)
  have hs := ht.size
  have same : ∀ {o : Od} {c : Nat}, Side W o col c → c ≠ k → c ≠ 4 → Side W' o (fun g => if W.heap.size ≤ g then k else col g) c := fun ho h1 h2 =>
    Side.touch (ho.recol (col' := fun g => if W.heap.size ≤ g then k else col g) (fun g hg e => by rw [lo' hg]; exact e)) ht (fun g hg => by
      by_cases hl : W.heap.size ≤ g
      · simp only [if_pos hl]; exact fun e => h1 e.symm
      · simp only [if_neg hl]; exact nc h1 h2 hg)
  have hlt : ∀ {v : Value} {E : TypeId} {n : Nat} {xs : List Value}, W.ownsRow w.heap.size E 1 v n xs → ∀ g, v.ownBlock = some g → g < W.heap.size := fun hr g hg => (World.ownsRow.lt hr g hg).2
  refine ⟨fun g => if W.heap.size ≤ g then k else col g, h.calm.trans ht (fun g hg e => ?_), hd.own, ⟨hd.tq, hd.rl, hd.srt, hd.mem, fun g hg => ?_, fun a ha hn => ⟨?_, (hd.row a ha hn).1⟩, hbd⟩, same h.o (by omega) (by omega), fun i hi => same (h.os i hi) (by omega) (by omega),
    own_touch h.ru ht (fun g hg e => nc (c := 2) (by omega) (by omega) e (h.uc g hg)), own_touch h.rv ht (fun g hg e => nc (c := 3) (by omega) (by omega) e (h.vc g hg)), fun g hg => ?_, fun g hg => ?_, ?_, fun g hg => ?_, h.k2, h.len⟩
  · have h9 := h.low g hg
    exact nc (c := 99) (by omega) (by omega) e h9
  · by_cases hl : W.heap.size ≤ g
    · simp only [if_pos hl]
    · simp only [if_neg hl]
      rcases hF g hg with e | e
      · exact h.a.fc g e
      · exact absurd e hl
  · by_cases hl : W.heap.size ≤ a.block
    · simp only [if_pos hl]
    · simp only [if_neg hl]
      rcases hlo a ha with ⟨e, e2⟩ | e
      · exact (h.a.rc a e (e2 ▸ hn)).1
      · exact absurd e hl
  · rw [lo' (hlt h.ru g hg)]; exact h.uc g hg
  · rw [lo' (hlt h.rv g hg)]; exact h.vc g hg
  · rw [lo' (lt_of_heap h.own)]; exact h.bc
  · rw [lo' (Nat.lt_of_lt_of_le hg h.calm.size)]; exact h.low g hg

/-- The queue goes on as its copy; nothing is put aside. -/
theorem Pw.copy {q' : Nat} {F' : Nat → Prop} (h : Pw w b k A B Os u v col W) (ht : Touch (fun g => g = b) W W') (own' : W'.heap[b]? = some (.cells (wb k (.pointer (some ⟨q', 0, none⟩)) A.sl B.ptr B.sl u v) 31 (0, 0))) (tq' : Tq W' q' F' A.V) (hF : ∀ g, F' g → W.heap.size ≤ g) :
    ∃ col', Pw w b k ⟨q', F', A.V, A.L, A.lo, A.lc⟩ B Os u v col' W' := by
  have hk := h.k2
  have hb := h.bc
  have lo' : ∀ {g : Nat}, g < W.heap.size → (if W.heap.size ≤ g then k else col g) = col g := fun hg => if_neg (by omega)
  have same : ∀ {o : Od} {c : Nat}, Side W o col c → c ≠ 4 → Side W' o (fun g => if W.heap.size ≤ g then k else col g) c := fun ho h2 =>
    Side.touch (ho.recol (col' := fun g => if W.heap.size ≤ g then k else col g) (fun g hg e => by rw [lo' hg]; exact e)) ht (fun g hg => by
      subst hg; rw [lo' (lt_of_heap h.own), h.bc]; exact fun e => h2 e.symm)
  have hlt : ∀ {v : Value} {E : TypeId} {n : Nat} {xs : List Value}, W.ownsRow w.heap.size E 1 v n xs → ∀ g, v.ownBlock = some g → g < W.heap.size := fun hr g hg => (World.ownsRow.lt hr g hg).2
  have ha := same h.a (by omega)
  refine ⟨fun g => if W.heap.size ≤ g then k else col g, h.calm.trans ht (fun g hg e => by subst e; have := h.low _ hg; omega), own', ⟨tq', ha.rl, h.a.srt, h.a.mem, fun g hg => if_pos (hF g hg), fun a ha' hn => ⟨(ha.rc a ha' hn).1, fun hf => by
      have h1 := hF _ hf
      have h2 := h.a.rl.tms.lt a ha' hn
      omega⟩, h.a.bd⟩, same h.o (by omega), fun i hi => same (h.os i hi) (by omega),
    own_touch h.ru ht (fun g hg e => by have := h.uc g hg; rw [e] at this; omega), own_touch h.rv ht (fun g hg e => by have := h.vc g hg; rw [e] at this; omega), fun g hg => ?_, fun g hg => ?_, ?_, fun g hg => ?_, h.k2, h.len⟩
  · rw [lo' (hlt h.ru g hg)]; exact h.uc g hg
  · rw [lo' (hlt h.rv g hg)]; exact h.vc g hg
  · rw [lo' (lt_of_heap h.own)]; exact h.bc
  · rw [lo' (Nat.lt_of_lt_of_le hg h.calm.size)]; exact h.low g hg

open Classical in
/-- The queue is put aside with a copy of its list, and goes on as its copy. -/
theorem Pw.aside {q' n1 n2 n3 : Nat} {F' : Nat → Prop} {u' v' : Value} {co : Option Addr} {cc : Nat} (h : Pw w b k A B Os u v col W) (ht : Touch (fun g => u.ownBlock = some g ∨ v.ownBlock = some g ∨ g = b) W W')
    (own' : W'.heap[b]? = some (.cells (wb k (.pointer (some ⟨q', 0, none⟩)) A.sl B.ptr B.sl u' v') 31 (0, 0))) (tq' : Tq W' q' F' A.V) (n01 : W.heap.size ≤ n1) (n12 : n1 ≤ n2) (n23 : n2 ≤ n3) (hF : ∀ g, F' g → n3 ≤ g)
    (ru' : W'.ownsRow w.heap.size 25 1 u' (Os.length + 1) (Os.map Od.ptr ++ [A.ptr])) (rv' : W'.ownsRow w.heap.size 22 1 v' (Os.length + 1) (Os.map Od.sl ++ [.slice co A.L.length cc]))
    (lu : ∀ g, u'.ownBlock = some g → u.ownBlock = some g ∨ W.heap.size ≤ g ∧ g < n1) (lv : ∀ g, v'.ownBlock = some g → v.ownBlock = some g ∨ n2 ≤ g ∧ g < n3) (rc : Rl W' co cc A.L) (lc' : ∀ a, co = some a → A.L ≠ [] → n1 ≤ a.block ∧ a.block < n2) (hlen : Os.length < 30) :
    ∃ col', Pw w b k ⟨q', F', A.V, A.L, A.lo, A.lc⟩ B (Os ++ [⟨A.q, A.F, A.V, A.L, co, cc⟩]) u' v' col' W' := by
  have hk := h.k2
  have hb := h.bc
  obtain ⟨cl, ecl⟩ : ∃ cl : Nat → Nat, cl = fun g => if A.F g then 5 + Os.length else if g < W.heap.size then col g else if g < n1 then 2 else if g < n2 then 5 + Os.length else if g < n3 then 3 else k := ⟨_, rfl⟩
  have c0 : ∀ {g : Nat}, g < W.heap.size → ¬ A.F g → cl g = col g := fun hg hf => by rw [ecl]; simp only [if_neg hf, if_pos hg]
  have nA : ∀ {g : Nat}, col g ≠ k → ¬ A.F g := fun hc hf => hc (h.a.fc _ hf)
  have nS : ∀ {c g : Nat}, c ≠ 2 → c ≠ 3 → c ≠ 4 → (u.ownBlock = some g ∨ v.ownBlock = some g ∨ g = b) → col g ≠ c := fun h2 h3 h4 hs e => by
    rcases hs with hs | hs | hs
    · have := h.uc _ hs; omega
    · have := h.vc _ hs; omega
    · rw [hs] at e; omega
  have hlt : ∀ {v : Value} {E : TypeId} {n : Nat} {xs : List Value}, W.ownsRow w.heap.size E 1 v n xs → ∀ g, v.ownBlock = some g → g < W.heap.size := fun hr g hg => (World.ownsRow.lt hr g hg).2
  have sL : ∀ {g : Nat}, (u.ownBlock = some g ∨ v.ownBlock = some g ∨ g = b) → g < W.heap.size := fun hs => by
    rcases hs with hs | hs | hs
    · exact hlt h.ru _ hs
    · exact hlt h.rv _ hs
    · rw [hs]; exact lt_of_heap h.own
  have same : ∀ {o : Od} {c : Nat}, Side W o col c → c ≠ k → c ≠ 2 → c ≠ 3 → c ≠ 4 → Side W' o cl c := fun ho h1 h2 h3 h4 =>
    Side.touch (ho.recol (col' := cl) (fun g hg e => by rw [c0 hg (nA (by rw [e]; exact h1))]; exact e)) ht (fun g hg => by
      rw [c0 (sL hg) (nA (nS (by omega) (by omega) (by omega) hg))]; exact nS h2 h3 h4 hg)
  have FA : ∀ {g : Nat}, A.F g → g < W.heap.size := fun hf => h.a.tq.lt _ hf
  have hold : Side W' ⟨A.q, A.F, A.V, A.L, co, cc⟩ cl (5 + Os.length) :=
    ⟨h.a.tq.touch ht (fun g hg hf => nS (c := k) (by omega) (by omega) (by omega) hg (h.a.fc g hf)), rc, h.a.srt, h.a.mem, fun g hg => by rw [ecl]; exact if_pos hg, fun a ha hn => by
      obtain ⟨h1, h2⟩ := lc' a ha hn
      have hf : ¬ A.F a.block := fun hf => by have := FA hf; omega
      refine ⟨?_, hf⟩
      rw [ecl]
      simp only [if_neg hf, if_neg (show ¬ a.block < W.heap.size by omega), if_neg (show ¬ a.block < n1 by omega), if_pos h2], h.a.bd⟩
  have hnew : Side W' ⟨q', F', A.V, A.L, A.lo, A.lc⟩ cl k :=
    ⟨tq', h.a.rl.touch ht (fun a ha hn hs => nS (c := k) (by omega) (by omega) (by omega) hs (h.a.rc a ha hn).1), h.a.srt, h.a.mem, fun g hg => by
      have h1 := hF g hg
      have hf : ¬ A.F g := fun hf => by have := FA hf; omega
      rw [ecl]
      simp only [if_neg hf, if_neg (show ¬ g < W.heap.size by omega), if_neg (show ¬ g < n1 by omega), if_neg (show ¬ g < n2 by omega), if_neg (show ¬ g < n3 by omega)], fun a ha hn => by
      have h1 := h.a.rl.tms.lt a ha hn
      exact ⟨by rw [c0 h1 (h.a.rc a ha hn).2]; exact (h.a.rc a ha hn).1, fun hf => by have := hF _ hf; omega⟩, h.a.bd⟩
  refine ⟨cl, h.calm.trans ht (fun g hg e => nS (c := 99) (by omega) (by omega) (by omega) e (h.low g hg)), own', hnew, same h.o (by omega) (by omega) (by omega) (by omega), fun i hi => ?_, ?_, ?_, fun g hg => ?_, fun g hg => ?_, ?_, fun g hg => ?_, h.k2, by simp; omega⟩
  · by_cases hl : i < Os.length
    · rw [List.getElem_append_left hl]; exact same (h.os i hl) (by omega) (by omega) (by omega) (by omega)
    · have e : i = Os.length := by simp at hi; omega
      subst e
      rw [List.getElem_append_right (Nat.le_refl _)]
      simpa using hold
  · simpa using ru'
  · simpa using rv'
  · rcases lu g hg with e | ⟨e1, e2⟩
    · have h1 := h.uc g e
      rw [c0 (hlt h.ru g e) (nA (by omega))]; exact h1
    · have hf : ¬ A.F g := fun hf => by have := FA hf; omega
      rw [ecl]
      simp only [if_neg hf, if_neg (show ¬ g < W.heap.size by omega), if_pos e2]
  · rcases lv g hg with e | ⟨e1, e2⟩
    · have h1 := h.vc g e
      rw [c0 (hlt h.rv g e) (nA (by omega))]; exact h1
    · have hf : ¬ A.F g := fun hf => by have := FA hf; omega
      rw [ecl]
      simp only [if_neg hf, if_neg (show ¬ g < W.heap.size by omega), if_neg (show ¬ g < n1 by omega), if_neg (show ¬ g < n2 by omega), if_pos e2]
  · rw [c0 (lt_of_heap h.own) (nA (by omega))]; exact h.bc
  · have h1 := h.low g hg
    rw [c0 (Nat.lt_of_lt_of_le hg h.calm.size) (nA (by omega))]; exact h1

end
end Go.Proofs.Ytlnblhajcbmmkaa
