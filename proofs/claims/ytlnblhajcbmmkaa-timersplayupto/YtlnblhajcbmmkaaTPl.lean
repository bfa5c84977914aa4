/- TimersPlay: what it keeps while it begins and while it ends. -/
import Derived.Test.YtlnblhajcbmmkaaTPst
import Derived.Test.YtlnblhajcbmmkaaTAgrM
namespace Go.Proofs.Ytlnblhajcbmmkaa
open Go.RowKit

abbrev nilS : Value := .slice none 0 0
def xp : Option Od → Value
  | none => .pointer none
  | some o => o.ptr
def yp : Option Od → Value
  | none => nilS
  | some o => o.sl

/-- Before side k is made. -/
structure Ys (w : World) (b k : Nat) (B : Option Od) (col : Nat → Nat) (W : World) : Prop where
  calm : Calm w W
  own : W.heap[b]? = some (.cells (wb k (.pointer none) nilS (xp B) (yp B) nilS nilS) 31 (0, 0))
  oth : ∀ o, B = some o → Side W o col (1 - k)
  bc : col b = 4
  low : ∀ g, g < w.heap.size → col g = 99
  k2 : k < 2

/-- While side k's list is made. -/
structure Zs (w : World) (b k : Nat) (A : Od) (B : Option Od) (l : List Tm) (i : Nat) (iv : Value) (col : Nat → Nat) (W : World) : Prop where
  calm : Calm w W
  own : W.heap[b]? = some (.cells (wb k A.ptr A.sl (xp B) (yp B) nilS nilS) 31 (0, 0))
  tq : Tq W A.q A.F A.V
  vm : ∀ z, z ∈ A.V ↔ z ∈ l
  rl : Rl W A.lo A.lc A.L
  srt : Srt A.L
  lm : ∀ z, z ∈ A.L ↔ z ∈ l.take i
  fc : ∀ g, A.F g → col g = k
  rc : ∀ a, A.lo = some a → A.L ≠ [] → col a.block = k ∧ ¬ A.F a.block
  bd : A.L.length ≤ i
  oth : ∀ o, B = some o → Side W o col (1 - k)
  inr : ∃ D, D.length = l.length ∧ OwnT W w.heap.size iv D
  ic : ∀ g, iv.ownBlock = some g → col g = 50
  bc : col b = 4
  low : ∀ g, g < w.heap.size → col g = 99
  k2 : k < 2

section
variable {w W W' : World} {b k i : Nat} {A : Od} {B : Option Od} {l : List Tm} {iv : Value} {col : Nat → Nat} {S : Nat → Prop}

theorem Ys.still (h : Ys w b k B col W) (ht : Calm W W') : Ys w b k B col W' :=
  ⟨h.calm.tr ht, ht.at h.own, fun o ho => (h.oth o ho).touch ht (fun _ h => h.elim), h.bc, h.low, h.k2⟩

/-- The queue is made. -/
theorem Ys.made {q : Nat} {F : Nat → Prop} {V : List Tm} {W1 : World} {io : Option Addr} {n ic : Nat} (h : Ys w b k B col W) (n1 : Nat) (ht : Calm W W1) (h1 : W.heap.size ≤ n1) (hi : OwnT W1 w.heap.size (.slice io n ic) l) (hib : ∀ a, io = some a → W.heap.size ≤ a.block ∧ a.block < n1) (tq : Tq W1 q F V) (hF : ∀ g, F g → n1 ≤ g) (vm : ∀ z, z ∈ V ↔ z ∈ l)
    (own' : (W1.setCell ⟨b, k, none⟩ (.pointer (some ⟨q, 0, none⟩))).heap[b]? = some (.cells (wb k (.pointer (some ⟨q, 0, none⟩)) nilS (xp B) (yp B) nilS nilS) 31 (0, 0))) :
    ∃ col', Zs w b k ⟨q, F, V, [], none, 0⟩ B l 0 (.slice io n ic) col' (W1.setCell ⟨b, k, none⟩ (.pointer (some ⟨q, 0, none⟩))) := by
  have hk := h.k2
  have hb := h.bc
  have hbl := lt_of_heap h.own
  have ts : Touch (fun g => g = b) W1 (W1.setCell ⟨b, k, none⟩ (.pointer (some ⟨q, 0, none⟩))) := (Touch.refl (fun g => g = b) W1).setCell (p := ⟨b, k, none⟩) (fun _ => rfl) _
  obtain ⟨cl, ecl⟩ : ∃ cl : Nat → Nat, cl = fun g => if g < W.heap.size then col g else if g < n1 then 50 else k := ⟨_, rfl⟩
  have c0 : ∀ {g : Nat}, g < W.heap.size → cl g = col g := fun hg => by rw [ecl]; simp only [if_pos hg]
  have hio : ∀ g, (Value.slice io n ic).ownBlock = some g → W.heap.size ≤ g ∧ g < n1 := fun g hg => by
    cases io with
    | none => simp [Value.ownBlock] at hg
    | some a => simp [Value.ownBlock] at hg; rw [← hg]; exact hib a rfl
  refine ⟨cl, (h.calm.tr ht).trans ts (fun g hg e => ?_), own', tq.touch ts (fun g e hf => ?_), vm, Rl.none _, List.Pairwise.nil, fun z => by simp, fun g hg => ?_, fun a ha => (nomatch ha), Nat.le_refl _, fun o ho => ?_, ⟨l, rfl, hi.touch ts (fun g hg e => ?_)⟩, fun g hg => ?_, ?_, fun g hg => ?_, h.k2⟩
  · subst e; have := h.low _ hg; omega
  · subst e; have := hF _ hf; omega
  · have := hF g hg
    rw [ecl]
    simp only [if_neg (show ¬ g < W.heap.size by omega), if_neg (show ¬ g < n1 by omega)]
  · exact Side.touch (((h.oth o ho).recol (col' := cl) (fun g hg e => by rw [c0 hg]; exact e)).touch ht (fun _ h => h.elim)) ts (fun g e => by subst e; rw [c0 hbl]; omega)
  · subst e; have := hio _ hg; omega
  · have := hio g hg
    rw [ecl]
    simp only [if_neg (show ¬ g < W.heap.size by omega), if_pos this.2]
  · rw [c0 hbl]; exact h.bc
  · rw [c0 (Nat.lt_of_lt_of_le hg h.calm.size)]; exact h.low g hg

theorem Zs.still (h : Zs w b k A B l i iv col W) (ht : Calm W W') : Zs w b k A B l i iv col W' := by
  obtain ⟨D, h1, h2⟩ := h.inr
  exact ⟨h.calm.tr ht, ht.at h.own, h.tq.calm ht, h.vm, h.rl.calm ht, h.srt, h.lm, h.fc, h.rc, h.bd, fun o ho => (h.oth o ho).touch ht (fun _ h => h.elim), ⟨D, h1, h2.calm ht⟩, h.ic, h.bc, h.low, h.k2⟩

/-- What was handed in is written over. -/
theorem Zs.over {D : List Tm} {g : Nat} (h : Zs w b k A B l i iv col W) (hg : iv.ownBlock = some g) (ht : Touch (fun x => x = g) W W') (hD : D.length = l.length) (ow : OwnT W' w.heap.size iv D) : Zs w b k A B l i iv col W' := by
  have hc := h.ic g hg
  have hk := h.k2
  have hb := h.bc
  exact ⟨h.calm.trans ht (fun x hx e => by subst e; have := h.low _ hx; omega), ht.heap h.own (fun e => by rw [e] at hb; omega), h.tq.touch ht (fun x e hf => by subst e; have := h.fc _ hf; omega), h.vm, h.rl.touch ht (fun a ha hn e => by have := (h.rc a ha hn).1; rw [e] at this; omega), h.srt, h.lm, h.fc, h.rc, h.bd, fun o ho => (h.oth o ho).touch ht (fun x e => by subst e; omega), ⟨D, hD, ow⟩, h.ic, h.bc, h.low, h.k2⟩

/-- One more is in the list. -/
theorem Zs.set {lo' : Option Addr} {lc' : Nat} {t : Tm} (h : Zs w b k A B l i iv col W) (ht : Calm W W') (hi : i < l.length) (e : nth l i = t) (rl' : Rl W' lo' lc' (setT t A.L)) (loc : ∀ a, lo' = some a → (A.lo = some a ∧ setT t A.L = A.L) ∨ W.heap.size ≤ a.block)
    (own' : (W'.setCell ⟨b, 2 + k, none⟩ (.slice lo' (setT t A.L).length lc')).heap[b]? = some (.cells (wb k A.ptr (.slice lo' (setT t A.L).length lc') (xp B) (yp B) nilS nilS) 31 (0, 0))) :
    ∃ col', Zs w b k ⟨A.q, A.F, A.V, setT t A.L, lo', lc'⟩ B l (i + 1) iv col' (W'.setCell ⟨b, 2 + k, none⟩ (.slice lo' (setT t A.L).length lc')) := by
  have hk := h.k2
  have hb := h.bc
  have hbl := lt_of_heap h.own
  have ts : Touch (fun g => g = b) W' (W'.setCell ⟨b, 2 + k, none⟩ (.slice lo' (setT t A.L).length lc')) := (Touch.refl (fun g => g = b) W').setCell (p := ⟨b, 2 + k, none⟩) (fun _ => rfl) _
  obtain ⟨cl, ecl⟩ : ∃ cl : Nat → Nat, cl = fun g => if g < W.heap.size then col g else k := ⟨_, rfl⟩
  have c0 : ∀ {g : Nat}, g < W.heap.size → cl g = col g := fun hg => by rw [ecl]; simp only [if_pos hg]
  have c1 : ∀ {g : Nat}, W.heap.size ≤ g → cl g = k := fun hg => by rw [ecl]; exact if_neg (Nat.not_lt.2 hg)
  obtain ⟨D, hD, ow⟩ := h.inr
  have hil : ∀ g, iv.ownBlock = some g → g < W.heap.size := fun g hg => (World.ownsRow.lt ow g hg).2
  have row' : ∀ a, lo' = some a → setT t A.L ≠ [] → cl a.block = k ∧ ¬ A.F a.block := fun a ha hn => by
    rcases loc a ha with ⟨e, e2⟩ | e
    · have h1 := h.rl.tms.lt a e (e2 ▸ hn)
      rw [c0 h1]; exact h.rc a e (e2 ▸ hn)
    · exact ⟨c1 e, fun hf => by have := h.tq.lt _ hf; omega⟩
  refine ⟨cl, (h.calm.tr ht).trans ts (fun g hg e => ?_), own', (h.tq.calm ht).touch ts (fun g e hf => ?_), h.vm, rl'.touch ts (fun a ha hn e => ?_), h.srt.set t, fun z => by rw [setT_mem, h.lm, take_mem hi, e], fun g hg => ?_, row', Nat.le_trans (setT_len t A.L) (by have := h.bd; omega), fun o ho => ?_, ⟨D, hD, (ow.calm ht).touch ts (fun g hg e => ?_)⟩, fun g hg => ?_, ?_, fun g hg => ?_, h.k2⟩
  · subst e; have := h.low _ hg; omega
  · subst e; have := h.fc _ hf; omega
  · have h1 := (row' a ha hn).1; rw [e, c0 hbl] at h1; omega
  · rw [c0 (h.tq.lt g hg)]; exact h.fc g hg
  · exact Side.touch (((h.oth o ho).recol (col' := cl) (fun g hg e => by rw [c0 hg]; exact e)).touch ht (fun _ h => h.elim)) ts (fun g e => by subst e; rw [c0 hbl]; omega)
  · subst e; have := h.ic _ hg; omega
  · rw [c0 (hil g hg)]; exact h.ic g hg
  · rw [c0 hbl]; exact h.bc
  · rw [c0 (Nat.lt_of_lt_of_le hg h.calm.size)]; exact h.low g hg

theorem Zs.side (h : Zs w b k A B l i iv col W) (hi : l.length ≤ i) (hb : l.length ≤ 1048576) (hL : A.L.length ≤ l.length) : Side W A col k :=
  ⟨h.tq, h.rl, h.srt, fun z => by rw [h.vm, h.lm, List.take_of_length_le hi], h.fc, h.rc, by omega⟩

/-- Side 0 is made. -/
theorem Zs.one (h : Zs w b 0 A none l i iv col W) (hs : Side W A col 0) : Ys w b 1 (some A) col W :=
  ⟨h.calm, h.own, fun o ho => by injection ho with ho; subst ho; exact hs, h.bc, h.low, by decide⟩

/-- Both sides are made. -/
theorem Zs.two {C : Od} (h : Zs w b 1 A (some C) l i iv col W) (hs : Side W A col 1) : Pw w b 0 C A [] nilS nilS col W :=
  Pw.swap (k := 1) ⟨h.calm, h.own, hs, h.oth C rfl, fun i hi => (nomatch hi), World.ownsRow_nil _ _ _ _, World.ownsRow_nil _ _ _ _, fun g hg => by simp [Value.ownBlock] at hg, fun g hg => by simp [Value.ownBlock] at hg, h.bc, h.low, by decide, by simp⟩

end

/-- While it ends: what was put aside, and the two. -/
structure Pf (w : World) (b : Nat) (A B : Od) (Os Ps : List Od) (u v : Value) (col : Nat → Nat) (W : World) : Prop where
  calm : Calm w W
  own : W.heap[b]? = some (.cells #[A.ptr, B.ptr, A.sl, B.sl, u, v] 31 (0, 0))
  ab : ∀ o, o = A ∨ o = B ∨ o ∈ Os ∨ o ∈ Ps → ∃ c, c ≠ 2 ∧ c ≠ 3 ∧ c ≠ 4 ∧ Side W o col c
  ru : W.ownsRow w.heap.size 25 1 u Os.length (Os.map Od.ptr)
  rv : W.ownsRow w.heap.size 22 1 v Ps.length (Ps.map Od.sl)
  uc : ∀ g, u.ownBlock = some g → col g = 2
  vc : ∀ g, v.ownBlock = some g → col g = 3
  bc : col b = 4
  low : ∀ g, g < w.heap.size → col g = 99

section
variable {w W W' : World} {b : Nat} {A B : Od} {Os Ps : List Od} {u v u' v' : Value} {col : Nat → Nat} {S : Nat → Prop}

theorem Pw.pf (h : Pw w b 0 A B Os u v col W) : Pf w b A B Os Os u v col W := by
  refine ⟨h.calm, h.own, fun o ho => ?_, h.ru, h.rv, h.uc, h.vc, h.bc, h.low⟩
  have hos : ∀ o, o ∈ Os → ∃ c, c ≠ 2 ∧ c ≠ 3 ∧ c ≠ 4 ∧ Side W o col c := fun o ho => by
    obtain ⟨i, hi, rfl⟩ := List.getElem_of_mem ho
    exact ⟨5 + i, by omega, by omega, by omega, h.os i hi⟩
  rcases ho with rfl | rfl | ho | ho
  · exact ⟨0, by decide, by decide, by decide, h.a⟩
  · exact ⟨1, by decide, by decide, by decide, h.o⟩
  · exact hos o ho
  · exact hos o ho

theorem Pf.still (h : Pf w b A B Os Ps u v col W) (ht : Calm W W') : Pf w b A B Os Ps u v col W' :=
  ⟨h.calm.tr ht, ht.at h.own, fun o ho => by
    obtain ⟨c, h1, h2, h3, h4⟩ := h.ab o ho
    exact ⟨c, h1, h2, h3, h4.touch ht (fun _ h => h.elim)⟩, own_touch h.ru ht (fun _ _ h => h), own_touch h.rv ht (fun _ _ h => h), h.uc, h.vc, h.bc, h.low⟩

/-- One more queue is put aside. -/
theorem Pf.more {C : Od} (h : Pf w b A B Os Ps u v col W) (hC : C = A ∨ C = B) (ht : Touch (fun g => u.ownBlock = some g ∨ g = b) W W') (own' : W'.heap[b]? = some (.cells #[A.ptr, B.ptr, A.sl, B.sl, u', v] 31 (0, 0)))
    (ru' : W'.ownsRow w.heap.size 25 1 u' (Os.length + 1) (Os.map Od.ptr ++ [C.ptr])) (lu : ∀ g, u'.ownBlock = some g → u.ownBlock = some g ∨ W.heap.size ≤ g) : ∃ col', Pf w b A B (Os ++ [C]) Ps u' v col' W' := by
  have hb := h.bc
  have hbl := lt_of_heap h.own
  have hlt : ∀ {v : Value} {E : TypeId} {n : Nat} {xs : List Value}, W.ownsRow w.heap.size E 1 v n xs → ∀ g, v.ownBlock = some g → g < W.heap.size := fun hr g hg => (World.ownsRow.lt hr g hg).2
  obtain ⟨cl, ecl⟩ : ∃ cl : Nat → Nat, cl = fun g => if g < W.heap.size then col g else 2 := ⟨_, rfl⟩
  have c0 : ∀ {g : Nat}, g < W.heap.size → cl g = col g := fun hg => by rw [ecl]; simp only [if_pos hg]
  have c1 : ∀ {g : Nat}, W.heap.size ≤ g → cl g = 2 := fun hg => by rw [ecl]; exact if_neg (Nat.not_lt.2 hg)
  have cs : ∀ {g : Nat}, (u.ownBlock = some g ∨ g = b) → cl g = 2 ∨ cl g = 4 := fun hg => by
    rcases hg with hg | hg
    · rw [c0 (hlt h.ru _ hg)]; exact .inl (h.uc _ hg)
    · rw [hg, c0 hbl]; exact .inr hb
  refine ⟨cl, h.calm.trans ht (fun g hg e => ?_), own', fun o ho => ?_, ?_, own_touch h.rv ht (fun g hg hs => ?_), fun g hg => ?_, fun g hg => ?_, ?_, fun g hg => ?_⟩
  · have h1 := cs e; rw [c0 (Nat.lt_of_lt_of_le hg h.calm.size), h.low g hg] at h1; omega
  · obtain ⟨c, h1, h2, h3, h4⟩ := h.ab o (by
      rcases ho with ho | ho | ho | ho
      · exact .inl ho
      · exact .inr (.inl ho)
      · rcases List.mem_append.1 ho with ho | ho
        · exact .inr (.inr (.inl ho))
        · rw [List.mem_singleton.1 ho]; rcases hC with e | e
          · exact .inl e
          · exact .inr (.inl e)
      · exact .inr (.inr (.inr ho)))
    exact ⟨c, h1, h2, h3, Side.touch (h4.recol (col' := cl) (fun g hg e => by rw [c0 hg]; exact e)) ht (fun g hg => by have := cs hg; omega)⟩
  · simpa using ru'
  · have h1 := h.vc g hg
    have h2 := hlt h.rv g hg
    have h3 := cs hs
    rw [c0 h2] at h3; omega
  · rcases lu g hg with e | e
    · rw [c0 (hlt h.ru g e)]; exact h.uc g e
    · exact c1 e
  · rw [c0 (hlt h.rv g hg)]; exact h.vc g hg
  · rw [c0 hbl]; exact hb
  · rw [c0 (Nat.lt_of_lt_of_le hg h.calm.size)]; exact h.low g hg

/-- One more list is put aside. -/
theorem Pf.last {C : Od} (h : Pf w b A B Os Ps u v col W) (hC : C = A ∨ C = B) (ht : Touch (fun g => v.ownBlock = some g ∨ g = b) W W') (own' : W'.heap[b]? = some (.cells #[A.ptr, B.ptr, A.sl, B.sl, u, v'] 31 (0, 0)))
    (rv' : W'.ownsRow w.heap.size 22 1 v' (Ps.length + 1) (Ps.map Od.sl ++ [C.sl])) (lv : ∀ g, v'.ownBlock = some g → v.ownBlock = some g ∨ W.heap.size ≤ g) : ∃ col', Pf w b A B Os (Ps ++ [C]) u v' col' W' := by
  have hb := h.bc
  have hbl := lt_of_heap h.own
  have hlt : ∀ {v : Value} {E : TypeId} {n : Nat} {xs : List Value}, W.ownsRow w.heap.size E 1 v n xs → ∀ g, v.ownBlock = some g → g < W.heap.size := fun hr g hg => (World.ownsRow.lt hr g hg).2
  obtain ⟨cl, ecl⟩ : ∃ cl : Nat → Nat, cl = fun g => if g < W.heap.size then col g else 3 := ⟨_, rfl⟩
  have c0 : ∀ {g : Nat}, g < W.heap.size → cl g = col g := fun hg => by rw [ecl]; simp only [if_pos hg]
  have c1 : ∀ {g : Nat}, W.heap.size ≤ g → cl g = 3 := fun hg => by rw [ecl]; exact if_neg (Nat.not_lt.2 hg)
  have cs : ∀ {g : Nat}, (v.ownBlock = some g ∨ g = b) → cl g = 3 ∨ cl g = 4 := fun hg => by
    rcases hg with hg | hg
    · rw [c0 (hlt h.rv _ hg)]; exact .inl (h.vc _ hg)
    · rw [hg, c0 hbl]; exact .inr hb
  refine ⟨cl, h.calm.trans ht (fun g hg e => ?_), own', fun o ho => ?_, own_touch h.ru ht (fun g hg hs => ?_), ?_, fun g hg => ?_, fun g hg => ?_, ?_, fun g hg => ?_⟩
  · have h1 := cs e; rw [c0 (Nat.lt_of_lt_of_le hg h.calm.size), h.low g hg] at h1; omega
  · obtain ⟨c, h1, h2, h3, h4⟩ := h.ab o (by
      rcases ho with ho | ho | ho | ho
      · exact .inl ho
      · exact .inr (.inl ho)
      · exact .inr (.inr (.inl ho))
      · rcases List.mem_append.1 ho with ho | ho
        · exact .inr (.inr (.inr ho))
        · rw [List.mem_singleton.1 ho]; rcases hC with e | e
          · exact .inl e
          · exact .inr (.inl e))
    exact ⟨c, h1, h2, h3, Side.touch (h4.recol (col' := cl) (fun g hg e => by rw [c0 hg]; exact e)) ht (fun g hg => by have := cs hg; omega)⟩
  · have h1 := h.uc g hg
    have h2 := hlt h.ru g hg
    have h3 := cs hs
    rw [c0 h2] at h3; omega
  · simpa using rv'
  · rw [c0 (hlt h.ru g hg)]; exact h.uc g hg
  · rcases lv g hg with e | e
    · rw [c0 (hlt h.rv g e)]; exact h.vc g e
    · exact c1 e
  · rw [c0 hbl]; exact hb
  · rw [c0 (Nat.lt_of_lt_of_le hg h.calm.size)]; exact h.low g hg

end
end Go.Proofs.Ytlnblhajcbmmkaa
