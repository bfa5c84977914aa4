/- Rows of slices that a call owns. -/
import Derived.Test.YtmmeglpglaogeaaDoorLend
namespace Go.Proofs.YtmmeglpglaogeaaDoor
open Go.RowKit Crcx

theorem lt_of_heap {w : World} {g : Nat} {o : Obj} (h : w.heap[g]? = some o) : g < w.heap.size := (Array.getElem?_eq_some_iff.1 h).1

theorem tags {w : World} {g h : Nat} {c c' : Array Value} {t t' : TypeId} {f f' : Nat × Nat} (a : w.heap[g]? = some (.cells c t f)) (b : w.heap[h]? = some (.cells c' t' f')) (ht : t ≠ t') : g ≠ h := by
  intro e
  subst e
  rw [a] at b
  injection b with b
  injection b with b1 b2 b3
  exact ht b2

theorem own_touch {S : Nat → Prop} {w w' : World} {base size n : Nat} {e : TypeId} {v : Value} {xs : List Value} (h : w.ownsRow base e size v n xs) (ht : Touch S w w') (hn : ∀ g, v.ownBlock = some g → ¬ S g) : w'.ownsRow base e size v n xs := by
  rcases h with ⟨hl, h | ⟨g, cap, cur, rfl, a, b, c⟩⟩
  · exact ⟨hl, .inl h⟩
  · exact ⟨hl, .inr ⟨g, cap, cur, rfl, a, (ht.block g (lt_of_heap b) (hn g rfl)).trans b, c⟩⟩

theorem own_block {w : World} {base size n : Nat} {e : TypeId} {v : Value} {xs : List Value} (h : w.ownsRow base e size v n xs) {g : Nat} (hg : v.ownBlock = some g) : base ≤ g ∧ ∃ cur, w.heap[g]? = some (.cells cur e (0, 0)) := by
  rcases h with ⟨hl, ⟨rfl, _⟩ | ⟨g', cap, cur, rfl, a, b, c⟩⟩
  · simp [Value.ownBlock] at hg
  · simp [Value.ownBlock] at hg; subst hg; exact ⟨a, cur, b⟩

theorem own_shape {w : World} {base size n : Nat} {e : TypeId} {v : Value} {xs : List Value} (h : w.ownsRow base e size v n xs) : ∃ o c, v = .slice o n c ∧ n ≤ c ∧ (0 < n → ∃ g, o = some ⟨g, 0, none⟩) := by
  rcases h with ⟨hl, ⟨rfl, rfl⟩ | ⟨g', cap, cur, rfl, a, b, c, _⟩⟩
  · exact ⟨none, 0, rfl, Nat.le_refl _, fun h => absurd h (by omega)⟩
  · exact ⟨_, _, rfl, c, fun _ => ⟨g', rfl⟩⟩

theorem own_segV {w : World} {base n c : Nat} {e : TypeId} {o : Option Addr} {vs : List Value} (h : w.ownsRow base e 1 (.slice o n c) n vs) : SegV w o vs := by
  rcases h with ⟨hl, ⟨hv, rfl⟩ | ⟨g, cap, cur, hv, _, b, c1, d, f, i⟩⟩
  · injection hv with h1 _ _
    subst h1
    have : vs = [] := List.eq_nil_of_length_eq_zero (by simpa using hl)
    exact ⟨fun _ => this, fun _ h => (nomatch h), fun _ h => (nomatch h)⟩
  · injection hv with h1 h2 h3
    subst h1
    refine ⟨fun h => (nomatch h), fun a ha _ => (by injection ha with ha; subst ha; rfl), fun a ha j hj => ?_⟩
    injection ha with ha; subst ha
    rw [Addr.add_lit, Nat.zero_add, cell_of_row w g j _ _ _ b]
    have hj' : j < n * 1 := by rw [← hl]; exact hj
    have e1 : vs[j]? = cur.toList[j]? := by
      rw [← i, List.getElem?_take, if_pos hj']
    rw [List.getElem?_eq_getElem hj] at e1
    rw [e1]
    simp

theorem SegV.touch {w w' : World} {ao : Option Addr} {vs : List Value} (h : SegV w ao vs) (ht : Touch (fun _ => False) w w') : SegV w' ao vs := by
  refine ⟨h.none, h.spot, fun a ha j hj => ?_⟩
  have hc := h.cell a ha j hj
  obtain ⟨b, off, e⟩ := h.addr (Nat.lt_of_le_of_lt (Nat.zero_le _) hj)
  rw [ha] at e; injection e with e; subst e
  rw [Addr.add_lit] at hc ⊢
  rw [ht.cell (p := ⟨b, off + j, .none⟩) (lt_of_cell hc) (fun h => h)]
  exact hc

theorem SegV.prefix {w : World} {ao : Option Addr} {vs us : List Value} (h : SegV w ao (vs ++ us)) : SegV w ao vs := by
  refine ⟨fun e => ?_, fun a ha hne => h.spot a ha (by simp [hne]), fun a ha j hj => ?_⟩
  · have := h.none e; simp at this; exact this.1
  · rw [h.cell a ha j (by simp; omega), List.getElem_append_left hj]

/-- A loan: where it lies, its room, its text. -/
structure Loan where
  g : Nat
  c : Nat
  xs : List Int

def Loan.val (l : Loan) : Value := .slice (some ⟨l.g, 0, none⟩) l.xs.length l.c

/-- What the law keeps: a list of loans, and all their bytes, one behind the other. -/
structure Sm (w0 w : World) (x v : Value) (ls : List Loan) : Prop where
  own : w.ownsRow w0.heap.size 25 1 x ls.length (ls.map Loan.val)
  lent : ∀ l ∈ ls, Lent w l.g l.c l.xs ∧ w0.heap.size ≤ l.g ∧ v.ownBlock ≠ some l.g
  all : Row w 5 .u8 v (ls.flatMap Loan.xs)
  fall : ∀ j, v.ownBlock = some j → w0.heap.size ≤ j
  touch : Touch (fun _ => False) w0 w

theorem Sm.start (w : World) : Sm w w (.slice none 0 0) (.slice none 0 0) [] :=
  ⟨World.ownsRow_nil _ _ _ _, fun _ h => (nomatch h), Row.nil _ _ _, fun _ h => (by simp [Value.ownBlock] at h), Touch.refl _ _⟩

theorem Lent.block {w : World} {g c : Nat} {xs : List Int} (h : Lent w g c xs) : ∃ cur, w.heap[g]? = some (.cells cur 5 (0, 0)) := h.row.block rfl

/-- Behind a loan, and an append of it to the list. -/
theorem Sm.lend {w0 w w1 w2 : World} {x v x' : Value} {ls : List Loan} {l : Loan} {o : Obj} (h : Sm w0 w x v ls) (ht : Touch (fun _ => False) w w1) (hl : Lent w1 l.g l.c l.xs) (hg : w.heap.size ≤ l.g)
    (hown : w2.ownsRow w0.heap.size 25 1 x' (ls.length + 1) (ls.map Loan.val ++ [l.val])) (hgr : (w1.alloc o).grownBy w2 x.ownBlock) :
    w2.ownsRow w0.heap.size 25 1 x' (ls ++ [l]).length ((ls ++ [l]).map Loan.val) ∧ (∀ m ∈ ls ++ [l], Lent w2 m.g m.c m.xs ∧ w0.heap.size ≤ m.g ∧ v.ownBlock ≠ some m.g) ∧ Row w2 5 .u8 v (ls.flatMap Loan.xs) ∧ Touch (fun _ => False) w0 w2 := by
  have t2 : Touch (fun k => x.ownBlock = some k) w1 w2 := ((Touch.refl (fun k => x.ownBlock = some k) w1).alloc o).trans (Touch.of_grownBy hgr) (fun _ _ h => h)
  have own1 := own_touch h.own ht (fun _ _ h => h)
  have all1 := h.all.touch ht (fun _ _ h => h)
  have sep {g : Nat} {cur : Array Value} (hb : w1.heap[g]? = some (.cells cur 5 (0, 0))) : ¬ x.ownBlock = some g := fun e => by
    obtain ⟨_, cur', hc⟩ := own_block own1 e
    exact tags hc hb (by decide) rfl
  refine ⟨by simpa using hown, fun m hm => ?_, all1.touch t2 (fun g hg => ?_), (h.touch.trans ht (fun _ _ h => h)).trans t2 (fun k hk e => ?_)⟩
  · rcases List.mem_append.1 hm with hm | hm
    · obtain ⟨a, b, c⟩ := h.lent m hm
      have a1 := a.touch ht (fun h => h)
      obtain ⟨cur, hb⟩ := a1.block
      exact ⟨a1.touch t2 (sep hb), b, c⟩
    · simp at hm; subst hm
      obtain ⟨cur, hb⟩ := hl.block
      refine ⟨hl.touch t2 (sep hb), Nat.le_trans h.touch.size hg, fun e => ?_⟩
      have := h.all.lt e
      omega
  · obtain ⟨cur, hb⟩ := all1.block hg
    exact sep hb
  · have := (own_block h.own e).1
    omega

/-- Behind an append of something else to the list. -/
theorem Sm.last {w0 w w2 : World} {x v : Value} {ls : List Loan} {o o2 : Obj} (h : Sm w0 w x v ls) (hgr : ((w.alloc o).alloc o2).grownBy w2 x.ownBlock) :
    (∀ m ∈ ls, Lent w2 m.g m.c m.xs) ∧ Row w2 5 .u8 v (ls.flatMap Loan.xs) ∧ Touch (fun _ => False) w0 w2 := by
  have t2 : Touch (fun k => x.ownBlock = some k) w w2 := (((Touch.refl (fun k => x.ownBlock = some k) w).alloc o).alloc o2).trans (Touch.of_grownBy hgr) (fun _ _ h => h)
  have sep {g : Nat} {cur : Array Value} (hb : w.heap[g]? = some (.cells cur 5 (0, 0))) : ¬ x.ownBlock = some g := fun e => by
    obtain ⟨_, cur', hc⟩ := own_block h.own e
    exact tags hc hb (by decide) rfl
  refine ⟨fun m hm => ?_, h.all.touch t2 (fun g hg => ?_), h.touch.trans t2 (fun k hk e => ?_)⟩
  · obtain ⟨a, _⟩ := h.lent m hm
    obtain ⟨cur, hb⟩ := a.block
    exact a.touch t2 (sep hb)
  · obtain ⟨cur, hb⟩ := h.all.block hg
    exact sep hb
  · have := (own_block h.own e).1
    omega

/-- Behind an append of a text to all bytes. -/
theorem Sm.more {w0 w2 w3 : World} {x v v' : Value} {ls : List Loan} {l : Loan} (hown : w2.ownsRow w0.heap.size 25 1 x (ls ++ [l]).length ((ls ++ [l]).map Loan.val)) (hl : ∀ m ∈ ls ++ [l], Lent w2 m.g m.c m.xs ∧ w0.heap.size ≤ m.g ∧ v.ownBlock ≠ some m.g) (hall : Row w2 5 .u8 v (ls.flatMap Loan.xs)) (hfall : ∀ j, v.ownBlock = some j → w0.heap.size ≤ j) (ht : Touch (fun _ => False) w0 w2)
    (hr : Row w3 5 .u8 v' (ls.flatMap Loan.xs ++ l.xs)) (hg : Grew w2 v w3 v') : Sm w0 w3 x v' (ls ++ [l]) := by
  refine ⟨own_touch hown hg.touch (fun g e1 e2 => ?_), fun m hm => ?_, ?_, fun j hj => ?_, ht.trans hg.touch (fun k hk e => ?_)⟩
  · obtain ⟨_, cur, hc⟩ := own_block hown e1
    obtain ⟨cur', hc'⟩ := hall.block e2
    exact tags hc hc' (by decide) rfl
  · obtain ⟨a, b, c⟩ := hl m hm
    refine ⟨a.touch hg.touch c, b, fun e => ?_⟩
    rcases hg.fresh with f | ⟨j, f, hj⟩
    · rw [e] at f; exact c f.symm
    · rw [e] at f; injection f with f
      obtain ⟨cur, hb⟩ := a.block
      have := lt_of_heap hb
      omega
  · rw [List.flatMap_append]; simpa using hr
  · rcases hg.fresh with f | ⟨k, f, hk⟩
    · rw [hj] at f; exact hfall j f.symm
    · rw [hj] at f; injection f with f; have := ht.size; omega
  · have := hfall k e; omega

end Go.Proofs.YtmmeglpglaogeaaDoor
