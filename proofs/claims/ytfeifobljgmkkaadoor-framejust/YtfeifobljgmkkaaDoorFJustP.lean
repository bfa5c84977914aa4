/- What the program's Just keeps in cells of its own. -/
import Derived.Test.YtfeifobljgmkkaaDoorFJustD
import Derived.Test.YtfeifobljgmkkaaDoorFHeadX
import Derived.Test.YtfeifobljgmkkaaDoorFWalks
namespace Go.Proofs.YtfeifobljgmkkaaDoor
open Go.RowKit Crcx

/-- Bodies that have come: in a row beyond top, each in a row beyond top. -/
structure Come (top : Nat) (W : World) (v : Value) (ts : List Txt) : Prop where
  own : W.ownsRow top 22 1 v ts.length (ts.map Txt.val)
  body : ∀ x ∈ ts, Row W 5 .u8 x.val x.xs ∧ ∀ g, x.val.ownBlock = some g → top ≤ g
  dist : ts.Pairwise fun x y => ∀ g, x.val.ownBlock = some g → y.val.ownBlock ≠ some g

/-- A turn of cells of one's own below top, of new blocks, of a block that holds no cells. -/
theorem Come.turn {S : Nat → Prop} {top : Nat} {W W' : World} {v : Value} {ts : List Txt} (h : Come top W v ts) (ht : Touch S W W') (hS : ∀ g, S g → g < top ∨ ∃ o : Obj, W.heap[g]? = some o ∧ o.isCells = false) : Come top W' v ts := by
  have no : ∀ (g : Nat) (c : Array Value) (t : TypeId), top ≤ g → W.heap[g]? = some (.cells c t (0, 0)) → ¬ S g := fun g c t hg hc s => by
    rcases hS g s with h1 | ⟨o, ho, hn⟩
    · omega
    · rw [hc] at ho; injection ho with ho; rw [← ho] at hn; cases hn
  refine ⟨own_touch h.own ht (fun g hg => ?_), fun x hx => ⟨(h.body x hx).1.touch ht (fun g hg => ?_), (h.body x hx).2⟩, h.dist⟩
  · obtain ⟨hb, c, hc⟩ := own_block h.own hg
    exact no g c _ hb hc
  · obtain ⟨c, hc⟩ := (h.body x hx).1.block hg
    exact no g c _ ((h.body x hx).2 g hg) hc

/-- One body more. -/
theorem Come.more {top : Nat} {W w1 w2 : World} {v v' : Value} {ts : List Txt} {x : Txt} (h : Come top W v ts) (ht : Touch (fun _ => False) W w1) (hx : Row w1 5 .u8 x.val x.xs) (hlo : ∀ g, x.val.ownBlock = some g → top ≤ g) (hd : ∀ y ∈ ts, ∀ g, y.val.ownBlock = some g → x.val.ownBlock ≠ some g)
    (hown : w2.ownsRow top 22 1 v' (ts.length + 1) (ts.map Txt.val ++ [x.val])) (hg : w1.grownBy w2 v.ownBlock) : Come top w2 v' (ts ++ [x]) := by
  have h1 := h.turn ht (fun _ h => h.elim)
  have tg := Touch.of_grownBy hg
  have far : ∀ (u : Value) (ys : List Int), Row w1 5 .u8 u ys → Row w2 5 .u8 u ys := fun u ys hu => hu.touch tg (fun g hgu e => by
    obtain ⟨cur, hc⟩ := hu.block hgu
    obtain ⟨_, cur', hc'⟩ := own_block h1.own e
    exact tags hc hc' (by decide) rfl)
  refine ⟨by simpa using hown, fun y hy => ?_, List.pairwise_append.2 ⟨h.dist, List.pairwise_singleton _ _, fun y hy z hz => by obtain rfl := List.mem_singleton.1 hz; exact hd y hy⟩⟩
  rcases List.mem_append.1 hy with hy | hy
  · exact ⟨far _ _ (h1.body y hy).1, (h1.body y hy).2⟩
  · obtain rfl := List.mem_singleton.1 hy; exact ⟨far _ _ hx, hlo⟩

theorem Come.bods {top : Nat} {w W : World} {v : Value} {ts : List Txt} (h : Come top W v ts) (ht : Touch (fun _ => False) w W) (hle : w.heap.size ≤ top) : Bods w W v ts :=
  ⟨own_weak h.own hle, fun x hx => ⟨(h.body x hx).1, fun g hg => Nat.le_trans hle ((h.body x hx).2 g hg), ht⟩, ht, h.dist⟩

/-- The cells of Just: tags, the three answers, the bodies, the place behind. -/
structure Jk (w : World) (top B3 Bs B4 B5 B6 B7 B8 : Nat) (tv sv v4 : Value) (q4 e4 : Int) (v : Value) (q : Nat) (ts : List Txt) (W : World) : Prop where
  touch : Touch (fun _ => False) w W
  b3 : W.heap[B3]? = some (.cells #[tv] 22 (0, 0))
  bs : W.heap[Bs]? = some (.cells #[sv] 22 (0, 0))
  b4 : W.heap[B4]? = some (.cells #[v4] 57 (0, 0))
  b5 : W.heap[B5]? = some (.cells #[.int .i64 q4] 3 (0, 0))
  b6 : W.heap[B6]? = some (.cells #[.int .i64 e4] 27 (0, 0))
  b7 : W.heap[B7]? = some (.cells #[v] 57 (0, 0))
  b8 : W.heap[B8]? = some (.cells #[.int .i64 (q : Int)] 3 (0, 0))
  come : Come top W v ts
  lo : w.heap.size ≤ B4 ∧ w.heap.size ≤ B5 ∧ w.heap.size ≤ B6 ∧ w.heap.size ≤ B7 ∧ w.heap.size ≤ B8 ∧ w.heap.size ≤ top
  hi : B3 < top ∧ Bs < top ∧ B4 < top ∧ B5 < top ∧ B6 < top ∧ B7 < top ∧ B8 < top ∧ B4 ≠ B7 ∧ B5 ≠ B8
  sz : top ≤ W.heap.size

theorem Jk.turn {S : Nat → Prop} {w W W' : World} {top B3 Bs B4 B5 B6 B7 B8 q : Nat} {tv sv v4 v : Value} {q4 e4 : Int} {ts : List Txt} (h : Jk w top B3 Bs B4 B5 B6 B7 B8 tv sv v4 q4 e4 v q ts W) (ht : Touch S W W') (hS : ∀ g, S g → top ≤ g ∧ ∃ o : Obj, W.heap[g]? = some o ∧ o.isCells = false) : Jk w top B3 Bs B4 B5 B6 B7 B8 tv sv v4 q4 e4 v q ts W' := by
  have n : ∀ g, g < top → ¬ S g := fun g hg s => by have := (hS g s).1; omega
  obtain ⟨h3, hs, h4, h5, h6, h7, h8, _⟩ := h.hi
  exact ⟨h.touch.trans ht (fun g hg s => by have := (hS g s).1; have := h.lo; omega), ht.heap h.b3 (n _ h3), ht.heap h.bs (n _ hs), ht.heap h.b4 (n _ h4), ht.heap h.b5 (n _ h5), ht.heap h.b6 (n _ h6), ht.heap h.b7 (n _ h7), ht.heap h.b8 (n _ h8), h.come.turn ht (fun g s => .inr (hS g s).2), h.lo, h.hi, Nat.le_trans h.sz ht.size⟩

theorem Jk.bides {w : World} {top B3 Bs B4 B5 B6 B7 B8 q : Nat} {tv sv v4 v : Value} {q4 e4 : Int} {ts : List Txt} : Bides top (Jk w top B3 Bs B4 B5 B6 B7 B8 tv sv v4 q4 e4 v q ts) := fun W l o o' h hl ho hc => h.turn (touch_put W l o') (fun g e => by subst e; exact ⟨hl, o, ho, hc⟩)

theorem Jk.at4 {w W : World} {top B3 Bs B4 B5 B6 B7 B8 q : Nat} {tv sv v4 v : Value} {q4 e4 : Int} {ts : List Txt} (h : Jk w top B3 Bs B4 B5 B6 B7 B8 tv sv v4 q4 e4 v q ts W) (u : Value) : Jk w top B3 Bs B4 B5 B6 B7 B8 tv sv u q4 e4 v q ts (W.setCell ⟨B4, 0, none⟩ u) := by
  have ht : Touch (fun g => g = B4) W (W.setCell ⟨B4, 0, none⟩ u) := (Touch.refl (fun g => g = B4) W).setCell (p := ⟨B4, 0, none⟩) (fun _ => rfl) _
  obtain ⟨h3, hs, h4, h5, h6, h7, h8, n47, n58⟩ := h.hi
  exact ⟨h.touch.trans ht (fun g hg s => by have := h.lo; omega), ht.heap h.b3 (fun e => tags h.b3 h.b4 (by decide) e), ht.heap h.bs (fun e => tags h.bs h.b4 (by decide) e), set_one _ h.b4, ht.heap h.b5 (fun e => tags h.b5 h.b4 (by decide) e), ht.heap h.b6 (fun e => tags h.b6 h.b4 (by decide) e), ht.heap h.b7 (fun e => n47 e.symm), ht.heap h.b8 (fun e => tags h.b8 h.b4 (by decide) e), h.come.turn ht (fun g s => .inl (by omega)), h.lo, h.hi, Nat.le_trans h.sz ht.size⟩

theorem Jk.at5 {w W : World} {top B3 Bs B4 B5 B6 B7 B8 q : Nat} {tv sv v4 v : Value} {q4 e4 : Int} {ts : List Txt} (h : Jk w top B3 Bs B4 B5 B6 B7 B8 tv sv v4 q4 e4 v q ts W) (u : Int) : Jk w top B3 Bs B4 B5 B6 B7 B8 tv sv v4 u e4 v q ts (W.setCell ⟨B5, 0, none⟩ (.int .i64 u)) := by
  have ht : Touch (fun g => g = B5) W (W.setCell ⟨B5, 0, none⟩ (.int .i64 u)) := (Touch.refl (fun g => g = B5) W).setCell (p := ⟨B5, 0, none⟩) (fun _ => rfl) _
  obtain ⟨h3, hs, h4, h5, h6, h7, h8, n47, n58⟩ := h.hi
  exact ⟨h.touch.trans ht (fun g hg s => by have := h.lo; omega), ht.heap h.b3 (fun e => tags h.b3 h.b5 (by decide) e), ht.heap h.bs (fun e => tags h.bs h.b5 (by decide) e), ht.heap h.b4 (fun e => tags h.b4 h.b5 (by decide) e), set_one _ h.b5, ht.heap h.b6 (fun e => tags h.b6 h.b5 (by decide) e), ht.heap h.b7 (fun e => tags h.b7 h.b5 (by decide) e), ht.heap h.b8 (fun e => n58 e.symm), h.come.turn ht (fun g s => .inl (by omega)), h.lo, h.hi, Nat.le_trans h.sz ht.size⟩

theorem Jk.at6 {w W : World} {top B3 Bs B4 B5 B6 B7 B8 q : Nat} {tv sv v4 v : Value} {q4 e4 : Int} {ts : List Txt} (h : Jk w top B3 Bs B4 B5 B6 B7 B8 tv sv v4 q4 e4 v q ts W) (u : Int) : Jk w top B3 Bs B4 B5 B6 B7 B8 tv sv v4 q4 u v q ts (W.setCell ⟨B6, 0, none⟩ (.int .i64 u)) := by
  have ht : Touch (fun g => g = B6) W (W.setCell ⟨B6, 0, none⟩ (.int .i64 u)) := (Touch.refl (fun g => g = B6) W).setCell (p := ⟨B6, 0, none⟩) (fun _ => rfl) _
  obtain ⟨h3, hs, h4, h5, h6, h7, h8, n47, n58⟩ := h.hi
  exact ⟨h.touch.trans ht (fun g hg s => by have := h.lo; omega), ht.heap h.b3 (fun e => tags h.b3 h.b6 (by decide) e), ht.heap h.bs (fun e => tags h.bs h.b6 (by decide) e), ht.heap h.b4 (fun e => tags h.b4 h.b6 (by decide) e), ht.heap h.b5 (fun e => tags h.b5 h.b6 (by decide) e), set_one _ h.b6, ht.heap h.b7 (fun e => tags h.b7 h.b6 (by decide) e), ht.heap h.b8 (fun e => tags h.b8 h.b6 (by decide) e), h.come.turn ht (fun g s => .inl (by omega)), h.lo, h.hi, Nat.le_trans h.sz ht.size⟩

theorem Jk.at8 {w W : World} {top B3 Bs B4 B5 B6 B7 B8 q : Nat} {tv sv v4 v : Value} {q4 e4 : Int} {ts : List Txt} (h : Jk w top B3 Bs B4 B5 B6 B7 B8 tv sv v4 q4 e4 v q ts W) (u : Nat) : Jk w top B3 Bs B4 B5 B6 B7 B8 tv sv v4 q4 e4 v u ts (W.setCell ⟨B8, 0, none⟩ (.int .i64 (u : Int))) := by
  have ht : Touch (fun g => g = B8) W (W.setCell ⟨B8, 0, none⟩ (.int .i64 (u : Int))) := (Touch.refl (fun g => g = B8) W).setCell (p := ⟨B8, 0, none⟩) (fun _ => rfl) _
  obtain ⟨h3, hs, h4, h5, h6, h7, h8, n47, n58⟩ := h.hi
  exact ⟨h.touch.trans ht (fun g hg s => by have := h.lo; omega), ht.heap h.b3 (fun e => tags h.b3 h.b8 (by decide) e), ht.heap h.bs (fun e => tags h.bs h.b8 (by decide) e), ht.heap h.b4 (fun e => tags h.b4 h.b8 (by decide) e), ht.heap h.b5 n58, ht.heap h.b6 (fun e => tags h.b6 h.b8 (by decide) e), ht.heap h.b7 (fun e => tags h.b7 h.b8 (by decide) e), set_one _ h.b8, h.come.turn ht (fun g s => .inl (by omega)), h.lo, h.hi, Nat.le_trans h.sz ht.size⟩

/-- One body more, put into its cell. -/
theorem Jk.more {w W w1 w2 : World} {top B3 Bs B4 B5 B6 B7 B8 q : Nat} {tv sv v4 v v' : Value} {q4 e4 : Int} {ts : List Txt} {x : Txt} (h : Jk w top B3 Bs B4 B5 B6 B7 B8 tv sv v4 q4 e4 v q ts W) (ht : Touch (fun _ => False) W w1) (hx : Row w1 5 .u8 x.val x.xs) (hlo : ∀ g, x.val.ownBlock = some g → top ≤ g) (hd : ∀ y ∈ ts, ∀ g, y.val.ownBlock = some g → x.val.ownBlock ≠ some g)
    (hown : w2.ownsRow top 22 1 v' (ts.length + 1) (ts.map Txt.val ++ [x.val])) (hg : w1.grownBy w2 v.ownBlock) :
    Jk w top B3 Bs B4 B5 B6 B7 B8 tv sv v4 q4 e4 v' q (ts ++ [x]) (w2.setCell ⟨B7, 0, none⟩ v') ∧ w2.heap[B7]? = some (.cells #[v] 57 (0, 0)) := by
  have h1 := h.turn ht (fun _ h => h.elim)
  have C2 := h.come.more ht hx hlo hd hown hg
  have tg := Touch.of_grownBy hg
  have n : ∀ g, g < top → ¬ v.ownBlock = some g := fun g hgt e => by have := (own_block h1.come.own e).1; omega
  obtain ⟨h3, hs, h4, h5, h6, h7, h8, n47, n58⟩ := h.hi
  have b3 := tg.heap h1.b3 (n _ h3)
  have bs := tg.heap h1.bs (n _ hs)
  have b4 := tg.heap h1.b4 (n _ h4)
  have b5 := tg.heap h1.b5 (n _ h5)
  have b6 := tg.heap h1.b6 (n _ h6)
  have b7 := tg.heap h1.b7 (n _ h7)
  have b8 := tg.heap h1.b8 (n _ h8)
  have tw : Touch (fun _ => False) w w2 := h1.touch.trans tg (fun g hg e => by have := (own_block h1.come.own e).1; have := h.lo; omega)
  have ht2 : Touch (fun g => g = B7) w2 (w2.setCell ⟨B7, 0, none⟩ v') := (Touch.refl (fun g => g = B7) w2).setCell (p := ⟨B7, 0, none⟩) (fun _ => rfl) _
  exact ⟨⟨tw.trans ht2 (fun g hg s => by have := h.lo; omega), ht2.heap b3 (fun e => tags b3 b7 (by decide) e), ht2.heap bs (fun e => tags bs b7 (by decide) e), ht2.heap b4 n47, ht2.heap b5 (fun e => tags b5 b7 (by decide) e), ht2.heap b6 (fun e => tags b6 b7 (by decide) e), set_one _ b7, ht2.heap b8 (fun e => tags b8 b7 (by decide) e), C2.turn ht2 (fun g s => .inl (by omega)), h.lo, h.hi, Nat.le_trans (Nat.le_trans h1.sz tg.size) ht2.size⟩, b7⟩

end Go.Proofs.YtfeifobljgmkkaaDoor
