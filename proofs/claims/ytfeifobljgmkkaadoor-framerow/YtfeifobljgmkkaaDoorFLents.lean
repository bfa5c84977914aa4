/- The verifier's list of lent blocks. -/
import Derived.Test.YtfeifobljgmkkaaDoorFLent
import Derived.Test.YtfeifobljgmkkaaDoorFBackP
namespace Go.Proofs.YtfeifobljgmkkaaDoor
open Go.RowKit Crcx

/-- An append to a row of one's own as one step of a region that draws its order. -/
theorem step_append_own {P : Program} {w : World} {ops : Array Oper} {o : Oper} {a : Act} {K : Act → World → Prop} {Q : Exit → Act → World → Prop} {E : Prop} (hgd : o.guard = none) (s x : Operand) (t : TypeId)
    (ho : o.op = .call { callee := .builtin .append, args := #[s, x], argTypes := #[t, t] })
    (base : Nat) (e : TypeId) (i : TypeInfo) (z : Value) (size bytes : Nat) (ht : P.underlying t = some (.slice e)) (hi : P.info? e = some i) (hz : i.zero = some z)
    (hsize : i.size = size) (hby : i.bytes = bytes) (hzs : z.cells.size = size) (hsz : 0 < size)
    (v : Value) (n : Nat) (xs : List Value) (hs : a.eval s = v) (hown : w.ownsRow base e size v n xs)
    (ad : Addr) (m c : Nat) (news : List Value) (hx : a.eval x = .slice (some ad) m c) (hl : news.length = m * size) (hnews : ∀ j u, news[j]? = some u → w.cell? (ad.add j) = some u) (h1 : ∀ u ∈ news, u.oneCell' = true)
    (h63 : n + m ≤ maxLen) (hbytes : (n + m) * bytes ≤ 140737488355328) (hbase : base ≤ w.heap.size)
    (h : ∀ v' w', w'.ownsRow base e size v' (n + m) (xs ++ news) → w.grownBy w' v.ownBlock → K (a.put o.dst v') w') :
    if Region.wanted o (yielded ops a.tmps) = true then Oper.wp P o a w K Q else E := by
  have hw : Region.wanted o (yielded ops a.tmps) = true := by simp [Region.wanted, hgd]
  rw [if_pos hw]
  exact wp_append_own w s x t ho base e i z size bytes ht hi hz hsize hby hzs hsz v n xs hs hown ad m c news hx hl hnews h1 h63 hbytes hbase fun v' w' h2 h3 _ => h v' w' h2 h3

theorem Lent.touch1 {S : Nat → Prop} {w0 w w' : World} {g c : Nat} {xs : List Int} (h : Lent w0 w g c xs) (ht : Touch S w w') (hn : ¬ S g) (hS : ∀ k, k < w0.heap.size → ¬ S k) : Lent w0 w' g c xs :=
  ⟨⟨h.new.row.touch ht (fun g' hg' e => by simp [Value.ownBlock] at hg'; subst hg'; exact hn e), h.new.lo, h.new.touch.trans ht (fun k hk e => hS k hk e)⟩⟩

theorem Lent.block {w0 w : World} {g c : Nat} {xs : List Int} (h : Lent w0 w g c xs) : ∃ cur, w.heap[g]? = some (.cells cur 5 (0, 0)) := h.new.row.block rfl

theorem Lent.after {w w0 w1 : World} {g c : Nat} {xs : List Int} (h : Lent w0 w1 g c xs) (ht : Touch (fun _ => False) w w0) : Lent w w1 g c xs := ⟨h.new.after ht⟩

/-- Blocks that are lent, in a row of their own. -/
structure Lents (w wr : World) (v : Value) (ll bl : List Blk) : Prop where
  own : wr.ownsRow w.heap.size 36 2 v ll.length (ll.flatMap Blk.cells)
  key : ll.map Blk.key = bl.map Blk.key
  lent : ∀ x ∈ ll, ∃ g, x.t.ao = some ⟨g, 0, none⟩ ∧ Lent w wr g x.t.cap x.t.xs
  touch : Touch (fun _ => False) w wr
  dist : ll.Pairwise fun x y => x.t.ao ≠ y.t.ao

theorem Lents.nil (w : World) : Lents w w (.slice none 0 0) [] [] := ⟨World.ownsRow_nil w _ _ _, rfl, fun x hx => by simp at hx, Touch.refl _ _, List.Pairwise.nil⟩

theorem Lents.keep {w wr w2 : World} {v : Value} {ll bl : List Blk} (h : Lents w wr v ll bl) (ht : Touch (fun _ => False) wr w2) : Lents w w2 v ll bl :=
  ⟨own_touch h.own ht (fun _ _ h => h), h.key, fun x hx => by obtain ⟨g, e, L⟩ := h.lent x hx; exact ⟨g, e, L.keep ht⟩, h.touch.trans ht (fun _ _ h => h), h.dist⟩

theorem Lents.grown {w wr w2 : World} {v : Value} {ll bl : List Blk} (h : Lents w wr v ll bl) (hg : wr.grownBy w2 v.ownBlock) {g c : Nat} {xs : List Int} (L : Lent w wr g c xs) : Lent w w2 g c xs := by
  have ht := Touch.of_grownBy hg
  refine L.touch1 ht (fun e => ?_) (fun k hk e => ?_)
  · obtain ⟨cur, hc⟩ := L.block
    obtain ⟨_, cur', hc'⟩ := own_block h.own e
    exact tags hc hc' (by decide) rfl
  · have := (own_block h.own e).1; omega

theorem Lents.touched {w wr w2 : World} {v : Value} {ll bl : List Blk} (h : Lents w wr v ll bl) (hg : wr.grownBy w2 v.ownBlock) : Touch (fun _ => False) w w2 :=
  h.touch.trans (Touch.of_grownBy hg) (fun k hk e => by have := (own_block h.own e).1; omega)

/-- One block more. -/
theorem Lents.more {w wr w1 w2 : World} {v v' : Value} {ll bl : List Blk} {y : Blk} {g c : Nat} (h : Lents w wr v ll bl) (ht : Touch (fun _ => False) wr w1) (L : Lent wr w1 g c y.t.xs)
    (hown : w2.ownsRow w.heap.size 36 2 v' (ll.length + 1) (ll.flatMap Blk.cells ++ [.int .u8 y.tag, .slice (some ⟨g, 0, none⟩) y.t.xs.length c])) (hg : w1.grownBy w2 v.ownBlock) : Lents w w2 v' (ll ++ [⟨y.tag, ⟨some ⟨g, 0, none⟩, c, y.t.xs⟩⟩]) (bl ++ [y]) := by
  have h1 := h.keep ht
  refine ⟨by simpa [Blk.cells, Txt.val] using hown, by rw [List.map_append, List.map_append, h.key]; rfl, fun x hx => ?_, h1.touched hg, ?_⟩
  · rcases List.mem_append.1 hx with hx | hx
    · obtain ⟨gx, e, Lx⟩ := h1.lent x hx
      exact ⟨gx, e, h1.grown hg Lx⟩
    · obtain rfl := List.mem_singleton.1 hx
      exact ⟨g, rfl, h1.grown hg (L.after h.touch)⟩
  · refine List.pairwise_append.2 ⟨h.dist, List.pairwise_singleton _ _, fun x hx z hz => ?_⟩
    obtain rfl := List.mem_singleton.1 hz
    obtain ⟨gx, e, Lx⟩ := h.lent x hx
    rw [e]
    intro e2
    injection e2 with e2
    injection e2 with e2 _ _
    have a := Lx.lt
    have b := L.lo
    omega

/-- The list with a mark behind it. -/
structure Marked (w wr : World) (g c : Nat) (ll bl : List Blk) : Prop where
  own : wr.ownsRow w.heap.size 36 2 (.slice (some ⟨g, 0, none⟩) (ll.length + 1) c) (ll.length + 1) (ll.flatMap Blk.cells ++ [.int .u8 99, .slice none 0 0])
  key : ll.map Blk.key = bl.map Blk.key
  lent : ∀ x ∈ ll, ∃ g, x.t.ao = some ⟨g, 0, none⟩ ∧ Lent w wr g x.t.cap x.t.xs
  touch : Touch (fun _ => False) w wr
  dist : ll.Pairwise fun x y => x.t.ao ≠ y.t.ao

theorem Lents.mark {w wr w1 w2 : World} {v v' : Value} {ll bl : List Blk} (h : Lents w wr v ll bl) (ht : Touch (fun _ => False) wr w1)
    (hown : w2.ownsRow w.heap.size 36 2 v' (ll.length + 1) (ll.flatMap Blk.cells ++ [.int .u8 99, .slice none 0 0])) (hg : w1.grownBy w2 v.ownBlock) : ∃ g c, v' = .slice (some ⟨g, 0, none⟩) (ll.length + 1) c ∧ Marked w w2 g c ll bl := by
  have h1 := h.keep ht
  rcases hown.2 with ⟨_, h0⟩ | ⟨g, c, cur, rfl, _⟩
  · omega
  · exact ⟨g, c, rfl, hown, h.key, fun x hx => by obtain ⟨gx, e, Lx⟩ := h1.lent x hx; exact ⟨gx, e, h1.grown hg Lx⟩, h1.touched hg, h.dist⟩

theorem Marked.keep {w wr w2 : World} {g c : Nat} {ll bl : List Blk} (h : Marked w wr g c ll bl) (ht : Touch (fun _ => False) wr w2) : Marked w w2 g c ll bl :=
  ⟨own_touch h.own ht (fun _ _ h => h), h.key, fun x hx => by obtain ⟨g, e, L⟩ := h.lent x hx; exact ⟨g, e, L.keep ht⟩, h.touch.trans ht (fun _ _ h => h), h.dist⟩

theorem Marked.len {w wr : World} {g c : Nat} {ll bl : List Blk} (h : Marked w wr g c ll bl) : ll.length = bl.length := by
  have := congrArg List.length h.key; simpa using this

theorem Marked.cap {w wr : World} {g c : Nat} {ll bl : List Blk} (h : Marked w wr g c ll bl) : ll.length + 1 ≤ c := by
  rcases h.own.2 with ⟨e, _⟩ | ⟨g', c', cur, e, _, _, _, h2, _⟩
  · cases e
  · injection e with _ _ e3; subst e3; omega

theorem Marked.cell {w wr : World} {g c : Nat} {ll bl : List Blk} (h : Marked w wr g c ll bl) (i : Nat) (hi : i < ll.length) : wr.cell? ⟨g, i * 2, none⟩ = some (.int .u8 ll[i].tag) ∧ wr.cell? ⟨g, i * 2 + 1, none⟩ = some ll[i].t.val := by
  obtain ⟨f1, f2⟩ := flat_at ll i hi
  have hl := blk_len ll
  have hcells := h.own.cells (g := g) rfl
  have a1 := hcells (i * 2) _ (by rw [List.getElem?_append_left (by omega)]; exact f1)
  have a2 := hcells (i * 2 + 1) _ (by rw [List.getElem?_append_left (by omega)]; exact f2)
  rw [Addr.add_lit, Nat.zero_add] at a1 a2
  exact ⟨a1, a2⟩

theorem Marked.mark {w wr : World} {g c : Nat} {ll bl : List Blk} (h : Marked w wr g c ll bl) : wr.cell? ⟨g, ll.length * 2, none⟩ = some (.int .u8 99) := by
  have hl := blk_len ll
  have hcells := h.own.cells (g := g) rfl
  have a1 := hcells (ll.length * 2) (.int .u8 99) (by rw [List.getElem?_append_right (by omega), hl, Nat.sub_self]; rfl)
  rw [Addr.add_lit, Nat.zero_add] at a1
  exact a1

theorem Marked.ok {w wr : World} {g c : Nat} {ll bl : List Blk} (h : Marked w wr g c ll bl) (hok : ∀ x ∈ bl, x.Ok w) : ∀ x ∈ ll, x.Ok wr := fun x hx => by
  have hk : x.key ∈ bl.map Blk.key := by rw [← h.key]; exact List.mem_map.2 ⟨x, hx, rfl⟩
  obtain ⟨y, hy, e⟩ := List.mem_map.1 hk
  obtain ⟨g', e1, L⟩ := h.lent x hx
  have oy := hok y hy
  unfold Blk.key at e
  injection e with e2 e3
  refine ⟨by rw [← e2]; exact oy.tag, ⟨?_, by rw [← e3]; exact oy.t.in8, by rw [← e3]; exact oy.t.len⟩⟩
  rw [e1]; exact L.seg

theorem Marked.seg {w wr : World} {g c : Nat} {ll bl : List Blk} (h : Marked w wr g c ll bl) (hok : ∀ x ∈ bl, x.Ok w) : SegB wr (some ⟨g, 0, none⟩) ll :=
  ⟨fun _ => ⟨g, 0, rfl⟩, fun b off e i hi => by
    injection e with e; injection e with e1 e2 _; subst e1 e2
    rw [Nat.zero_add]; exact h.cell i hi, h.ok hok⟩

theorem Marked.row {w wr : World} {g c : Nat} {ll bl : List Blk} (h : Marked w wr g c ll bl) : rowB ll = rowB bl := by rw [rowB_key, rowB_key, h.key]

theorem Marked.at {w wr : World} {g c : Nat} {ll bl : List Blk} (h : Marked w wr g c ll bl) (i : Nat) (hi : i < ll.length) (hi' : i < bl.length) : ll[i].tag = bl[i].tag ∧ ll[i].t.xs = bl[i].t.xs := by
  have h1 : (ll.map Blk.key)[i]? = some ll[i].key := by rw [List.getElem?_map, List.getElem?_eq_getElem hi]; rfl
  have h2 : (bl.map Blk.key)[i]? = some bl[i].key := by rw [List.getElem?_map, List.getElem?_eq_getElem hi']; rfl
  rw [h.key, h2] at h1
  injection h1 with h1
  unfold Blk.key at h1
  injection h1 with e1 e2
  exact ⟨e1.symm, e2.symm⟩

/-- The bodies of the first k. -/
def Sp (ll : List Blk) (k b : Nat) : Prop := ∃ x ∈ ll.take k, x.t.ao = some ⟨b, 0, none⟩

theorem Marked.sp {w w0 : World} {g c : Nat} {ll bl : List Blk} (h : Marked w w0 g c ll bl) {k b : Nat} (hb : Sp ll k b) : w.heap.size ≤ b ∧ b < w0.heap.size ∧ b ≠ g := by
  obtain ⟨x, hx, e⟩ := hb
  obtain ⟨gx, e1, L⟩ := h.lent x (List.mem_of_mem_take hx)
  rw [e] at e1
  injection e1 with e1; injection e1 with e1 _ _; subst e1
  refine ⟨L.lo, L.lt, fun e2 => ?_⟩
  subst e2
  obtain ⟨cur, hc⟩ := L.block
  obtain ⟨_, cur', hc'⟩ := own_block h.own (g := b) rfl
  exact tags hc hc' (by decide) rfl

/-- Behind the first k the list and the body of the next are as they were. -/
theorem Marked.left {w w0 wr : World} {g c : Nat} {ll bl : List Blk} (h : Marked w w0 g c ll bl) {k : Nat} (hk : k < ll.length) (ht : Touch (Sp ll k) w0 wr) :
    wr.cell? ⟨g, k * 2 + 1, none⟩ = some ll[k].t.val ∧ ∃ gk, ll[k].t.ao = some ⟨gk, 0, none⟩ ∧ Lent w wr gk ll[k].t.cap ll[k].t.xs ∧ ∀ w1, Touch (fun b => b = gk) wr w1 → Touch (Sp ll (k + 1)) w0 w1 := by
  have hc := (h.cell k hk).2
  obtain ⟨gk, e, L⟩ := h.lent _ (List.getElem_mem hk)
  have hsp : ¬ Sp ll k gk := fun ⟨x, hx, ex⟩ => by
    obtain ⟨j, hj, rfl⟩ := List.mem_iff_getElem.1 hx
    have hj' : j < k := by simp at hj; omega
    have := List.pairwise_iff_getElem.1 h.dist j k (by omega) hk hj'
    rw [List.getElem_take] at ex
    exact this (ex.trans e.symm)
  refine ⟨(ht.cell (p := ⟨g, k * 2 + 1, none⟩) (lt_of_cell hc) (fun s => (h.sp s).2.2 rfl)).trans hc, gk, e, L.touch1 ht hsp (fun b hb s => by have := (h.sp s).1; omega), fun w1 h1 => ?_⟩
  have m1 : ∀ b, Sp ll k b → Sp ll (k + 1) b := fun b ⟨x, hx, ex⟩ => ⟨x, (List.take_subset_take_left ll (Nat.le_succ k)) hx, ex⟩
  refine (ht.mono (fun b _ s => m1 b s)).trans h1 (fun b _ e1 => ?_)
  subst e1
  exact ⟨ll[k], by rw [List.take_succ_eq_append_getElem hk]; exact List.mem_append_right _ (List.mem_singleton.2 rfl), e⟩

end Go.Proofs.YtfeifobljgmkkaaDoor
