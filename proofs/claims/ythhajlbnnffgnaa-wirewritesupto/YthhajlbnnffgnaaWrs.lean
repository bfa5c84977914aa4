/- WireWrites: puts in memory, their forms, two writers beside one another. -/
import Derived.Test.YthhajlbnnffgnaaPutA
namespace Go.Proofs.Ythhajlbnnffgnaa
open Go.RowKit

/-- A put's data. -/
structure PutD where
  kind : Int
  X : Nat
  s : ByteArray
  bo : Option Addr
  B : List Int
  bc : Nat
  lo : Option Addr
  L : List Int
  lc : Nat

noncomputable def PutD.form (d : PutD) : List Int := putForm d.kind d.X d.s d.B d.L

structure PutD.Ok (w : World) (d : PutD) : Prop where
  x : d.X < 18446744073709551616
  s : d.s.size ≤ 1048576
  b : Seg w .u8 d.bo d.B
  b8 : In8 d.B
  bl : d.B.length ≤ 1048576
  l : Seg w .i64 d.lo d.L
  l64 : In64 d.L
  ll : d.L.length ≤ 1048576

/-- Puts in memory. -/
structure SegP (w : World) (so : Option Addr) (len : Nat) (D : Nat → PutD) : Prop where
  addr : 0 < len → ∃ b off, so = some ⟨b, off, none⟩
  cell : ∀ b off, so = some ⟨b, off, none⟩ → ∀ i, i < len → w.cell? ⟨b, off + i * 5, none⟩ = some (.int .i64 (D i).kind) ∧ w.cell? ⟨b, off + i * 5 + 1, none⟩ = some (.int .u64 (D i).X) ∧ w.cell? ⟨b, off + i * 5 + 2, none⟩ = some (.string (D i).s) ∧ w.cell? ⟨b, off + i * 5 + 3, none⟩ = some (.slice (D i).bo (D i).B.length (D i).bc) ∧ w.cell? ⟨b, off + i * 5 + 4, none⟩ = some (.slice (D i).lo (D i).L.length (D i).lc)
  ok : ∀ i, i < len → (D i).Ok w

/-- The forms of the first n, one behind the other. -/
noncomputable def formsTo (D : Nat → PutD) : Nat → List Int
  | 0 => []
  | n + 1 => formsTo D n ++ (D n).form

theorem in8_append {xs ys : List Int} (h : In8 xs) (g : In8 ys) : In8 (xs ++ ys) := fun z hz => by
  rcases List.mem_append.1 hz with h1 | h1
  · exact h z h1
  · exact g z h1

theorem numb_in8 : ∀ (n x : Nat), x < 128 ^ (n + 1) → In8 (numb x)
  | 0, x, hx => by
    rw [numb_lo (by simpa using hx)]
    intro z hz; simp at hz; omega
  | n + 1, x, hx => by
    by_cases h : x < 128
    · rw [numb_lo h]; intro z hz; simp at hz; omega
    · rw [numb_hi (by omega)]
      intro z hz
      rcases List.mem_cons.1 hz with rfl | hz
      · omega
      · exact numb_in8 n (x / 128) (by rw [Nat.div_lt_iff_lt_mul (by omega)]; rw [Nat.pow_succ] at hx; exact hx) z hz

theorem numb_in8' {x : Nat} (h : x < 18446744073709551616) : In8 (numb x) := numb_in8 9 x (by omega)

theorem bytesOf_in8 (s : ByteArray) : In8 (bytesOf s) := by
  intro z hz
  unfold bytesOf at hz
  obtain ⟨b, _, rfl⟩ := List.mem_map.1 hz
  have := b.toNat_lt
  omega

theorem fixb_in8 {x : Nat} (h : x < 4294967296) : In8 (fixb x) := by
  intro z hz
  unfold fixb at hz
  simp at hz
  omega

theorem risItem_in8 (xs : List Int) (h64 : In64 xs) (i : Nat) (hi : i < xs.length) : In8 (risItem xs i) := by
  unfold risItem
  split
  · have h := h64 0 (by omega)
    exact numb_in8' (Lib.zigzag_lt h.1 h.2)
  · have h := h64 i hi
    have g := h64 (i - 1) (by omega)
    exact numb_in8' (by omega)

theorem risTo_in8 (xs : List Int) (h64 : In64 xs) : ∀ k, k ≤ xs.length → In8 (risTo xs k)
  | 0, _ => fun _ h => nomatch h
  | k + 1, hk => by
    rw [risTo_succ]
    exact in8_append (risTo_in8 xs h64 k (by omega)) (risItem_in8 xs h64 k (by omega))

theorem wrap_zig (X : Nat) : Lib.zigzag (IntKind.i64.wrap X) < 18446744073709551616 :=
  Lib.zigzag_lt (by rw [IntKind.wrap_i64]; omega) (by rw [IntKind.wrap_i64]; omega)

theorem PutD.Ok.form_in8 {w : World} {d : PutD} (h : d.Ok w) : In8 d.form := by
  have z : In8 [] := fun _ h => nomatch h
  unfold PutD.form putForm
  split
  · exact h.b8
  split
  · exact numb_in8' h.x
  split
  · exact numb_in8' (wrap_zig _)
  split
  · exact in8_append (numb_in8' (by have := h.s; omega)) (bytesOf_in8 _)
  split
  · exact fixb_in8 (Nat.mod_lt _ (by omega))
  split
  · split
    · exact in8_append (numb_in8' (by have := h.ll; omega)) (risTo_in8 _ h.l64 _ (Nat.le_refl _))
    · exact z
  · exact z

theorem PutD.Ok.form_len {w : World} {d : PutD} (h : d.Ok w) : d.form.length ≤ 12000000 := by
  unfold PutD.form putForm
  split
  · have := h.bl; omega
  split
  · have := numb_len10 h.x; omega
  split
  · have := numb_len10 (wrap_zig d.X); omega
  split
  · have a := h.s
    have b := numb_len10 (x := d.s.size) (by omega)
    rw [List.length_append, bytesOf_length]; omega
  split
  · simp [fixb]
  split
  · split
    · have a := h.ll
      have b := numb_len10 (x := d.L.length) (by omega)
      have c := risTo_len d.L h.l64 d.L.length (Nat.le_refl _)
      unfold risb
      rw [List.length_append]; omega
    · simp
  · simp

theorem formsTo_in8 {w : World} {D : Nat → PutD} : ∀ (n : Nat), (∀ i, i < n → (D i).Ok w) → In8 (formsTo D n)
  | 0, _ => fun _ h => nomatch h
  | n + 1, h => in8_append (formsTo_in8 n (fun i hi => h i (by omega))) (h n (by omega)).form_in8

theorem formsTo_len {w : World} {D : Nat → PutD} : ∀ (n : Nat), (∀ i, i < n → (D i).Ok w) → (formsTo D n).length ≤ n * 12000000
  | 0, _ => by simp [formsTo]
  | n + 1, h => by
    have a := formsTo_len n (fun i hi => h i (by omega))
    have b := (h n (by omega)).form_len
    rw [formsTo, List.length_append]; omega

/-- A put's memory lies apart from a writer that was made later. -/
theorem apart_old {w : World} {k : IntKind} {ao : Option Addr} {xs : List Int} {pb : Nat} {v : Value} (hs : Seg w k ao xs) (hp : w.heap.size ≤ pb) (hv : ∀ g, v.ownBlock = some g → w.heap.size ≤ g) : Apart pb v ao xs := fun a ha hne => by
  have h := seg_lt hs a ha hne
  exact ⟨by omega, fun e => by have := hv _ e; omega⟩

theorem tags {w : World} {g h : Nat} {c c' : Array Value} {t t' : TypeId} {f f' : Nat × Nat} (a : w.heap[g]? = some (.cells c t f)) (b : w.heap[h]? = some (.cells c' t' f')) (ht : t ≠ t') : g ≠ h := by
  intro e
  subst e
  rw [a] at b
  injection b with b
  injection b with b1 b2 b3
  exact ht b2

def upd {α : Type} (f : Nat → α) (k : Nat) (x : α) : Nat → α := fun j => if j = k then x else f j
theorem upd_self {α : Type} (f : Nat → α) (k : Nat) (x : α) : upd f k x k = x := if_pos rfl
theorem upd_other {α : Type} (f : Nat → α) {k j : Nat} (x : α) (h : j ≠ k) : upd f k x j = f j := if_neg h

/-- Two writers, and what is wanted of each. -/
structure St (w : World) (n A L U : Nat) (P : Nat → Nat) (S V X : Nat → Value) (B : Nat → List Int) : Prop where
  ha : w.heap[A]? = some (.cells #[.pointer (some ⟨P 0, 0, none⟩), .pointer (some ⟨P 1, 0, none⟩)] 28 (0, 0))
  hl : w.heap[L]? = some (.cells #[S 0, S 1] 29 (0, 0))
  hu : w.heap[U]? = some (.cells #[X 0, X 1] 30 (0, 0))
  wr : ∀ k, k < 2 → Wr w (P k) (V k) (B k)
  row : ∀ k, k < 2 → Row w 5 .u8 (X k) (B k)
  pp : ∀ i j, i < 2 → j < 2 → i ≠ j → P i ≠ P j
  vv : ∀ i j, i < 2 → j < 2 → i ≠ j → ∀ g, (V i).ownBlock = some g → (V j).ownBlock ≠ some g
  xx : ∀ i j, i < 2 → j < 2 → i ≠ j → ∀ g, (X i).ownBlock = some g → (X j).ownBlock ≠ some g
  vx : ∀ i j, i < 2 → j < 2 → ∀ g, (V i).ownBlock = some g → (X j).ownBlock ≠ some g
  low : n ≤ A ∧ n ≤ L ∧ n ≤ U
  nP : ∀ k, k < 2 → n ≤ P k
  nV : ∀ k, k < 2 → ∀ g, (V k).ownBlock = some g → n ≤ g
  nX : ∀ k, k < 2 → ∀ g, (X k).ownBlock = some g → n ≤ g

theorem lt_of_heap {w : World} {b : Nat} {o : Obj} (h : w.heap[b]? = some o) : b < w.heap.size := (Array.getElem?_eq_some_iff.1 h).1

section
variable {w : World} {n A L U : Nat} {P : Nat → Nat} {S V X : Nat → Value} {B : Nat → List Int}

theorem St.none {w' : World} (h : St w n A L U P S V X B) (ht : Touch (fun _ => False) w w') : St w' n A L U P S V X B where
  ha := (ht.block A (lt_of_heap h.ha) (fun h => h)).trans h.ha
  hl := (ht.block L (lt_of_heap h.hl) (fun h => h)).trans h.hl
  hu := (ht.block U (lt_of_heap h.hu) (fun h => h)).trans h.hu
  wr k hk := (h.wr k hk).touch ht (fun h => h) (fun _ _ h => h)
  row k hk := (h.row k hk).touch ht (fun _ _ h => h)
  pp := h.pp
  vv := h.vv
  xx := h.xx
  vx := h.vx
  low := h.low
  nP := h.nP
  nV := h.nV
  nX := h.nX

theorem two_cases {p : Nat → Prop} (h0 : p 0) (h1 : p 1) : ∀ k, k < 2 → p k := fun k hk => by
  rcases k with _ | _ | k
  · exact h0
  · exact h1
  · omega

theorem St.cellA (h : St w n A L U P S V X B) : ∀ k, k < 2 → w.cell? ⟨A, k, Option.none⟩ = some (.pointer (some ⟨P k, 0, Option.none⟩)) := two_cases (cell_two h.ha).1 (cell_two h.ha).2.1
theorem St.cellL (h : St w n A L U P S V X B) : ∀ k, k < 2 → w.cell? ⟨L, k, Option.none⟩ = some (S k) := two_cases (cell_two h.hl).1 (cell_two h.hl).2.1
theorem St.cellU (h : St w n A L U P S V X B) : ∀ k, k < 2 → w.cell? ⟨U, k, Option.none⟩ = some (X k) := two_cases (cell_two h.hu).1 (cell_two h.hu).2.1

/-- Behind a put to writer k. -/
theorem St.put {w1 : World} {v' : Value} (h : St w n A L U P S V X B) {k : Nat} (hk : k < 2) (ho : Wrote w (P k) (V k) w1 v') :
    w1.heap[A]? = some (.cells #[.pointer (some ⟨P 0, 0, Option.none⟩), .pointer (some ⟨P 1, 0, Option.none⟩)] 28 (0, 0)) ∧ w1.heap[L]? = some (.cells #[S 0, S 1] 29 (0, 0)) ∧ w1.heap[U]? = some (.cells #[X 0, X 1] 30 (0, 0)) ∧ (∀ j, j < 2 → Row w1 5 .u8 (X j) (B j)) ∧ (∀ j, j < 2 → j ≠ k → Wr w1 (P j) (V j) (B j)) := by
  have hw := h.wr k hk
  refine ⟨?_, ?_, ?_, ?_, ?_⟩
  · refine (ho.touch.block A (lt_of_heap h.ha) ?_).trans h.ha
    rintro (e | e)
    · exact tags h.ha hw.cell (by decide) e
    · obtain ⟨cur, hc⟩ := hw.row.block e
      exact tags h.ha hc (by decide) rfl
  · refine (ho.touch.block L (lt_of_heap h.hl) ?_).trans h.hl
    rintro (e | e)
    · exact tags h.hl hw.cell (by decide) e
    · obtain ⟨cur, hc⟩ := hw.row.block e
      exact tags h.hl hc (by decide) rfl
  · refine (ho.touch.block U (lt_of_heap h.hu) ?_).trans h.hu
    rintro (e | e)
    · exact tags h.hu hw.cell (by decide) e
    · obtain ⟨cur, hc⟩ := hw.row.block e
      exact tags h.hu hc (by decide) rfl
  · intro j hj
    refine (h.row j hj).touch ho.touch ?_
    rintro g hg (e | e)
    · obtain ⟨cur, hc⟩ := (h.row j hj).block hg
      exact tags hc hw.cell (by decide) e
    · exact h.vx k j hk hj g e hg
  · intro j hj hne
    refine (h.wr j hj).touch ho.touch ?_ ?_
    · rintro (e | e)
      · exact h.pp j k hj hk hne e
      · obtain ⟨cur, hc⟩ := hw.row.block e
        exact tags (h.wr j hj).cell hc (by decide) rfl
    · rintro g hg (e | e)
      · obtain ⟨cur, hc⟩ := (h.wr j hj).row.block hg
        exact tags hc hw.cell (by decide) e
      · exact h.vv k j hk hj (fun e => hne e.symm) g e hg

theorem two_upd {w : World} {b : Nat} {X : Nat → Value} {t : TypeId} (x : Value) (h : w.heap[b]? = some (.cells #[X 0, X 1] t (0, 0))) : ∀ k, k < 2 → (w.setCell ⟨b, k, Option.none⟩ x).heap[b]? = some (.cells #[upd X k x 0, upd X k x 1] t (0, 0)) :=
  two_cases (by simpa [upd] using two_set0 h) (by simpa [upd] using two_set h)

/-- Behind the append to what is wanted the cells are as they were. -/
theorem St.grow {w1 w2 : World} {v' x' : Value} (h : St w n A L U P S V X B) {k : Nat} (hk : k < 2) (ho : Wrote w (P k) (V k) w1 v') (hg : Grew w1 (X k) w2 x') : w2.heap[U]? = some (.cells #[X 0, X 1] 30 (0, 0)) := by
  obtain ⟨a, b, c, d, e⟩ := h.put hk ho
  refine (hg.touch.block U (lt_of_heap c) (fun e2 => ?_)).trans c
  obtain ⟨cur, hc⟩ := (d k hk).block e2
  exact tags c hc (by decide) rfl

theorem cases_k {p : Nat → Prop} {k : Nat} (h : p k) (g : ∀ j, j < 2 → j ≠ k → p j) : ∀ j, j < 2 → p j := fun j hj => by
  by_cases e : j = k
  · subst e; exact h
  · exact g j hj e

/-- One step of the round, whole. -/
theorem St.step {w1 w2 : World} {v' x' : Value} {f : List Int} (h : St w n A L U P S V X B) (hn : n ≤ w.heap.size) {k : Nat} (hk : k < 2) (hw1 : Wr w1 (P k) v' (B k ++ f)) (ho : Wrote w (P k) (V k) w1 v') (hr : Row w2 5 .u8 x' (B k ++ f)) (hg : Grew w1 (X k) w2 x') :
    St (w2.setCell ⟨U, k, Option.none⟩ x') n A L U P S (upd V k v') (upd X k x') (upd B k (B k ++ f)) ∧ Touch (fun j => n ≤ j) w (w2.setCell ⟨U, k, Option.none⟩ x') := by
  obtain ⟨a, b, c, d, e⟩ := h.put hk ho
  have hu2 := h.grow hk ho hg
  have ht2 := hg.touch
  -- a block that the append does not touch
  have st : ∀ (j : Nat) (o : Obj), w1.heap[j]? = some o → (X k).ownBlock ≠ some j → j ≠ U → (w2.setCell ⟨U, k, Option.none⟩ x').heap[j]? = some o := fun j o hj hne hu =>
    (Below.heap_setCell _ _ _ _ hu).trans ((ht2.block j (lt_of_heap hj) hne).trans hj)
  have ux : ∀ j, (X k).ownBlock = some j → ∃ cur, w1.heap[j]? = some (.cells cur 5 (0, 0)) := fun j hj => (d k hk).block hj
  have nb : ∀ g, x'.ownBlock = some g → (X k).ownBlock = some g ∨ w1.heap.size ≤ g := fun g hx => by
    rcases hg.fresh with e2 | ⟨m, e2, hm⟩
    · exact .inl (e2.symm.trans hx)
    · rw [hx] at e2; injection e2 with e2; exact .inr (by omega)
  have nv : ∀ g, v'.ownBlock = some g → (V k).ownBlock = some g ∨ w.heap.size ≤ g := fun g hx => by
    rcases ho.fresh with e2 | ⟨m, e2, hm⟩
    · exact .inl (e2.symm.trans hx)
    · rw [hx] at e2; injection e2 with e2; exact .inr (by omega)
  have vlt : ∀ g, v'.ownBlock = some g → g < w1.heap.size := fun g hx => hw1.row.lt hx
  have Vlt : ∀ j, j < 2 → ∀ g, (V j).ownBlock = some g → g < w.heap.size := fun j hj g hx => (h.wr j hj).row.lt hx
  have Xlt : ∀ j, j < 2 → ∀ g, (X j).ownBlock = some g → g < w.heap.size := fun j hj g hx => (h.row j hj).lt hx
  have sz := ho.touch.size
  -- a writer that is there
  have wst : ∀ (p : Nat) (v : Value) (bs : List Int), Wr w1 p v bs → (∀ g, v.ownBlock = some g → (X k).ownBlock ≠ some g) → Wr (w2.setCell ⟨U, k, Option.none⟩ x') p v bs := fun p v bs hw hne => by
    refine ⟨st p _ hw.cell (fun e2 => ?_) (fun e2 => ?_), hw.row.stays (fun g hg2 => ?_)⟩
    · obtain ⟨cur, hc⟩ := ux p e2
      exact tags hw.cell hc (by decide) rfl
    · exact tags hw.cell c (by decide) e2
    · obtain ⟨cur, hc⟩ := hw.row.block hg2
      rw [hc]
      exact st g _ hc (hne g hg2) (fun e2 => tags hc c (by decide) e2)
  refine ⟨⟨?_, ?_, two_upd _ hu2 k hk, ?_, ?_, h.pp, ?_, ?_, ?_, h.low, h.nP, ?_, ?_⟩, ?_⟩
  · exact st A _ a (fun e2 => by obtain ⟨cur, hc⟩ := ux A e2; exact tags a hc (by decide) rfl) (tags a c (by decide))
  · exact st L _ b (fun e2 => by obtain ⟨cur, hc⟩ := ux L e2; exact tags b hc (by decide) rfl) (tags b c (by decide))
  · refine cases_k (k := k) (p := fun j => Wr _ (P j) (upd V k v' j) (upd B k (B k ++ f) j)) ?_ (fun j hj hne => ?_)
    · simp only [upd_self]
      refine wst _ _ _ hw1 (fun g hx e2 => ?_)
      rcases nv g hx with h1 | h1
      · exact h.vx k k hk hk g h1 e2
      · have := Xlt k hk g e2; omega
    · simp only [upd_other _ _ hne]
      exact wst _ _ _ (e j hj hne) (fun g hx => h.vx j k hj hk g hx)
  · refine cases_k (k := k) (p := fun j => Row _ _ _ (upd X k x' j) (upd B k (B k ++ f) j)) ?_ (fun j hj hne => ?_)
    · simp only [upd_self]
      exact hr.stays (fun g hx => Below.heap_setCell _ _ _ _ (fun e2 => by
        obtain ⟨cur, hc⟩ := hr.block hx
        exact tags hc hu2 (by decide) e2))
    · simp only [upd_other _ _ hne]
      refine (d j hj).stays (fun g hx => ?_)
      obtain ⟨cur, hc⟩ := (d j hj).block hx
      rw [hc]
      exact st g _ hc (fun e2 => h.xx j k hj hk hne g hx e2) (fun e2 => tags hc c (by decide) e2)
  · intro i j hi hj hne g hx
    by_cases hik : i = k
    · subst hik
      rw [upd_self] at hx
      rw [upd_other _ _ (fun e => hne e.symm)]
      intro e2
      rcases nv g hx with h1 | h1
      · exact h.vv i j hi hj hne g h1 e2
      · have := Vlt j hj g e2; omega
    · rw [upd_other _ _ hik] at hx
      by_cases hjk : j = k
      · subst hjk
        rw [upd_self]
        intro e2
        rcases nv g e2 with h1 | h1
        · exact h.vv i j hi hj hne g hx h1
        · have := Vlt i hi g hx; omega
      · omega
  · intro i j hi hj hne g hx
    by_cases hik : i = k
    · subst hik
      rw [upd_self] at hx
      rw [upd_other _ _ (fun e => hne e.symm)]
      intro e2
      rcases nb g hx with h1 | h1
      · exact h.xx i j hi hj hne g h1 e2
      · have := Xlt j hj g e2; omega
    · rw [upd_other _ _ hik] at hx
      by_cases hjk : j = k
      · subst hjk
        rw [upd_self]
        intro e2
        rcases nb g e2 with h1 | h1
        · exact h.xx i j hi hj hne g hx h1
        · have := Xlt i hi g hx; omega
      · omega
  · intro i j hi hj g hx e2
    have h1 : (V i).ownBlock = some g ∨ (w.heap.size ≤ g ∧ g < w1.heap.size) := by
      by_cases hik : i = k
      · subst hik
        rw [upd_self] at hx
        rcases nv g hx with h1 | h1
        · exact .inl h1
        · exact .inr ⟨h1, vlt g hx⟩
      · rw [upd_other _ _ hik] at hx; exact .inl hx
    have h2 : (X j).ownBlock = some g ∨ w1.heap.size ≤ g := by
      by_cases hjk : j = k
      · subst hjk
        rw [upd_self] at e2
        exact nb g e2
      · rw [upd_other _ _ hjk] at e2; exact .inl e2
    rcases h1 with h1 | h1 <;> rcases h2 with h2 | h2
    · exact h.vx i j hi hj g h1 h2
    · have := Vlt i hi g h1; omega
    · have := Xlt j hj g h2; omega
    · omega
  · refine cases_k (k := k) (p := fun j => ∀ g, (upd V k v' j).ownBlock = some g → n ≤ g) ?_ (fun j hj hne => ?_)
    · rw [upd_self]
      intro g hx
      rcases nv g hx with h1 | h1
      · exact h.nV k hk g h1
      · omega
    · rw [upd_other _ _ hne]; exact h.nV j hj
  · refine cases_k (k := k) (p := fun j => ∀ g, (upd X k x' j).ownBlock = some g → n ≤ g) ?_ (fun j hj hne => ?_)
    · rw [upd_self]
      intro g hx
      rcases nb g hx with h1 | h1
      · exact h.nX k hk g h1
      · omega
    · rw [upd_other _ _ hne]; exact h.nX j hj
  · refine (((ho.touch.mono (S' := fun j => n ≤ j) ?_).trans ht2 ?_).setCell (fun _ => h.low.2.2) _)
    · rintro j _ (e2 | e2)
      · rw [e2]; exact h.nP k hk
      · exact h.nV k hk j e2
    · intro j _ e2
      exact h.nX k hk j e2

theorem St.frozenU (h : St w n A L U P S V X B) : ∀ k, k < 2 → w.frozen? ⟨U, k, Option.none⟩ = false := two_cases (cell_two h.hu).2.2.1 (cell_two h.hu).2.2.2

theorem St.eqB {B' : Nat → List Int} (h : St w n A L U P S V X B) (hB : ∀ k, k < 2 → B k = B' k) : St w n A L U P S V X B' where
  ha := h.ha
  hl := h.hl
  hu := h.hu
  wr k hk := by rw [← hB k hk]; exact h.wr k hk
  row k hk := by rw [← hB k hk]; exact h.row k hk
  pp := h.pp
  vv := h.vv
  xx := h.xx
  vx := h.vx
  low := h.low
  nP := h.nP
  nV := h.nV
  nX := h.nX

end

theorem two_cell {w : World} {b : Nat} {X : Nat → Value} {t : TypeId} (h : w.heap[b]? = some (.cells #[X 0, X 1] t (0, 0))) : ∀ k, k < 2 → w.cell? ⟨b, k, none⟩ = some (X k) ∧ w.frozen? ⟨b, k, none⟩ = false := two_cases ⟨(cell_two h).1, (cell_two h).2.2.1⟩ ⟨(cell_two h).2.1, (cell_two h).2.2.2⟩

/-- How far each list of puts is done, in round i, ahead of writer k. -/
noncomputable def done (D : Nat → Nat → PutD) (len : Nat → Nat) (i k j : Nat) : List Int := formsTo (D j) (min (if j < k then i + 1 else i) (len j))

theorem done_step {D : Nat → Nat → PutD} {len : Nat → Nat} {i k : Nat} (h : i < len k) (j : Nat) : upd (done D len i k) k (done D len i k k ++ (D k i).form) j = done D len i (k + 1) j := by
  by_cases e : j = k
  · subst e
    rw [upd_self]
    have e1 : min i (len j) = i := by omega
    have e2 : min (i + 1) (len j) = i + 1 := by omega
    simp [done, e1, e2, formsTo]
  · rw [upd_other _ _ e]
    have : j < k + 1 ↔ j < k := by omega
    simp [done, this]

theorem done_skip {D : Nat → Nat → PutD} {len : Nat → Nat} {i k : Nat} (h : ¬ i < len k) (j : Nat) : done D len i k j = done D len i (k + 1) j := by
  by_cases e : j = k
  · subst e
    have e1 : min i (len j) = len j := by omega
    have e2 : min (i + 1) (len j) = len j := by omega
    simp [done, e1, e2]
  · have : j < k + 1 ↔ j < k := by omega
    simp [done, this]

theorem done_round {D : Nat → Nat → PutD} {len : Nat → Nat} {i j : Nat} (hj : j < 2) : done D len i 2 j = done D len (i + 1) 0 j := by simp [done, hj]
theorem done_all {D : Nat → Nat → PutD} {len : Nat → Nat} {i j : Nat} (h : ¬ i < len j) : done D len i 0 j = formsTo (D j) (len j) := by
  have e1 : min i (len j) = len j := by omega
  simp [done, e1]

theorem done_at {D : Nat → Nat → PutD} {len : Nat → Nat} {i k : Nat} (h : i < len k) : done D len i k k = formsTo (D k) i := by
  have e1 : min i (len k) = i := by omega
  simp [done, e1]

end Go.Proofs.Ythhajlbnnffgnaa
