/- The program's Moves. -/
import Derived.Test.YtmhobdcnohhaaaaGSeq
import Derived.Test.YtmhobdcnohhaaaaGMv
import Derived.Test.YtmhobdcnohhaaaaGQuietR
import Derived.Test.YtmhobdcnohhaaaaGScope
namespace Go.Proofs.Ytmhobdcnohhaaaa
open Go.RowKit
attribute [local go_sem] Oper.semAt_some

def Mv.cells (m : Mv) : List Value := [.int .i64 (m.a : Int), .int .i64 (m.b : Int), .int .i64 (m.f : Int), .int .i64 (m.t : Int)]
def mcells (l : List Mv) : List Value := l.flatMap Mv.cells

theorem mcells_append (l k : List Mv) : mcells (l ++ k) = mcells l ++ mcells k := by unfold mcells; rw [List.flatMap_append]
theorem mcells_len (l : List Mv) : (mcells l).length = l.length * 4 := by
  induction l with
  | nil => rfl
  | cons x l ih =>
    have e : mcells (x :: l) = .int .i64 (x.a : Int) :: .int .i64 (x.b : Int) :: .int .i64 (x.f : Int) :: .int .i64 (x.t : Int) :: mcells l := rfl
    rw [e]; simp only [List.length_cons, ih]; omega

theorem own_shape {w : World} {base n sz : Nat} {e : TypeId} {v : Value} {xs : List Value} (h : w.ownsRow base e sz v n xs) : ∃ ao c, v = .slice ao n c := by
  rcases h.2 with ⟨rfl, rfl⟩ | ⟨g, cap, cur, rfl, _⟩
  · exact ⟨none, 0, rfl⟩
  · exact ⟨_, _, rfl⟩

/-- It stays where its block stays. -/
theorem own_stays {w w' : World} {base n sz : Nat} {e : TypeId} {v : Value} {xs : List Value} (h : w.ownsRow base e sz v n xs) (hb : ∀ g, v.ownBlock = some g → w'.heap[g]? = w.heap[g]?) : w'.ownsRow base e sz v n xs := by
  rcases h with ⟨h1, h2 | ⟨g, cap, cur, rfl, h3, h4, h5⟩⟩
  · exact ⟨h1, .inl h2⟩
  · exact ⟨h1, .inr ⟨g, cap, cur, rfl, h3, (hb g rfl).trans h4, h5⟩⟩

theorem own_block {w : World} {base n sz : Nat} {e : TypeId} {v : Value} {xs : List Value} (h : w.ownsRow base e sz v n xs) {g : Nat} (hg : v.ownBlock = some g) : base ≤ g ∧ ∃ cur, w.heap[g]? = some (.cells cur e (0, 0)) := by
  rcases h with ⟨h1, ⟨rfl, _⟩ | ⟨g', cap, cur, rfl, h3, h4, h5⟩⟩
  · simp [Value.ownBlock] at hg
  · simp [Value.ownBlock] at hg; subst hg; exact ⟨h3, cur, h4⟩

theorem own_touch {S : Nat → Prop} {w w' : World} {base n sz : Nat} {e : TypeId} {v : Value} {xs : List Value} (h : w.ownsRow base e sz v n xs) (ht : Touch S w w') (hn : ∀ g, v.ownBlock = some g → ¬ S g) : w'.ownsRow base e sz v n xs :=
  own_stays h fun g hg => by
    obtain ⟨_, cur, hc⟩ := own_block h hg
    exact ht.block g (lt_of_heap hc) (hn g hg)

theorem own_base {w : World} {base base' n sz : Nat} {e : TypeId} {v : Value} {xs : List Value} (h : w.ownsRow base e sz v n xs) (hb : base' ≤ base) : w.ownsRow base' e sz v n xs := by
  rcases h with ⟨h1, h2 | ⟨g, cap, cur, rfl, h3, h4, h5⟩⟩
  · exact ⟨h1, .inl h2⟩
  · exact ⟨h1, .inr ⟨g, cap, cur, rfl, by omega, h4, h5⟩⟩

theorem keeps_touch {S : Nat → Prop} {W W' : World} (ht : Touch S W W') (hS : ∀ g, S g → ∃ c t f, W.heap[g]? = some (.cells c t f)) : KeepsOthers W W' :=
  ⟨ht.size, fun k o hk ho => by
    by_cases s : S k
    · obtain ⟨c, t, f, e⟩ := hS k s
      rw [hk] at e; injection e with e; rw [e] at ho; cases ho
    · exact ht.heap hk s⟩

/-- What Moves keeps in cells of its own. -/
structure Mk (w : World) (top B4 B5 B8 S1 S2 p q g : Nat) (v : Value) (l : List Mv) (W : World) : Prop where
  touch : Touch (fun _ => False) w W
  b4 : W.heap[B4]? = some (.cells #[.int .i64 (q : Int)] 3 (0, 0))
  b5 : W.heap[B5]? = some (.cells #[.int .i64 (g : Int)] 3 (0, 0))
  s1 : W.heap[S1]? = some (.cells #[.int .i64 (p : Int)] 3 (0, 0))
  s2 : W.heap[S2]? = some (.cells #[.int .i64 (g : Int)] 3 (0, 0))
  b8 : W.heap[B8]? = some (.cells #[v] 47 (0, 0))
  own : W.ownsRow top 54 4 v l.length (mcells l)
  lo : w.heap.size ≤ B8 ∧ w.heap.size ≤ top
  hi : B4 < top ∧ B5 < top ∧ B8 < top ∧ S1 < top ∧ S2 < top
  sz : top ≤ W.heap.size

theorem Mk.turn {S : Nat → Prop} {w W W' : World} {top B4 B5 B8 S1 S2 p q g : Nat} {v : Value} {l : List Mv} (h : Mk w top B4 B5 B8 S1 S2 p q g v l W) (ht : Touch S W W') (hS : ∀ g, S g → top ≤ g) (hv : ∀ g, v.ownBlock = some g → ¬ S g) : Mk w top B4 B5 B8 S1 S2 p q g v l W' := by
  have n : ∀ g, g < top → ¬ S g := fun g hg s => by have := hS g s; omega
  obtain ⟨h4, h5, h8, h1, h2⟩ := h.hi
  exact ⟨h.touch.trans ht (fun g hg s => by have := hS g s; have := h.lo; omega), ht.heap h.b4 (n _ h4), ht.heap h.b5 (n _ h5), ht.heap h.s1 (n _ h1), ht.heap h.s2 (n _ h2), ht.heap h.b8 (n _ h8), own_touch h.own ht hv, h.lo, h.hi, Nat.le_trans h.sz ht.size⟩

theorem Mk.bides {w : World} {top B4 B5 B8 S1 S2 p q g : Nat} {v : Value} {l : List Mv} : Bides top (Mk w top B4 B5 B8 S1 S2 p q g v l) := fun W j o o' h hl ho hc => h.turn (touch_put W j o') (fun g e => by omega) (fun g hg e => by
  subst e
  obtain ⟨_, cur, hb⟩ := own_block h.own hg
  rw [ho] at hb; injection hb with hb; rw [hb] at hc; cases hc)

/-- One move more, in the cell. -/
theorem Mk.more {w W W' : World} {top B4 B5 B8 S1 S2 p q g : Nat} {v v' : Value} {l l' : List Mv} (h : Mk w top B4 B5 B8 S1 S2 p q g v l W) (ht : Touch (fun g => v.ownBlock = some g) W W') (ho : W'.ownsRow top 54 4 v' l'.length (mcells l')) :
    Mk w top B4 B5 B8 S1 S2 p q g v' l' (W'.setCell ⟨B8, 0, none⟩ v') := by
  have hb : ∀ g, v.ownBlock = some g → top ≤ g := fun g hg => (own_block h.own hg).1
  have n : ∀ g, g < top → ¬ v.ownBlock = some g := fun g hg s => by have := hb g s; omega
  obtain ⟨h4, h5, h8, h1, h2⟩ := h.hi
  have t2 : Touch (fun g => g = B8) W' (W'.setCell ⟨B8, 0, none⟩ v') := (Touch.refl (fun g => g = B8) W').setCell (p := ⟨B8, 0, none⟩) (fun _ => rfl) _
  have c4 := ht.heap h.b4 (n _ h4)
  have c5 := ht.heap h.b5 (n _ h5)
  have c1 := ht.heap h.s1 (n _ h1)
  have c2 := ht.heap h.s2 (n _ h2)
  have c8 := ht.heap h.b8 (n _ h8)
  refine ⟨(h.touch.trans ht (fun g hg s => by have := hb g s; have := h.lo; omega)).trans t2 (fun g hg s => by have := h.lo; omega), t2.heap c4 (fun e => tags c4 c8 (by decide) e), t2.heap c5 (fun e => tags c5 c8 (by decide) e), t2.heap c1 (fun e => tags c1 c8 (by decide) e), t2.heap c2 (fun e => tags c2 c8 (by decide) e), set_one _ c8, own_touch ho t2 (fun g hg e => ?_), h.lo, h.hi, Nat.le_trans (Nat.le_trans h.sz ht.size) t2.size⟩
  have := (own_block ho hg).1
  omega

theorem infoMv : (Try.prog.info? 54).map (fun i => (i.zero, i.size, i.bytes)) = some (some (.agg #[.int .i64 0, .int .i64 0, .int .i64 0, .int .i64 0]), 4, 32) := by kernel_rfl

theorem info_parts2 {P : Program} {e : TypeId} {z : Value} {s b : Nat} (h : (P.info? e).map (fun i => (i.zero, i.size, i.bytes)) = some (some z, s, b)) : ∃ i, P.info? e = some i ∧ i.zero = some z ∧ i.size = s ∧ i.bytes = b := by
  cases hi : P.info? e with
  | none => rw [hi] at h; cases h
  | some i =>
    rw [hi] at h
    simp only [Option.map_some] at h
    injection h with h
    injection h with h1 h2
    injection h2 with h2 h3
    exact ⟨i, rfl, h1, h2, h3⟩

theorem new_cells (w : World) (l : List Value) (t : TypeId) : ∀ j u, l[j]? = some u → (w.alloc (.cells l.toArray t)).cell? ((⟨w.heap.size, 0, none⟩ : Addr).add j) = some u := fun j u h => by
  rw [Addr.add_lit, cell_of_row _ _ _ _ _ _ (World.alloc_heap_new w _)]
  simpa using h

theorem mv_one (m : Mv) : ∀ u ∈ m.cells, u.oneCell' = true := fun u hu => by
  simp only [Mv.cells, List.mem_cons, List.not_mem_nil, or_false] at hu
  rcases hu with rfl | rfl | rfl | rfl <;> rfl

theorem if_max (a c : Nat) : (if a < c then (c : Int) else (a : Int)) = ((max a c : Nat) : Int) := by
  split <;> omega

theorem if_min (b d : Nat) : (if d < b then (d : Int) else (b : Int)) = ((min b d : Nat) : Int) := by
  split <;> omega

/-- What a move more leaves. -/
theorem more_keeps {W W' : World} {top B8 : Nat} {v u : Value} {xs : List Value} {n : Nat} (ho : W.ownsRow top 54 4 v n xs) (h8 : W.heap[B8]? = some (.cells #[v] 47 (0, 0))) (ht : Touch (fun g => v.ownBlock = some g) W W') :
    KeepsOthers W (W'.setCell ⟨B8, 0, none⟩ u) ∧ ∀ (B : Nat) (c : Array Value), W.heap[B]? = some (.cells c 45 (0, 0)) → (W'.setCell ⟨B8, 0, none⟩ u).heap[B]? = some (.cells c 45 (0, 0)) := by
  refine ⟨(keeps_touch ht (fun g hg => ?_)).trans (KeepsOthers.setCell _ _ _), fun B c hB => ?_⟩
  · obtain ⟨_, cur, hc⟩ := own_block ho hg
    exact ⟨_, _, _, hc⟩
  · have h1 : W'.heap[B]? = _ := ht.heap hB (fun hg => by
      obtain ⟨_, cur, hc⟩ := own_block ho hg
      exact tags (t := 45) (t' := 54) hB hc (by decide) rfl)
    have t2 : Touch (fun g => g = B8) W' (W'.setCell ⟨B8, 0, none⟩ u) := (Touch.refl (fun g => g = B8) W').setCell (p := ⟨B8, 0, none⟩) (fun _ => rfl) _
    exact t2.heap h1 (fun e => tags (t := 45) (t' := 47) hB h8 (by decide) e)

theorem Mk.keeps {w W W' : World} {top B4 B5 B8 S1 S2 p q g : Nat} {v : Value} {l : List Mv} (h : Mk w top B4 B5 B8 S1 S2 p q g v l W) (u : Value) (ht : Touch (fun g => v.ownBlock = some g) W W') :
    KeepsOthers W (W'.setCell ⟨B8, 0, none⟩ u) ∧ ∀ (B : Nat) (c : Array Value), W.heap[B]? = some (.cells c 45 (0, 0)) → (W'.setCell ⟨B8, 0, none⟩ u).heap[B]? = some (.cells c 45 (0, 0)) := more_keeps h.own h.b8 ht

set_option maxRecDepth 100000 in
set_option maxHeartbeats 2000000 in
theorem moves_any (p q g : Nat) (hp : May p g) (hq : May q g) (w : World) :
    Calls Try.prog 22 #[.int .i64 p, .int .i64 q, .int .i64 g] w fun e w' => ∃ ao n c, e = .returned (.tuple #[.slice ao n c, .int .i64 0]) ∧ w'.ownsRow w.heap.size 54 4 (.slice ao n c) (scan (wk p g) (wk q g) g).length (mcells (scan (wk p g) (wk q g) g)) ∧ Touch (fun _ => False) w w' := by
  have M1 := hide (mays_any p g)
  have M2 := hide (mays_any q g)
  have hm1 := hp.may
  have hm2 := hq.may
  refine (callsIn_wide (n := 3)).1 (callsIn_of_wp_marks Try.func22 rfl trivial ?_ rfl)
  simp only [Try.ntmps22, List.size_toArray, List.length_cons, List.length_nil, Nat.reduceAdd, Nat.reduceSub, Array.replicate_succ, Array.replicate_zero, List.push_toArray, List.append_toArray, List.nil_append, List.cons_append]
  gi_wp2
  refine wpIn_scope_straight ?_
  gi_wp2
  refine ⟨trivial, (callsIn_wide.2 (M1.out _)).mono ?_⟩
  rintro e w1 ⟨rfl, rfl⟩
  gi_wp2
  refine ⟨trivial, (callsIn_wide.2 (M2.out _)).mono ?_⟩
  rintro e w1 ⟨rfl, rfl⟩
  gi_wp2
  refine wpIn_label ?_
  gi_wp2
  refine ⟨trivial, (callsIn_wide.2 (stretches_any _ _ _)).mono ?_⟩
  rintro e w1 ⟨rfl, rfl⟩
  gi_wp2
  obtain ⟨top, etop⟩ : ∃ top, top = w.heap.size + 1 + 1 + 1 + 1 + 1 := ⟨_, rfl⟩
  obtain ⟨S2, f2⟩ : ∃ S2, S2 = w.heap.size + 1 + 1 + 1 + 1 := ⟨_, rfl⟩
  obtain ⟨S1, f1⟩ : ∃ S1, S1 = w.heap.size + 1 + 1 + 1 := ⟨_, rfl⟩
  obtain ⟨B8, e8⟩ : ∃ B8, B8 = w.heap.size + 1 + 1 := ⟨_, rfl⟩
  obtain ⟨B5, e5⟩ : ∃ B5, B5 = w.heap.size + 1 := ⟨_, rfl⟩
  obtain ⟨B4, e4⟩ : ∃ B4, B4 = w.heap.size := ⟨_, rfl⟩
  obtain ⟨W1, eW1⟩ : ∃ W1, W1 = ((((w.alloc (.cells #[.int .i64 (q : Int)] 3)).alloc (.cells #[.int .i64 (g : Int)] 3)).alloc (.cells #[.slice none 0 0] 47)).alloc (.cells #[.int .i64 (p : Int)] 3)).alloc (.cells #[.int .i64 (g : Int)] 3) := ⟨_, rfl⟩
  have hsz : W1.heap.size = top := by rw [eW1, etop]; simp
  have MK : Mk w top B4 B5 B8 S1 S2 p q g (.slice none 0 0) [] W1 := by
    have nw : ∀ (V : World) (o : Obj) (n : Nat), n = V.heap.size → (V.alloc o).heap[n]? = some o := fun V o n e => by rw [e]; exact World.alloc_heap_new V o
    have kp : ∀ (V : World) (o o' : Obj) (n : Nat), V.heap[n]? = some o → (V.alloc o').heap[n]? = some o := fun V o o' n h => (Below.heap_alloc V o' n (lt_of_heap h)).trans h
    refine ⟨by rw [eW1]; exact (((((Touch.refl _ _).alloc _).alloc _).alloc _).alloc _).alloc _, ?_, ?_, ?_, ?_, ?_, World.ownsRow_nil _ _ _ _, ⟨by omega, by omega⟩, ⟨by omega, by omega, by omega, by omega, by omega⟩, by rw [hsz]; exact Nat.le_refl _⟩
    · rw [eW1]; exact kp _ _ _ _ (kp _ _ _ _ (kp _ _ _ _ (kp _ _ _ _ (nw _ _ _ e4))))
    · rw [eW1]; exact kp _ _ _ _ (kp _ _ _ _ (kp _ _ _ _ (nw _ _ _ (by rw [e5]; simp))))
    · rw [eW1]; exact kp _ _ _ _ (nw _ _ _ (by rw [f1]; simp))
    · rw [eW1]; exact nw _ _ _ (by rw [f2]; simp)
    · rw [eW1]; exact kp _ _ _ _ (kp _ _ _ _ (nw _ _ _ (by rw [e8]; simp)))
  rw [← f2, ← f1, ← e8, ← e5, ← e4, ← eW1]
  have HSEQ := hide (stretches1_any S1 S2 p g)
  have HMK := hide MK
  have hmany : many p g = p := by unfold many; simp [hm1]
  rw [hmany] at HSEQ
  clear e4 e5 e8 f1 f2 etop eW1 MK hmany
  refine wpIn_range (gf := 34) (lb := #[.pointer (some ⟨S1, 0, none⟩), .pointer (some ⟨S2, 0, none⟩)]) rfl (enters_of Try.func34 (by kernel_rfl) rfl) HSEQ.out (fun _ => rfl)
    (fun k W => ∃ v, Mk w top B4 B5 B8 S1 S2 p q g v (scan (wk p g) (wk q g) (st p g k)) W)
    (fun _ _ _ => False)
    (fun k x a' W => x = k ∧ ∃ Bx : Nat, W.heap[Bx]? = some (.cells #[.int .i64 (st p g k : Nat), .int .i64 (st p g (k + 1) : Nat)] 45 (0, 0)) ∧ top ≤ Bx ∧
      a' = { tmps := #[.int .i64 (p : Int), .int .i64 (q : Int), .int .i64 (g : Int), undef, .pointer (some ⟨B4, 0, none⟩), .pointer (some ⟨B5, 0, none⟩), .slice none 0 0, .int .i64 0, .pointer (some ⟨B8, 0, none⟩), .int .i64 (k : Int), .pointer (some ⟨Bx, 0, none⟩), undef, undef, undef, undef, .int .i64 (p : Int), .int .i64 (g : Int), .bool true, .bool false, .bool false, .int .i64 (q : Int), .int .i64 (g : Int), .bool true, .bool false, .bool false, .int .i64 (p : Int), .int .i64 (g : Int), .func (.func 34) #[] #[.pointer (some ⟨S1, 0, none⟩), .pointer (some ⟨S2, 0, none⟩)], .int .i64 (k : Int), .agg #[.int .i64 (st p g k : Nat), .int .i64 (st p g (k + 1) : Nat)], undef, undef, undef, undef, undef, undef, undef, undef, undef, undef, undef, undef, undef, undef, undef, undef, undef, undef, undef, undef, undef, undef, undef, undef, undef, undef, undef, undef, undef, undef, undef, undef, undef, undef, undef, undef, undef], defers := [] })
    (fun k W h => ?tk) (fun k W W' h ht => ?ht) (fun k => ?ip) (fun c k W l o o' h _ _ _ => h.elim) (fun k x a' => ?ap) ⟨_, by rw [st_zero]; exact HMK.out⟩ ?assign ?body ?done ?stop
  case tk =>
    obtain ⟨v, h⟩ := h
    exact ⟨(one_cell h.s1).1, (one_cell h.s2).1⟩
  case ht =>
    obtain ⟨v, h⟩ := h
    exact ⟨v, h.turn ht (fun _ h => h.elim) (fun _ _ h => h)⟩
  case ip =>
    rw [hsz]
    rintro W l o o' ⟨v, h⟩ h1 h2 h3
    exact ⟨v, Mk.bides W l o o' h h1 h2 h3⟩
  case ap =>
    rw [hsz]
    rintro W l o o' ⟨hx, Bx, h1, h2, h3⟩ hl ho hc
    refine ⟨hx, Bx, (touch_put W l o').heap h1 (fun e => ?_), h2, h3⟩
    subst e
    rw [h1] at ho; injection ho with ho; rw [← ho] at hc; cases hc
  case assign =>
    rintro l k x W0 W K h0 ⟨v, hi⟩ hkm rfl hK
    have hB := World.alloc_heap_new W (.cells #[.int .i64 (st p g x : Nat), .int .i64 (st p g (x + 1) : Nat)] 45)
    have HBB := hide hB
    have HI := hide hi
    clear hB h0 hi
    simp only [handed, Int.toNat_natCast]
    gi_wp2
    refine hK _ _ (KeepsOthers.alloc _ _) ⟨v, HI.out.turn ((Touch.refl (fun _ => False) W).alloc _) (fun _ h => h.elim) (fun _ _ h => h)⟩ ⟨trivial, W.heap.size, HBB.out, HI.out.sz, rfl⟩
  case body =>
    rintro l k x a' W ⟨v, hi⟩ hkm ⟨rfl, Bx, hBx, hBt, rfl⟩
    obtain ⟨c4, _⟩ := one_cell hi.b4
    obtain ⟨c5, _⟩ := one_cell hi.b5
    obtain ⟨d0, d1⟩ := cells2 hBx
    have WO := hide (workerOf_any q g (st p g x) hq (Nat.lt_of_lt_of_le (st_rise hp) (st_le hp hkm)))
    gi_wp2
    refine ⟨trivial, (CallsIn.inRound l (callsIn_wide.2 (WO.out _))).mono ?_⟩
    rintro e w8 ⟨rfl, rfl⟩
    gi_wp2
    have HBX := hide hBx
    have HI := hide hi
    have HPQ := hide (And.intro hp hq)
    have HQ : Hid (q ≤ 32768) := hide (Nat.le_trans hq.p2 hq.g2)
    clear hBx hi WO c4 c5 d0 d1 hp hq
    gi_loopw [11] (fun i wr => ∃ (m : Nat) (v' : Value), i = .int .i64 (m : Int) ∧ m < q ∧ st q g m < st p g (x + 1) ∧ st p g x < st q g (m + 1) ∧ Mk w top B4 B5 B8 S1 S2 p q g v' (scan (wk p g) (wk q g) (max (st p g x) (st q g m))) wr ∧ KeepsOthers w8 wr ∧ wr.heap[Bx]? = some (.cells #[.int .i64 (st p g x : Nat), .int .i64 (st p g (x + 1) : Nat)] 45 (0, 0))) (fun i _ => q - (intOf i).toNat)
    case atStart =>
      obtain ⟨hp, hq⟩ := HPQ.out
      have h1 := wk_above hq (k := st p g x) (Nat.le_refl _)
      have h2 := wk_below hq (k := st p g x)
      have h3 := st_rise hp (k := x)
      refine ⟨_, v, rfl, wk_lt hq (Nat.lt_of_lt_of_le h3 (st_le hp hkm)), by omega, h2, ?_, KeepsOthers.refl _, HBX.out⟩
      rw [Nat.max_eq_left h1]
      exact HI.out
    case round =>
      obtain ⟨m, v', rfl, hmq, hm3, hm4, hJ, hK, hX⟩ := hrel
      obtain ⟨hp, hq⟩ := HPQ.out
      obtain ⟨c4, _⟩ := one_cell hJ.b4
      obtain ⟨c5, _⟩ := one_cell hJ.b5
      have ST := hide (stretch_any q g m hq hmq)
      have PC := hide (scan_piece hp hq hm3 hm4)
      have SW := hide (succ_wrap (k := m) (by have := HQ.out; omega))
      have HJ := hide hJ
      have HK := hide hK
      have HX := hide hX
      have HM := hide (And.intro hm3 hm4)
      clear hJ hK hX hm3 hm4 hp hq
      gi_wp2
      refine ⟨trivial, (CallsIn.inRound l (callsIn_wide.2 (ST.out _))).mono ?_⟩
      rintro e w9 ⟨rfl, t9⟩
      have HJ9 := hide (HJ.out.turn t9 (fun _ h => h.elim) (fun _ _ h => h))
      have HK9 := hide (HK.out.trans (keeps_touch t9 (fun _ h => h.elim)))
      have HX9 := hide (t9.heap HX.out (fun h => h))
      clear HJ HK HX ST c4 c5
      gi_wp2
      have hsz9 := HJ9.out.sz
      have t10 := (Touch.refl (fun _ => False) w9).alloc (.cells #[.int .i64 (st q g m : Nat), .int .i64 (st q g (m + 1) : Nat)] 45)
      have hBy := World.alloc_heap_new w9 (.cells #[.int .i64 (st q g m : Nat), .int .i64 (st q g (m + 1) : Nat)] 45)
      have HJa := hide (HJ9.out.turn t10 (fun _ h => h.elim) (fun _ _ h => h))
      have HKa := hide (HK9.out.trans (keeps_touch t10 (fun _ h => h.elim)))
      have HXa := hide (t10.heap HX9.out (fun h => h))
      obtain ⟨d0, d1⟩ := cells2 HXa.out
      obtain ⟨y0, y1⟩ := cells2 hBy
      clear hBy HJ9 HK9 HX9 t10 t9
      generalize w9.alloc (.cells #[.int .i64 (st q g m : Nat), .int .i64 (st q g (m + 1) : Nat)] 45) = wa at *
      generalize w9.heap.size = By at *
      have HR2 := hide (show st q g (m + 1) < st q g (m + 1 + 1) from st_rise HPQ.out.2)
      have HBG := hide (st_le HPQ.out.1 hkm)
      have HDQ : Hid (st q g (m + 1) < st p g (x + 1) → m + 1 < q) := hide (fun h => by
        obtain ⟨hp, hq⟩ := HPQ.out
        have h1 : st p g (x + 1) ≤ g := st_le hp hkm
        by_cases e : m + 1 = q
        · rw [e, st_all hq] at h; omega
        · omega)
      generalize ha : st p g x = a at *
      generalize hb : st p g (x + 1) = b at *
      generalize st q g m = c at *
      generalize hd : st q g (m + 1) = d at *
      have HA := hide ha
      have HB := hide hb
      have HD := hide hd
      clear ha hb hd
      refine region_quiet_round (by kernel_rfl) (by kernel_rfl) (by kernel_rfl) ?_
      repeat (go_big_quiet_step (fail))
      refine wpQuiet_nil ?_
      intro _ hw'
      obtain ⟨nq, hw''⟩ := hw'
      subst hw''
      rw [if_max, if_min]
      have tq := Touch.drewN (Touch.refl (fun _ => False) wa) nq
      have HJb := hide (HJa.out.turn tq (fun _ h => h.elim) (fun _ _ h => h))
      have HKb := hide (HKa.out.trans (keeps_touch tq (fun _ h => h.elim)))
      have HXb := hide (tq.heap HXa.out (fun h => h))
      have hszb := HJb.out.sz
      have HE : Hid (min b d ≤ b ∧ (min b d ≠ b → min b d = d)) := hide (by omega)
      have HFE : Hid (max a c < min b d) := hide PC.out.1
      clear tq HJa HKa HXa d0 d1 y0 y1
      generalize wa.drewN nq = wb at *
      generalize max a c = f at *
      generalize min b d = e2 at *
      by_cases hmx : m = x
      · have PC2 : Hid (scan (wk p g) (wk q g) e2 = scan (wk p g) (wk q g) f) := hide (by have := PC.out.2; rwa [if_pos hmx] at this)
        have hne : ((m : Int) == (x : Int)) = true := by rw [beq_iff_eq]; omega
        have HJ3 : Hid (Mk w top B4 B5 B8 S1 S2 p q g v' (scan (wk p g) (wk q g) e2) wb) := hide (by rw [PC2.out]; exact HJb.out)
        obtain ⟨d0, d1⟩ := cells2 HXb.out
        clear hmx
        by_cases heb : e2 = b
        · have hE1 : ((e2 : Int) == (b : Int)) = true := by rw [beq_iff_eq]; omega
          have HEB := hide heb
          clear heb
          gi_wp2
          exact ⟨HKb.out, _, by rw [HB.out, ← HEB.out]; exact HJ3.out⟩
        · have hE1 : ((e2 : Int) == (b : Int)) = false := by rw [beq_eq_false_iff_ne]; omega
          have HEB := hide heb
          clear heb
          have hA := HA.out
          have hB := HB.out
          subst hA hB
          gi_wp2
          go_roundw
          case rel =>
            have h1 := HE.out.2 HEB.out
            have h2 := HE.out.1
            have h3 := HM.out
            have h4 := HEB.out
            have h5 := HR2.out
            refine ⟨m + 1, v', by rw [SW.out], HDQ.out (by omega), by rw [HD.out]; omega, by omega, ?_, HKb.out, HXb.out⟩
            rw [HD.out, show max (st p g x) d = e2 by omega]; exact HJ3.out
          case measure => rw [SW.out]; simp [intOf]; omega
      · have PC2 : Hid (scan (wk p g) (wk q g) e2 = scan (wk p g) (wk q g) f ++ [⟨f, e2, x, m⟩]) := hide (by have := PC.out.2; rwa [if_neg hmx] at this)
        have hne : ((m : Int) == (x : Int)) = false := by rw [beq_eq_false_iff_ne]; omega
        obtain ⟨c8, f8⟩ := one_cell HJb.out.b8
        obtain ⟨vo, vc, hv'⟩ := own_shape HJb.out.own
        subst hv'
        have HSL := hide (scan_len (wk p g) (wk q g) f)
        have HF : Hid (f ≤ 32768) := hide (by
          have := HPQ.out.1.g2
          have := HFE.out
          have := HE.out
          have := HBG.out
          omega)
        obtain ⟨i0, hi, hz0, hz1, hz2⟩ := info_parts2 infoMv
        have OWN := hide (own_touch HJb.out.own ((Touch.refl (fun _ => False) wb).alloc (.cells #[.int .i64 (f : Int), .int .i64 (e2 : Int), .int .i64 (x : Int), .int .i64 (m : Int)] 54)) (fun _ _ h => h))
        have hszc : top ≤ (wb.alloc (.cells #[.int .i64 (f : Int), .int .i64 (e2 : Int), .int .i64 (x : Int), .int .i64 (m : Int)] 54)).heap.size := by simp; omega
        clear hmx
        generalize scan (wk p g) (wk q g) f = lf at *
        gi_wp2_with (gi_at_builtin; refine wpListIn_append_own _ rfl (.tmp 54) (.tmp 60) 47 rfl top 54 i0 (.agg #[.int .i64 0, .int .i64 0, .int .i64 0, .int .i64 0]) 4 32 Try.underlying47 hi hz0 hz1 hz2 rfl (by decide) _ lf.length (mcells lf) rfl OWN.out ⟨wb.heap.size, 0, none⟩ 1 1 (Mv.cells ⟨f, e2, x, m⟩) rfl rfl (new_cells wb _ _) (mv_one _) ?b1 ?b2 hszc ?nx)
        case b1 => have := HSL.out; have := HF.out; unfold maxLen; omega
        case b2 => have := HSL.out; have := HF.out; omega
        case nx =>
          intro v2 w2 own2 gr2 _
          obtain ⟨vo2, vc2, hv2⟩ := own_shape own2
          subst hv2
          have tw : Touch (fun g => (Value.slice vo lf.length vc).ownBlock = some g) wb w2 := ((Touch.refl (fun g => (Value.slice vo lf.length vc).ownBlock = some g) wb).alloc _).trans (Touch.of_grownBy gr2) (fun _ _ h => h)
          have ow3 : w2.ownsRow top 54 4 (.slice vo2 (lf.length + 1) vc2) (scan (wk p g) (wk q g) e2).length (mcells (scan (wk p g) (wk q g) e2)) := by
            rw [PC2.out, mcells_append, List.length_append]
            exact own2
          have J3 := HJb.out.more tw ow3
          obtain ⟨K3, X3⟩ := HJb.out.keeps (.slice vo2 (lf.length + 1) vc2) tw
          have K4 := hide (HKb.out.trans K3)
          have X4 := hide (X3 _ _ HXb.out)
          have HJ3 := hide J3
          obtain ⟨d0, d1⟩ := cells2 X4.out
          obtain ⟨c8', f8'⟩ := one_cell (tw.heap HJb.out.b8 (fun hg => by have := (own_block HJb.out.own hg).1; have := HJb.out.hi; omega))
          clear own2 gr2 tw ow3 J3 K3 X3 OWN HJb HKb HXb c8 f8
          by_cases heb : e2 = b
          · have hE1 : ((e2 : Int) == (b : Int)) = true := by rw [beq_iff_eq]; omega
            have HEB := hide heb
            clear heb
            gi_wp2
            exact ⟨K4.out, _, by rw [HB.out, ← HEB.out]; exact HJ3.out⟩
          · have hE1 : ((e2 : Int) == (b : Int)) = false := by rw [beq_eq_false_iff_ne]; omega
            have HEB := hide heb
            clear heb
            have hA := HA.out
            have hB := HB.out
            subst hA hB
            gi_wp2
            go_roundw
            case rel =>
              have h1 := HE.out.2 HEB.out
              have h2 := HE.out.1
              have h3 := HM.out
              have h4 := HEB.out
              have h5 := HR2.out
              refine ⟨m + 1, .slice vo2 (lf.length + 1) vc2, by rw [SW.out], HDQ.out (by omega), by rw [HD.out]; omega, by omega, ?_, K4.out, X4.out⟩
              rw [HD.out, show max (st p g x) d = e2 by omega]; exact HJ3.out
            case measure => rw [SW.out]; simp [intOf]; omega
  case done =>
    rintro D W hD ⟨v, hi⟩ hd
    rw [hsz] at hD
    rw [st_all hp] at hi
    have MF := Mk.bides _ D _ (.deferred none) hi hD hd rfl
    obtain ⟨vo, vc, hv'⟩ := own_shape hi.own
    subst hv'
    obtain ⟨c8, _⟩ := one_cell hi.b8
    have HMF := hide MF
    have HD2 := hide hd
    clear MF hd hi
    gi_wp2
    rw [Exit.noGoto_ret]
    refine ⟨by simp, .inl ⟨_, _, rfl, run_takeDeferred HD2.out, ?_⟩⟩
    exact ⟨.tuple #[.slice vo (scan (wk p g) (wk q g) g).length vc, .int .i64 0], by simp [results, Try.results22, go_sem], vo, _, vc, rfl, own_base HMF.out.own HMF.out.lo.2, HMF.out.touch⟩
  case stop => 
    rintro D c k W hD hkm h hd
    exact h.elim
end Go.Proofs.Ytmhobdcnohhaaaa
