/- What GroupsStretches keeps in memory. -/
import Derived.Test.YtmhobdcnohhaaaaGKnown
import Derived.Test.YtmhobdcnohhaaaaGArrEq
namespace Go.Proofs.Ytmhobdcnohhaaaa
open Go.RowKit

theorem func_not_nil (lb : Array Value) (W : World) : (binOp .eql 42 (.func (.func 34) #[] lb) .nilFunc).run Try.prog W = .ok (.bool false) W := by
  have e : binOp .eql 42 (.func (.func 34) #[] lb) .nilFunc = (do pure (.bool (← Op.equalIn (9999 + 1) 42 (.func (.func 34) #[] lb) .nilFunc))) := rfl
  rw [e]
  unfold Op.equalIn
  simp only [Sem.run_bind, run_underlying Try.underlying42, Result.andThen_ok, Sem.run_pure]

def mark (D : Nat) : Deferred := { target := .collected D, args := #[] }

theorem leaves_marks {F : Fence} {n : Nat} {P : Program} {fn : Func} {tmps : Array Value} {R : Ending → World → Prop} : ∀ (Ds : List Nat) (W : World), (∀ D ∈ Ds, W.heap[D]? = some (.deferred (some []))) → Ds.Nodup →
    (∀ W', Touch (fun g => g ∈ Ds) W W' → LeavesIn F n P fn tmps R [] .returning W') → LeavesInM F n P fn tmps R (Ds.map mark) .returning W
  | [], W, _, _, h => h W (Touch.refl _ _)
  | D :: Ds, W, h1, h2, h3 => by
    rw [List.nodup_cons] at h2
    have t1 := touch_put W D (.deferred none)
    refine ⟨by simp, .inl ⟨D, _, rfl, run_takeDeferred (h1 D (by simp)), leaves_marks Ds _ (fun E hE => ?_) h2.2 (fun W' ht => h3 W' ?_)⟩⟩
    · exact t1.heap (h1 E (by simp [hE])) (fun e => h2.1 (e ▸ hE))
    · exact (t1.mono (fun k _ h => by simp [h])).trans (ht.mono (fun k _ h => List.mem_cons_of_mem _ h)) (fun _ _ h => h)

/-- The cells that live through all. -/
structure So (w : World) (low B3 B4 B5 B6 B8 T S1 S2 : Nat) (p g leave : Int) (t : Nat) (Ds : List Nat) (W : World) : Prop where
  touch : Touch (fun _ => False) w W
  b3 : W.heap[B3]? = some (.cells #[.int .i64 p] 3 (0, 0))
  b4 : W.heap[B4]? = some (.cells #[.int .i64 g] 3 (0, 0))
  b5 : W.heap[B5]? = some (.cells #[.int .i64 leave] 3 (0, 0))
  b6 : W.heap[B6]? = some (.cells #[.bool false] 4 (0, 0))
  b8 : W.heap[B8]? = some (.cells #[.int .i64 (many p g : Int)] 3 (0, 0))
  bt : W.heap[T]? = some (.cells #[.int .i64 (t : Int)] 3 (0, 0))
  s1 : W.heap[S1]? = some (.cells #[.int .i64 p] 3 (0, 0))
  s2 : W.heap[S2]? = some (.cells #[.int .i64 g] 3 (0, 0))
  mks : ∀ D ∈ Ds, w.heap.size ≤ D ∧ D < low ∧ W.heap[D]? = some (.deferred (some []))
  nd : Ds.Nodup
  lo : w.heap.size ≤ B6 ∧ w.heap.size ≤ T ∧ w.heap.size ≤ low
  hi : B3 < low ∧ B4 < low ∧ B5 < low ∧ B6 < low ∧ B8 < low ∧ T < low ∧ S1 < low ∧ S2 < low
  sz : low ≤ W.heap.size

theorem So.turn {S : Nat → Prop} {w W W' : World} {low B3 B4 B5 B6 B8 T S1 S2 : Nat} {p g leave : Int} {t : Nat} {Ds : List Nat} (h : So w low B3 B4 B5 B6 B8 T S1 S2 p g leave t Ds W) (ht : Touch S W W') (hS : ∀ g, S g → low ≤ g) : So w low B3 B4 B5 B6 B8 T S1 S2 p g leave t Ds W' := by
  have n : ∀ g, g < low → ¬ S g := fun g hg s => by have := hS g s; omega
  obtain ⟨h3, h4, h5, h6, h8, hT, h1, h2⟩ := h.hi
  exact ⟨h.touch.trans ht (fun g hg s => by have := hS g s; have := h.lo; omega), ht.heap h.b3 (n _ h3), ht.heap h.b4 (n _ h4), ht.heap h.b5 (n _ h5), ht.heap h.b6 (n _ h6), ht.heap h.b8 (n _ h8), ht.heap h.bt (n _ hT), ht.heap h.s1 (n _ h1), ht.heap h.s2 (n _ h2),
    fun D hD => ⟨(h.mks D hD).1, (h.mks D hD).2.1, ht.heap (h.mks D hD).2.2 (n _ (h.mks D hD).2.1)⟩, h.nd, h.lo, h.hi, Nat.le_trans h.sz ht.size⟩

/-- With the two cells of one turn. -/
structure Sk (w : World) (low top B3 B4 B5 B6 B8 T S1 S2 N A : Nat) (p g leave : Int) (t : Nat) (Ds : List Nat) (k x : Nat) (W : World) : Prop where
  so : So w low B3 B4 B5 B6 B8 T S1 S2 p g leave t Ds W
  bn : W.heap[N]? = some (.cells #[.int .i64 (k : Int)] 3 (0, 0))
  ba : W.heap[A]? = some (.cells #[.int .i64 (x : Int)] 3 (0, 0))
  ord : low ≤ N ∧ N < A ∧ A < top
  sz : top ≤ W.heap.size

theorem Sk.turn {S : Nat → Prop} {w W W' : World} {low top B3 B4 B5 B6 B8 T S1 S2 N A : Nat} {p g leave : Int} {t : Nat} {Ds : List Nat} {k x : Nat} (h : Sk w low top B3 B4 B5 B6 B8 T S1 S2 N A p g leave t Ds k x W) (ht : Touch S W W') (hS : ∀ g, S g → top ≤ g) : Sk w low top B3 B4 B5 B6 B8 T S1 S2 N A p g leave t Ds k x W' := by
  have n : ∀ g, g < top → ¬ S g := fun g hg s => by have := hS g s; omega
  have o := h.ord
  exact ⟨h.so.turn ht (fun g hg => by have := hS g hg; omega), ht.heap h.bn (n _ (by omega)), ht.heap h.ba (n _ (by omega)), h.ord, Nat.le_trans h.sz ht.size⟩

theorem Sk.bides {w : World} {low top B3 B4 B5 B6 B8 T S1 S2 N A : Nat} {p g leave : Int} {t : Nat} {Ds : List Nat} {k x : Nat} : Bides top (Sk w low top B3 B4 B5 B6 B8 T S1 S2 N A p g leave t Ds k x) := fun W l o o' h hl _ _ => h.turn (touch_put W l o') (fun g e => by omega)

theorem Sk.setA {w W : World} {low top B3 B4 B5 B6 B8 T S1 S2 N A : Nat} {p g leave : Int} {t : Nat} {Ds : List Nat} {k x : Nat} (h : Sk w low top B3 B4 B5 B6 B8 T S1 S2 N A p g leave t Ds k x W) (y : Nat) : Sk w low top B3 B4 B5 B6 B8 T S1 S2 N A p g leave t Ds k y (W.setCell ⟨A, 0, none⟩ (.int .i64 (y : Int))) := by
  have ht : Touch (fun g => g = A) W (W.setCell ⟨A, 0, none⟩ (.int .i64 (y : Int))) := (Touch.refl (fun g => g = A) W).setCell (p := ⟨A, 0, none⟩) (fun _ => rfl) _
  have o := h.ord
  exact ⟨h.so.turn ht (fun g hg => by omega), ht.heap h.bn (fun e => by omega), set_one _ h.ba, h.ord, Nat.le_trans h.sz ht.size⟩

theorem Sk.setN {w W : World} {low top B3 B4 B5 B6 B8 T S1 S2 N A : Nat} {p g leave : Int} {t : Nat} {Ds : List Nat} {k x : Nat} (h : Sk w low top B3 B4 B5 B6 B8 T S1 S2 N A p g leave t Ds k x W) (y : Nat) : Sk w low top B3 B4 B5 B6 B8 T S1 S2 N A p g leave t Ds y x (W.setCell ⟨N, 0, none⟩ (.int .i64 (y : Int))) := by
  have ht : Touch (fun g => g = N) W (W.setCell ⟨N, 0, none⟩ (.int .i64 (y : Int))) := (Touch.refl (fun g => g = N) W).setCell (p := ⟨N, 0, none⟩) (fun _ => rfl) _
  have o := h.ord
  exact ⟨h.so.turn ht (fun g hg => by omega), set_one _ h.bn, ht.heap h.ba (fun e => by omega), h.ord, Nat.le_trans h.sz ht.size⟩

/-- The next turn's own cell. -/
theorem Sk.next {w W : World} {low top B3 B4 B5 B6 B8 T S1 S2 N A : Nat} {p g leave : Int} {t : Nat} {Ds : List Nat} {k x : Nat} (h : Sk w low top B3 B4 B5 B6 B8 T S1 S2 N A p g leave t Ds k x W) {D : Nat} (hD : top ≤ D) (hd : W.heap[D]? = some (.deferred (some []))) :
    So w (W.heap.size + 1) B3 B4 B5 B6 B8 W.heap.size S1 S2 p g leave (t + 1) (D :: Ds) (W.alloc (.cells #[.int .i64 ((t + 1 : Nat) : Int)] 3)) := by
  have ht := (Touch.refl (fun _ => False) W).alloc (.cells #[.int .i64 ((t + 1 : Nat) : Int)] 3)
  have s := h.so.turn ht (fun _ h => h.elim)
  have o := h.ord
  have z := h.sz
  have zl := h.so.sz
  have lo := h.so.lo
  obtain ⟨h3, h4, h5, h6, h8, hT, h1, h2⟩ := h.so.hi
  have hlt := lt_of_heap hd
  refine ⟨s.touch, s.b3, s.b4, s.b5, s.b6, s.b8, World.alloc_heap_new W _, s.s1, s.s2, fun E hE => ?_, ?_, ⟨lo.1, by omega, by omega⟩, ⟨by omega, by omega, by omega, by omega, by omega, by omega, by omega, by omega⟩, by simp⟩
  · rcases List.mem_cons.1 hE with rfl | hE
    · exact ⟨by omega, by omega, ht.heap hd (fun h => h)⟩
    · have := s.mks E hE
      exact ⟨this.1, by omega, this.2.2⟩
  · rw [List.nodup_cons]
    exact ⟨fun hm => by have := (h.so.mks D hm).2.1; omega, h.so.nd⟩

theorem st_len {p g k : Nat} (h : May p g) : g / p ≤ st p g (k + 1) - st p g k ∧ st p g (k + 1) - st p g k ≤ g / p + 1 := by
  have h1 := h.p1
  unfold st
  have e : (k + 1) * g = k * g + g := by rw [Nat.add_mul, Nat.one_mul]
  rw [e]
  have a1 := Nat.div_add_mod (k * g) p
  have a2 := Nat.div_add_mod g p
  have a3 := Nat.div_add_mod (k * g + g) p
  have b1 := Nat.mod_lt (k * g) (show p > 0 by omega)
  have b2 := Nat.mod_lt g (show p > 0 by omega)
  have b3 := Nat.mod_lt (k * g + g) (show p > 0 by omega)
  generalize k * g / p = x at *
  generalize g / p = y at *
  generalize (k * g + g) / p = z at *
  generalize k * g % p = r1 at *
  generalize g % p = r2 at *
  generalize (k * g + g) % p = r3 at *
  have lo : x + y ≤ z := by
    by_cases hc : z < x + y
    · have : p * (z + 1) ≤ p * (x + y) := Nat.mul_le_mul_left p hc
      rw [Nat.mul_add, Nat.mul_add, Nat.mul_one] at this
      omega
    · omega
  have hi : z ≤ x + y + 1 := by
    by_cases hc : x + y + 1 < z
    · have : p * (x + y + 2) ≤ p * z := Nat.mul_le_mul_left p hc
      rw [Nat.mul_add, Nat.mul_add] at this
      omega
    · omega
  omega

theorem wrap_nat {n : Nat} (h : n ≤ 1000000) : wrap64 (n : Int) = (n : Int) := by unfold wrap64; omega

theorem wrap_sub {a b : Nat} (h : a ≤ b) (hb : b ≤ 1000000) : wrap64 ((b : Int) - (a : Int)) = ((b - a : Nat) : Int) := by
  rw [← Int.natCast_sub h]
  exact wrap_nat (by omega)

/-- The numbers that GroupsStretches compares. -/
theorem len_facts {p g : Int} (hm : mayW p g = true) {x : Nat} (hx : x < p.toNat) :
    ∃ ln qq : Nat, wrap64 (g.tdiv p) = (qq : Int) ∧ wrap64 (((st p.toNat g.toNat (x + 1) : Nat) : Int) - ((st p.toNat g.toNat x : Nat) : Int)) = (ln : Int) ∧ wrap64 ((qq : Int) + 1) = ((qq + 1 : Nat) : Int) ∧ ¬ ln < qq ∧ ¬ qq + 1 < ln := by
  obtain ⟨P, G, rfl, rfl, m⟩ := may_of hm
  simp only [Int.toNat_natCast] at *
  obtain ⟨h1, h2⟩ := st_len m (k := x)
  have h3 : st P G x ≤ st P G (x + 1) := st_mono (by omega)
  have h4 := st_le m (k := x + 1) hx
  have h5 := m.g2
  have h6 := Nat.div_le_self G P
  refine ⟨st P G (x + 1) - st P G x, G / P, ?_, wrap_sub h3 (by omega), ?_, by omega, by omega⟩
  · rw [← Int.ofNat_tdiv]
    exact wrap_nat (by omega)
  · exact succ_wrap (by omega)

theorem infoInt : (Try.prog.info? 3).map (fun i => (i.zero, i.size, i.bytes)) = some (some (.int .i64 0), 1, 8) := by kernel_rfl

theorem neq_pair (a b : Int) (W : World) : (binOp .neq 45 (.agg #[.int .i64 a, .int .i64 b]) (.agg #[.int .i64 a, .int .i64 b])).run Try.prog W = .ok (.bool false) W := by
  obtain ⟨i, hi, _⟩ := info_parts2 infoInt
  have h := equalIn_same (k := .i64) Try.underlying45 hi (by kernel_rfl) Try.underlying3 #[.int .i64 a, .int .i64 b] #[.int .i64 a, .int .i64 b] W (fun i hi => by
    match i, hi with
    | 0, _ => exact ⟨a, rfl, rfl⟩
    | 1, _ => exact ⟨b, rfl, rfl⟩)
  have e : binOp .neq 45 (.agg #[.int .i64 a, .int .i64 b]) (.agg #[.int .i64 a, .int .i64 b]) = (do pure (.bool (!(← Op.equalIn 10000 45 (.agg #[.int .i64 a, .int .i64 b]) (.agg #[.int .i64 a, .int .i64 b]))))) := rfl
  rw [e]
  simp only [Sem.run_bind, h, Result.andThen_ok, Sem.run_pure]
  rfl

end Go.Proofs.Ytmhobdcnohhaaaa
