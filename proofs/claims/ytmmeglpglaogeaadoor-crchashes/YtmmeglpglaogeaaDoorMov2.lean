/- Moves squared, and Carry: a number carried over n bytes is that number behind 8n steps. -/
import Derived.Test.YtmmeglpglaogeaaDoorMov
import Derived.Test.YtmmeglpglaogeaaDoorI63
namespace Go.Proofs.YtmmeglpglaogeaaDoor
open Go.RowKit Crcx

/-- The block of an array that was handed in. -/
structure Held (w : World) (g : Nat) (t : TypeId) (c : Array Value) : Prop where
  block : w.heap[g]? = some (.cells c t (0, 0))

theorem Held.touch {S : Nat → Prop} {w w' : World} {g : Nat} {t : TypeId} {c : Array Value} (h : Held w g t c) (ht : Touch S w w') (hn : ¬ S g) : Held w' g t c :=
  ⟨(ht.block g (Array.getElem?_eq_some_iff.1 h.block).1 hn).trans h.block⟩

set_option maxRecDepth 100000 in
theorem squared_any (c : Array Value) (m : Nat → Nat) (hc : Arr c m) (hm : ∀ i, i < 32 → m i < 4294967296) (w : World) :
    Calls Tryd.prog 29 #[.agg c] w fun e w' => ∃ c', e = .returned (.agg c') ∧ Arr c' (fun i => moved m (m i) 32) ∧ Touch (fun _ => False) w w' := by
  have hi := hc.info
  go_enter Tryd.func29, Tryd.ntmps29
  go_wp2_with (refine wpList_load_row rfl 57 (.tmp 1) rfl _ rfl 57 c (0, 0) _ ?hb Tryd.underlying57 rfl hi ?_)
  case hb => exact ((Touch.refl (fun _ => False) _).alloc _ |>.alloc _ |>.block _ (by simp) (fun h => h)).trans (heap_alloc_last w _)
  go_loopw [7] (fun i wr => ∃ n : Nat, i = .int .i64 n ∧ n ≤ 32 ∧ Fill wr (w.heap.size + 2) 57 32 n (fun i => moved m (m i) 32) ∧ Fill wr (w.heap.size + 1) 57 32 0 (fun _ => 0) ∧ Held wr w.heap.size 57 c ∧ Touch (fun _ => False) w wr) (fun i _ => 32 - (intOf i).toNat)
  case atStart => exact ⟨0, rfl, Nat.zero_le _, Fill.zero _ _ _ _ _ _ (by simp) rfl, (Fill.zero _ _ _ _ _ _ (by simp) rfl).touch ((Touch.refl (fun _ => False) _).alloc _) (fun h => h), ⟨((Touch.refl (fun _ => False) _).alloc _ |>.alloc _ |>.block _ (by simp) (fun h => h)).trans (heap_alloc_last w _)⟩, ((Touch.refl _ _).alloc _).alloc _ |>.alloc _⟩
  case round =>
    obtain ⟨n, rfl, hn, hf, hf0, hh, htw⟩ := hrel
    by_cases hlast : n < 32
    · have hix := fun W => run_index_moves W c n _ hlast (hc.at_ n hlast)
      have MV := hide (fun W => moved_any c m hc hm (m n) (hm n hlast) W)
      have HF := hide hf
      have HF0 := hide hf0
      have HT := hide htw
      have HH := hide hh
      have hsz := (Array.getElem?_eq_some_iff.1 hh.block).1
      generalize hy : moved m (m n) 32 = y at *
      clear hf hf0 htw
      go_wp2_with (refine wpList_load_row rfl 57 (.tmp 1) rfl _ rfl 57 c (0, 0) _ hh.block Tryd.underlying57 rfl hi ?_)
      refine (MV.out _).mono ?_
      rintro e w1 ⟨rfl, ht1⟩
      have hf1 := HF.out.touch ht1 (fun h => h)
      obtain ⟨v, hv⟩ := hf1.cell n hlast
      have hfz := hf1.frozen n
      have hput := hide (hf1.put hlast)
      have t1 := (Touch.refl (fun k => k = w.heap.size + 2) w1).setCell (p := ⟨w.heap.size + 2, n, none⟩) (fun _ => rfl) (.int .u32 ((y : Nat) : Int))
      have hput0 := hide ((HF0.out.touch ht1 (fun h => h)).touch t1 (by omega))
      have hh1 := hide ((HH.out.touch ht1 (fun h => h)).touch t1 (by omega))
      have htw1 := hide ((HT.out.trans ht1 (fun _ _ h => h)).setCell (p := ⟨w.heap.size + 2, n, none⟩) (fun h => absurd h (by simp)) (.int .u32 ((y : Nat) : Int)))
      rw [hy] at hput
      clear hf1 HF HF0 HT HH ht1 t1 hy
      go_wp2_with fail
      go_roundw
      case rel => exact ⟨n + 1, by go_num, by omega, hput.out, hput0.out, hh1.out, htw1.out⟩
      case measure => simp [intOf]; omega
    · have e : n = 32 := by omega
      subst e
      obtain ⟨c', h1, h2, h4, h3⟩ := hf.block
      obtain ⟨c0, g1, g2, g4, g3⟩ := hf0.block
      have hi' : (Tryd.prog.info? 57).map (·.size) = some c'.size := by rw [h2]; kernel_rfl
      have hone := all_one h2 h4
      have ha : Arr c' (fun i => moved m (m i) 32) := ⟨h2, h3⟩
      have hset := setRow_heap wr (w.heap.size + 1) c0 c' 57 (0, 0) g1
      have htw1 : Touch (fun _ => False) w (wr.setRow (w.heap.size + 1) c') := htw.trans (S' := fun k => k = w.heap.size + 1) ⟨rfl, rfl, rfl, by simp, fun j _ hj => setRow_other wr _ j _ hj⟩ (fun k hk h => by omega)
      have hsz : c0.size = c'.size := by omega
      clear h4 h3 g4 g3 hf hf0 htw h2 g2 hh
      go_wp2_with (first | refine wpList_load_row rfl 57 (.tmp 3) rfl _ rfl 57 c' (0, 0) _ h1 Tryd.underlying57 rfl hi' ?_ | refine wpList_store_row rfl 57 (.tmp 2) (.tmp 17) rfl _ c' rfl rfl 57 c0 g1 hi' hsz hone ?_)
      refine bodyPost_ret (results_cell_row rfl _ _ _ _ _ _ _ rfl hset Tryd.underlying57 rfl hi') rfl ?_
      exact ⟨c', rfl, ha, htw1⟩

theorem alloc_at {w : World} {o : Obj} {g : Nat} (hg : g = w.heap.size) : (w.alloc o).heap[g]? = some o := by
  subst hg; exact heap_alloc_last w o

/-- A store of a whole array, the frame left as it is. -/
theorem wpList_store_all {P : Program} {ops : Array Oper} {rest : List Oper} {o : Oper} {a : Act} {w : World} {Q : Exit → Act → World → Prop} (hgd : o.guard = none) (hdst : o.dst = none) (ty : TypeId) (x y : Operand) (ho : o.op = .store ty x y)
    (g : Nat) (cells : Array Value) (hx : a.eval x = .pointer (some ⟨g, 0, none⟩)) (hy : a.eval y = .agg cells)
    (t : TypeId) (old : Array Value) (hg : w.heap[g]? = some (.cells old t (0, 0))) (hi : (P.info? ty).map (·.size) = some cells.size)
    (hold : old.size = cells.size) (h1 : cells.all (·.oneCell') = true)
    (h : wpList P ops Q rest a (w.setRow g cells)) : wpList P ops Q (o :: rest) a w :=
  wpList_store_row hgd ty x y ho g cells hx hy t old hg hi hold h1 (by rw [hdst]; exact h)

theorem Arr.congr {c : Array Value} {m m' : Nat → Nat} (h : Arr c m) (e : ∀ i, i < 32 → m i = m' i) : Arr c m' := ⟨h.size, fun i hi => by rw [← e i hi]; exact h.at_ i hi⟩

theorem moves_lt (e i : Nat) (hi : i < 32) : stps e (2 ^ i) < 4294967296 := stps_lt (Nat.pow_lt_pow_right (a := 2) (by omega) hi)

theorem Arr.twice {c : Array Value} {e : Nat} (h : Arr c (fun i => moved (fun i => stps e (2 ^ i)) (stps e (2 ^ i)) 32)) : Arr c (fun i => stps (e + e) (2 ^ i)) :=
  h.congr fun i hi => by
    rw [moved_all (lin_stps e) (fun _ _ => rfl) (moves_lt e i hi), stps_add]

/-- Where Carry stands in its loop. -/
def CarryAt (w : World) (res : Nat) (a b p : Value) (wr : World) : Prop :=
  ∃ (y e g : Nat) (n : Int) (c : Array Value), a = .int .u32 (y : Int) ∧ y < 4294967296 ∧ b = .int .i64 n ∧ I63 n ∧ p = .pointer (some ⟨g, 0, none⟩) ∧ Held wr g 57 c ∧ Arr c (fun i => stps e (2 ^ i)) ∧ w.heap.size ≤ g ∧ stps (e * n.toNat) y = res ∧ Touch (fun _ => False) w wr

theorem Touch.setRow {S : Nat → Prop} {a w : World} (h : Touch S a w) {g : Nat} (c : Array Value) (hg : g < a.heap.size → S g) : Touch S a (w.setRow g c) :=
  h.trans (S' := fun k => k = g) ⟨rfl, rfl, rfl, by simp, fun j _ hj => setRow_other w _ j _ hj⟩ (fun k hk e => by subst e; exact hg hk)

theorem CarryAt.mk {w wr : World} {res y e g N : Nat} {c : Array Value} (hy : y < 4294967296) (hN : I63 (N : Int)) (hb : wr.heap[g]? = some (.cells c 57 (0, 0))) (hc : Arr c (fun i => stps e (2 ^ i))) (hg : w.heap.size ≤ g) (hend : stps (e * (N / 2)) y = res) (ht : Touch (fun _ => False) w wr) :
    CarryAt w res (.int .u32 (y : Int)) (.int .i64 ((N : Int) / 2)) (.pointer (some ⟨g, 0, none⟩)) wr :=
  ⟨y, e, g, (N : Int) / 2, c, rfl, hy, rfl, ⟨by have := hN.le; omega⟩, rfl, ⟨hb⟩, hc, hg, by rw [show ((N : Int) / 2).toNat = N / 2 by omega]; exact hend, ht⟩

set_option maxRecDepth 100000 in
set_option maxHeartbeats 2000000 in
theorem carry_any (x : Nat) (hx : x < 4294967296) (n : Int) (h1 : I63 n) (w : World) (ht : Tab w) :
    Calls Tryd.prog 25 #[.int .u32 x, .int .i64 n] w fun e w' => e = .returned (.int .u32 ((stps (far n) x : Nat) : Int)) ∧ Touch (fun _ => False) w w' := by
  obtain ⟨res, hres⟩ : ∃ res, stps (far n) x = res := ⟨_, rfl⟩
  rw [hres]
  have HR := hide hres
  clear hres
  go_enter Tryd.func25, Tryd.ntmps25
  go_wp2_with fail
  refine (byteMoves_any _ ht).mono ?_
  rintro e w1 ⟨c, rfl, hc, ht1⟩
  have hone : c.all (·.oneCell') = true := all_one hc.size (fun i hi => ⟨_, hc.at_ i hi⟩)
  go_wp2_with (refine wpList_store_all rfl rfl 57 (.tmp 5) (.tmp 6) rfl _ c rfl rfl 57 _ (heap_alloc_last w1 _) hc.info ?hs hone ?_)
  case hs => rw [hc.size]; rfl
  go_loopw [0, 1, 5] (CarryAt w res) (fun _ b _ _ => (intOf b).toNat)
  case atStart => exact ⟨x, 8, w1.heap.size, n, c, rfl, hx, rfl, h1, rfl, ⟨setRow_heap _ _ _ _ _ _ (heap_alloc_last w1 _)⟩, hc, ht1.size, HR.out, (ht1.alloc _).setRow _ (fun h => by have := ht1.size; omega)⟩
  case round =>
    obtain ⟨y, e, g, n, c, rfl, hy, rfl, hn, rfl, hh, hc, hg, hend, htw⟩ := hrel
    have hgl := (Array.getElem?_eq_some_iff.1 hh.block).1
    clear ht1 hone
    by_cases hpos : 0 < n
    · obtain ⟨N, rfl⟩ := Int.eq_ofNat_of_zero_le (Int.le_of_lt hpos)
      have hand := i64_and1 N (by have := hn.le; omega)
      have hi := hc.info
      have hcs := hc.size
      have MV := hide (fun W => moved_any c _ hc (moves_lt e) y hy W)
      rw [moved_all (lin_stps e) (fun _ _ => rfl) hy] at MV
      have SQ := hide (fun W => squared_any c _ hc (moves_lt e) W)
      rw [Int.toNat_natCast] at hend
      have HE := hide hend
      have HT := hide htw
      have HG := hide hg
      have HY := hide hy
      clear hend htw hg hy hc
      have hsz := hcs
      rcases Nat.mod_two_eq_zero_or_one N with h2 | h2
      · rw [h2, Int.natCast_zero] at hand
        have H2 := hide h2
        clear h2
        go_wp2_with (refine wpList_load_row rfl 57 (.tmp 5) rfl _ rfl 57 c (0, 0) _ hh.block Tryd.underlying57 rfl hi ?_)
        refine (SQ.out _).mono ?_
        rintro e2 w2 ⟨c', rfl, hc', ht2⟩
        have hh2 := hh.touch ht2 (fun h => h)
        have hone' : c'.all (·.oneCell') = true := all_one hc'.size (fun i hi => ⟨_, hc'.at_ i hi⟩)
        have hi' := hc'.info
        have hcc : c.size = c'.size := by rw [hc'.size, hsz]
        have hset := setRow_heap w2 g c c' 57 (0, 0) hh2.block
        have hnew : Hid (∀ o, ((w2.setRow g c').alloc o).heap[w2.heap.size]? = some o) := fun o => alloc_at (by simp)
        have HC' := hide hc'
        have HT2 := hide ht2
        clear hc' ht2
        go_wp2_with (first | refine wpList_load_row rfl 57 (.tmp 5) rfl _ rfl 57 c' (0, 0) _ hset Tryd.underlying57 rfl hi' ?_ | refine wpList_store_all rfl rfl 57 (.tmp 5) (.tmp 18) rfl _ c' rfl rfl 57 c hh2.block hi' hcc hone' ?_ | refine wpList_store_all rfl rfl 57 (.tmp 5) (.tmp 19) rfl w2.heap.size c' rfl rfl 57 _ (hnew.out _) hi' ?hs hone' ?_)
        case hs => rw [HC'.out.size]; rfl
        go_roundw
        case rel =>
          have T := HT.out.trans HT2.out (fun _ _ h => h)
          exact CarryAt.mk HY.out hn (setRow_heap _ _ _ _ _ _ (hnew.out _)) HC'.out.twice T.size (by rw [steps_even e N y H2.out]; exact HE.out) (((T.setRow c' (fun h => by have := HG.out; omega)).alloc _).setRow c' (fun h => by have := T.size; omega))
        case measure => simp [intOf]; omega
      · rw [h2, Int.natCast_one] at hand
        have H2 := hide h2
        clear h2
        go_wp2_with (refine wpList_load_row rfl 57 (.tmp 5) rfl _ rfl 57 c (0, 0) _ hh.block Tryd.underlying57 rfl hi ?_)
        refine (MV.out _).mono ?_
        rintro e1 w1 ⟨rfl, ht1⟩
        have hh1 := hh.touch ht1 (fun h => h)
        have HT1 := hide ht1
        clear ht1
        go_wp2_with (refine wpList_load_row rfl 57 (.tmp 5) rfl _ rfl 57 c (0, 0) _ hh1.block Tryd.underlying57 rfl hi ?_)
        refine (SQ.out _).mono ?_
        rintro e2 w2 ⟨c', rfl, hc', ht2⟩
        have hh2 := hh1.touch ht2 (fun h => h)
        have hone' : c'.all (·.oneCell') = true := all_one hc'.size (fun i hi => ⟨_, hc'.at_ i hi⟩)
        have hi' := hc'.info
        have hcc : c.size = c'.size := by rw [hc'.size, hsz]
        have hset := setRow_heap w2 g c c' 57 (0, 0) hh2.block
        have hnew : Hid (∀ o, ((w2.setRow g c').alloc o).heap[w2.heap.size]? = some o) := fun o => alloc_at (by simp)
        have HC' := hide hc'
        have HT2 := hide ht2
        clear hc' ht2
        go_wp2_with (first | refine wpList_load_row rfl 57 (.tmp 5) rfl _ rfl 57 c' (0, 0) _ hset Tryd.underlying57 rfl hi' ?_ | refine wpList_store_all rfl rfl 57 (.tmp 5) (.tmp 18) rfl _ c' rfl rfl 57 c hh2.block hi' hcc hone' ?_ | refine wpList_store_all rfl rfl 57 (.tmp 5) (.tmp 19) rfl w2.heap.size c' rfl rfl 57 _ (hnew.out _) hi' ?hs hone' ?_)
        case hs => rw [HC'.out.size]; rfl
        go_roundw
        case rel =>
          have T := (HT.out.trans HT1.out (fun _ _ h => h)).trans HT2.out (fun _ _ h => h)
          exact CarryAt.mk (stps_lt HY.out) hn (setRow_heap _ _ _ _ _ _ (hnew.out _)) HC'.out.twice T.size (by rw [steps_odd e N y H2.out]; exact HE.out) (((T.setRow c' (fun h => by have := HG.out; omega)).alloc _).setRow c' (fun h => by have := T.size; omega))
        case measure => simp [intOf]; omega
    · rw [show n.toNat = 0 by omega, Nat.mul_zero, stps_zero] at hend
      subst hend
      clear hc hy HR
      go_wp2_with fail
      go_ret
      exact ⟨rfl, htw⟩

end Go.Proofs.YtmmeglpglaogeaaDoor
