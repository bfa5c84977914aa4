/- slices.SortStableFunc of panes by their End. -/
import Derived.Test.YtfmlbcddomggaaaQL
import Derived.Test.YtfmlbcddomggaaaVX
import Derived.Shelf.Lay
import Derived.Ground.SlsfProg
namespace Go.Proofs.Ytfmlbcddomggaaa
open Go.Shelf Go.RowKit Go.Lib Go.Sort
shelf_lay_g SlLaysF0.n20 Slsf 20 at Try 42 as Try.insP

instance : Inhabited Pn := ⟨pn0⟩

/-- A pane's cells; by what they are sorted. -/
abbrev enc9 (x : Pn) : List Value := encP.cells x
abbrev endP (x : Pn) : Int := x.b

set_option maxRecDepth 100000 in
theorem nan_any (x : Int) (w : World) : Calls Try.prog 39 #[.int .i64 x] w fun e w' => e = .returned (.bool false) ∧ w' = w := by
  go_enter Try.func39, Try.ntmps39
  go_wp2_with fail
  go_ret
  exact ⟨rfl, rfl⟩

set_option maxRecDepth 100000 in
theorem compare64_any (x y : Int) (w : World) : Calls Try.prog 33 #[.int .i64 x, .int .i64 y] w fun e w' => e = .returned (.int .i64 (Lib.compareInt x y)) ∧ w' = w := by
  have C1 := fun z w => hide (nan_any z w)
  unfold Lib.compareInt
  by_cases h1 : x < y
  · have d1 : decide (x < y) = true := decide_eq_true h1
    rw [if_pos h1]
    clear h1
    go_enter Try.func33, Try.ntmps33
    go_wp2_with (go_at_call 39; refine (C1 _ _).out.mono ?_; rintro e w' ⟨rfl, rfl⟩)
    go_ret
    exact ⟨rfl, rfl⟩
  · rw [if_neg h1]
    by_cases h2 : x > y
    · have d1 : decide (x < y) = false := decide_eq_false h1
      have d2 : decide (y < x) = true := decide_eq_true h2
      rw [if_pos h2]
      clear h1 h2
      go_enter Try.func33, Try.ntmps33
      go_wp2_with (go_at_call 39; refine (C1 _ _).out.mono ?_; rintro e w' ⟨rfl, rfl⟩)
      go_ret
      exact ⟨rfl, rfl⟩
    · have d1 : decide (x < y) = false := decide_eq_false h1
      have d2 : decide (y < x) = false := decide_eq_false h2
      rw [if_neg h2]
      clear h1 h2
      go_enter Try.func33, Try.ntmps33
      go_wp2_with (go_at_call 39; refine (C1 _ _).out.mono ?_; rintro e w' ⟨rfl, rfl⟩)
      go_ret
      exact ⟨rfl, rfl⟩

set_option maxRecDepth 100000 in
theorem closure_any (x y : Pn) (w : World) : Calls Try.prog 32 #[pnv x, pnv y] w fun e w' => e = .returned (.int .i64 (Lib.compareInt x.b y.b)) ∧ w' = (w.alloc (.cells (pnc x) 37)).alloc (.cells (pnc y) 37) := by
  have C1 := fun w => hide (compare64_any x.b y.b w)
  generalize Lib.compareInt x.b y.b = r at *
  go_enter Try.func32, Try.ntmps32
  go_wp2_with fail
  refine (C1 _).out.mono ?_
  rintro e w' ⟨rfl, hq⟩
  subst hq
  go_wp2_with fail
  go_ret
  exact ⟨rfl, rfl⟩

theorem laysP (g off size : Nat) (w : World) : CmpLays Try.prog 32 #[] enc9 9 (fun x y => Lib.compareInt (endP x) (endP y)) g off size w :=
  fun m os dk _ x y => (closure_any x y _).mono fun e w' h => by
    obtain ⟨rfl, rfl⟩ := h
    refine ⟨rfl, 0, #[.cells (pnc x) 37] ++ #[.cells (pnc y) 37], ?_⟩
    rw [alloc_eq_grow, alloc_eq_grow, grow_grow]
    rfl

theorem ltE : ltOf (fun x y : Pn => Lib.compareInt (endP x) (endP y)) = Sb.lt endP := by
  funext x y
  unfold ltOf Sb.lt
  by_cases h : endP x < endP y
  · rw [decide_eq_true h, decide_eq_true ((Sb.cmp_lt x y).2 h)]
  · rw [decide_eq_false h, decide_eq_false (fun q => h ((Sb.cmp_lt x y).1 q))]

theorem holds9 {w : World} {base g cap n : Nat} {L : List Pn} (h : encP.Own 37 w base (.slice (some ⟨g, 0, none⟩) n cap) L) : HoldsK enc9 9 w g 0 L.toArray := by
  intro j hj
  rw [size_flatK] at hj
  have hj' : j < L.length * 9 := by simpa using hj
  have hd : j / 9 < L.length := by omega
  obtain ⟨-, cur, hc⟩ := Rc.own_block h (g := g) rfl
  have gt := encP.flat_get L (j / 9) hd (j % 9) (by show j % 9 < 9; omega)
  have e9 : j / 9 * encP.n + j % 9 = j := by show j / 9 * 9 + j % 9 = j; omega
  rw [e9] at gt
  have e0 : L.toArray[j / 9]! = L[j / 9] := by simp [hd]
  have hl : (encP.cells L[j / 9]).length = 9 := encP.len _
  have hlt : j % 9 < (encP.cells L[j / 9]).length := by rw [hl]; omega
  rw [List.getElem?_eq_getElem hlt] at gt
  have hc2 := Rc.Mem.cells (Rc.Own.mem h).2.1 j _ gt
  rw [Addr.add_lit] at hc2
  refine ⟨?_, by simp [World.frozen?, hc]⟩
  rw [get_flatK _ _ _ _ hj, e0]
  show w.cell? _ = some ((encP.cells L[j / 9])[j % 9]!)
  rw [getElem!_pos (encP.cells L[j / 9]) (j % 9) hlt]
  exact hc2

/-- The row behind the sort. -/
theorem own9 {w w' : World} {base g cap : Nat} {L : List Pn} {d : Array Pn} (h : encP.Own 37 w base (.slice (some ⟨g, 0, none⟩) L.length cap) L) (hd : d.size = L.length) (hS : SWK enc9 9 w g 0 d w') :
    encP.Own 37 w' base (.slice (some ⟨g, 0, none⟩) L.length cap) d.toList ∧ Touch (fun x => x = g) w w' := by
  obtain ⟨n, os, rfl⟩ := hS
  refine ⟨?_, ⟨rfl, rfl, rfl, ?_, fun j hj hn => ?_⟩⟩
  · obtain ⟨h1, ⟨hv, h2⟩ | ⟨g', cap', cur, hv, h3, h4, h5, h6, h7, h8⟩⟩ := h
    · cases hv
    · injection hv with e1 e2 e3
      injection e1 with e1
      injection e1 with e1
      subst e1 e3
      have hg := lt_of_heap h4
      have hcur : w.heap[g] = .cells cur 37 (0, 0) := by
        have := h4
        rw [Array.getElem?_eq_getElem hg] at this
        exact Option.some.inj this
      refine ⟨by rw [encP.flat_len], .inr ⟨g, cap, putCells id 0 (flatK enc9 9 d) cur, ?_, h3, ?_, by rw [Array.length_toList, hd]; exact h5, h6, ?_, ?_⟩⟩
      · have : d.toList.length = L.length := by rw [Array.length_toList, hd]
        rw [this]
      · simp [sortWorldK, grow, putRowK, putRow, mapBlock, Sort.ahead, Array.getElem?_append, hg]
        rw [Array.getElem_modify, if_pos rfl, hcur]
        rfl
      · simp [putCells]; exact h7
      · have hn9 : (9 : Nat) = encP.n := rfl
        have hsz : L.length * 9 ≤ cur.size := by rw [h7]; exact Nat.mul_le_mul_right 9 h5
        apply List.ext_getElem?
        intro i
        rw [List.getElem?_take, Array.length_toList, hd]
        by_cases hi : i < L.length * encP.n
        · rw [if_pos hi]
          have hi' : i < L.length * 9 := hi
          have hdv : i / 9 < d.toList.length := by rw [Array.length_toList, hd]; omega
          have hic : i < cur.size := by omega
          have gt := encP.flat_get d.toList (i / 9) hdv (i % 9) (by show i % 9 < 9; omega)
          have e9 : i / 9 * encP.n + i % 9 = i := by show i / 9 * 9 + i % 9 = i; omega
          rw [e9] at gt
          rw [gt]
          have hl : (encP.cells d.toList[i / 9]).length = 9 := encP.len _
          have hlt : i % 9 < (encP.cells d.toList[i / 9]).length := by rw [hl]; omega
          rw [List.getElem?_eq_getElem hlt]
          have e0 : d[i / 9]! = d.toList[i / 9] := by
            rw [getElem!_pos d (i / 9) (by omega), ← Array.getElem_toList]
          rw [Array.getElem?_toList]
          unfold putCells
          rw [Array.getElem?_mapIdx, Array.getElem?_eq_getElem hic, Option.map_some, if_pos (by rw [size_flatK, hd]; omega), Nat.sub_zero, get_flatK _ _ _ _ (by rw [hd]; exact hi'), e0]
          show some ((encP.cells d.toList[i / 9])[i % 9]!) = _
          rw [getElem!_pos (encP.cells d.toList[i / 9]) (i % 9) hlt]
        · rw [if_neg hi, List.getElem?_eq_none]
          rw [encP.flat_len, Array.length_toList, hd]
          omega
  · simp [sortWorldK, grow, putRowK, putRow, mapBlock, Sort.ahead]
  · simp [sortWorldK, grow, putRowK, putRow, mapBlock, Sort.ahead, Array.getElem?_append, hj, Array.getElem_modify, Ne.symm hn]

set_option maxRecDepth 100000 in
set_option maxHeartbeats 1000000 in
/-- Panes sorted by their End, those of one End in their order. -/
theorem sortP_any {base g cap : Nat} {L : List Pn} {w : World} (M : List Pn) (hM : M.Pairwise fun x y => x.b ≤ y.b) (hF : ∀ e, Sb.at_ endP e M = Sb.at_ endP e L) (hL : M.length = L.length) (h : encP.Own 37 w base (.slice (some ⟨g, 0, none⟩) L.length cap) L) (hsz : L.length ≤ 2000000000000) :
    Calls Try.prog 31 #[.slice (some ⟨g, 0, none⟩) L.length cap, .func (.func 32) #[] #[]] w fun e w' =>
      e = .returned (.tuple #[]) ∧ encP.Own 37 w' base (.slice (some ⟨g, 0, none⟩) M.length cap) M ∧ Touch (fun x => x = g) w w' := by
  have eg : ∀ args w, (callFunc 32 args).run Try.prog w = .ok (.enter 32 args) w := enters_of Try.func32 (by kernel_rfl) rfl
  have hb : g < w.heap.size := by obtain ⟨-, cur, hc⟩ := Rc.own_block h (g := g) rfl; exact lt_of_heap hc
  have hH := holds9 h
  have hN : L.toArray.size = L.length := by simp
  have R : RowK enc9 9 w g 0 L.toArray := ⟨fun x => encP.len x, fun x => encP.one x, hH, hb⟩
  have G : Sb.Gv Try.prog 9 endP enc9 32 #[] g 0 L.toArray w := ⟨R, eg, laysP g 0 _ w, by omega⟩
  have CI : ∀ (a b : Nat) (d : Array Pn) (W : World), d.size = L.toArray.size → SWK enc9 9 w g 0 d W → a ≤ b → b ≤ L.toArray.size → Calls Try.prog 42 #[.slice (some ⟨g, 0, none⟩) L.toArray.size cap, .int .i64 a, .int .i64 b, .func (.func 32) #[] #[]] W fun e w' => e = .returned (.tuple #[]) ∧ SWK enc9 9 w g 0 (insertionSort (Sb.lt endP) d a b) w' := fun a b d W hd S hab hb' => by
    have hs' : (insertionSort (Sb.lt endP) d a b).size = d.size := (insertionSort_holds (Sb.swo endP) d a b hab (by omega)).1.1
    have hcon := AnyQ.insertionSortCmpFunc Try.insP 9 Try.isAgg37 Try.sizeOf37 enc9 R.hk R.h1 (fun x y => Lib.compareInt (endP x) (endP y)) 32 #[] g 0 cap a b d W eg (laysP g 0 _ W) (S.holds hb hH hd) (S.lt hb) hab (by omega) (by omega)
    rw [ltE] at hcon
    change Calls Try.prog 42 _ _ _ at hcon
    rw [hd] at hcon
    refine hcon.mono fun e w' ⟨he, n, os, hw⟩ => ⟨he, ?_⟩
    rw [hw]
    exact S.on hb n _ os hs'
  have CS := hide (Sb.stable_any ls G cap (by omega) CI (SWK.start hH))
  have FIN : Hid (∀ (d : Array Pn) (w' : World), Sb.St endP 0 L.toArray.size L.toArray d → Sb.Up endP 0 L.toArray.size d → SWK enc9 9 w g 0 d w' → encP.Own 37 w' base (.slice (some ⟨g, 0, none⟩) M.length cap) M ∧ Touch (fun x => x = g) w w') := hide fun d w' h1 h2 h3 => by
    have hd : d.size = L.length := h1.size.trans hN
    have hm : d.toList = M := by
      refine Sb.sorted_ext (key := endP) _ _ (Sb.sorted_list d (by rw [hd, ← hN]; exact h2.in_)) hM fun e => ?_
      rw [h1.stab e, hF e]
    have := own9 h hd h3
    rw [hm] at this
    rw [hL]
    exact this
  rw [hN] at CS
  clear G R CI hH eg h hF hM
  generalize L.length = n at *
  go_enter Try.func31, Try.ntmps31
  go_wp2_with (go_at_call 38; refine CS.out.mono ?_; rintro e w' ⟨rfl, d', h1, h2, h3⟩)
  go_end0
  exact ⟨rfl, FIN.out d' w' (by rw [hN]; exact h1) (by rw [hN]; exact h2) h3⟩

set_option maxRecDepth 100000 in
theorem ins_none (po : Option Addr) (cap : Nat) (fv : Value) (w : World) : Calls Try.prog 42 #[.slice po 0 cap, .int .i64 0, .int .i64 0, fv] w fun e w' => e = .returned (.tuple #[]) ∧ w' = w := by
  go_enter Try.func42, Try.ntmps42
  go_wp2
  refine wp_loop_rounds 1 ?_
  rw [rounds_succ]
  go_wp2
  go_end0
  exact ⟨rfl, rfl⟩

set_option maxRecDepth 100000 in
theorem stable_none (po : Option Addr) (cap : Nat) (fv : Value) (w : World) : Calls Try.prog 38 #[.slice po 0 cap, .int .i64 0, fv] w fun e w' => e = .returned (.tuple #[]) ∧ w' = w := by
  have C1 := fun w => hide (ins_none po cap fv w)
  go_enter Try.func38, Try.ntmps38
  go_wp2
  refine wp_loop_rounds 1 ?_
  rw [rounds_succ]
  go_wp2_with (go_at_call 42; refine (C1 _).out.mono ?_; rintro e w' ⟨rfl, rfl⟩)
  refine wp_loop_rounds 1 ?_
  rw [rounds_succ]
  go_wp2
  go_end0
  exact ⟨rfl, rfl⟩

set_option maxRecDepth 100000 in
theorem sortP_none (po : Option Addr) (cap : Nat) (fv : Value) (w : World) : Calls Try.prog 31 #[.slice po 0 cap, fv] w fun e w' => e = .returned (.tuple #[]) ∧ w' = w := by
  have C1 := fun w => hide (stable_none po cap fv w)
  go_enter Try.func31, Try.ntmps31
  go_wp2_with (go_at_call 38; refine (C1 _).out.mono ?_; rintro e w' ⟨rfl, rfl⟩)
  go_end0
  exact ⟨rfl, rfl⟩

end Go.Proofs.Ytfmlbcddomggaaa
