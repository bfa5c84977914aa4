/- The program's pile: rising (slices.SortFunc of holds by their names). -/
import Derived.Test.YtapnjofplilefaaGreatJ4
import Derived.Test.YtapnjofplilefaaGreatJUc
import Derived.Shelf.SlSortCmp.WholeK
import Derived.Shelf.Lay
import Derived.Ground.SlsfProg
namespace Go.Proofs.YtapnjofplilefaaGreat
open Go.Shelf Go.RowKit Go.Lib Go.Sort
shelf_lay_g SlLaysF0.n6 Slsf 6 at Tryz 73 as Tryz.sortH

/-- A hold as a record: its name, its time, its place. -/
structure Hr where
  n : ByteArray
  t : Int
  k : Int
instance : Inhabited Hr := ⟨⟨⟨#[]⟩, 0, 0⟩⟩
def enc3 (x : Hr) : List Value := [.string x.n, .int .i64 x.t, .int .i64 x.k]
abbrev hrc (x : Hr) : Array Value := #[.string x.n, .int .i64 x.t, .int .i64 x.k]
def hdR (x : Hr) : Hd := ⟨x.n, x.t⟩
def cmpR (a b : Hr) : Int := Sc.cmpS a.n b.n

theorem isAggR (w : World) : (isAgg 149).run Tryz.prog w = .ok true w := by kernel_rfl
theorem sizeR (w : World) : (Go.sizeOf 149).run Tryz.prog w = .ok 3 w := by kernel_rfl
theorem ltR (x y : Hr) : ltOf cmpR x y = decide (cmpR x y < 0) := rfl
theorem swoR : SWO (ltOf cmpR) where
  irrefl x := by rw [ltR]; unfold cmpR; rw [Sc.cmpS_ord.self]; decide
  trans x y z h1 h2 := by
    rw [ltR] at *
    exact decide_eq_true (Sc.cmpS_ord.lt_le (of_decide_eq_true h1) (Int.le_of_lt (of_decide_eq_true h2)))
  ntrans x y z h1 h2 := by
    rw [ltR] at *
    unfold cmpR at *
    refine decide_eq_false fun h3 => ?_
    have g1 := of_decide_eq_false h1
    have g2 := of_decide_eq_false h2
    have a1 := Sc.cmpS_ord.anti x.n y.n
    have a2 := Sc.cmpS_ord.anti y.n z.n
    have a3 := Sc.cmpS_ord.anti x.n z.n
    have := Sc.cmpS_ord.trans z.n y.n x.n (by omega) (by omega)
    omega

set_option maxRecDepth 100000 in
theorem cmpH_any (x y : Hr) (w : World) : Calls Tryz.prog 74 #[.agg (hrc x), .agg (hrc y)] w fun e w' => e = .returned (.int .i64 (cmpR x y)) ∧ w' = (w.alloc (.cells (hrc x) 149)).alloc (.cells (hrc y) 149) := by
  have C := hide (Sc.compareS_any x.n y.n ((w.alloc (.cells (hrc x) 149)).alloc (.cells (hrc y) 149)))
  go_enter Tryz.func74, Tryz.ntmps74
  go_wp2_with fail
  refine C.out.mono ?_
  rintro e w9 ⟨rfl, rfl⟩
  go_wp2_with fail
  go_ret
  exact ⟨rfl, rfl⟩

theorem laysR (g off size : Nat) (w : World) : CmpLays Tryz.prog 74 #[] enc3 3 cmpR g off size w :=
  fun m os dk _ x y => (cmpH_any x y _).mono fun e w' h => by
    obtain ⟨rfl, rfl⟩ := h
    refine ⟨rfl, 0, #[.cells (hrc x) 149] ++ #[.cells (hrc y) 149], ?_⟩
    show ((sortWorldK enc3 3 w g off m dk os).alloc (.cells (hrc x) 149)).alloc (.cells (hrc y) 149) = _
    rw [alloc_eq_grow, alloc_eq_grow, grow_grow]
    rfl

/-- A row of holds. -/
def Rh (w : World) (g : Nat) (R : List Hr) : Prop := ∃ cur : Array Value, w.heap[g]? = some (.cells cur 149 (0, 0)) ∧ ∀ j, j < R.length → ∀ c, c < 3 → cur[j * 3 + c]? = some ((enc3 (R.getD j default))[c]!)

theorem Rh.touch {w w' : World} {S : Nat → Prop} {g : Nat} {R : List Hr} (h : Rh w g R) (ht : Touch S w w') (hS : ¬ S g) : Rh w' g R := by
  obtain ⟨cur, h1, h2⟩ := h
  exact ⟨cur, ht.heap h1 hS, h2⟩
theorem Rh.see {w : World} {g : Nat} {R : List Hr} (h : Rh w g R) (j : Nat) (hj : j < R.length) : w.cell? ⟨g, j * 3, none⟩ = some (.string (R.getD j default).n) ∧ w.cell? ⟨g, j * 3 + 1, none⟩ = some (.int .i64 (R.getD j default).t) ∧ w.cell? ⟨g, j * 3 + 2, none⟩ = some (.int .i64 (R.getD j default).k) := by
  obtain ⟨cur, h1, h2⟩ := h
  have a := h2 j hj 0 (by omega)
  have b := h2 j hj 1 (by omega)
  have c := h2 j hj 2 (by omega)
  refine ⟨?_, ?_, ?_⟩
  · simp only [World.cell?, h1]; exact a
  · simp only [World.cell?, h1]; exact b
  · simp only [World.cell?, h1]; exact c

theorem holds3 {w : World} {g : Nat} {R : List Hr} (h : Rh w g R) : HoldsK enc3 3 w g 0 R.toArray := by
  intro j hj

  rw [size_flatK] at hj
  have hj' : j < R.length * 3 := by simpa using hj
  obtain ⟨cur, h1, h2⟩ := h
  have := h2 (j / 3) (by omega) (j % 3) (by omega)
  rw [show j / 3 * 3 + j % 3 = j by omega] at this
  refine ⟨?_, by simp [World.frozen?, h1]⟩
  rw [get_flatK _ _ _ _ hj]
  have e : R.toArray[j / 3]! = R.getD (j / 3) default := by simp [show j / 3 < R.length by omega]
  rw [e]
  simp only [World.cell?, h1, Nat.zero_add]
  exact this

theorem touch_sortR (w : World) (g off n : Nat) (d : Array Hr) (os : Array Obj) : Touch (fun x => x = g) w (sortWorldK enc3 3 w g off n d os) := by
  refine ⟨rfl, rfl, rfl, ?_, fun j hj hn => ?_⟩
  · simp [sortWorldK, grow, putRowK, putRow, mapBlock, Sort.ahead]
  · simp [sortWorldK, grow, putRowK, putRow, mapBlock, Sort.ahead, Array.getElem?_append, hj, Array.getElem_modify, Ne.symm hn]

/-- A row of holds by its cells alone. -/
def Rv (w : World) (g : Nat) (R : List Hr) : Prop := ∀ j, j < R.length → w.cell? ⟨g, j * 3, none⟩ = some (.string (R.getD j default).n) ∧ w.cell? ⟨g, j * 3 + 1, none⟩ = some (.int .i64 (R.getD j default).t) ∧ w.cell? ⟨g, j * 3 + 2, none⟩ = some (.int .i64 (R.getD j default).k)
theorem Rv.touch {w w' : World} {S : Nat → Prop} {g : Nat} {R : List Hr} (h : Rv w g R) (ht : Touch S w w') (hS : ¬ S g) (hg : g < w.heap.size) : Rv w' g R := fun j hj => by
  obtain ⟨a, b, c⟩ := h j hj
  exact ⟨(ht.cell (p := ⟨g, j * 3, none⟩) hg hS).trans a, (ht.cell (p := ⟨g, j * 3 + 1, none⟩) hg hS).trans b, (ht.cell (p := ⟨g, j * 3 + 2, none⟩) hg hS).trans c⟩

set_option maxRecDepth 100000 in
theorem sortR_any {g cap : Nat} {R : List Hr} {w : World} (h : Rh w g R) (hsz : R.length < 4611686018427387904) :
    Calls Tryz.prog 73 #[.slice (some ⟨g, 0, none⟩) R.length cap, .func (.func 74) #[] #[]] w fun e w' =>
      e = .returned (.tuple #[]) ∧ ∃ R' : List Hr, R'.Perm R ∧ (∀ i j, i < j → j < R.length → ¬ cmpR (R'.getD j default) (R'.getD i default) < 0) ∧ Rv w' g R' ∧ Touch (fun x => x = g) w w' := by
  have eg : ∀ args w, (callFunc 74 args).run Tryz.prog w = .ok (.enter 74 args) w := enters_of Tryz.func74 (by kernel_rfl) rfl
  have hb : g < w.heap.size := by obtain ⟨cur, hc, -⟩ := h; exact lt_of_heap hc
  have hH := holds3 h
  have hcon := AnyQ.slices_SortFunc Tryz.sortH 3 isAggR sizeR enc3 (fun _ => rfl) (fun x v hv => by simp [enc3] at hv; rcases hv with rfl | rfl | rfl <;> rfl) cmpR swoR 74 #[] g 0 cap R.toArray w eg (laysR g 0 _ w) hH hb (by simpa using hsz)
  change Calls Tryz.prog 73 #[.slice (some ⟨g, 0, none⟩) R.length cap, .func (.func 74) #[] #[]] w _ at hcon
  refine hcon.mono fun e w' ⟨he, d', n, os, hp, hs, hw⟩ => ?_
  subst hw
  obtain ⟨p1, _, p3⟩ := hp
  have hsz' : d'.size = R.length := by simpa using p1
  have hperm : d'.toList.Perm R := by
    have h9 := p3
    rw [← p1] at h9
    simp only [Array.extract_size] at h9
    have e9 : (R.toArray.extract 0 d'.size).toList = R := by rw [hsz']; simp
    rw [e9] at h9
    exact h9
  have hH' : HoldsK enc3 3 (sortWorldK enc3 3 w g 0 n d' os) g 0 d' := holdsK_grow enc3 3 _ _ _ _ _ (by simp [putRowK, putRow, mapBlock, Sort.ahead]; exact hb) (holdsK_putRowK enc3 3 _ _ _ _ _ (holdsK_ahead enc3 3 _ _ _ _ _ hH) (by simpa using p1))
  have hnth : ∀ i, i < R.length → d'[i]! = d'.toList.getD i default := fun i hi => by simp [hsz', hi]
  refine ⟨he, d'.toList, hperm, fun i j hij hj => ?_, fun j hj => ?_, touch_sortR w g 0 n d' os⟩
  · have := hs i j (Nat.zero_le _) hij (by simpa using hj)
    rw [ltR, hnth i (by omega), hnth j hj] at this
    exact of_decide_eq_false this
  · have hj' : j < d'.size := by simpa using hj
    have k0 := (hH'.cell (i := j) (c := 0) hj' (by decide)).1
    have k1 := (hH'.cell (i := j) (c := 1) hj' (by decide)).1
    have k2 := (hH'.cell (i := j) (c := 2) hj' (by decide)).1
    rw [hnth j (by omega)] at k0 k1 k2
    simp only [Nat.zero_add, Nat.add_zero] at k0 k1 k2
    exact ⟨k0, k1, k2⟩

end Go.Proofs.YtapnjofplilefaaGreat
