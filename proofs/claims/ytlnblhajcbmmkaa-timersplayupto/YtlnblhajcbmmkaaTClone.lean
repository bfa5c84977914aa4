/- slices.SortFunc of timers. slices.Clone of timers. -/
import Derived.Test.YtlnblhajcbmmkaaTRDue
import Derived.Shelf.SlSortCmp.WholeK
import Derived.Shelf.Lay
import Derived.Ground.SlsfProg
namespace Go.Proofs.Ytlnblhajcbmmkaa
open Go.Shelf Go.RowKit Go.Lib Go.Sort
shelf_lay_g SlLaysF0.n6 Slsf 6 at Try 33 as Try.sortT

instance : Inhabited Tm := ⟨tm0⟩

/-- A timer's cells, as a list. -/
def enc4 (x : Tm) : List Value := [.int .i64 x.at_, .string x.key, .int .i64 x.start, .int .i64 x.stop]

theorem isAggT (w : World) : (isAgg 35).run Try.prog w = .ok true w := by kernel_rfl
theorem sizeT (w : World) : (Go.sizeOf 35).run Try.prog w = .ok 4 w := by kernel_rfl

theorem ltT (x y : Tm) : ltOf cmpT x y = decide (cmpT x y < 0) := rfl

theorem swoT : SWO (ltOf cmpT) where
  irrefl x := by rw [ltT, cmpT_eq.2 rfl]; decide
  trans x y z h1 h2 := by
    rw [ltT] at *
    exact decide_eq_true (clt (of_decide_eq_true h1) (of_decide_eq_true h2))
  ntrans x y z h1 h2 := by
    rw [ltT] at *
    refine decide_eq_false fun h3 => ?_
    have g1 := of_decide_eq_false h1
    have g2 := of_decide_eq_false h2
    have a1 := cmpT_ord.anti x y
    have a2 := cmpT_ord.anti y z
    have a3 := cmpT_ord.anti x z
    have := cmpT_ord.trans z y x (by omega) (by omega)
    omega

theorem lays (g off size : Nat) (w : World) : CmpLays Try.prog 16 #[] enc4 4 cmpT g off size w :=
  fun m os dk _ x y => (compareT_any x y _).mono fun e w' h => by
    obtain ⟨rfl, rfl⟩ := h
    refine ⟨rfl, 0, #[.cells (tc x) 35] ++ #[.cells (tc y) 35], ?_⟩
    show ((sortWorldK enc4 4 w g off m dk os).alloc (.cells (tc x) 35)).alloc (.cells (tc y) 35) = _
    rw [alloc_eq_grow, alloc_eq_grow, grow_grow]
    rfl

theorem get4 (R : List Tm) (j : Nat) (hj : j < R.length * 4) : (tcells R)[j]? = some ((enc4 R.toArray[j / 4]!)[j % 4]!) := by
  obtain ⟨g0, g1, g2, g3⟩ := tcells_get R (j / 4) (by omega)
  have e : R.toArray[j / 4]! = R[j / 4]'(by omega) := by simp [show j / 4 < R.length by omega]
  rw [e]
  rcases (show j % 4 = 0 ∨ j % 4 = 1 ∨ j % 4 = 2 ∨ j % 4 = 3 by omega) with h | h | h | h
  · rw [h]; have hj2 : j = j / 4 * 4 := by omega
    rw [← hj2] at g0; exact g0
  · rw [h]; have hj2 : j = j / 4 * 4 + 1 := by omega
    rw [← hj2] at g1; exact g1
  · rw [h]; have hj2 : j = j / 4 * 4 + 2 := by omega
    rw [← hj2] at g2; exact g2
  · rw [h]; have hj2 : j = j / 4 * 4 + 3 := by omega
    rw [← hj2] at g3; exact g3

theorem holds4 {w : World} {base g cap n : Nat} {R : List Tm} (h : OwnT w base (.slice (some ⟨g, 0, none⟩) n cap) R) : HoldsK enc4 4 w g 0 R.toArray := by
  intro j hj
  rw [size_flatK] at hj
  have hj' : j < R.length * 4 := by simpa using hj
  obtain ⟨_, h2, h3, _⟩ := h.prs
  obtain ⟨_, _, _, cs, hc⟩ := h3 _ rfl
  have hc2 := h2.cells j _ (get4 R j hj')
  rw [Addr.add_lit] at hc2
  refine ⟨?_, by simp [World.frozen?, hc]⟩
  rw [get_flatK _ _ _ _ hj]
  exact hc2

theorem touch_sort (w : World) (g off n : Nat) (d : Array Tm) (os : Array Obj) : Touch (fun x => x = g) w (sortWorldK enc4 4 w g off n d os) := by
  refine ⟨rfl, rfl, rfl, ?_, fun j hj hn => ?_⟩
  · simp [sortWorldK, grow, putRowK, putRow, mapBlock, Sort.ahead]
  · simp [sortWorldK, grow, putRowK, putRow, mapBlock, Sort.ahead, Array.getElem?_append, hj, Array.getElem_modify, Ne.symm hn]

set_option maxRecDepth 100000 in
theorem sort_any {base g cap : Nat} {R : List Tm} {w : World} (h : OwnT w base (.slice (some ⟨g, 0, none⟩) R.length cap) R) (hsz : R.length < 4611686018427387904) :
    Calls Try.prog 33 #[.slice (some ⟨g, 0, none⟩) R.length cap, .func (.func 16) #[] #[]] w fun e w' =>
      e = .returned (.tuple #[]) ∧ ∃ R', R'.Perm R ∧ (∀ i j, i < j → j < R.length → ¬ cmpT (nth R' j) (nth R' i) < 0) ∧ Tms w' (some ⟨g, 0, none⟩) R' ∧ Touch (fun x => x = g) w w' := by
  have eg : ∀ args w, (callFunc 16 args).run Try.prog w = .ok (.enter 16 args) w := enters_of Try.func16 (by kernel_rfl) rfl
  have hb : g < w.heap.size := by obtain ⟨_, _, _, cs, hc⟩ := h.prs.2.2.1 _ rfl; exact lt_of_heap hc
  have hH := holds4 h
  have hcon := AnyQ.slices_SortFunc Try.sortT 4 isAggT sizeT enc4 (fun _ => rfl) (fun x v hv => by simp [enc4] at hv; rcases hv with rfl | rfl | rfl | rfl <;> rfl) cmpT swoT 16 #[] g 0 cap R.toArray w eg (lays g 0 _ w) hH hb (by simpa using hsz)
  change Calls Try.prog 33 #[.slice (some ⟨g, 0, none⟩) R.length cap, .func (.func 16) #[] #[]] w _ at hcon
  refine hcon.mono fun e w' ⟨he, d', n, os, hp, hs, hw⟩ => ?_
  subst hw
  obtain ⟨p1, _, p3⟩ := hp
  have hsz' : d'.size = R.length := by simpa using p1
  have hperm : d'.toList.Perm R := by
    have h9 := p3
    rw [← p1] at h9
    simp only [Array.extract_size] at h9
    have e9 : (R.toArray.extract 0 d'.size).toList = R := by rw [hsz']; simp
    rw [e9] at h9
    exact h9
  have hH' : HoldsK enc4 4 (sortWorldK enc4 4 w g 0 n d' os) g 0 d' := holdsK_grow enc4 4 _ _ _ _ _ (by simp [putRowK, putRow, mapBlock, Sort.ahead]; exact hb) (holdsK_putRowK enc4 4 _ _ _ _ _ (holdsK_ahead enc4 4 _ _ _ _ _ hH) (by simpa using p1))
  have hnth : ∀ i, i < R.length → d'[i]! = nth d'.toList i := fun i hi => by simp [nth, hsz', hi]
  refine ⟨he, d'.toList, hperm, fun i j hij hj => ?_, fun j hj => ?_, touch_sort w g 0 n d' os⟩
  · have := hs i j (Nat.zero_le _) hij (by simpa using hj)
    rw [ltT, hnth i (by omega), hnth j hj] at this
    exact of_decide_eq_false this
  · have hj' : j < d'.size := by simpa using hj
    have e0 : d'[j]! = d'.toList[j] := by simp [hj']
    refine ⟨g, 0, rfl, ?_⟩
    have k0 := (hH'.cell (i := j) (c := 0) hj' (by decide)).1
    have k1 := (hH'.cell (i := j) (c := 1) hj' (by decide)).1
    have k2 := (hH'.cell (i := j) (c := 2) hj' (by decide)).1
    have k3 := (hH'.cell (i := j) (c := 3) hj' (by decide)).1
    rw [e0] at k0 k1 k2 k3
    exact ⟨k0, k1, k2, k3⟩

end Go.Proofs.Ytlnblhajcbmmkaa

namespace Go.Proofs.Ytlnblhajcbmmkaa
open Go.RowKit

theorem sl_nil (ao : Option Addr) (n cap : Nat) (W : World) : (binOp .eql 22 (.slice ao n cap) (.slice none 0 0)).run Try.prog W = .ok (.bool ao.isNone) W := by
  have e : binOp .eql 22 (.slice ao n cap) (.slice none 0 0) = (do pure (.bool (← Op.equalIn (9999 + 1) 22 (.slice ao n cap) (.slice none 0 0)))) := rfl
  rw [e]
  unfold Op.equalIn
  cases ao <;> simp [Sem.run_bind, run_underlying Try.underlying22, Result.andThen_ok, go_sem]

theorem town_empty (w : World) : OwnT (w.alloc (.cells #[] 35)) w.heap.size (.slice (some ⟨w.heap.size, 0, none⟩) 0 0) [] :=
  ⟨rfl, .inr ⟨w.heap.size, 0, #[], rfl, Nat.le_refl _, heap_alloc_last w _, Nat.le_refl _, Nat.zero_le _, rfl, rfl⟩⟩

set_option maxRecDepth 100000 in
set_option maxHeartbeats 1000000 in
theorem tclone_any (ao : Option Addr) (cap : Nat) (l : List Tm) (w : World) (h : Rl w ao cap l) (hb : l.length < 3518437208790) :
    Calls Try.prog 32 #[.slice ao l.length cap] w fun e w' => ∃ ao' cap', e = .returned (.slice ao' l.length cap') ∧ OwnT w' w.heap.size (.slice ao' l.length cap') l ∧ Calm w w' := by
  cases ao with
  | none =>
    have hl : l = [] := by
      cases l with
      | nil => rfl
      | cons x l => obtain ⟨b, off, e, _⟩ := h.tms 0 (by simp); cases e
    subst hl
    obtain rfl := h.nil rfl
    have hx := sl_nil none 0 0 w
    clear h
    simp only [List.length_nil]
    go_enter Try.func32, Try.ntmps32
    go_wp2_with fail
    go_ret
    exact ⟨none, 0, rfl, World.ownsRow_nil _ _ _ _, Touch.refl _ _⟩
  | some a =>
    have tA : Calm w (w.alloc (.cells #[] 35)) := (Touch.refl _ _).alloc _
    have O0 := hide (town_empty w)
    have PR := hide (h.tms.calm tA)
    have TA := hide tA
    have HB : Hid (([] : List Tm).length + l.length ≤ 3518437208800) := hide (by simp; omega)
    have hx := sl_nil (some a) l.length cap w
    obtain ⟨L, hL⟩ : ∃ L, l.length = L := ⟨_, rfl⟩
    have HL := hide hL
    rw [hL] at hx ⊢
    clear h tA hb hL
    go_enter Try.func32, Try.ntmps32
    go_wp2_with (at_builtin; refine wpList_tapp rfl (.tmp 5) (.tmp 6) rfl w.heap.size _ [] rfl O0.out (some a) L cap l HL.out rfl PR.out (fun h => (nomatch h)) HB.out TA.out.size ?ny)
    case ny =>
      intro ao4 cap4 w4 ow4 t4
      have T4 : Hid (Calm w w4) := hide (TA.out.trans t4 (fun g hg hs => by have := (own_block O0.out hs).1; omega))
      have OW4 : Hid (OwnT w4 w.heap.size (.slice ao4 L cap4) l) := hide (by simpa [HL.out] using ow4)
      have e4 : l.length = L := HL.out
      try rw [List.nil_append]
      try rw [e4]
      clear ow4 t4 e4 hx
      go_wp2_with fail
      go_ret
      exact ⟨ao4, cap4, rfl, OW4.out, T4.out⟩

end Go.Proofs.Ytlnblhajcbmmkaa
