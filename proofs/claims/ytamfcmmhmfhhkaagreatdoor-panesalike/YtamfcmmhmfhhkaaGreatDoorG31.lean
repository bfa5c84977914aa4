/- The program's panes by windows. A range over an iterator that keeps a row of its own between its rounds, and whose rounds may change memory that was there and also rows of other types made while it goes: a law of one's own, over the library's steps. The program's tell: what stands on a stack, told one by one; rounds may change other rows made meanwhile. The program's walks, as iterators whose rounds may change other rows made meanwhile. -/
import Derived.Test.YtamfcmmhmfhhkaaGreatDoorG27
import Derived.Test.YtamfcmmhmfhhkaaGreatDoorG30
import Derived.Deep.CutRange
import Derived.Great.BuildSlice
import Derived.Test.YtamfcmmhmfhhkaaGreatDoorG22
namespace Go.Proofs.YtamfcmmhmfhhkaaGreatDoor
open Go.RowKit

/-- compareWindows as an order of the store. -/
theorem cmpWs : PM.Cmp 41 #[] cmpW (fun _ => True) where
  enter := fun args w => by kernel_rfl
  calls := fun a b w _ => cmpW_any a b w
  calm := fun _ _ _ _ => trivial

set_option maxRecDepth 100000 in
set_option maxHeartbeats 4000000 in
theorem byWindows_any (L : List Pn) (ao : Option Addr) (ac : Nat) (w : World) (ha : encP.Mem w ao L) (hl : L.length ≤ 100000) : Calls Tryz.prog 26 #[.slice ao L.length ac] w fun e w' => ∃ m X, e = .returned (.pointer (some ⟨m, 0, none⟩)) ∧ PM.Mt w' m 41 #[] X ∧ Bv L X ∧ w.heap.size ≤ m ∧ Calm w w' := by
  have CO := hide (PM.new_any 41 #[] w)
  obtain ⟨x, hx⟩ : ∃ x : Nat → Pn, ∀ i, x i = L.getD i pn0 := ⟨fun i => L.getD i pn0, fun _ => rfl⟩
  obtain ⟨o, ho⟩ : ∃ o : Nat → List Pn, ∀ i, o i = L.take i := ⟨fun i => L.take i, fun _ => rfl⟩
  have SA : Hid (∀ j, j < L.length → ∃ g off, ao = some ⟨g, off, none⟩ ∧ ∀ W, Calm w W → pcell W g (off + j * 9) (x j)) := hide fun j hj => by
    rw [hx]; exact pn_W ha j hj
  have OS : Hid (∀ i, i < L.length → o (i + 1) = o i ++ [x i]) := hide fun i hi => by
    rw [ho, ho, hx, List.take_add_one, List.getElem?_eq_getElem hi, List.getD_eq_getElem?_getD, List.getElem?_eq_getElem hi]
    rfl
  have OL : Hid (∀ i, i ≤ L.length → (o i).length ≤ i) := hide fun i _ => by rw [ho, List.length_take]; omega
  have O0 : Hid (o 0 = []) := hide (by rw [ho]; rfl)
  have OE : Hid (o L.length = L) := hide (by rw [ho, List.take_length])
  clear ho hx ha
  generalize hn : L.length = n at *
  go_enter Tryz.func26, Tryz.ntmps26
  go_wp2_with fail
  refine CO.out.mono ?_
  rintro e w1 ⟨m, rfl, hM, hm0, T1⟩
  have B0 : Hid (PM.Mt w1 m 41 #[] [] ∧ Bv (o 0) []) := hide ⟨hM, by rw [O0.out]; exact Bv.nil⟩
  have HM0 := hide hm0
  have HT1 := hide T1
  clear hM hm0 T1 CO O0
  go_wp2_with fail
  go_loopw [13] (fun s13 wr => ∃ (i : Nat) (X : List (Pn × Pn)), s13 = .int .i64 (i : Int) ∧ i ≤ n ∧ PM.Mt wr m 41 #[] X ∧ Bv (o i) X ∧ Calm w wr) (fun s13 _ => n - (intOf s13).toNat)
  case atStart => exact ⟨0, [], rfl, by omega, B0.out.1, B0.out.2, HT1.out⟩
  case round =>
    obtain ⟨i, X, rfl, hi, hM, hB, hC⟩ := hrel
    by_cases hlt : i < n
    · have hltz : (i : Int) < (n : Int) := by omega
      obtain ⟨g, off, rfl, ca⟩ := SA.out i hlt
      have crow := ca wr hC
      have hs := hide (OS.out i hlt)
      have hol := hide (OL.out i (by omega))
      have BM := hide hM
      have BI := hide hB
      have HC := hide hC
      have hi9 : (Tryz.prog.info? 40).map (·.size) = some 9 := by kernel_rfl
      clear SA OS OL OE ca hM hB hC B0 HT1
      generalize x i = p at *
      have Z0 := hide (al_new wr (.cells (pnc pn0) 40))
      have Z1 := hide (setRow_heap _ _ _ (pnc p) _ _ Z0.out)
      have Z2 : Hid (Touch (fun _ => False) wr ((wr.alloc (.cells (pnc pn0) 40)).setRow wr.heap.size (pnc p))) := hide (((Touch.refl (fun _ => False) wr).alloc _).trans (S' := fun g => g = wr.heap.size) ⟨rfl, rfl, rfl, by simp, fun j _ hj => setRow_other _ _ j _ hj⟩ (fun g hg e => by omega))
      have hq1 : Hid ((pnc p).all (·.oneCell') = true) := hide (by simp [Value.oneCell'])
      have M2 := hide (BM.out.calm Z2.out)
      have HC2 := hide (HC.out.tr Z2.out)
      have CP := hide (PM.put_any cmpWs m p p _ X M2.out trivial (BI.out.up.dec cmpW_ord p) ⟨by have := BI.out.num; have := hol.out; omega⟩)
      obtain ⟨⟨c0, c1, c2, c3, c4⟩, c5, c6, c7, c8⟩ := crow
      clear BM HC
      go_upto_region 5 with (refine wpList_store_rowTo rfl 40 (.tmp 6) (.tmp 16) rfl rfl wr.heap.size (pnc p) rfl rfl 40 _ Z0.out hi9 rfl hq1.out ?_)
      clear c0 c1 c2 c3 c4 c5 c6 c7 c8
      generalize (wr.alloc (.cells (pnc pn0) 40)).setRow wr.heap.size (pnc p) = w3 at *
      clear Z0 Z2
      generalize wr.heap.size = D at *
      obtain ⟨⟨c0, c1, c2, c3, c4⟩, c5, c6, c7, c8⟩ := pn_cells Z1.out
      go_wp2_with fail
      refine CP.out.mono ?_
      rintro e w4 ⟨rfl, M4, T4⟩
      have HM4 := hide M4
      have HB4 : Hid (Bv (o (i + 1)) (lput (cmpW p) p p X)) := hide (by rw [hs.out]; exact BI.out.put p)
      have HC4 : Hid (Calm w w4) := hide (HC2.out.trans T4 fun g hg e => by have := HM0.out; omega)
      clear c0 c1 c2 c3 c4 c5 c6 c7 c8 CP M4 T4 M2 HC2 Z1
      go_wp2_with fail
      go_roundw
      case rel => exact ⟨i + 1, _, by go_num, by omega, HM4.out, HB4.out, HC4.out⟩
      case measure => simp [intOf]; omega
    · have hltz : ¬ (i : Int) < (n : Int) := by omega
      obtain rfl : i = n := by omega
      rw [OE.out] at hB
      have HM := hide hM
      have HB := hide hB
      have HC := hide hC
      clear SA OS OL OE hM hB hC B0 HT1
      go_wp2_with fail
      go_ret
      exact ⟨m, rfl, X, HM.out, HB.out, HM0.out, HC.out⟩

end Go.Proofs.YtamfcmmhmfhhkaaGreatDoor

namespace Go.Proofs.YtamfcmmhmfhhkaaGreatDoor
open Go.RowKit

/-- S, and cells beyond B that are none of E's. -/
def Oth (E : TypeId) (S : Nat → Prop) (B : Nat) (W : World) : Nat → Prop := fun g => S g ∨ (B ≤ g ∧ ∃ cs t fr, W.heap[g]? = some (.cells cs t fr) ∧ t ≠ E)

/-- What an iterator is to do: as Seq; rounds touch S, and cells beyond where it began that are none of E's. -/
def SeqO {α : Type} (P : Program) (E ND : TypeId) (g : Nat) (lb : Array Value) (encs : α → Array Value) (m : Nat) (H : Nat → α → Prop) (A : World → Prop) : Prop :=
  ∀ (n l : Nat) (S : Nat → Prop) (J Jx : Nat → World → Prop) (W : World), A W → (∀ k, S k → k < W.heap.size ∧ ∀ cs fr, W.heap[k]? ≠ some (.cells cs ND fr)) → (∀ k W1 W2, J k W1 → Sly E W.heap.size W1 W2 → J k W2) →
    (∀ k x W1, J k W1 → k < m → H k x → YieldAt Fence.wide (n - 1) P l (encs x) W1 fun e W' => Touch (Oth E S W.heap.size W1) W1 W' ∧ ((e = .returned (.bool true) ∧ J (k + 1) W') ∨ (e = .returned (.bool false) ∧ Jx (k + 1) W'))) →
    J 0 W → CallsIn Fence.wide n P g (#[.func (.yield l) #[] #[]] ++ lb) W fun e W' => (∃ v, e = .returned v) ∧ (J m W' ∨ ∃ k, k ≤ m ∧ Jx k W')

/-- How a round's body may be left. -/
def leftByO (E : TypeId) (S : Nat → Prop) (B : Nat) (I : Nat → World → Prop) (Ix : Code → Nat → World → Prop) (k : Nat) (W : World) : Exit → Act → World → Prop
  | .normal, _, W' => KeepsOthers W W' ∧ Touch (Oth E S B W) W W' ∧ I k W'
  | .ret, _, W' => KeepsOthers W W' ∧ Touch (Oth E S B W) W W' ∧ Ix .ret k W'
  | .exit id, _, W' => KeepsOthers W W' ∧ Touch (Oth E S B W) W W' ∧ Ix (.exit id) k W'
  | .goto t, _, W' => KeepsOthers W W' ∧ Touch (Oth E S B W) W W' ∧ Ix (.goto t) k W'
  | .panic _, _, _ => False
  | .outgrown, _, _ => False

theorem wpIn_rangeO {α : Type} {P : Program} {n : Nat} {g : Operand} {ps : Array Tmp} {assign body : Code} {Q : Exit → Act → World → Prop} {a : Act} {w : World}
    {gf : Nat} {lb : Array Value} (hg : a.eval g = .func (.func gf) #[] lb) (eg : ∀ args w, (callFunc gf args).run P w = .ok (.enter gf args) w)
    {encs : α → Array Value} {m : Nat} {H : Nat → α → Prop} {A : World → Prop} {E ND : TypeId} (hseq : SeqO P E ND gf lb encs m H A) (hps : ∀ x, (encs x).size = ps.size)
    (S : Nat → Prop) (hS : ∀ k, S k → k < w.heap.size ∧ ∀ cs fr, w.heap[k]? ≠ some (.cells cs ND fr)) (hA : ∀ W, Calm w W → A W)
    (I : Nat → World → Prop) (Ix : Code → Nat → World → Prop) (Ax : Nat → α → Act → World → Prop)
    (hIt : ∀ k W W', I k W → Sly E w.heap.size W W' → I k W') (hIp : ∀ k, Bides w.heap.size (I k)) (hXp : ∀ c k, Bides w.heap.size (Ix c k)) (hAp : ∀ k x a', Bides w.heap.size (Ax k x a')) (h0 : I 0 w)
    (hassign : ∀ (l k : Nat) (x : α) (W : World) (K : Act → World → Prop), I k W → k < m → H k x → (∀ a' W', KeepsOthers W W' → Touch S W W' → I k W' → Ax k x a' W' → K a' W') →
      assign.wpIn (Fence.wide.inRound l) (n - 1 - 1) P (Exit.then K (fun _ _ _ => False)) { tmps := (ps.zip (encs x)).foldl (fun t (p, v) => t.setIfInBounds p v) a.tmps, defers := [] } W)
    (hbody : ∀ (l k : Nat) (x : α) (a' : Act) (W : World), I k W → k < m → H k x → Ax k x a' W → body.wpIn (Fence.wide.inRound l) (n - 1 - 1) P (leftByO E S w.heap.size I Ix (k + 1) W) a' W)
    (hdone : ∀ (D : Nat) (W : World), w.heap.size ≤ D → I m W → W.heap[D]? = some (.deferred (some [])) → Q .normal { a with defers := { target := .collected D, args := #[] } :: a.defers } W)
    (hstop : ∀ (D : Nat) (c : Code) (k : Nat) (W : World), w.heap.size ≤ D → k ≤ m → Ix c k W → W.heap[D]? = some (.deferred (some [])) → c.wpIn Fence.wide n P Q { a with defers := { target := .collected D, args := #[] } :: a.defers } W) :
    (Code.rangeFunc g ps assign body).wpIn Fence.wide n P Q a w := by
  refine wpIn_rangeFunc fun fn _ => ?_
  have hro : Fence.wide.round = none := rfl
  rw [hro]
  obtain ⟨rec, hrec⟩ : ∃ rec : LoopState → Option Code → Loop, rec = fun st pe => { state := st, pending := pe, fn, tmps := a.tmps, params := ps, assign, body, defers := w.heap.size } := ⟨_, rfl⟩
  obtain ⟨W1, hW1⟩ : ∃ W1, W1 = (w.alloc (.deferred (some []))).alloc (.loop (rec .ready none)) := ⟨_, rfl⟩
  have t1 : Touch (fun _ => False) w W1 := by rw [hW1]; exact ((Touch.refl _ _).alloc _).alloc _
  have hL1 : W1.heap[w.heap.size + 1]? = some (.loop (rec .ready none)) := by
    rw [hW1]; have := World.alloc_heap_new (w.alloc (.deferred (some []))) (.loop (rec .ready none)); rwa [World.size_alloc] at this
  have hD1 : W1.heap[w.heap.size]? = some (.deferred (some [])) := by
    rw [hW1]; exact (Below.heap_alloc _ _ _ (by simp)).trans (World.alloc_heap_new w _)
  have keepD : ∀ (st : LoopState) (pe : Option Code) (W : World), W.heap[w.heap.size]? = some (.deferred (some [])) → (W.putObj (w.heap.size + 1) (.loop (rec st pe))).heap[w.heap.size]? = some (.deferred (some [])) := fun _ _ W h => (World.putObj_heap_other (by omega)).trans h
  refine ⟨w.heap.size + 1, [{ target := .collected w.heap.size, args := #[] }], W1, { target := .fn (.func gf) lb, args := #[.func (.yield (w.heap.size + 1)) #[] #[]] }, W1, gf,
    #[.func (.yield (w.heap.size + 1)) #[] #[]] ++ lb, W1, ?_, ?_, fun _ _ => trivial, ?_, fun h => (nomatch h), ?_⟩
  · rw [hW1, hrec]; exact run_enterLoop_outer _ _ _ _ _
  · simp only [resolve, hg]
    simp [go_sem]
  · simp [invoke, go_sem, eg]
  · refine (hseq (n - 1) (w.heap.size + 1) (fun g => S g ∨ g = w.heap.size + 1)
      (fun k W => I k W ∧ W.heap[w.heap.size + 1]? = some (.loop (rec .ready none)) ∧ W.heap[w.heap.size]? = some (.deferred (some [])))
      (fun k W => ∃ c, Ix c k W ∧ W.heap[w.heap.size + 1]? = some (.loop (rec .done (some c))) ∧ W.heap[w.heap.size]? = some (.deferred (some [])))
      W1 (hA W1 t1) ?_ (fun k W W' h ht => ⟨hIt k W W' h.1 (ht.weak t1.size), ht.other h.2.1 rfl, ht.other h.2.2 rfl⟩) ?_ ⟨hIt 0 w W1 h0 (.of_calm t1), hL1, hD1⟩).mono ?_
    · rintro g (hg | rfl)
      · obtain ⟨h1, h2⟩ := hS g hg
        refine ⟨Nat.lt_of_lt_of_le h1 t1.size, fun cs fr he => h2 cs fr ?_⟩
        rw [← t1.block g h1 (fun h => h)]; exact he
      · exact ⟨lt_of_heap hL1, fun cs fr he => by rw [hL1] at he; cases he⟩
    · rintro k x W ⟨hi, hl, hd⟩ hk hx
      have hy := run_yield (P := P) (args := encs x) hl (by rw [hrec]; exact hps x)
      rw [hrec] at hy
      refine ⟨fn, _, assign, body, hy, roundIn_of_wpIn trivial (hassign _ k x W _ hi hk hx fun a' W2 hk2 tk2 hi2 hax => ?_)⟩
      have hl2 := hk2.same _ _ hl rfl
      have hd2 := hk2.same _ _ hd rfl
      refine ⟨_, run_beginRound hl2 (by rw [hrec]), ?_⟩
      have hlt := lt_of_heap hl2
      have hbz : ({ rec .ready none with state := .busy } : Loop) = rec .busy none := by rw [hrec]
      rw [hbz]
      have hl3 : (W2.putObj (w.heap.size + 1) (.loop (rec .busy none))).heap[w.heap.size + 1]? = some (.loop (rec .busy none)) := World.putObj_heap_same hlt
      have hd3 := keepD .busy none W2 hd2
      have ta : Touch (fun g => S g ∨ g = w.heap.size + 1) W (W2.putObj (w.heap.size + 1) (.loop (rec .busy none))) := (tk2.mono (fun _ _ h => .inl h)).trans (touch_put W2 _ _) (fun _ _ h => .inr h)
      have tb : Touch (Oth E (fun g => S g ∨ g = w.heap.size + 1) W1.heap.size W) W (W2.putObj (w.heap.size + 1) (.loop (rec .busy none))) := ta.mono (fun _ _ h => .inl h)
      have stepO : ∀ g, g < W.heap.size → Oth E S w.heap.size (W2.putObj (w.heap.size + 1) (.loop (rec .busy none))) g → Oth E (fun g => S g ∨ g = w.heap.size + 1) W1.heap.size W g := by
        rintro g hg (h | ⟨hb, cs, t, fr, hc, ht⟩)
        · exact .inl (.inl h)
        · by_cases hs : S g ∨ g = w.heap.size + 1
          · exact .inl hs
          · have e := ta.block g hg hs
            rw [e] at hc
            refine .inr ⟨?_, cs, t, fr, hc, ht⟩
            have h0 : g ≠ w.heap.size := fun h => by
              rw [h, hd] at hc
              cases hc
            have h1 : g ≠ w.heap.size + 1 := fun h => hs (.inr h)
            rw [hW1, World.size_alloc, World.size_alloc]
            omega
      refine wpIn_mono (hbody _ k x a' _ (hIp k W2 _ _ _ hi2 (by omega) hl2 rfl) hk hx (hAp k x a' W2 _ _ _ hax (by omega) hl2 rfl)) ?_
      have fin : ∀ (jump : Option Code) (W3 : World), KeepsOthers (W2.putObj (w.heap.size + 1) (.loop (rec .busy none))) W3 →
          (Instr.endRound (w.heap.size + 1) jump).run P W3 = .ok (.bool jump.isNone) (W3.putObj (w.heap.size + 1) (.loop (rec (if jump.isNone then .ready else .done) jump))) ∧
          W3.heap[w.heap.size + 1]? = some (.loop (rec .busy none)) ∧
          (W3.putObj (w.heap.size + 1) (.loop (rec (if jump.isNone then .ready else .done) jump))).heap[w.heap.size + 1]? = some (.loop (rec (if jump.isNone then .ready else .done) jump)) ∧
          (W3.putObj (w.heap.size + 1) (.loop (rec (if jump.isNone then .ready else .done) jump))).heap[w.heap.size]? = some (.deferred (some [])) := fun jump W3 hk3 => by
        have h4 := hk3.same _ _ hl3 rfl
        have h5 := run_endRound (P := P) jump h4
        have e5 : ({ rec .busy none with state := if jump.isNone then .ready else .done, pending := jump } : Loop) = rec (if jump.isNone then .ready else .done) jump := by rw [hrec]
        rw [e5] at h5
        exact ⟨h5, h4, World.putObj_heap_same (lt_of_heap h4), keepD _ _ W3 (hk3.same _ _ hd3 rfl)⟩
      rintro e a3 W3 hp
      have leave : ∀ c, KeepsOthers (W2.putObj (w.heap.size + 1) (.loop (rec .busy none))) W3 ∧ Touch (Oth E S w.heap.size (W2.putObj (w.heap.size + 1) (.loop (rec .busy none)))) (W2.putObj (w.heap.size + 1) (.loop (rec .busy none))) W3 ∧ Ix c (k + 1) W3 → ∃ v w', (Instr.endRound (w.heap.size + 1) (some c)).run P W3 = .ok v w' ∧
          Touch (Oth E (fun g => S g ∨ g = w.heap.size + 1) W1.heap.size W) W w' ∧ ((Ending.returned v = .returned (.bool true) ∧ I (k + 1) w' ∧ w'.heap[w.heap.size + 1]? = some (.loop (rec .ready none)) ∧ w'.heap[w.heap.size]? = some (.deferred (some []))) ∨
           (Ending.returned v = .returned (.bool false) ∧ ∃ c, Ix c (k + 1) w' ∧ w'.heap[w.heap.size + 1]? = some (.loop (rec .done (some c))) ∧ w'.heap[w.heap.size]? = some (.deferred (some [])))) := fun c h => by
        obtain ⟨hr, h3, h4, h5⟩ := fin (some c) W3 h.1
        exact ⟨_, _, hr, (tb.trans h.2.1 stepO).trans (touch_put W3 _ _) (fun _ _ h => .inl (.inr h)), .inr ⟨rfl, c, hXp c _ W3 _ _ _ h.2.2 (by omega) h3 rfl, h4, h5⟩⟩
      cases e with
      | normal =>
        obtain ⟨hr, h3, h4, h5⟩ := fin none W3 hp.1
        exact ⟨_, _, hr, (tb.trans hp.2.1 stepO).trans (touch_put W3 _ _) (fun _ _ h => .inl (.inr h)), .inl ⟨rfl, hIp _ W3 _ _ _ hp.2.2 (by omega) h3 rfl, h4, h5⟩⟩
      | ret => exact leave .ret hp
      | exit id => exact leave (.exit id) hp
      | goto t => exact leave (.goto t) hp
      | panic ch => exact hp.elim
      | outgrown => exact hp.elim
    · rintro e W2 ⟨⟨v, rfl⟩, (⟨hi, hl, hd⟩ | ⟨k, hk, c, hi, hl, hd⟩)⟩
      · have h6 := run_endLoop (P := P) hl (by rw [hrec]; simp)
        have e6 : ({ rec .ready none with state := .exhausted } : Loop) = rec .exhausted none := by rw [hrec]
        rw [e6] at h6
        exact ⟨none, _, by rw [h6, hrec], hdone _ _ (Nat.le_refl _) (hIp m W2 _ _ _ hi (by omega) hl rfl) (keepD _ _ W2 hd)⟩
      · have h6 := run_endLoop (P := P) hl (by rw [hrec]; simp)
        have e6 : ({ rec .done (some c) with state := .exhausted } : Loop) = rec .exhausted (some c) := by rw [hrec]
        rw [e6] at h6
        exact ⟨some c, _, by rw [h6, hrec], hstop _ c k _ (Nat.le_refl _) hk (hXp c k W2 _ _ _ hi (by omega) hl rfl) (keepD _ _ W2 hd)⟩

end Go.Proofs.YtamfcmmhmfhhkaaGreatDoor

namespace Go.Proofs.YtamfcmmhmfhhkaaGreatDoor.PM
open Go.RowKit
attribute [local go_sem] Oper.semAt_some

set_option maxRecDepth 100000 in
set_option maxHeartbeats 2000000 in
theorem tell0_inO (n l : Nat) (S : Nat → Prop) (J Jx : Nat → World → Prop) (W0 : World) (hS : ∀ k, S k → k < W0.heap.size ∧ ∀ cs fr, W0.heap[k]? ≠ some (.cells cs 133 fr)) (hJ : ∀ k W1 W2, J k W1 → Sly 110 W0.heap.size W1 W2 → J k W2) (Y : List (Pn × Pn))
    (hY : ∀ k W1, J k W1 → (hk : k < Y.length) → YieldAt Fence.wide (n - 1) Tryz.prog l #[pnv (Y[k].1), pnv (Y[k].2)] W1 fun e W' => Touch (Oth 110 S W0.heap.size W1) W1 W' ∧ ((e = .returned (.bool true) ∧ J (k + 1) W') ∨ (e = .returned (.bool false) ∧ Jx (k + 1) W')))
    (few : Few Y.length) (ao : Option Addr) (nn cap : Nat) (vs : List Value) (W1 : World) (own : W1.ownsRow W0.heap.size 110 1 (.slice ao nn cap) nn vs) (stk : Stk W0 0 vs Y) (hT : Calm W0 W1) (h0 : J 0 W1) :
    CallsIn Fence.wide n Tryz.prog 66 #[.slice ao nn cap, .int .i64 0, .func (.yield l) #[] #[]] W1 fun e W' => (∃ v, e = .returned v) ∧ (J Y.length W' ∨ ∃ k, k ≤ Y.length ∧ Jx k W') := by
  obtain ⟨i1, hj, hy0, hy1, hy2⟩ := info_parts2 infoPtr
  have HS := hide hS
  have HJ := hide hJ
  have HY := hide hY
  have FEW := hide few
  have ST : Hid (Tl S J W0 0 Y (2 * Y.length - nn) (.slice ao nn cap) (.pointer none) W1) := hide ⟨0, ao, nn, cap, vs, none, [], Y, rfl, rfl, .nil, own, stk, by simp [dir], Nat.zero_le _, h0, hT.mono (fun _ _ h => h.elim), by
    have h1 := stk.len
    have h2 := own.1
    simp; omega⟩
  clear hS hJ hY few own stk hT h0
  refine callsIn_of_wp Tryz.func66 rfl trivial ?_ rfl
  simp only [Tryz.ntmps66, List.size_toArray, List.length_cons, List.length_nil, Nat.reduceAdd, Nat.reduceSub, Array.replicate_succ, Array.replicate_zero, List.push_toArray, List.append_toArray, List.nil_append, List.cons_append]
  gi_wp2
  refine wpIn_scope_straight ?_
  gi_wp2
  refine wpIn_label ?_
  gi_wp2
  gi_loopw [0, 6] (fun i j wr => ∃ mu, Tl S J W0 0 Y mu i j wr) (fun i j wr => least (fun mu => Tl S J W0 0 Y mu i j wr))
  case atStart => exact ⟨_, ST.out⟩
  case round =>
    obtain ⟨hls, hlm⟩ := least_spec hrel
    obtain ⟨k, ao, n', cap, vs, o, Z, A, rfl, rfl, htl, own, stk, hdr, hk, hJ, ht, hmu⟩ := hls
    have HLM := hide hlm
    have HDR := hide hdr
    have HK := hide hk
    have HT := hide ht
    have HMU := hide hmu
    have OWN := hide own
    have STK := hide stk
    have HJK := hide hJ
    clear hlm hdr hk ht hmu own stk hJ ST hrel
    generalize hmm : least (fun mu => Tl S J W0 0 Y mu (.slice ao n' cap) (.pointer o) wr) = M at *
    have hno : ∀ {b : Nat} {cs : Array Value}, W0.heap[b]? = some (.cells cs 133 (0, 0)) → wr.heap[b]? = some (.cells cs 133 (0, 0)) := fun {b cs} h => HT.out.heap h (fun hs => by
      rcases hs with hs | hs
      · exact (HS.out b hs).2 _ _ h
      · have := lt_of_heap h; omega)
    cases htl with
    | @node b k1 v1 p1 q1 L R hb g1 g2 =>
      have G1 := hide g1
      have G2 := hide g2
      have HB := hide hb
      have hx1 : Hid (n' + 1 ≤ 8796093022208 + 1) := hide (by
        have h1 := STK.out.len
        have h2 := OWN.out.1
        have h3 := congrArg List.length HDR.out
        have h6 := FEW.out.le
        simp only [List.length_append, List.length_drop] at h3
        omega)
      have hx2 : Hid (n' + 1 ≤ maxLen) := hide (by have := hx1.out; unfold maxLen; omega)
      have hx3 : Hid ((n' + 1) * 8 ≤ 140737488355328) := hide (by have := hx1.out; omega)
      have OW2 : Hid ((wr.alloc (.cells #[.pointer (some ⟨b, 0, none⟩)] 110)).ownsRow W0.heap.size 110 1 (.slice ao n' cap) n' vs) := hide (own_touch OWN.out ((Touch.refl (fun _ => False) wr).alloc _) (fun _ _ h => h))
      have TZ := hide ((Touch.refl (fun _ => False) wr).alloc (.cells #[.pointer (some ⟨b, 0, none⟩)] 110))
      have BZ : Hid (W0.heap.size ≤ (wr.alloc (.cells #[.pointer (some ⟨b, 0, none⟩)] 110)).heap.size) := hide (Nat.le_trans HT.out.size TZ.out.size)
      have HNO := hide (hno hb)
      clear hno g1 g2 hb
      refine wpIn_wide.2 ?_
      go_wp2_with (at_builtin; refine wpList_append_sep _ rfl (.tmp 40) (.tmp 42) 119 rfl W0.heap.size 110 i1 (.pointer none) 1 8 Tryz.underlying119 hj hy0 hy1 hy2 rfl (by decide) _ n' vs rfl OW2.out ⟨wr.heap.size, 0, none⟩ 1 1 [.pointer (some ⟨b, 0, none⟩)] rfl rfl (new_cells1 wr _ _) (one_cells1 rfl) hx2.out hx3.out BZ.out (by omega) ?ny)
      case ny =>
        intro ao3 c3 w3 own3 t3 _
        have SL : Hid (Sly 110 W0.heap.size wr w3) := hide ((Touch.mono TZ.out (fun _ _ h => h.elim)).trans t3 (fun g' hg' hs => by
          obtain ⟨h1, cur, h2⟩ := own_block OWN.out hs
          exact ⟨h1, cur, _, h2⟩))
        obtain ⟨-, -, -, d3, d4⟩ := cells21 (SL.out.at HNO.out (by decide))
        have OW3 := hide own3
        clear own3 t3
        have NX : Hid (Tl S J W0 0 Y (M - 1) (.slice ao3 (n' + 1) c3) (.pointer p1) w3) := hide (by
          refine ⟨k, _, _, _, _, p1, L, (k1, v1) :: dir 0 R ++ A, rfl, rfl, G1.out, OW3.out, .push (s := 0) ⟨_, HB.out⟩ G2.out STK.out, ?_, HK.out, HJ.out _ _ _ HJK.out SL.out, HT.out.trans SL.out (fun g' _ hs => .inr hs.1), ?_⟩
          · rw [← HDR.out]; simp [dir]
          · have h1 := STK.out.len
            have h2 := OWN.out.1
            have h3 := HMU.out
            simp [dir] at h3 ⊢
            omega)
        have HMP : Hid (M - 1 < M) := hide (by
          have h1 := STK.out.len
          have h2 := OWN.out.1
          have h3 := HMU.out
          simp at h3
          omega)
        go_wp2_with fail
        go_roundw
        case rel => exact ⟨_, NX.out⟩
        case measure =>
          rw [hmm]
          exact Nat.lt_of_le_of_lt ((least_spec ⟨_, NX.out⟩).2 _ NX.out) HMP.out
    | nil =>
      rcases STK.out.inv with ⟨hvs, hA⟩ | ⟨b, k1, v1, p1, q1, F, A', vs', hvs, hA, hn, hf, stk'⟩
      · have h1 := OWN.out.1
        subst hvs hA
        have hn0 : n' = 0 := by simpa using h1.symm
        subst hn0
        have HKY : Hid (k = Y.length) := hide (by
          have h3 := HDR.out
          simp [dir] at h3
          have := HK.out
          omega)
        clear h1 hno hmm
        refine wpIn_wide.2 ?_
        go_wp2_with fail
        rw [Exit.noGoto_normal]
        go_end0
        exact ⟨⟨_, rfl⟩, .inl (by have h := HJK.out; rw [HKY.out] at h; exact h)⟩
      · have h1 := OWN.out.1
        subst hvs hA
        obtain ⟨m, rfl⟩ : ∃ m, n' = m + 1 := ⟨n' - 1, by simp at h1; omega⟩
        obtain ⟨g, rfl, hg, hcap, hmax, cg, own'⟩ := own_cut OWN.out
        have HST := hide stk'
        have HF := hide hf
        have OW' := hide own'
        have hkY : k < Y.length := by
          have h3 := congrArg List.length HDR.out
          simp [dir] at h3
          omega
        have h5 : (k1, v1) :: (dir 0 F ++ A') = Y.drop k := HDR.out
        rw [List.drop_eq_getElem_cons hkY] at h5
        injection h5 with h6 hrest
        have hYk : Y[k] = (k1, v1) := h6.symm
        obtain ⟨hwm, hm1, hm2⟩ := cut_facts hcap hmax
        have HRE := hide hrest
        have HKY := hide hkY
        have YL := HY.out k wr.drew (HJ.out _ _ _ HJK.out (.of_calm (Touch.refl (fun _ => False) wr).drew)) hkY
        rw [hYk] at YL
        obtain ⟨fn, tmps, assign, body, hy, hR⟩ := YL
        have HR := hide (hR.mono (R' := fun e W' => ∃ r : Bool, e = .returned (.bool r) ∧ Touch (Oth 110 S W0.heap.size wr.drew) wr.drew W' ∧ ((r = true ∧ J (k + 1) W') ∨ (r = false ∧ Jx (k + 1) W'))) (fun e W' h => by
          rcases h with ⟨h1, ⟨h2, h3⟩ | ⟨h2, h3⟩⟩
          · exact ⟨true, h2, h1, .inl ⟨rfl, h3⟩⟩
          · exact ⟨false, h2, h1, .inr ⟨rfl, h3⟩⟩))
        have HG := hide hg
        have HMM := hide hmm
        clear hR hmax hcap hg hmm
        obtain ⟨nb, hb⟩ := hn
        have HB := hide hb
        obtain ⟨⟨⟨kc0, kc1, kc2, kc3, kc4⟩, kc5, kc6, kc7, kc8⟩, ⟨⟨vc0, vc1, vc2, vc3, vc4⟩, vc5, vc6, vc7, vc8⟩, -, c3, c4⟩ := cells21 (hno hb)
        clear h1 hno own' hf stk' hrest hkY hYk hb h6
        gi_wp2
        gi_region_with (refine ⟨fun h => (nomatch h), HR.out.mono ?_⟩; rintro e W3 ⟨r, rfl, t3, hr3⟩)
        all_goals
          have T3 : Hid (Touch (fun g => S g ∨ W0.heap.size ≤ g) W0 W3) := hide ((HT.out.drew).trans t3 (fun _ _ hs => hs.imp id fun h => h.1))
          have OW3 := hide (own_touch (OW'.out.touchD) t3 (fun g' hg' hs => by
            obtain ⟨h1, cur, h3⟩ := own_block OW'.out hg'
            rcases hs with hs | ⟨-, cs, t, fr, hc, ht⟩
            · have h2 := (HS.out g' hs).1
              omega
            · have hc' : wr.heap[g']? = some (.cells cs t fr) := hc
              rw [h3] at hc'
              injection hc' with hc'
              injection hc' with _ h4 _
              exact ht h4.symm))
          clear kc0 kc1 kc2 kc3 kc4 kc5 kc6 kc7 kc8 vc0 vc1 vc2 vc3 vc4 vc5 vc6 vc7 vc8 c3 c4 cg hy HR t3
          obtain ⟨-, -, -, d3, d4⟩ := cells21 (show W3.heap[b]? = _ from T3.out.heap HB.out (fun hs => by
            rcases hs with hs | hs
            · exact (HS.out b hs).2 _ _ HB.out
            · have := lt_of_heap HB.out; omega))
          rcases hr3 with ⟨rfl, hJ3⟩ | ⟨rfl, hJx3⟩
          · have NX : Hid (Tl S J W0 0 Y (M - 1) (.slice (some ⟨g, 0, none⟩) m cap) (.pointer q1) W3) := hide (by
              refine ⟨k + 1, _, _, _, vs', q1, F, A', rfl, rfl, HF.out, OW3.out, HST.out, HRE.out, HKY.out, hJ3, T3.out, ?_⟩
              have h3 := HMU.out
              have h4 := HST.out.len
              have h5 := OW'.out.1
              simp [dir] at h3 ⊢
              omega)
            have HMP : Hid (M - 1 < M) := hide (by
              have h3 := HMU.out
              have h4 := HST.out.len
              have h5 := OW'.out.1
              simp [dir] at h3
              omega)
            clear hJ3
            gi_wp2
            go_roundw
            case rel => exact ⟨_, NX.out⟩
            case measure =>
              rw [HMM.out]
              exact Nat.lt_of_le_of_lt ((least_spec ⟨_, NX.out⟩).2 _ NX.out) HMP.out
          · have HX := hide hJx3
            clear hJx3
            gi_wp2
            rw [Exit.noGoto_normal]
            go_end0
            exact ⟨⟨_, rfl⟩, .inr ⟨k + 1, HKY.out, HX.out⟩⟩

set_option maxRecDepth 100000 in
set_option maxHeartbeats 2000000 in
theorem tell1_inO (n l : Nat) (S : Nat → Prop) (J Jx : Nat → World → Prop) (W0 : World) (hS : ∀ k, S k → k < W0.heap.size ∧ ∀ cs fr, W0.heap[k]? ≠ some (.cells cs 133 fr)) (hJ : ∀ k W1 W2, J k W1 → Sly 110 W0.heap.size W1 W2 → J k W2) (Y : List (Pn × Pn))
    (hY : ∀ k W1, J k W1 → (hk : k < Y.length) → YieldAt Fence.wide (n - 1) Tryz.prog l #[pnv (Y[k].1), pnv (Y[k].2)] W1 fun e W' => Touch (Oth 110 S W0.heap.size W1) W1 W' ∧ ((e = .returned (.bool true) ∧ J (k + 1) W') ∨ (e = .returned (.bool false) ∧ Jx (k + 1) W')))
    (few : Few Y.length) (ao : Option Addr) (nn cap : Nat) (vs : List Value) (W1 : World) (own : W1.ownsRow W0.heap.size 110 1 (.slice ao nn cap) nn vs) (stk : Stk W0 1 vs Y) (hT : Calm W0 W1) (h0 : J 0 W1) :
    CallsIn Fence.wide n Tryz.prog 66 #[.slice ao nn cap, .int .i64 1, .func (.yield l) #[] #[]] W1 fun e W' => (∃ v, e = .returned v) ∧ (J Y.length W' ∨ ∃ k, k ≤ Y.length ∧ Jx k W') := by
  obtain ⟨i1, hj, hy0, hy1, hy2⟩ := info_parts2 infoPtr
  have HS := hide hS
  have HJ := hide hJ
  have HY := hide hY
  have FEW := hide few
  have ST : Hid (Tl S J W0 1 Y (2 * Y.length - nn) (.slice ao nn cap) (.pointer none) W1) := hide ⟨0, ao, nn, cap, vs, none, [], Y, rfl, rfl, .nil, own, stk, by simp [dir], Nat.zero_le _, h0, hT.mono (fun _ _ h => h.elim), by
    have h1 := stk.len
    have h2 := own.1
    simp; omega⟩
  clear hS hJ hY few own stk hT h0
  refine callsIn_of_wp Tryz.func66 rfl trivial ?_ rfl
  simp only [Tryz.ntmps66, List.size_toArray, List.length_cons, List.length_nil, Nat.reduceAdd, Nat.reduceSub, Array.replicate_succ, Array.replicate_zero, List.push_toArray, List.append_toArray, List.nil_append, List.cons_append]
  gi_wp2
  refine wpIn_scope_straight ?_
  gi_wp2
  refine wpIn_label ?_
  gi_wp2
  gi_loopw [0, 6] (fun i j wr => ∃ mu, Tl S J W0 1 Y mu i j wr) (fun i j wr => least (fun mu => Tl S J W0 1 Y mu i j wr))
  case atStart => exact ⟨_, ST.out⟩
  case round =>
    obtain ⟨hls, hlm⟩ := least_spec hrel
    obtain ⟨k, ao, n', cap, vs, o, Z, A, rfl, rfl, htl, own, stk, hdr, hk, hJ, ht, hmu⟩ := hls
    have HLM := hide hlm
    have HDR := hide hdr
    have HK := hide hk
    have HT := hide ht
    have HMU := hide hmu
    have OWN := hide own
    have STK := hide stk
    have HJK := hide hJ
    clear hlm hdr hk ht hmu own stk hJ ST hrel
    generalize hmm : least (fun mu => Tl S J W0 1 Y mu (.slice ao n' cap) (.pointer o) wr) = M at *
    have hno : ∀ {b : Nat} {cs : Array Value}, W0.heap[b]? = some (.cells cs 133 (0, 0)) → wr.heap[b]? = some (.cells cs 133 (0, 0)) := fun {b cs} h => HT.out.heap h (fun hs => by
      rcases hs with hs | hs
      · exact (HS.out b hs).2 _ _ h
      · have := lt_of_heap h; omega)
    cases htl with
    | @node b k1 v1 p1 q1 L R hb g1 g2 =>
      have G1 := hide g1
      have G2 := hide g2
      have HB := hide hb
      have hx1 : Hid (n' + 1 ≤ 8796093022208 + 1) := hide (by
        have h1 := STK.out.len
        have h2 := OWN.out.1
        have h3 := congrArg List.length HDR.out
        have h6 := FEW.out.le
        simp only [List.length_append, List.length_drop] at h3
        omega)
      have hx2 : Hid (n' + 1 ≤ maxLen) := hide (by have := hx1.out; unfold maxLen; omega)
      have hx3 : Hid ((n' + 1) * 8 ≤ 140737488355328) := hide (by have := hx1.out; omega)
      have OW2 : Hid ((wr.alloc (.cells #[.pointer (some ⟨b, 0, none⟩)] 110)).ownsRow W0.heap.size 110 1 (.slice ao n' cap) n' vs) := hide (own_touch OWN.out ((Touch.refl (fun _ => False) wr).alloc _) (fun _ _ h => h))
      have TZ := hide ((Touch.refl (fun _ => False) wr).alloc (.cells #[.pointer (some ⟨b, 0, none⟩)] 110))
      have BZ : Hid (W0.heap.size ≤ (wr.alloc (.cells #[.pointer (some ⟨b, 0, none⟩)] 110)).heap.size) := hide (Nat.le_trans HT.out.size TZ.out.size)
      have HNO := hide (hno hb)
      clear hno g1 g2 hb
      refine wpIn_wide.2 ?_
      go_wp2_with (at_builtin; refine wpList_append_sep _ rfl (.tmp 40) (.tmp 42) 119 rfl W0.heap.size 110 i1 (.pointer none) 1 8 Tryz.underlying119 hj hy0 hy1 hy2 rfl (by decide) _ n' vs rfl OW2.out ⟨wr.heap.size, 0, none⟩ 1 1 [.pointer (some ⟨b, 0, none⟩)] rfl rfl (new_cells1 wr _ _) (one_cells1 rfl) hx2.out hx3.out BZ.out (by omega) ?ny)
      case ny =>
        intro ao3 c3 w3 own3 t3 _
        have SL : Hid (Sly 110 W0.heap.size wr w3) := hide ((Touch.mono TZ.out (fun _ _ h => h.elim)).trans t3 (fun g' hg' hs => by
          obtain ⟨h1, cur, h2⟩ := own_block OWN.out hs
          exact ⟨h1, cur, _, h2⟩))
        obtain ⟨-, -, -, d3, d4⟩ := cells21 (SL.out.at HNO.out (by decide))
        have OW3 := hide own3
        clear own3 t3
        have NX : Hid (Tl S J W0 1 Y (M - 1) (.slice ao3 (n' + 1) c3) (.pointer q1) w3) := hide (by
          refine ⟨k, _, _, _, _, q1, R, (k1, v1) :: dir 1 L ++ A, rfl, rfl, G2.out, OW3.out, .push (s := 1) ⟨_, HB.out⟩ G1.out STK.out, ?_, HK.out, HJ.out _ _ _ HJK.out SL.out, HT.out.trans SL.out (fun g' _ hs => .inr hs.1), ?_⟩
          · rw [← HDR.out]; simp [dir]
          · have h1 := STK.out.len
            have h2 := OWN.out.1
            have h3 := HMU.out
            simp [dir] at h3 ⊢
            omega)
        have HMP : Hid (M - 1 < M) := hide (by
          have h1 := STK.out.len
          have h2 := OWN.out.1
          have h3 := HMU.out
          simp at h3
          omega)
        go_wp2_with fail
        go_roundw
        case rel => exact ⟨_, NX.out⟩
        case measure =>
          rw [hmm]
          exact Nat.lt_of_le_of_lt ((least_spec ⟨_, NX.out⟩).2 _ NX.out) HMP.out
    | nil =>
      rcases STK.out.inv with ⟨hvs, hA⟩ | ⟨b, k1, v1, p1, q1, F, A', vs', hvs, hA, hn, hf, stk'⟩
      · have h1 := OWN.out.1
        subst hvs hA
        have hn0 : n' = 0 := by simpa using h1.symm
        subst hn0
        have HKY : Hid (k = Y.length) := hide (by
          have h3 := HDR.out
          simp [dir] at h3
          have := HK.out
          omega)
        clear h1 hno hmm
        refine wpIn_wide.2 ?_
        go_wp2_with fail
        rw [Exit.noGoto_normal]
        go_end0
        exact ⟨⟨_, rfl⟩, .inl (by have h := HJK.out; rw [HKY.out] at h; exact h)⟩
      · have h1 := OWN.out.1
        subst hvs hA
        obtain ⟨m, rfl⟩ : ∃ m, n' = m + 1 := ⟨n' - 1, by simp at h1; omega⟩
        obtain ⟨g, rfl, hg, hcap, hmax, cg, own'⟩ := own_cut OWN.out
        have HST := hide stk'
        have HF := hide hf
        have OW' := hide own'
        have hkY : k < Y.length := by
          have h3 := congrArg List.length HDR.out
          simp [dir] at h3
          omega
        have h5 : (k1, v1) :: (dir 1 F ++ A') = Y.drop k := HDR.out
        rw [List.drop_eq_getElem_cons hkY] at h5
        injection h5 with h6 hrest
        have hYk : Y[k] = (k1, v1) := h6.symm
        obtain ⟨hwm, hm1, hm2⟩ := cut_facts hcap hmax
        have HRE := hide hrest
        have HKY := hide hkY
        have YL := HY.out k wr.drew (HJ.out _ _ _ HJK.out (.of_calm (Touch.refl (fun _ => False) wr).drew)) hkY
        rw [hYk] at YL
        obtain ⟨fn, tmps, assign, body, hy, hR⟩ := YL
        have HR := hide (hR.mono (R' := fun e W' => ∃ r : Bool, e = .returned (.bool r) ∧ Touch (Oth 110 S W0.heap.size wr.drew) wr.drew W' ∧ ((r = true ∧ J (k + 1) W') ∨ (r = false ∧ Jx (k + 1) W'))) (fun e W' h => by
          rcases h with ⟨h1, ⟨h2, h3⟩ | ⟨h2, h3⟩⟩
          · exact ⟨true, h2, h1, .inl ⟨rfl, h3⟩⟩
          · exact ⟨false, h2, h1, .inr ⟨rfl, h3⟩⟩))
        have HG := hide hg
        have HMM := hide hmm
        clear hR hmax hcap hg hmm
        obtain ⟨nb, hb⟩ := hn
        have HB := hide hb
        obtain ⟨⟨⟨kc0, kc1, kc2, kc3, kc4⟩, kc5, kc6, kc7, kc8⟩, ⟨⟨vc0, vc1, vc2, vc3, vc4⟩, vc5, vc6, vc7, vc8⟩, -, c3, c4⟩ := cells21 (hno hb)
        clear h1 hno own' hf stk' hrest hkY hYk hb h6
        gi_wp2
        gi_region_with (refine ⟨fun h => (nomatch h), HR.out.mono ?_⟩; rintro e W3 ⟨r, rfl, t3, hr3⟩)
        all_goals
          have T3 : Hid (Touch (fun g => S g ∨ W0.heap.size ≤ g) W0 W3) := hide ((HT.out.drew).trans t3 (fun _ _ hs => hs.imp id fun h => h.1))
          have OW3 := hide (own_touch (OW'.out.touchD) t3 (fun g' hg' hs => by
            obtain ⟨h1, cur, h3⟩ := own_block OW'.out hg'
            rcases hs with hs | ⟨-, cs, t, fr, hc, ht⟩
            · have h2 := (HS.out g' hs).1
              omega
            · have hc' : wr.heap[g']? = some (.cells cs t fr) := hc
              rw [h3] at hc'
              injection hc' with hc'
              injection hc' with _ h4 _
              exact ht h4.symm))
          clear kc0 kc1 kc2 kc3 kc4 kc5 kc6 kc7 kc8 vc0 vc1 vc2 vc3 vc4 vc5 vc6 vc7 vc8 c3 c4 cg hy HR t3
          obtain ⟨-, -, -, d3, d4⟩ := cells21 (show W3.heap[b]? = _ from T3.out.heap HB.out (fun hs => by
            rcases hs with hs | hs
            · exact (HS.out b hs).2 _ _ HB.out
            · have := lt_of_heap HB.out; omega))
          rcases hr3 with ⟨rfl, hJ3⟩ | ⟨rfl, hJx3⟩
          · have NX : Hid (Tl S J W0 1 Y (M - 1) (.slice (some ⟨g, 0, none⟩) m cap) (.pointer p1) W3) := hide (by
              refine ⟨k + 1, _, _, _, vs', p1, F, A', rfl, rfl, HF.out, OW3.out, HST.out, HRE.out, HKY.out, hJ3, T3.out, ?_⟩
              have h3 := HMU.out
              have h4 := HST.out.len
              have h5 := OW'.out.1
              simp [dir] at h3 ⊢
              omega)
            have HMP : Hid (M - 1 < M) := hide (by
              have h3 := HMU.out
              have h4 := HST.out.len
              have h5 := OW'.out.1
              simp [dir] at h3
              omega)
            clear hJ3
            gi_wp2
            go_roundw
            case rel => exact ⟨_, NX.out⟩
            case measure =>
              rw [HMM.out]
              exact Nat.lt_of_le_of_lt ((least_spec ⟨_, NX.out⟩).2 _ NX.out) HMP.out
          · have HX := hide hJx3
            clear hJx3
            gi_wp2
            rw [Exit.noGoto_normal]
            go_end0
            exact ⟨⟨_, rfl⟩, .inr ⟨k + 1, HKY.out, HX.out⟩⟩

end Go.Proofs.YtamfcmmhmfhhkaaGreatDoor.PM

namespace Go.Proofs.YtamfcmmhmfhhkaaGreatDoor.PM
open Go.RowKit

set_option maxRecDepth 100000 in
set_option maxHeartbeats 2000000 in
theorem walk0_goO {f : Nat} {lb : Array Value} {c : Pn → Pn → Int} {Y : World → Prop} (hC : Cmp f lb c Y) (m : Nat) (kd : Kd) (hkd : kd.sd = 0) (B1 B2 B3 : Nat) (lb2 : Array Value) (X : List (Pn × Pn)) (hX : ∀ key, Dec (c key) X) (few : Few X.length)
    (n l : Nat) (S : Nat → Prop) (J Jx : Nat → World → Prop) (W : World) (h1 : W.heap[B1]? = some (.cells #[.pointer (some ⟨m, 0, none⟩)] 55 (0, 0))) (h2 : W.heap[B2]? = some (.cells #[.int .i64 0] 3 (0, 0)))
    (h3 : W.heap[B3]? = some (.cells #[.func (.func kd.fn) #[] lb2] 63 (0, 0))) (h4 : kd.held W (some ⟨m, 0, none⟩) lb2) (hM : Mt W m f lb X) (hYW : Y W)
    (hS : ∀ k, S k → k < W.heap.size ∧ ∀ cs fr, W.heap[k]? ≠ some (.cells cs 133 fr)) (hJ : ∀ k W1 W2, J k W1 → Sly 110 W.heap.size W1 W2 → J k W2)
    (hY : ∀ k x W1, J k W1 → k < (kd.list c X).length → (kd.list c X)[k]? = some x → YieldAt Fence.wide (n - 1) Tryz.prog l (encs x) W1 fun e W' => Touch (Oth 110 S W.heap.size W1) W1 W' ∧ ((e = .returned (.bool true) ∧ J (k + 1) W') ∨ (e = .returned (.bool false) ∧ Jx (k + 1) W')))
    (h0 : J 0 W) : Calls Tryz.prog 65 #[.func (.yield l) #[] #[], .pointer (some ⟨B1, 0, none⟩), .pointer (some ⟨B2, 0, none⟩), .pointer (some ⟨B3, 0, none⟩)] W
      fun e W' => (∃ v, e = .returned v) ∧ (J (kd.list c X).length W' ∨ ∃ k, k ≤ (kd.list c X).length ∧ Jx k W') := by
  obtain ⟨ro, hm, htl⟩ := hM
  have TH := hide (there_any W m f lb ro hm)
  have mon := Mon.of_dec hX kd
  have hlist : kd.list c X = (dir 0 X).filter fun a => kd.g c a.1 := by unfold Kd.list; rw [hkd]
  rw [hkd] at mon
  have WA := hide (fun W' (h : Calm W W') => way0_any (Kd.wi hC m kd lb2) W' ro X (htl.calm h) ⟨Kd.held_calm h4 h, hC.calm _ _ hYW h, ro, h.at hm⟩ mon few)
  have TE := hide (fun (W0 W' : World) (ao : Option Addr) (nn cap : Nat) (vs : List Value) (h : Calm W W0) (hz : W0.heap.size = W.heap.size) (own : W'.ownsRow W0.heap.size 110 1 (.slice ao nn cap) nn vs) (stk : Stk W0 0 vs (kd.list c X)) (hT : Calm W0 W') =>
    callsIn_wide.1 (tell0_inO n l S J Jx W0 (fun k hk => by
        obtain ⟨g1, g2⟩ := hS k hk
        refine ⟨Nat.lt_of_lt_of_le g1 h.size, fun cs fr he => g2 cs fr ?_⟩
        rw [← h.block k g1 (fun h => h)]; exact he) (fun k W1 W2 hj hs => hJ k W1 W2 hj (hs.weak h.size)) (kd.list c X)
      (fun k W1 hj hk => by rw [hz]; exact hY k _ W1 hj hk (List.getElem?_eq_getElem hk)) ⟨Nat.le_trans (walk_low kd) few.le⟩ ao nn cap vs W' own stk hT (hJ 0 _ _ h0 (.of_calm (h.tr hT)))))
  rw [hlist] at TE ⊢
  have H1 := hide h1
  have H2 := hide h2
  have H3 := hide h3
  have HM := hide hm
  have c1 := (one_cell h1).1
  generalize (dir 0 X).filter (fun a => kd.g c a.1) = Yl at *
  generalize kd.fn = kf at *
  clear h1 h2 h3 h4 hm htl hX few hS hJ hY h0 mon hYW hC hlist hkd
  go_enter Tryz.func65, Tryz.ntmps65
  go_wp2_with fail
  refine TH.out.mono ?_
  rintro e w' ⟨rfl, hq⟩
  obtain rfl := hq.symm
  clear hq TH
  clear c1
  go_wp2_with fail
  refine wp_region_z 9 (Calm W) (by kernel_rfl) ?_
  have hT0 : Calm W { W with drawn := W.drawn + 1 } := (Touch.refl (fun _ => False) W).drew
  refine wpAnyZ_yield 0 7 (.pointer (some ⟨m, 0, none⟩)) [1, 2, 3, 6, 9] rfl rfl (by kernel_rfl) (by kernel_rfl) (by kernel_rfl) (by kernel_rfl) (by kernel_rfl) (fun _ _ _ h => h) (by kernel_rfl) (fun W hW => by have c0 := (one_cell (hW.at H1.out)).1; go_simp) (by assumption) rfl rfl ?_
  simp only [Act.put, List.setIfInBounds_toArray, List.set_cons_zero, List.set_cons_succ]
  refine wpAnyZ_yield 1 8 (.pointer (some ⟨m, 0, none⟩)) [2, 3, 6, 9] rfl rfl (by kernel_rfl) (by kernel_rfl) (by kernel_rfl) (by kernel_rfl) (by kernel_rfl) (fun _ _ _ h => h) (by kernel_rfl) (fun W hW => by kernel_rfl) (by assumption) rfl rfl ?_
  simp only [Act.put, List.setIfInBounds_toArray, List.set_cons_zero, List.set_cons_succ]
  refine wpAnyZ_yield 2 9 (.pointer (some ⟨m, 1, none⟩)) [3, 6, 9] rfl rfl (by kernel_rfl) (by kernel_rfl) (by kernel_rfl) (by kernel_rfl) (by kernel_rfl) (fun _ _ _ h => h) (by kernel_rfl) (fun W hW => by go_simp) (by assumption) rfl rfl ?_
  simp only [Act.put, List.setIfInBounds_toArray, List.set_cons_zero, List.set_cons_succ]
  refine wpAnyZ_yield 3 10 (.pointer ro) [6, 9] rfl rfl (by kernel_rfl) (by kernel_rfl) (by kernel_rfl) (by kernel_rfl) (by kernel_rfl) (fun _ _ _ h => h) (by kernel_rfl) (fun W hW => by obtain ⟨c0, c1⟩ := cells2 (hW.at HM.out); go_simp) (by assumption) rfl rfl ?_
  simp only [Act.put, List.setIfInBounds_toArray, List.set_cons_zero, List.set_cons_succ]
  refine wpAnyZ_yield 4 11 (.int .i64 0) [6, 9] rfl rfl (by kernel_rfl) (by kernel_rfl) (by kernel_rfl) (by kernel_rfl) (by kernel_rfl) (fun _ _ _ h => h) (by kernel_rfl) (fun W hW => by have c0 := (one_cell (hW.at H2.out)).1; go_simp) (by assumption) rfl rfl ?_
  simp only [Act.put, List.setIfInBounds_toArray, List.set_cons_zero, List.set_cons_succ]
  refine wpAnyZ_yield 5 12 (.func (.func kf) #[] lb2) [6, 9] rfl rfl (by kernel_rfl) (by kernel_rfl) (by kernel_rfl) (by kernel_rfl) (by kernel_rfl) (fun _ _ _ h => h) (by kernel_rfl) (fun W hW => by have c0 := (one_cell (hW.at H3.out)).1; go_simp) (by assumption) rfl rfl ?_
  simp only [Act.put, List.setIfInBounds_toArray, List.set_cons_zero, List.set_cons_succ]
  refine wpAnyZ_yield 7 14 (.int .i64 0) [9] rfl rfl (by kernel_rfl) (by kernel_rfl) (by kernel_rfl) (by kernel_rfl) (by kernel_rfl) (fun _ _ _ h => h) (by kernel_rfl) (fun W hW => by have c0 := (one_cell (hW.at H2.out)).1; go_simp) (by assumption) rfl rfl ?_
  simp only [Act.put, List.setIfInBounds_toArray, List.set_cons_zero, List.set_cons_succ]
  refine wpAnyZ_yield 8 15 (.func (.yield l) #[] #[]) [9] rfl rfl (by kernel_rfl) (by kernel_rfl) (by kernel_rfl) (by kernel_rfl) (by kernel_rfl) (fun _ _ _ h => h) (by kernel_rfl) (fun W hW => by kernel_rfl) (by assumption) rfl rfl ?_
  simp only [Act.put, List.setIfInBounds_toArray, List.set_cons_zero, List.set_cons_succ]
  refine wpAnyZ_enter 6 13 67 #[.pointer ro, .int .i64 0, .func (.func kf) #[] lb2] rfl rfl (by decide) (by kernel_rfl) (by kernel_rfl) (by kernel_rfl) ?_
  refine (WA.out _ hT0).mono ?_
  rintro e w2 ⟨ao, nn, cap, vs, rfl, own2, stk2, t2⟩
  refine ⟨_, rfl, hT0.tr t2, ?_⟩
  simp only [Act.put, List.setIfInBounds_toArray, List.set_cons_zero, List.set_cons_succ]
  refine wpAnyZ_last 16 66 #[.slice ao nn cap, .int .i64 0, .func (.yield l) #[] #[]] rfl rfl (by kernel_rfl) (by kernel_rfl) (by kernel_rfl) (by kernel_rfl) ?_
  refine (TE.out _ w2 ao nn cap vs hT0 rfl own2 stk2 t2).mono ?_
  rintro e w3 ⟨⟨v, rfl⟩, hp⟩
  refine ⟨v, rfl, ?_⟩
  have HP := hide hp
  clear hp own2 stk2 t2 hT0
  simp only [Act.put, List.setIfInBounds_toArray, List.set_cons_zero, List.set_cons_succ]
  go_wp2_with fail
  go_end0
  exact ⟨⟨_, rfl⟩, HP.out⟩

set_option maxRecDepth 100000 in
set_option maxHeartbeats 2000000 in
theorem walk1_goO {f : Nat} {lb : Array Value} {c : Pn → Pn → Int} {Y : World → Prop} (hC : Cmp f lb c Y) (m : Nat) (kd : Kd) (hkd : kd.sd = 1) (B1 B2 B3 : Nat) (lb2 : Array Value) (X : List (Pn × Pn)) (hX : ∀ key, Dec (c key) X) (few : Few X.length)
    (n l : Nat) (S : Nat → Prop) (J Jx : Nat → World → Prop) (W : World) (h1 : W.heap[B1]? = some (.cells #[.pointer (some ⟨m, 0, none⟩)] 55 (0, 0))) (h2 : W.heap[B2]? = some (.cells #[.int .i64 1] 3 (0, 0)))
    (h3 : W.heap[B3]? = some (.cells #[.func (.func kd.fn) #[] lb2] 63 (0, 0))) (h4 : kd.held W (some ⟨m, 0, none⟩) lb2) (hM : Mt W m f lb X) (hYW : Y W)
    (hS : ∀ k, S k → k < W.heap.size ∧ ∀ cs fr, W.heap[k]? ≠ some (.cells cs 133 fr)) (hJ : ∀ k W1 W2, J k W1 → Sly 110 W.heap.size W1 W2 → J k W2)
    (hY : ∀ k x W1, J k W1 → k < (kd.list c X).length → (kd.list c X)[k]? = some x → YieldAt Fence.wide (n - 1) Tryz.prog l (encs x) W1 fun e W' => Touch (Oth 110 S W.heap.size W1) W1 W' ∧ ((e = .returned (.bool true) ∧ J (k + 1) W') ∨ (e = .returned (.bool false) ∧ Jx (k + 1) W')))
    (h0 : J 0 W) : Calls Tryz.prog 65 #[.func (.yield l) #[] #[], .pointer (some ⟨B1, 0, none⟩), .pointer (some ⟨B2, 0, none⟩), .pointer (some ⟨B3, 0, none⟩)] W
      fun e W' => (∃ v, e = .returned v) ∧ (J (kd.list c X).length W' ∨ ∃ k, k ≤ (kd.list c X).length ∧ Jx k W') := by
  obtain ⟨ro, hm, htl⟩ := hM
  have TH := hide (there_any W m f lb ro hm)
  have mon := Mon.of_dec hX kd
  have hlist : kd.list c X = (dir 1 X).filter fun a => kd.g c a.1 := by unfold Kd.list; rw [hkd]
  rw [hkd] at mon
  have WA := hide (fun W' (h : Calm W W') => way1_any (Kd.wi hC m kd lb2) W' ro X (htl.calm h) ⟨Kd.held_calm h4 h, hC.calm _ _ hYW h, ro, h.at hm⟩ mon few)
  have TE := hide (fun (W0 W' : World) (ao : Option Addr) (nn cap : Nat) (vs : List Value) (h : Calm W W0) (hz : W0.heap.size = W.heap.size) (own : W'.ownsRow W0.heap.size 110 1 (.slice ao nn cap) nn vs) (stk : Stk W0 1 vs (kd.list c X)) (hT : Calm W0 W') =>
    callsIn_wide.1 (tell1_inO n l S J Jx W0 (fun k hk => by
        obtain ⟨g1, g2⟩ := hS k hk
        refine ⟨Nat.lt_of_lt_of_le g1 h.size, fun cs fr he => g2 cs fr ?_⟩
        rw [← h.block k g1 (fun h => h)]; exact he) (fun k W1 W2 hj hs => hJ k W1 W2 hj (hs.weak h.size)) (kd.list c X)
      (fun k W1 hj hk => by rw [hz]; exact hY k _ W1 hj hk (List.getElem?_eq_getElem hk)) ⟨Nat.le_trans (walk_low kd) few.le⟩ ao nn cap vs W' own stk hT (hJ 0 _ _ h0 (.of_calm (h.tr hT)))))
  rw [hlist] at TE ⊢
  have H1 := hide h1
  have H2 := hide h2
  have H3 := hide h3
  have HM := hide hm
  have c1 := (one_cell h1).1
  generalize (dir 1 X).filter (fun a => kd.g c a.1) = Yl at *
  generalize kd.fn = kf at *
  clear h1 h2 h3 h4 hm htl hX few hS hJ hY h0 mon hYW hC hlist hkd
  go_enter Tryz.func65, Tryz.ntmps65
  go_wp2_with fail
  refine TH.out.mono ?_
  rintro e w' ⟨rfl, hq⟩
  obtain rfl := hq.symm
  clear hq TH
  clear c1
  go_wp2_with fail
  refine wp_region_z 9 (Calm W) (by kernel_rfl) ?_
  have hT0 : Calm W { W with drawn := W.drawn + 1 } := (Touch.refl (fun _ => False) W).drew
  refine wpAnyZ_yield 0 7 (.pointer (some ⟨m, 0, none⟩)) [1, 2, 3, 6, 9] rfl rfl (by kernel_rfl) (by kernel_rfl) (by kernel_rfl) (by kernel_rfl) (by kernel_rfl) (fun _ _ _ h => h) (by kernel_rfl) (fun W hW => by have c0 := (one_cell (hW.at H1.out)).1; go_simp) (by assumption) rfl rfl ?_
  simp only [Act.put, List.setIfInBounds_toArray, List.set_cons_zero, List.set_cons_succ]
  refine wpAnyZ_yield 1 8 (.pointer (some ⟨m, 0, none⟩)) [2, 3, 6, 9] rfl rfl (by kernel_rfl) (by kernel_rfl) (by kernel_rfl) (by kernel_rfl) (by kernel_rfl) (fun _ _ _ h => h) (by kernel_rfl) (fun W hW => by kernel_rfl) (by assumption) rfl rfl ?_
  simp only [Act.put, List.setIfInBounds_toArray, List.set_cons_zero, List.set_cons_succ]
  refine wpAnyZ_yield 2 9 (.pointer (some ⟨m, 1, none⟩)) [3, 6, 9] rfl rfl (by kernel_rfl) (by kernel_rfl) (by kernel_rfl) (by kernel_rfl) (by kernel_rfl) (fun _ _ _ h => h) (by kernel_rfl) (fun W hW => by go_simp) (by assumption) rfl rfl ?_
  simp only [Act.put, List.setIfInBounds_toArray, List.set_cons_zero, List.set_cons_succ]
  refine wpAnyZ_yield 3 10 (.pointer ro) [6, 9] rfl rfl (by kernel_rfl) (by kernel_rfl) (by kernel_rfl) (by kernel_rfl) (by kernel_rfl) (fun _ _ _ h => h) (by kernel_rfl) (fun W hW => by obtain ⟨c0, c1⟩ := cells2 (hW.at HM.out); go_simp) (by assumption) rfl rfl ?_
  simp only [Act.put, List.setIfInBounds_toArray, List.set_cons_zero, List.set_cons_succ]
  refine wpAnyZ_yield 4 11 (.int .i64 1) [6, 9] rfl rfl (by kernel_rfl) (by kernel_rfl) (by kernel_rfl) (by kernel_rfl) (by kernel_rfl) (fun _ _ _ h => h) (by kernel_rfl) (fun W hW => by have c0 := (one_cell (hW.at H2.out)).1; go_simp) (by assumption) rfl rfl ?_
  simp only [Act.put, List.setIfInBounds_toArray, List.set_cons_zero, List.set_cons_succ]
  refine wpAnyZ_yield 5 12 (.func (.func kf) #[] lb2) [6, 9] rfl rfl (by kernel_rfl) (by kernel_rfl) (by kernel_rfl) (by kernel_rfl) (by kernel_rfl) (fun _ _ _ h => h) (by kernel_rfl) (fun W hW => by have c0 := (one_cell (hW.at H3.out)).1; go_simp) (by assumption) rfl rfl ?_
  simp only [Act.put, List.setIfInBounds_toArray, List.set_cons_zero, List.set_cons_succ]
  refine wpAnyZ_yield 7 14 (.int .i64 1) [9] rfl rfl (by kernel_rfl) (by kernel_rfl) (by kernel_rfl) (by kernel_rfl) (by kernel_rfl) (fun _ _ _ h => h) (by kernel_rfl) (fun W hW => by have c0 := (one_cell (hW.at H2.out)).1; go_simp) (by assumption) rfl rfl ?_
  simp only [Act.put, List.setIfInBounds_toArray, List.set_cons_zero, List.set_cons_succ]
  refine wpAnyZ_yield 8 15 (.func (.yield l) #[] #[]) [9] rfl rfl (by kernel_rfl) (by kernel_rfl) (by kernel_rfl) (by kernel_rfl) (by kernel_rfl) (fun _ _ _ h => h) (by kernel_rfl) (fun W hW => by kernel_rfl) (by assumption) rfl rfl ?_
  simp only [Act.put, List.setIfInBounds_toArray, List.set_cons_zero, List.set_cons_succ]
  refine wpAnyZ_enter 6 13 67 #[.pointer ro, .int .i64 1, .func (.func kf) #[] lb2] rfl rfl (by decide) (by kernel_rfl) (by kernel_rfl) (by kernel_rfl) ?_
  refine (WA.out _ hT0).mono ?_
  rintro e w2 ⟨ao, nn, cap, vs, rfl, own2, stk2, t2⟩
  refine ⟨_, rfl, hT0.tr t2, ?_⟩
  simp only [Act.put, List.setIfInBounds_toArray, List.set_cons_zero, List.set_cons_succ]
  refine wpAnyZ_last 16 66 #[.slice ao nn cap, .int .i64 1, .func (.yield l) #[] #[]] rfl rfl (by kernel_rfl) (by kernel_rfl) (by kernel_rfl) (by kernel_rfl) ?_
  refine (TE.out _ w2 ao nn cap vs hT0 rfl own2 stk2 t2).mono ?_
  rintro e w3 ⟨⟨v, rfl⟩, hp⟩
  refine ⟨v, rfl, ?_⟩
  have HP := hide hp
  clear hp own2 stk2 t2 hT0
  simp only [Act.put, List.setIfInBounds_toArray, List.set_cons_zero, List.set_cons_succ]
  go_wp2_with fail
  go_end0
  exact ⟨⟨_, rfl⟩, HP.out⟩

/-- A walk of a map is an iterator. -/
theorem Wl.seqO {f : Nat} {lb : Array Value} {c : Pn → Pn → Int} {Y : World → Prop} (hC : Cmp f lb c Y) (m : Nat) (kd : Kd) (lbv : Array Value) (X : List (Pn × Pn)) (hX : ∀ key, Dec (c key) X) (few : Few X.length) :
    SeqO Tryz.prog 110 133 65 lbv encs (kd.list c X).length (fun k x => (kd.list c X)[k]? = some x)
      (fun W => Wl W (.func (.func 65) #[] lbv) (some ⟨m, 0, none⟩) kd ∧ Mt W m f lb X ∧ Y W) := by
  rintro n l S J Jx W ⟨⟨B1, B2, B3, lb2, e, h1, h2, h3, h4⟩, hM, hYW⟩ hS hJ hY h0
  injection e with _ _ e
  subst e
  refine callsIn_wide.2 ?_
  have hs : kd.sd = 0 ∨ kd.sd = 1 := by cases kd <;> simp [Kd.sd]
  rcases hs with hs | hs
  · rw [hs] at h2
    exact walk0_goO hC m kd hs B1 B2 B3 lb2 X hX few n l S J Jx W h1 h2 h3 h4 hM hYW hS hJ hY h0
  · rw [hs] at h2
    exact walk1_goO hC m kd hs B1 B2 B3 lb2 X hX few n l S J Jx W h1 h2 h3 h4 hM hYW hS hJ hY h0

end Go.Proofs.YtamfcmmhmfhhkaaGreatDoor.PM
