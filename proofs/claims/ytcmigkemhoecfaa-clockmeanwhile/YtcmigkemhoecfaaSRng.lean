/- A range over an iterator that keeps a row of its own between its rounds, and whose rounds may change memory: a law of one's own, over the library's steps. -/
import Derived.RangeFuncNested
import Derived.RangeFuncBound
import Derived.RangeFuncCalls
import Derived.RangeFuncLeaves
import Derived.Shelf.Abstract
import Derived.Shelf.RegionOpen
import Derived.WalkKit
import Derived.OwnWalkIn
import Derived.TacticsInMore
import Derived.LoopNIn
import Derived.LoopIn
import Derived.Test.YtcmigkemhoecfaaSBase
namespace Go.Proofs.Ytcmigkemhoecfaa
open Go.RowKit

theorem touch_put (W : World) (l : Nat) (o : Obj) : Touch (fun k => k = l) W (W.putObj l o) :=
  ⟨rfl, rfl, rfl, by simp, fun _ _ hn => World.putObj_heap_other hn⟩

theorem Row.put {W : World} {e : TypeId} {k : IntKind} {v : Value} {xs : List Int} (h : Row W e k v xs) {l : Nat} {o : Obj} (o' : Obj) (hl : W.heap[l]? = some o) (ho : o.isCells = false) : Row (W.putObj l o') e k v xs :=
  h.touch (touch_put W l o') (fun g hg e => by
    subst e
    obtain ⟨cur, hc⟩ := h.block hg
    rw [hl] at hc
    injection hc with hc
    rw [hc] at ho
    cases ho)

/-- Nothing has turned but rows of E beyond B. -/
def Sly (E : TypeId) (B : Nat) (W W' : World) : Prop := Touch (fun g => B ≤ g ∧ ∃ cs fr, W.heap[g]? = some (.cells cs E fr)) W W'

theorem Sly.at {E t : TypeId} {B g : Nat} {W W' : World} {cs : Array Value} {fr : Nat × Nat} (h : Sly E B W W') (hg : W.heap[g]? = some (.cells cs t fr)) (ht : t ≠ E) : W'.heap[g]? = some (.cells cs t fr) :=
  Touch.heap h hg fun ⟨_, cs', fr', h'⟩ => by rw [hg] at h'; injection h' with h'; injection h' with _ h2 _; exact ht h2

theorem Sly.other {E : TypeId} {B g : Nat} {W W' : World} {o : Obj} (h : Sly E B W W') (hg : W.heap[g]? = some o) (ho : o.isCells = false) : W'.heap[g]? = some o :=
  Touch.heap h hg fun ⟨_, cs', fr', h'⟩ => by rw [hg] at h'; injection h' with h'; subst h'; cases ho

theorem Sly.low {E : TypeId} {B g : Nat} {W W' : World} {o : Obj} (h : Sly E B W W') (hg : W.heap[g]? = some o) (hb : g < B) : W'.heap[g]? = some o :=
  Touch.heap h hg fun ⟨h1, _⟩ => by omega

theorem Sly.weak {E : TypeId} {B B' : Nat} {W W' : World} (h : Sly E B' W W') (hb : B ≤ B') : Sly E B W W' := Touch.mono h fun _ _ ⟨h1, h2⟩ => ⟨Nat.le_trans hb h1, h2⟩

theorem Sly.of_calm {E : TypeId} {B : Nat} {W W' : World} (h : Calm W W') : Sly E B W W' := Touch.mono h fun _ _ h => h.elim

theorem Touch.sly {S : Nat → Prop} {E : TypeId} {w W W' : World} (h : Touch S w W) (g : Sly E w.heap.size W W') : Touch S w W' := h.trans g fun k hk ⟨h1, _⟩ => by omega

/-- What an iterator is to do: rounds 0, 1 .. up to m, each with what H says of it; J between two rounds, Jx behind a round that said no. Rounds touch S alone, which holds no block of kind ND. -/
def Seq {α : Type} (P : Program) (E ND : TypeId) (g : Nat) (lb : Array Value) (encs : α → Array Value) (m : Nat) (H : Nat → α → Prop) (A : World → Prop) : Prop :=
  ∀ (n l : Nat) (S : Nat → Prop) (J Jx : Nat → World → Prop) (W : World), A W → (∀ k, S k → k < W.heap.size ∧ ∀ cs fr, W.heap[k]? ≠ some (.cells cs ND fr)) → (∀ k W1 W2, J k W1 → Sly E W.heap.size W1 W2 → J k W2) →
    (∀ k x W1, J k W1 → k < m → H k x → YieldAt Fence.wide (n - 1) P l (encs x) W1 fun e W' => Touch S W1 W' ∧ ((e = .returned (.bool true) ∧ J (k + 1) W') ∨ (e = .returned (.bool false) ∧ Jx (k + 1) W'))) →
    J 0 W → CallsIn Fence.wide n P g (#[.func (.yield l) #[] #[]] ++ lb) W fun e W' => (∃ v, e = .returned v) ∧ (J m W' ∨ ∃ k, k ≤ m ∧ Jx k W')

/-- How a round's body may be left. -/
def leftBy (S : Nat → Prop) (I : Nat → World → Prop) (Ix : Code → Nat → World → Prop) (k : Nat) (W : World) : Exit → Act → World → Prop
  | .normal, _, W' => KeepsOthers W W' ∧ Touch S W W' ∧ I k W'
  | .ret, _, W' => KeepsOthers W W' ∧ Touch S W W' ∧ Ix .ret k W'
  | .exit id, _, W' => KeepsOthers W W' ∧ Touch S W W' ∧ Ix (.exit id) k W'
  | .goto t, _, W' => KeepsOthers W W' ∧ Touch S W W' ∧ Ix (.goto t) k W'
  | .panic _, _, _ => False
  | .outgrown, _, _ => False

/-- What abides the turn of a block beyond B that holds no cells. -/
def Bides (B : Nat) (X : World → Prop) : Prop := ∀ W l (o o' : Obj), X W → B ≤ l → W.heap[l]? = some o → o.isCells = false → X (W.putObj l o')

theorem wpIn_range {α : Type} {P : Program} {n : Nat} {g : Operand} {ps : Array Tmp} {assign body : Code} {Q : Exit → Act → World → Prop} {a : Act} {w : World}
    {gf : Nat} {lb : Array Value} (hg : a.eval g = .func (.func gf) #[] lb) (eg : ∀ args w, (callFunc gf args).run P w = .ok (.enter gf args) w)
    {encs : α → Array Value} {m : Nat} {H : Nat → α → Prop} {A : World → Prop} {E ND : TypeId} (hseq : Seq P E ND gf lb encs m H A) (hps : ∀ x, (encs x).size = ps.size)
    (S : Nat → Prop) (hS : ∀ k, S k → k < w.heap.size ∧ ∀ cs fr, w.heap[k]? ≠ some (.cells cs ND fr)) (hA : ∀ W, Calm w W → A W)
    (I : Nat → World → Prop) (Ix : Code → Nat → World → Prop) (Ax : Nat → α → Act → World → Prop)
    (hIt : ∀ k W W', I k W → Sly E w.heap.size W W' → I k W') (hIp : ∀ k, Bides w.heap.size (I k)) (hXp : ∀ c k, Bides w.heap.size (Ix c k)) (hAp : ∀ k x a', Bides w.heap.size (Ax k x a')) (h0 : I 0 w)
    (hassign : ∀ (l k : Nat) (x : α) (W : World) (K : Act → World → Prop), I k W → k < m → H k x → (∀ a' W', KeepsOthers W W' → Touch S W W' → I k W' → Ax k x a' W' → K a' W') →
      assign.wpIn (Fence.wide.inRound l) (n - 1 - 1) P (Exit.then K (fun _ _ _ => False)) { tmps := (ps.zip (encs x)).foldl (fun t (p, v) => t.setIfInBounds p v) a.tmps, defers := [] } W)
    (hbody : ∀ (l k : Nat) (x : α) (a' : Act) (W : World), I k W → k < m → H k x → Ax k x a' W → body.wpIn (Fence.wide.inRound l) (n - 1 - 1) P (leftBy S I Ix (k + 1) W) a' W)
    (hdone : ∀ (D : Nat) (W : World), w.heap.size ≤ D → I m W → W.heap[D]? = some (.deferred (some [])) → Q .normal { a with defers := { target := .collected D, args := #[] } :: a.defers } W)
    (hstop : ∀ (D : Nat) (c : Code) (k : Nat) (W : World), w.heap.size ≤ D → k ≤ m → Ix c k W → W.heap[D]? = some (.deferred (some [])) → c.wpIn Fence.wide n P Q { a with defers := { target := .collected D, args := #[] } :: a.defers } W) :
    (Code.rangeFunc g ps assign body).wpIn Fence.wide n P Q a w := by
  refine wpIn_rangeFunc fun fn _ => ?_
  have hro : Fence.wide.round = none := rfl
  rw [hro]
  obtain ⟨rec, hrec⟩ : ∃ rec : LoopState → Option Code → Loop, rec = fun st pe => { state := st, pending := pe, fn, tmps := a.tmps, params := ps, assign, body, defers := w.heap.size } := ⟨_, rfl⟩
  obtain ⟨W1, hW1⟩ : ∃ W1, W1 = (w.alloc (.deferred (some []))).alloc (.loop (rec .ready none)) := ⟨_, rfl⟩
  have t1 : Touch (fun _ => False) w W1 := by rw [hW1]; exact ((Touch.refl _ _).alloc _).alloc _
  have hL1 : W1.heap[w.heap.size + 1]? = some (.loop (rec .ready none)) := by
    rw [hW1]; have := World.alloc_heap_new (w.alloc (.deferred (some []))) (.loop (rec .ready none)); rwa [World.size_alloc] at this
  have hD1 : W1.heap[w.heap.size]? = some (.deferred (some [])) := by
    rw [hW1]; exact (Below.heap_alloc _ _ _ (by simp)).trans (World.alloc_heap_new w _)
  have keepD : ∀ (st : LoopState) (pe : Option Code) (W : World), W.heap[w.heap.size]? = some (.deferred (some [])) → (W.putObj (w.heap.size + 1) (.loop (rec st pe))).heap[w.heap.size]? = some (.deferred (some [])) := fun _ _ W h => (World.putObj_heap_other (by omega)).trans h
  refine ⟨w.heap.size + 1, [{ target := .collected w.heap.size, args := #[] }], W1, { target := .fn (.func gf) lb, args := #[.func (.yield (w.heap.size + 1)) #[] #[]] }, W1, gf,
    #[.func (.yield (w.heap.size + 1)) #[] #[]] ++ lb, W1, ?_, ?_, fun _ _ => trivial, ?_, fun h => (nomatch h), ?_⟩
  · rw [hW1, hrec]; exact run_enterLoop_outer _ _ _ _ _
  · simp only [resolve, hg]
    simp [go_sem]
  · simp [invoke, go_sem, eg]
  · refine (hseq (n - 1) (w.heap.size + 1) (fun g => S g ∨ g = w.heap.size + 1)
      (fun k W => I k W ∧ W.heap[w.heap.size + 1]? = some (.loop (rec .ready none)) ∧ W.heap[w.heap.size]? = some (.deferred (some [])))
      (fun k W => ∃ c, Ix c k W ∧ W.heap[w.heap.size + 1]? = some (.loop (rec .done (some c))) ∧ W.heap[w.heap.size]? = some (.deferred (some [])))
      W1 (hA W1 t1) ?_ (fun k W W' h ht => ⟨hIt k W W' h.1 (ht.weak t1.size), ht.other h.2.1 rfl, ht.other h.2.2 rfl⟩) ?_ ⟨hIt 0 w W1 h0 (.of_calm t1), hL1, hD1⟩).mono ?_
    · rintro g (hg | rfl)
      · obtain ⟨h1, h2⟩ := hS g hg
        refine ⟨Nat.lt_of_lt_of_le h1 t1.size, fun cs fr he => h2 cs fr ?_⟩
        rw [← t1.block g h1 (fun h => h)]; exact he
      · exact ⟨lt_of_heap hL1, fun cs fr he => by rw [hL1] at he; cases he⟩
    · rintro k x W ⟨hi, hl, hd⟩ hk hx
      have hy := run_yield (P := P) (args := encs x) hl (by rw [hrec]; exact hps x)
      rw [hrec] at hy
      refine ⟨fn, _, assign, body, hy, roundIn_of_wpIn trivial (hassign _ k x W _ hi hk hx fun a' W2 hk2 tk2 hi2 hax => ?_)⟩
      have hl2 := hk2.same _ _ hl rfl
      have hd2 := hk2.same _ _ hd rfl
      refine ⟨_, run_beginRound hl2 (by rw [hrec]), ?_⟩
      have hlt := lt_of_heap hl2
      have hbz : ({ rec .ready none with state := .busy } : Loop) = rec .busy none := by rw [hrec]
      rw [hbz]
      have hl3 : (W2.putObj (w.heap.size + 1) (.loop (rec .busy none))).heap[w.heap.size + 1]? = some (.loop (rec .busy none)) := World.putObj_heap_same hlt
      have hd3 := keepD .busy none W2 hd2
      have tb : Touch (fun g => S g ∨ g = w.heap.size + 1) W (W2.putObj (w.heap.size + 1) (.loop (rec .busy none))) := (tk2.mono (fun _ _ h => .inl h)).trans (touch_put W2 _ _) (fun _ _ h => .inr h)
      refine wpIn_mono (hbody _ k x a' _ (hIp k W2 _ _ _ hi2 (by omega) hl2 rfl) hk hx (hAp k x a' W2 _ _ _ hax (by omega) hl2 rfl)) ?_
      have fin : ∀ (jump : Option Code) (W3 : World), KeepsOthers (W2.putObj (w.heap.size + 1) (.loop (rec .busy none))) W3 →
          (Instr.endRound (w.heap.size + 1) jump).run P W3 = .ok (.bool jump.isNone) (W3.putObj (w.heap.size + 1) (.loop (rec (if jump.isNone then .ready else .done) jump))) ∧
          W3.heap[w.heap.size + 1]? = some (.loop (rec .busy none)) ∧
          (W3.putObj (w.heap.size + 1) (.loop (rec (if jump.isNone then .ready else .done) jump))).heap[w.heap.size + 1]? = some (.loop (rec (if jump.isNone then .ready else .done) jump)) ∧
          (W3.putObj (w.heap.size + 1) (.loop (rec (if jump.isNone then .ready else .done) jump))).heap[w.heap.size]? = some (.deferred (some [])) := fun jump W3 hk3 => by
        have h4 := hk3.same _ _ hl3 rfl
        have h5 := run_endRound (P := P) jump h4
        have e5 : ({ rec .busy none with state := if jump.isNone then .ready else .done, pending := jump } : Loop) = rec (if jump.isNone then .ready else .done) jump := by rw [hrec]
        rw [e5] at h5
        exact ⟨h5, h4, World.putObj_heap_same (lt_of_heap h4), keepD _ _ W3 (hk3.same _ _ hd3 rfl)⟩
      rintro e a3 W3 hp
      have leave : ∀ c, KeepsOthers (W2.putObj (w.heap.size + 1) (.loop (rec .busy none))) W3 ∧ Touch S (W2.putObj (w.heap.size + 1) (.loop (rec .busy none))) W3 ∧ Ix c (k + 1) W3 → ∃ v w', (Instr.endRound (w.heap.size + 1) (some c)).run P W3 = .ok v w' ∧
          Touch (fun g => S g ∨ g = w.heap.size + 1) W w' ∧ ((Ending.returned v = .returned (.bool true) ∧ I (k + 1) w' ∧ w'.heap[w.heap.size + 1]? = some (.loop (rec .ready none)) ∧ w'.heap[w.heap.size]? = some (.deferred (some []))) ∨
           (Ending.returned v = .returned (.bool false) ∧ ∃ c, Ix c (k + 1) w' ∧ w'.heap[w.heap.size + 1]? = some (.loop (rec .done (some c))) ∧ w'.heap[w.heap.size]? = some (.deferred (some [])))) := fun c h => by
        obtain ⟨hr, h3, h4, h5⟩ := fin (some c) W3 h.1
        exact ⟨_, _, hr, (tb.trans (h.2.1.mono (fun _ _ h => .inl h)) (fun _ _ h => h)).trans (touch_put W3 _ _) (fun _ _ h => .inr h), .inr ⟨rfl, c, hXp c _ W3 _ _ _ h.2.2 (by omega) h3 rfl, h4, h5⟩⟩
      cases e with
      | normal =>
        obtain ⟨hr, h3, h4, h5⟩ := fin none W3 hp.1
        exact ⟨_, _, hr, (tb.trans (hp.2.1.mono (fun _ _ h => .inl h)) (fun _ _ h => h)).trans (touch_put W3 _ _) (fun _ _ h => .inr h), .inl ⟨rfl, hIp _ W3 _ _ _ hp.2.2 (by omega) h3 rfl, h4, h5⟩⟩
      | ret => exact leave .ret hp
      | exit id => exact leave (.exit id) hp
      | goto t => exact leave (.goto t) hp
      | panic ch => exact hp.elim
      | outgrown => exact hp.elim
    · rintro e W2 ⟨⟨v, rfl⟩, (⟨hi, hl, hd⟩ | ⟨k, hk, c, hi, hl, hd⟩)⟩
      · have h6 := run_endLoop (P := P) hl (by rw [hrec]; simp)
        have e6 : ({ rec .ready none with state := .exhausted } : Loop) = rec .exhausted none := by rw [hrec]
        rw [e6] at h6
        exact ⟨none, _, by rw [h6, hrec], hdone _ _ (Nat.le_refl _) (hIp m W2 _ _ _ hi (by omega) hl rfl) (keepD _ _ W2 hd)⟩
      · have h6 := run_endLoop (P := P) hl (by rw [hrec]; simp)
        have e6 : ({ rec .done (some c) with state := .exhausted } : Loop) = rec .exhausted (some c) := by rw [hrec]
        rw [e6] at h6
        exact ⟨some c, _, by rw [h6, hrec], hstop _ c k _ (Nat.le_refl _) hk (hXp c k W2 _ _ _ hi (by omega) hl rfl) (keepD _ _ W2 hd)⟩

end Go.Proofs.Ytcmigkemhoecfaa
