/- A range over an iterator that keeps a row of its own between its rounds, and whose rounds may change memory: a law of one's own, over the library's steps. Rows that are owned: appends, cuts. The program's way: the nodes on the way to the nearest key that is within. A scope that no goto leaves, inside a fence. -/
import Derived.RangeFuncNested
import Derived.RangeFuncBound
import Derived.RangeFuncCalls
import Derived.RangeFuncLeaves
import Derived.Shelf.Abstract
import Derived.Shelf.RegionOpen
import Derived.WalkKit
import Derived.OwnWalkIn
import Derived.TacticsInMore
import Derived.LoopNIn
import Derived.LoopIn
import Derived.Test.YtamfcmmhmfhhkaaGreatDoorG0
import Derived.ArgAppend
import Derived.OwnWalk
import Derived.Test.YtamfcmmhmfhhkaaGreatDoorG21
import Derived.Scope
import Derived.WalkMore
import Derived.ControlIn
namespace Go.Proofs.YtamfcmmhmfhhkaaGreatDoor
open Go.RowKit

theorem touch_put (W : World) (l : Nat) (o : Obj) : Touch (fun k => k = l) W (W.putObj l o) :=
  ⟨rfl, rfl, rfl, by simp, fun _ _ hn => World.putObj_heap_other hn⟩

theorem Row.put {W : World} {e : TypeId} {k : IntKind} {v : Value} {xs : List Int} (h : Row W e k v xs) {l : Nat} {o : Obj} (o' : Obj) (hl : W.heap[l]? = some o) (ho : o.isCells = false) : Row (W.putObj l o') e k v xs :=
  h.touch (touch_put W l o') (fun g hg e => by
    subst e
    obtain ⟨cur, hc⟩ := h.block hg
    rw [hl] at hc
    injection hc with hc
    rw [hc] at ho
    cases ho)

/-- Nothing has turned but rows of E beyond B. -/
def Sly (E : TypeId) (B : Nat) (W W' : World) : Prop := Touch (fun g => B ≤ g ∧ ∃ cs fr, W.heap[g]? = some (.cells cs E fr)) W W'

theorem Sly.at {E t : TypeId} {B g : Nat} {W W' : World} {cs : Array Value} {fr : Nat × Nat} (h : Sly E B W W') (hg : W.heap[g]? = some (.cells cs t fr)) (ht : t ≠ E) : W'.heap[g]? = some (.cells cs t fr) :=
  Touch.heap h hg fun ⟨_, cs', fr', h'⟩ => by rw [hg] at h'; injection h' with h'; injection h' with _ h2 _; exact ht h2

theorem Sly.other {E : TypeId} {B g : Nat} {W W' : World} {o : Obj} (h : Sly E B W W') (hg : W.heap[g]? = some o) (ho : o.isCells = false) : W'.heap[g]? = some o :=
  Touch.heap h hg fun ⟨_, cs', fr', h'⟩ => by rw [hg] at h'; injection h' with h'; subst h'; cases ho

theorem Sly.low {E : TypeId} {B g : Nat} {W W' : World} {o : Obj} (h : Sly E B W W') (hg : W.heap[g]? = some o) (hb : g < B) : W'.heap[g]? = some o :=
  Touch.heap h hg fun ⟨h1, _⟩ => by omega

theorem Sly.weak {E : TypeId} {B B' : Nat} {W W' : World} (h : Sly E B' W W') (hb : B ≤ B') : Sly E B W W' := Touch.mono h fun _ _ ⟨h1, h2⟩ => ⟨Nat.le_trans hb h1, h2⟩

theorem Sly.of_calm {E : TypeId} {B : Nat} {W W' : World} (h : Calm W W') : Sly E B W W' := Touch.mono h fun _ _ h => h.elim

theorem Touch.sly {S : Nat → Prop} {E : TypeId} {w W W' : World} (h : Touch S w W) (g : Sly E w.heap.size W W') : Touch S w W' := h.trans g fun k hk ⟨h1, _⟩ => by omega

/-- What an iterator is to do: rounds 0, 1 .. up to m, each with what H says of it; J between two rounds, Jx behind a round that said no. Rounds touch S alone, which holds no block of kind ND. -/
def Seq {α : Type} (P : Program) (E ND : TypeId) (g : Nat) (lb : Array Value) (encs : α → Array Value) (m : Nat) (H : Nat → α → Prop) (A : World → Prop) : Prop :=
  ∀ (n l : Nat) (S : Nat → Prop) (J Jx : Nat → World → Prop) (W : World), A W → (∀ k, S k → k < W.heap.size ∧ ∀ cs fr, W.heap[k]? ≠ some (.cells cs ND fr)) → (∀ k W1 W2, J k W1 → Sly E W.heap.size W1 W2 → J k W2) →
    (∀ k x W1, J k W1 → k < m → H k x → YieldAt Fence.wide (n - 1) P l (encs x) W1 fun e W' => Touch S W1 W' ∧ ((e = .returned (.bool true) ∧ J (k + 1) W') ∨ (e = .returned (.bool false) ∧ Jx (k + 1) W'))) →
    J 0 W → CallsIn Fence.wide n P g (#[.func (.yield l) #[] #[]] ++ lb) W fun e W' => (∃ v, e = .returned v) ∧ (J m W' ∨ ∃ k, k ≤ m ∧ Jx k W')

/-- How a round's body may be left. -/
def leftBy (S : Nat → Prop) (I : Nat → World → Prop) (Ix : Code → Nat → World → Prop) (k : Nat) (W : World) : Exit → Act → World → Prop
  | .normal, _, W' => KeepsOthers W W' ∧ Touch S W W' ∧ I k W'
  | .ret, _, W' => KeepsOthers W W' ∧ Touch S W W' ∧ Ix .ret k W'
  | .exit id, _, W' => KeepsOthers W W' ∧ Touch S W W' ∧ Ix (.exit id) k W'
  | .goto t, _, W' => KeepsOthers W W' ∧ Touch S W W' ∧ Ix (.goto t) k W'
  | .panic _, _, _ => False
  | .outgrown, _, _ => False

/-- What abides the turn of a block beyond B that holds no cells. -/
def Bides (B : Nat) (X : World → Prop) : Prop := ∀ W l (o o' : Obj), X W → B ≤ l → W.heap[l]? = some o → o.isCells = false → X (W.putObj l o')

theorem wpIn_range {α : Type} {P : Program} {n : Nat} {g : Operand} {ps : Array Tmp} {assign body : Code} {Q : Exit → Act → World → Prop} {a : Act} {w : World}
    {gf : Nat} {lb : Array Value} (hg : a.eval g = .func (.func gf) #[] lb) (eg : ∀ args w, (callFunc gf args).run P w = .ok (.enter gf args) w)
    {encs : α → Array Value} {m : Nat} {H : Nat → α → Prop} {A : World → Prop} {E ND : TypeId} (hseq : Seq P E ND gf lb encs m H A) (hps : ∀ x, (encs x).size = ps.size)
    (S : Nat → Prop) (hS : ∀ k, S k → k < w.heap.size ∧ ∀ cs fr, w.heap[k]? ≠ some (.cells cs ND fr)) (hA : ∀ W, Calm w W → A W)
    (I : Nat → World → Prop) (Ix : Code → Nat → World → Prop) (Ax : Nat → α → Act → World → Prop)
    (hIt : ∀ k W W', I k W → Sly E w.heap.size W W' → I k W') (hIp : ∀ k, Bides w.heap.size (I k)) (hXp : ∀ c k, Bides w.heap.size (Ix c k)) (hAp : ∀ k x a', Bides w.heap.size (Ax k x a')) (h0 : I 0 w)
    (hassign : ∀ (l k : Nat) (x : α) (W : World) (K : Act → World → Prop), I k W → k < m → H k x → (∀ a' W', KeepsOthers W W' → Touch S W W' → I k W' → Ax k x a' W' → K a' W') →
      assign.wpIn (Fence.wide.inRound l) (n - 1 - 1) P (Exit.then K (fun _ _ _ => False)) { tmps := (ps.zip (encs x)).foldl (fun t (p, v) => t.setIfInBounds p v) a.tmps, defers := [] } W)
    (hbody : ∀ (l k : Nat) (x : α) (a' : Act) (W : World), I k W → k < m → H k x → Ax k x a' W → body.wpIn (Fence.wide.inRound l) (n - 1 - 1) P (leftBy S I Ix (k + 1) W) a' W)
    (hdone : ∀ (D : Nat) (W : World), w.heap.size ≤ D → I m W → W.heap[D]? = some (.deferred (some [])) → Q .normal { a with defers := { target := .collected D, args := #[] } :: a.defers } W)
    (hstop : ∀ (D : Nat) (c : Code) (k : Nat) (W : World), w.heap.size ≤ D → k ≤ m → Ix c k W → W.heap[D]? = some (.deferred (some [])) → c.wpIn Fence.wide n P Q { a with defers := { target := .collected D, args := #[] } :: a.defers } W) :
    (Code.rangeFunc g ps assign body).wpIn Fence.wide n P Q a w := by
  refine wpIn_rangeFunc fun fn _ => ?_
  have hro : Fence.wide.round = none := rfl
  rw [hro]
  obtain ⟨rec, hrec⟩ : ∃ rec : LoopState → Option Code → Loop, rec = fun st pe => { state := st, pending := pe, fn, tmps := a.tmps, params := ps, assign, body, defers := w.heap.size } := ⟨_, rfl⟩
  obtain ⟨W1, hW1⟩ : ∃ W1, W1 = (w.alloc (.deferred (some []))).alloc (.loop (rec .ready none)) := ⟨_, rfl⟩
  have t1 : Touch (fun _ => False) w W1 := by rw [hW1]; exact ((Touch.refl _ _).alloc _).alloc _
  have hL1 : W1.heap[w.heap.size + 1]? = some (.loop (rec .ready none)) := by
    rw [hW1]; have := World.alloc_heap_new (w.alloc (.deferred (some []))) (.loop (rec .ready none)); rwa [World.size_alloc] at this
  have hD1 : W1.heap[w.heap.size]? = some (.deferred (some [])) := by
    rw [hW1]; exact (Below.heap_alloc _ _ _ (by simp)).trans (World.alloc_heap_new w _)
  have keepD : ∀ (st : LoopState) (pe : Option Code) (W : World), W.heap[w.heap.size]? = some (.deferred (some [])) → (W.putObj (w.heap.size + 1) (.loop (rec st pe))).heap[w.heap.size]? = some (.deferred (some [])) := fun _ _ W h => (World.putObj_heap_other (by omega)).trans h
  refine ⟨w.heap.size + 1, [{ target := .collected w.heap.size, args := #[] }], W1, { target := .fn (.func gf) lb, args := #[.func (.yield (w.heap.size + 1)) #[] #[]] }, W1, gf,
    #[.func (.yield (w.heap.size + 1)) #[] #[]] ++ lb, W1, ?_, ?_, fun _ _ => trivial, ?_, fun h => (nomatch h), ?_⟩
  · rw [hW1, hrec]; exact run_enterLoop_outer _ _ _ _ _
  · simp only [resolve, hg]
    simp [go_sem]
  · simp [invoke, go_sem, eg]
  · refine (hseq (n - 1) (w.heap.size + 1) (fun g => S g ∨ g = w.heap.size + 1)
      (fun k W => I k W ∧ W.heap[w.heap.size + 1]? = some (.loop (rec .ready none)) ∧ W.heap[w.heap.size]? = some (.deferred (some [])))
      (fun k W => ∃ c, Ix c k W ∧ W.heap[w.heap.size + 1]? = some (.loop (rec .done (some c))) ∧ W.heap[w.heap.size]? = some (.deferred (some [])))
      W1 (hA W1 t1) ?_ (fun k W W' h ht => ⟨hIt k W W' h.1 (ht.weak t1.size), ht.other h.2.1 rfl, ht.other h.2.2 rfl⟩) ?_ ⟨hIt 0 w W1 h0 (.of_calm t1), hL1, hD1⟩).mono ?_
    · rintro g (hg | rfl)
      · obtain ⟨h1, h2⟩ := hS g hg
        refine ⟨Nat.lt_of_lt_of_le h1 t1.size, fun cs fr he => h2 cs fr ?_⟩
        rw [← t1.block g h1 (fun h => h)]; exact he
      · exact ⟨lt_of_heap hL1, fun cs fr he => by rw [hL1] at he; cases he⟩
    · rintro k x W ⟨hi, hl, hd⟩ hk hx
      have hy := run_yield (P := P) (args := encs x) hl (by rw [hrec]; exact hps x)
      rw [hrec] at hy
      refine ⟨fn, _, assign, body, hy, roundIn_of_wpIn trivial (hassign _ k x W _ hi hk hx fun a' W2 hk2 tk2 hi2 hax => ?_)⟩
      have hl2 := hk2.same _ _ hl rfl
      have hd2 := hk2.same _ _ hd rfl
      refine ⟨_, run_beginRound hl2 (by rw [hrec]), ?_⟩
      have hlt := lt_of_heap hl2
      have hbz : ({ rec .ready none with state := .busy } : Loop) = rec .busy none := by rw [hrec]
      rw [hbz]
      have hl3 : (W2.putObj (w.heap.size + 1) (.loop (rec .busy none))).heap[w.heap.size + 1]? = some (.loop (rec .busy none)) := World.putObj_heap_same hlt
      have hd3 := keepD .busy none W2 hd2
      have tb : Touch (fun g => S g ∨ g = w.heap.size + 1) W (W2.putObj (w.heap.size + 1) (.loop (rec .busy none))) := (tk2.mono (fun _ _ h => .inl h)).trans (touch_put W2 _ _) (fun _ _ h => .inr h)
      refine wpIn_mono (hbody _ k x a' _ (hIp k W2 _ _ _ hi2 (by omega) hl2 rfl) hk hx (hAp k x a' W2 _ _ _ hax (by omega) hl2 rfl)) ?_
      have fin : ∀ (jump : Option Code) (W3 : World), KeepsOthers (W2.putObj (w.heap.size + 1) (.loop (rec .busy none))) W3 →
          (Instr.endRound (w.heap.size + 1) jump).run P W3 = .ok (.bool jump.isNone) (W3.putObj (w.heap.size + 1) (.loop (rec (if jump.isNone then .ready else .done) jump))) ∧
          W3.heap[w.heap.size + 1]? = some (.loop (rec .busy none)) ∧
          (W3.putObj (w.heap.size + 1) (.loop (rec (if jump.isNone then .ready else .done) jump))).heap[w.heap.size + 1]? = some (.loop (rec (if jump.isNone then .ready else .done) jump)) ∧
          (W3.putObj (w.heap.size + 1) (.loop (rec (if jump.isNone then .ready else .done) jump))).heap[w.heap.size]? = some (.deferred (some [])) := fun jump W3 hk3 => by
        have h4 := hk3.same _ _ hl3 rfl
        have h5 := run_endRound (P := P) jump h4
        have e5 : ({ rec .busy none with state := if jump.isNone then .ready else .done, pending := jump } : Loop) = rec (if jump.isNone then .ready else .done) jump := by rw [hrec]
        rw [e5] at h5
        exact ⟨h5, h4, World.putObj_heap_same (lt_of_heap h4), keepD _ _ W3 (hk3.same _ _ hd3 rfl)⟩
      rintro e a3 W3 hp
      have leave : ∀ c, KeepsOthers (W2.putObj (w.heap.size + 1) (.loop (rec .busy none))) W3 ∧ Touch S (W2.putObj (w.heap.size + 1) (.loop (rec .busy none))) W3 ∧ Ix c (k + 1) W3 → ∃ v w', (Instr.endRound (w.heap.size + 1) (some c)).run P W3 = .ok v w' ∧
          Touch (fun g => S g ∨ g = w.heap.size + 1) W w' ∧ ((Ending.returned v = .returned (.bool true) ∧ I (k + 1) w' ∧ w'.heap[w.heap.size + 1]? = some (.loop (rec .ready none)) ∧ w'.heap[w.heap.size]? = some (.deferred (some []))) ∨
           (Ending.returned v = .returned (.bool false) ∧ ∃ c, Ix c (k + 1) w' ∧ w'.heap[w.heap.size + 1]? = some (.loop (rec .done (some c))) ∧ w'.heap[w.heap.size]? = some (.deferred (some [])))) := fun c h => by
        obtain ⟨hr, h3, h4, h5⟩ := fin (some c) W3 h.1
        exact ⟨_, _, hr, (tb.trans (h.2.1.mono (fun _ _ h => .inl h)) (fun _ _ h => h)).trans (touch_put W3 _ _) (fun _ _ h => .inr h), .inr ⟨rfl, c, hXp c _ W3 _ _ _ h.2.2 (by omega) h3 rfl, h4, h5⟩⟩
      cases e with
      | normal =>
        obtain ⟨hr, h3, h4, h5⟩ := fin none W3 hp.1
        exact ⟨_, _, hr, (tb.trans (hp.2.1.mono (fun _ _ h => .inl h)) (fun _ _ h => h)).trans (touch_put W3 _ _) (fun _ _ h => .inr h), .inl ⟨rfl, hIp _ W3 _ _ _ hp.2.2 (by omega) h3 rfl, h4, h5⟩⟩
      | ret => exact leave .ret hp
      | exit id => exact leave (.exit id) hp
      | goto t => exact leave (.goto t) hp
      | panic ch => exact hp.elim
      | outgrown => exact hp.elim
    · rintro e W2 ⟨⟨v, rfl⟩, (⟨hi, hl, hd⟩ | ⟨k, hk, c, hi, hl, hd⟩)⟩
      · have h6 := run_endLoop (P := P) hl (by rw [hrec]; simp)
        have e6 : ({ rec .ready none with state := .exhausted } : Loop) = rec .exhausted none := by rw [hrec]
        rw [e6] at h6
        exact ⟨none, _, by rw [h6, hrec], hdone _ _ (Nat.le_refl _) (hIp m W2 _ _ _ hi (by omega) hl rfl) (keepD _ _ W2 hd)⟩
      · have h6 := run_endLoop (P := P) hl (by rw [hrec]; simp)
        have e6 : ({ rec .done (some c) with state := .exhausted } : Loop) = rec .exhausted (some c) := by rw [hrec]
        rw [e6] at h6
        exact ⟨some c, _, by rw [h6, hrec], hstop _ c k _ (Nat.le_refl _) hk (hXp c k W2 _ _ _ hi (by omega) hl rfl) (keepD _ _ W2 hd)⟩

end Go.Proofs.YtamfcmmhmfhhkaaGreatDoor

namespace Go.Proofs.YtamfcmmhmfhhkaaGreatDoor
open Go.RowKit

theorem own_shape {w : World} {base n sz : Nat} {e : TypeId} {v : Value} {xs : List Value} (h : w.ownsRow base e sz v n xs) : ∃ ao c, v = .slice ao n c := by
  rcases h.2 with ⟨rfl, rfl⟩ | ⟨g, cap, cur, rfl, _⟩
  · exact ⟨none, 0, rfl⟩
  · exact ⟨_, _, rfl⟩

/-- It stays where its block stays. -/
theorem own_stays {w w' : World} {base n sz : Nat} {e : TypeId} {v : Value} {xs : List Value} (h : w.ownsRow base e sz v n xs) (hb : ∀ g, v.ownBlock = some g → w'.heap[g]? = w.heap[g]?) : w'.ownsRow base e sz v n xs := by
  rcases h with ⟨h1, h2 | ⟨g, cap, cur, rfl, h3, h4, h5⟩⟩
  · exact ⟨h1, .inl h2⟩
  · exact ⟨h1, .inr ⟨g, cap, cur, rfl, h3, (hb g rfl).trans h4, h5⟩⟩

theorem own_block {w : World} {base n sz : Nat} {e : TypeId} {v : Value} {xs : List Value} (h : w.ownsRow base e sz v n xs) {g : Nat} (hg : v.ownBlock = some g) : base ≤ g ∧ ∃ cur, w.heap[g]? = some (.cells cur e (0, 0)) := by
  rcases h with ⟨h1, ⟨rfl, _⟩ | ⟨g', cap, cur, rfl, h3, h4, h5⟩⟩
  · simp [Value.ownBlock] at hg
  · simp [Value.ownBlock] at hg; subst hg; exact ⟨h3, cur, h4⟩

theorem own_touch {S : Nat → Prop} {w w' : World} {base n sz : Nat} {e : TypeId} {v : Value} {xs : List Value} (h : w.ownsRow base e sz v n xs) (ht : Touch S w w') (hn : ∀ g, v.ownBlock = some g → ¬ S g) : w'.ownsRow base e sz v n xs :=
  own_stays h fun g hg => by
    obtain ⟨_, cur, hc⟩ := own_block h hg
    exact ht.block g (lt_of_heap hc) (hn g hg)

theorem own_base {w : World} {base base' n sz : Nat} {e : TypeId} {v : Value} {xs : List Value} (h : w.ownsRow base e sz v n xs) (hb : base' ≤ base) : w.ownsRow base' e sz v n xs := by
  rcases h with ⟨h1, h2 | ⟨g, cap, cur, rfl, h3, h4, h5⟩⟩
  · exact ⟨h1, .inl h2⟩
  · exact ⟨h1, .inr ⟨g, cap, cur, rfl, by omega, h4, h5⟩⟩

theorem keeps_touch {S : Nat → Prop} {W W' : World} (ht : Touch S W W') (hS : ∀ g, S g → ∃ c t f, W.heap[g]? = some (.cells c t f)) : KeepsOthers W W' :=
  ⟨ht.size, fun k o hk ho => by
    by_cases s : S k
    · obtain ⟨c, t, f, e⟩ := hS k s
      rw [hk] at e; injection e with e; rw [e] at ho; cases ho
    · exact ht.heap hk s⟩

theorem info_parts2 {P : Program} {e : TypeId} {z : Value} {s b : Nat} (h : (P.info? e).map (fun i => (i.zero, i.size, i.bytes)) = some (some z, s, b)) : ∃ i, P.info? e = some i ∧ i.zero = some z ∧ i.size = s ∧ i.bytes = b := by
  cases hi : P.info? e with
  | none => rw [hi] at h; cases h
  | some i =>
    rw [hi] at h
    simp only [Option.map_some] at h
    injection h with h
    injection h with h1 h2
    injection h2 with h2 h3
    exact ⟨i, rfl, h1, h2, h3⟩

theorem own_len {w : World} {base n k sz c : Nat} {e : TypeId} {ao : Option Addr} {xs : List Value} (h : w.ownsRow base e sz (.slice ao n c) k xs) : n = k := by
  obtain ⟨_, _, hs⟩ := own_shape h
  injection hs

theorem wpList_append_sep {P : Program} (w : World) {ops : Array Oper} {rest : List Oper} {o : Oper} {a : Act} {Q : Exit → Act → World → Prop}
    (hg : o.guard = none) (s x : Operand) (t : TypeId) (hop : o.op = Op.call { callee := Callee.builtin Builtin.append, args := #[s, x], argTypes := #[t, t] })
    (base : Nat) (e : TypeId) (i : TypeInfo) (z : Value) (size bytes : Nat) (h1 : P.underlying t = some (.slice e)) (h2 : P.info? e = some i) (h3 : i.zero = some z) (h4 : i.size = size) (h5 : i.bytes = bytes) (h6 : z.cells.size = size) (h7 : 0 < size)
    (v : Value) (k : Nat) (xs : List Value) (hs : a.eval s = v) (hown : w.ownsRow base e size v k xs) (ad : Addr) (m c : Nat) (news : List Value) (hx : a.eval x = .slice (some ad) m c) (hn : news.length = m * size)
    (hc : ∀ j u, news[j]? = some u → w.cell? (ad.add j) = some u) (h1c : ∀ u ∈ news, u.oneCell' = true) (b1 : k + m ≤ maxLen) (b2 : (k + m) * bytes ≤ 140737488355328) (b3 : base ≤ w.heap.size) (hm : 0 < m)
    (h : ∀ ao cap w', w'.ownsRow base e size (.slice ao (k + m) cap) (k + m) (xs ++ news) → Touch (fun g => v.ownBlock = some g) w w' → (∀ g, (Value.slice ao (k + m) cap).ownBlock = some g → v.ownBlock = some g ∨ w.heap.size ≤ g) → wpList P ops Q rest (a.put o.dst (.slice ao (k + m) cap)) w') :
    wpList P ops Q (o :: rest) a w := by
  obtain ⟨ao, cap, rfl⟩ := own_shape hown
  have grow : ∀ v' w', w'.ownsRow w.heap.size e size v' (k + m) (xs ++ news) → w.grownBy w' none → wpList P ops Q rest (a.put o.dst v') w' := fun v' w' r1 r2 => by
    obtain ⟨ao', cap', rfl⟩ := own_shape r1
    exact h ao' cap' w' (own_base r1 b3) ((Touch.of_grownBy r2).mono (fun _ _ h => (nomatch h))) (fun g hg => .inr (own_block r1 hg).1)
  have hlen := hown.1
  rcases hown.2 with ⟨hv, hk⟩ | ⟨g, c', cur, hv, q1, q2, q3⟩
  · injection hv with e1 e2 e3
    subst e1 e2 e3
    exact wpList_append_grows w hg s x t hop e i z size bytes h1 h2 h3 h4 h5 h6 h7 none 0 0 xs hs (fun _ => ⟨rfl, rfl⟩) (by simpa using hlen) (fun b hb => (nomatch hb)) ad m c news hx hn hc h1c (by omega) b1 b2 grow
  · injection hv with e1 e2 e3
    subst e1 e3
    by_cases hr : k + m ≤ cap
    · exact wpList_append_fits w hg s x t hop base e i size h1 h2 h4 g k cap xs hs hown ad m c news hx hn hc h1c hr (fun w' r1 r2 => h _ _ w' r1 ((Touch.of_grownBy r2).mono (fun j _ hj => by rw [← hj]; rfl)) (fun g' hg' => .inl hg'))
    · exact wpList_append_grows w hg s x t hop e i z size bytes h1 h2 h3 h4 h5 h6 h7 (some ⟨g, 0, none⟩) k cap xs hs (fun e => (nomatch e)) hlen (fun b hb j u hj => by
        injection hb with hb; subst hb
        exact hown.cells (g := g) rfl j u hj) ad m c news hx hn hc h1c (by omega) b1 b2 grow

theorem new_cells1 (w : World) (u : Value) (t : TypeId) : ∀ (j : Nat) (x : Value), ([u] : List Value)[j]? = some x → (w.alloc (.cells #[u] t)).cell? ((⟨w.heap.size, 0, none⟩ : Addr).add j) = some x := fun j x hx => by
  have hb := heap_alloc_last w (.cells #[u] t)
  rw [Addr.add_lit, Nat.zero_add, cell_of_row _ _ j _ _ _ hb]
  simpa using hx

theorem one_cells1 {u : Value} (hu : u.oneCell' = true) : ∀ x ∈ ([u] : List Value), x.oneCell' = true := fun x hx => by
  obtain rfl := List.mem_singleton.1 hx; exact hu

/-- An owned row of pointers, the last one left off. -/
theorem own_cut {w : World} {base n : Nat} {e : TypeId} {ao : Option Addr} {cap : Nat} {xs : List Value} {x : Value} (h : w.ownsRow base e 1 (.slice ao (n + 1) cap) (n + 1) (xs ++ [x])) :
    ∃ g, ao = some ⟨g, 0, none⟩ ∧ base ≤ g ∧ n + 1 ≤ cap ∧ cap ≤ maxLen ∧ w.cell? ⟨g, n, none⟩ = some x ∧ w.ownsRow base e 1 (.slice ao n cap) n xs := by
  obtain ⟨h1, ⟨hv, h2⟩ | ⟨g, cap', cur, hv, h3, h4, h5, h6, h7, h8⟩⟩ := h
  · cases h2
  · injection hv with e1 e2 e3
    subst e1 e3
    simp only [List.length_append, List.length_cons, List.length_nil] at h1
    have hl : xs.length = n := by omega
    have ht : cur.toList.take (n + 1) = xs ++ [x] := by simpa using h8
    have hx : cur[n]? = some x := by
      have := congrArg (fun l => l[n]?) ht
      simp only [List.getElem?_take] at this
      rw [if_pos (by omega), List.getElem?_append_right (by omega)] at this
      simpa [hl] using this
    refine ⟨g, rfl, h3, h5, h6, ?_, ⟨by simpa using hl, .inr ⟨g, cap, cur, rfl, h3, h4, by omega, h6, h7, ?_⟩⟩⟩
    · rw [cell_of_row _ _ n _ _ _ h4]; exact hx
    · have := congrArg (List.take n) ht
      have e : List.take n (xs ++ [x]) = xs := by rw [List.take_append_of_le_length (by omega), List.take_of_length_le (by omega)]
      rw [List.take_take, Nat.min_eq_left (by omega), e] at this
      simpa using this

/-- The least number of which something holds. -/
theorem least_ex {p : Nat → Prop} (h : ∃ n, p n) : ∃ n, p n ∧ ∀ m, p m → n ≤ m := by
  obtain ⟨n, hn⟩ := h
  induction n using Nat.strongRecOn with
  | ind n ih =>
    by_cases hm : ∃ m, m < n ∧ p m
    · obtain ⟨m, hlt, hp⟩ := hm
      exact ih m hlt hp
    · exact ⟨n, hn, fun m hp => Nat.le_of_not_lt fun hlt => hm ⟨m, hlt, hp⟩⟩

open Classical in
noncomputable def least (p : Nat → Prop) : Nat := if h : ∃ n, p n then Classical.choose (least_ex h) else 0

theorem least_spec {p : Nat → Prop} (h : ∃ n, p n) : p (least p) ∧ ∀ m, p m → least p ≤ m := by
  unfold least
  rw [dif_pos h]
  exact Classical.choose_spec (least_ex h)

end Go.Proofs.YtamfcmmhmfhhkaaGreatDoor

namespace Go.Proofs.YtamfcmmhmfhhkaaGreatDoor.LM
open Go.RowKit

/-- So many keys fit into a row of pointers. -/
structure Few (n : Nat) : Prop where
  le : n ≤ 8796093022208

theorem Few.low {n : Nat} (h : Few n) : Low n := ⟨Nat.le_trans h.le (by omega)⟩

/-- In the order in which a walk from side s tells. -/
def dir (s : Nat) (X : List (ByteArray × (Option Addr × Nat × Nat))) : List (ByteArray × (Option Addr × Nat × Nat)) := if s = 0 then X else X.reverse

theorem dir0 (X : List (ByteArray × (Option Addr × Nat × Nat))) : dir 0 X = X := rfl
theorem dir1 (X : List (ByteArray × (Option Addr × Nat × Nat))) : dir 1 X = X.reverse := rfl

/-- Where one is within, so are all behind it. -/
def Mon (g : ByteArray → Bool) (X : List (ByteArray × (Option Addr × Nat × Nat))) : Prop := X.Pairwise fun a b => g a.1 = true → g b.1 = true

theorem Mon.in {g : ByteArray → Bool} {A B : List (ByteArray × (Option Addr × Nat × Nat))} {x : ByteArray × (Option Addr × Nat × Nat)} (h : Mon g (A ++ x :: B)) (hx : g x.1 = true) : Mon g A ∧ (A ++ x :: B).filter (fun a => g a.1) = A.filter (fun a => g a.1) ++ x :: B := by
  unfold Mon at *
  rw [List.pairwise_append, List.pairwise_cons] at h
  refine ⟨h.1, ?_⟩
  rw [List.filter_append, List.filter_cons, if_pos hx, List.filter_eq_self.2 fun b hb => h.2.1.1 b hb hx]

theorem Mon.out {g : ByteArray → Bool} {A B : List (ByteArray × (Option Addr × Nat × Nat))} {x : ByteArray × (Option Addr × Nat × Nat)} (h : Mon g (A ++ x :: B)) (hx : g x.1 = false) : Mon g B ∧ (A ++ x :: B).filter (fun a => g a.1) = B.filter (fun a => g a.1) := by
  unfold Mon at *
  rw [List.pairwise_append, List.pairwise_cons] at h
  refine ⟨h.2.1.2, ?_⟩
  rw [List.filter_append, List.filter_cons, if_neg (by simp [hx]), List.filter_eq_nil_iff.2 fun a ha => ?_]
  · rfl
  · intro hg
    have := h.2.2 a ha x (by simp) hg
    rw [hx] at this
    cases this

/-- A function that tells whether a key is within, with what it holds. -/
structure Wi (f : Nat) (lb : Array Value) (g : ByteArray → Bool) (Y : World → Prop) : Prop where
  enter : ∀ args w, (callFunc f args).run Tryz.prog w = .ok (.enter f args) w
  calls : ∀ a w, Y w → Calls Tryz.prog f (#[.string a] ++ lb) w fun e w' => e = .returned (.bool (g a)) ∧ Calm w w'
  calm : ∀ w w', Y w → Calm w w' → Y w'

/-- A stack of nodes, the next one last, told by what a walk has yet to tell. -/
inductive Stk (w : World) (s : Nat) : List Value → List (ByteArray × (Option Addr × Nat × Nat)) → Prop
  | nil : Stk w s [] []
  | push {b : Nat} {k : ByteArray} {v : (Option Addr × Nat × Nat)} {p q : Option Addr} {F A : List (ByteArray × (Option Addr × Nat × Nat))} {vs : List Value}
      (hn : Nd w b k v p q) (hf : TL w (.pointer (if s = 0 then q else p)) F) (hs : Stk w s vs A) : Stk w s (vs ++ [.pointer (some ⟨b, 0, none⟩)]) ((k, v) :: dir s F ++ A)

theorem Stk.len {w : World} {s : Nat} {vs : List Value} {A : List (ByteArray × (Option Addr × Nat × Nat))} (h : Stk w s vs A) : vs.length ≤ A.length := by
  induction h with
  | nil => simp
  | push _ _ _ ih => simp; omega

theorem infoPtr : (Tryz.prog.info? 80).map (fun i => (i.zero, i.size, i.bytes)) = some (some (.pointer none), 1, 8) := by kernel_rfl

set_option maxRecDepth 100000 in
set_option maxHeartbeats 1000000 in
theorem way0_any {f : Nat} {lb : Array Value} {g : ByteArray → Bool} {Y : World → Prop} (hW : Wi f lb g Y) (w : World) (p : Option Addr) (X : List (ByteArray × (Option Addr × Nat × Nat))) (h : TL w (.pointer p) X) (hY : Y w) (mon : Mon g (dir 0 X)) (few : Few X.length) :
    Calls Tryz.prog 60 #[.pointer p, .int .i64 0, .func (.func f) #[] lb] w fun e w' =>
      ∃ ao n cap vs, e = .returned (.slice ao n cap) ∧ w'.ownsRow w.heap.size 80 1 (.slice ao n cap) n vs ∧ Stk w 0 vs ((dir 0 X).filter fun a => g a.1) ∧ Calm w w' := by
  obtain ⟨i1, hj, hy0, hy1, hy2⟩ := info_parts2 infoPtr
  have HW := hide hW
  have HY := hide hY
  have H := hide h
  have MON := hide mon
  have FEW := hide few
  clear hW hY h mon few
  go_enter Tryz.func60, Tryz.ntmps60
  go_wp2_with fail
  go_loopw [0, 7] (fun i j wr => ∃ (o : Option Addr) (Z A : List (ByteArray × (Option Addr × Nat × Nat))) (ao : Option Addr) (n cap : Nat) (vs : List Value), i = .pointer o ∧ j = .slice ao n cap ∧ TL w (.pointer o) Z ∧ Mon g (dir 0 Z) ∧
    wr.ownsRow w.heap.size 80 1 (.slice ao n cap) n vs ∧ Stk w 0 vs A ∧ (dir 0 X).filter (fun a => g a.1) = (dir 0 Z).filter (fun a => g a.1) ++ A ∧ Calm w wr) (fun i _ _ => cnt w i)
  case atStart => exact ⟨p, X, [], none, 0, 0, [], rfl, rfl, H.out, MON.out, World.ownsRow_nil _ _ _ _, .nil, by simp, Touch.refl _ _⟩
  case round =>
    obtain ⟨o, Z, A, ao, n, cap, vs, rfl, rfl, htl, hmon, own, stk, hfil, tr⟩ := hrel
    have FIL := hide hfil
    have TR := hide tr
    have OWN := hide own
    have STK := hide stk
    have HMON := hide hmon
    clear hfil tr own stk hmon
    cases htl with
    | nil =>
      go_wp2_with fail
      go_ret
      refine ⟨ao, n, cap, vs, rfl, OWN.out, ?_, TR.out⟩
      have e := FIL.out
      simp only [dir] at e
      simp at e
      simp only [dir]
      simp
      rw [e]
      exact STK.out
    | @node b k v p1 q1 L R hb g1 g2 =>
      obtain ⟨c0, -, -, c3, c4⟩ := cells5 (TR.out.at hb)
      have CA := hide (HW.out.calls k wr (HW.out.calm _ _ HY.out TR.out))
      have EN := HW.out.enter
      have HB := hide hb
      have G1 := hide g1
      have G2 := hide g2
      have CN := hide (TL.node hb g1 g2).cnt
      have hdz : dir 0 (L ++ (k, v) :: R) = dir 0 L ++ (k, v) :: dir 0 R := by simp [dir]
      have HDZ := hide hdz
      have MZ : Hid (Mon g (dir 0 L ++ (k, v) :: dir 0 R)) := hide (by rw [← HDZ.out]; exact HMON.out)
      have FZ : Hid ((dir 0 X).filter (fun a => g a.1) = (dir 0 L ++ (k, v) :: dir 0 R).filter (fun a => g a.1) ++ A) := hide (by rw [← HDZ.out]; exact FIL.out)
      clear hb g1 g2 hdz
      cases hg : g k with
      | true =>
        rw [hg] at CA
        have hin := hide (MZ.out.in (x := (k, v)) hg)
        have hx1 : Hid (n + 1 ≤ maxLen) := hide (by
          have h1 := STK.out.len
          have h2 := OWN.out.1
          have h3 := congrArg List.length FZ.out
          have h4 := List.length_filter_le (fun a : ByteArray × (Option Addr × Nat × Nat) => g a.1) (dir 0 X)
          have h5 : (dir 0 X).length = X.length := by simp [dir]
          have h6 := FEW.out.le
          simp only [List.length_append] at h3
          unfold maxLen; omega)
        have hx2 : Hid ((n + 1) * 8 ≤ 140737488355328) := hide (by
          have h1 := STK.out.len
          have h2 := OWN.out.1
          have h3 := congrArg List.length FZ.out
          have h4 := List.length_filter_le (fun a : ByteArray × (Option Addr × Nat × Nat) => g a.1) (dir 0 X)
          have h5 : (dir 0 X).length = X.length := by simp [dir]
          have h6 := FEW.out.le
          simp only [List.length_append] at h3
          omega)
        have HG := hide hg
        clear hg c3 c4
        go_wp2_with fail
        refine CA.out.mono ?_
        rintro e w2 ⟨rfl, t2⟩
        have T2 := hide (TR.out.tr t2)
        have own2 := own_touch OWN.out t2 (fun _ _ h => h)
        have OW2 : Hid ((w2.alloc (.cells #[.pointer (some ⟨b, 0, none⟩)] 80)).ownsRow w.heap.size 80 1 (.slice ao n cap) n vs) := hide (own_touch own2 ((Touch.refl (fun _ => False) w2).alloc _) (fun _ _ h => h))
        have TZ := hide (T2.out.alloc (.cells #[.pointer (some ⟨b, 0, none⟩)] 80))
        clear own2 t2 c0
        go_wp2_with (at_builtin; refine wpList_append_sep _ rfl (.tmp 19) (.tmp 21) 107 rfl w.heap.size 80 i1 (.pointer none) 1 8 Tryz.underlying107 hj hy0 hy1 hy2 rfl (by decide) _ n vs rfl OW2.out ⟨w2.heap.size, 0, none⟩ 1 1 [.pointer (some ⟨b, 0, none⟩)] rfl rfl (new_cells1 w2 _ _) (one_cells1 rfl) hx1.out hx2.out TZ.out.size (by omega) ?ny)
        case ny =>
          intro ao3 c3' w3 own3 t3 _
          have T3 := hide (TZ.out.trans t3 (fun g' hg' hs => by have := (own_block OW2.out hs).1; omega))
          obtain ⟨-, -, -, d3, d4⟩ := cells5 (T3.out.at HB.out)
          have OW3 := hide own3
          clear own3 t3
          go_wp2_with fail
          go_roundw
          case rel => exact ⟨p1, L, _, _, _, _, _, rfl, rfl, G1.out, hin.out.1, OW3.out, .push (s := 0) ⟨_, HB.out⟩ G2.out STK.out, by rw [FZ.out, hin.out.2]; simp, T3.out⟩
          case measure =>
            rw [CN.out, G1.out.cnt]
            simp only [List.length_append, List.length_cons]
            omega
      | false =>
        rw [hg] at CA
        have hout := hide (MZ.out.out (x := (k, v)) hg)
        clear hg c3 c4
        go_wp2_with fail
        refine CA.out.mono ?_
        rintro e w2 ⟨rfl, t2⟩
        have T2 := hide (TR.out.tr t2)
        have OW2 := hide (own_touch OWN.out t2 (fun _ _ h => h))
        obtain ⟨-, -, -, d3, d4⟩ := cells5 (T2.out.at HB.out)
        clear t2 c0
        go_wp2_with fail
        go_roundw
        case rel => exact ⟨q1, R, A, ao, n, cap, vs, rfl, rfl, G2.out, hout.out.1, OW2.out, STK.out, by rw [FZ.out, hout.out.2], T2.out⟩
        case measure =>
          rw [CN.out, G2.out.cnt]
          simp only [List.length_append, List.length_cons]
          omega

set_option maxRecDepth 100000 in
set_option maxHeartbeats 1000000 in
theorem way1_any {f : Nat} {lb : Array Value} {g : ByteArray → Bool} {Y : World → Prop} (hW : Wi f lb g Y) (w : World) (p : Option Addr) (X : List (ByteArray × (Option Addr × Nat × Nat))) (h : TL w (.pointer p) X) (hY : Y w) (mon : Mon g (dir 1 X)) (few : Few X.length) :
    Calls Tryz.prog 60 #[.pointer p, .int .i64 1, .func (.func f) #[] lb] w fun e w' =>
      ∃ ao n cap vs, e = .returned (.slice ao n cap) ∧ w'.ownsRow w.heap.size 80 1 (.slice ao n cap) n vs ∧ Stk w 1 vs ((dir 1 X).filter fun a => g a.1) ∧ Calm w w' := by
  obtain ⟨i1, hj, hy0, hy1, hy2⟩ := info_parts2 infoPtr
  have HW := hide hW
  have HY := hide hY
  have H := hide h
  have MON := hide mon
  have FEW := hide few
  clear hW hY h mon few
  go_enter Tryz.func60, Tryz.ntmps60
  go_wp2_with fail
  go_loopw [0, 7] (fun i j wr => ∃ (o : Option Addr) (Z A : List (ByteArray × (Option Addr × Nat × Nat))) (ao : Option Addr) (n cap : Nat) (vs : List Value), i = .pointer o ∧ j = .slice ao n cap ∧ TL w (.pointer o) Z ∧ Mon g (dir 1 Z) ∧
    wr.ownsRow w.heap.size 80 1 (.slice ao n cap) n vs ∧ Stk w 1 vs A ∧ (dir 1 X).filter (fun a => g a.1) = (dir 1 Z).filter (fun a => g a.1) ++ A ∧ Calm w wr) (fun i _ _ => cnt w i)
  case atStart => exact ⟨p, X, [], none, 0, 0, [], rfl, rfl, H.out, MON.out, World.ownsRow_nil _ _ _ _, .nil, by simp, Touch.refl _ _⟩
  case round =>
    obtain ⟨o, Z, A, ao, n, cap, vs, rfl, rfl, htl, hmon, own, stk, hfil, tr⟩ := hrel
    have FIL := hide hfil
    have TR := hide tr
    have OWN := hide own
    have STK := hide stk
    have HMON := hide hmon
    clear hfil tr own stk hmon
    cases htl with
    | nil =>
      go_wp2_with fail
      go_ret
      refine ⟨ao, n, cap, vs, rfl, OWN.out, ?_, TR.out⟩
      have e := FIL.out
      simp only [dir] at e
      simp at e
      simp only [dir]
      simp
      rw [e]
      exact STK.out
    | @node b k v p1 q1 L R hb g1 g2 =>
      obtain ⟨c0, -, -, c3, c4⟩ := cells5 (TR.out.at hb)
      have CA := hide (HW.out.calls k wr (HW.out.calm _ _ HY.out TR.out))
      have EN := HW.out.enter
      have HB := hide hb
      have G1 := hide g1
      have G2 := hide g2
      have CN := hide (TL.node hb g1 g2).cnt
      have hdz : dir 1 (L ++ (k, v) :: R) = dir 1 R ++ (k, v) :: dir 1 L := by simp [dir]
      have HDZ := hide hdz
      have MZ : Hid (Mon g (dir 1 R ++ (k, v) :: dir 1 L)) := hide (by rw [← HDZ.out]; exact HMON.out)
      have FZ : Hid ((dir 1 X).filter (fun a => g a.1) = (dir 1 R ++ (k, v) :: dir 1 L).filter (fun a => g a.1) ++ A) := hide (by rw [← HDZ.out]; exact FIL.out)
      clear hb g1 g2 hdz
      cases hg : g k with
      | true =>
        rw [hg] at CA
        have hin := hide (MZ.out.in (x := (k, v)) hg)
        have hx1 : Hid (n + 1 ≤ maxLen) := hide (by
          have h1 := STK.out.len
          have h2 := OWN.out.1
          have h3 := congrArg List.length FZ.out
          have h4 := List.length_filter_le (fun a : ByteArray × (Option Addr × Nat × Nat) => g a.1) (dir 1 X)
          have h5 : (dir 1 X).length = X.length := by simp [dir]
          have h6 := FEW.out.le
          simp only [List.length_append] at h3
          unfold maxLen; omega)
        have hx2 : Hid ((n + 1) * 8 ≤ 140737488355328) := hide (by
          have h1 := STK.out.len
          have h2 := OWN.out.1
          have h3 := congrArg List.length FZ.out
          have h4 := List.length_filter_le (fun a : ByteArray × (Option Addr × Nat × Nat) => g a.1) (dir 1 X)
          have h5 : (dir 1 X).length = X.length := by simp [dir]
          have h6 := FEW.out.le
          simp only [List.length_append] at h3
          omega)
        have HG := hide hg
        clear hg c3 c4
        go_wp2_with fail
        refine CA.out.mono ?_
        rintro e w2 ⟨rfl, t2⟩
        have T2 := hide (TR.out.tr t2)
        have own2 := own_touch OWN.out t2 (fun _ _ h => h)
        have OW2 : Hid ((w2.alloc (.cells #[.pointer (some ⟨b, 0, none⟩)] 80)).ownsRow w.heap.size 80 1 (.slice ao n cap) n vs) := hide (own_touch own2 ((Touch.refl (fun _ => False) w2).alloc _) (fun _ _ h => h))
        have TZ := hide (T2.out.alloc (.cells #[.pointer (some ⟨b, 0, none⟩)] 80))
        clear own2 t2 c0
        go_wp2_with (at_builtin; refine wpList_append_sep _ rfl (.tmp 19) (.tmp 21) 107 rfl w.heap.size 80 i1 (.pointer none) 1 8 Tryz.underlying107 hj hy0 hy1 hy2 rfl (by decide) _ n vs rfl OW2.out ⟨w2.heap.size, 0, none⟩ 1 1 [.pointer (some ⟨b, 0, none⟩)] rfl rfl (new_cells1 w2 _ _) (one_cells1 rfl) hx1.out hx2.out TZ.out.size (by omega) ?ny)
        case ny =>
          intro ao3 c3' w3 own3 t3 _
          have T3 := hide (TZ.out.trans t3 (fun g' hg' hs => by have := (own_block OW2.out hs).1; omega))
          obtain ⟨-, -, -, d3, d4⟩ := cells5 (T3.out.at HB.out)
          have OW3 := hide own3
          clear own3 t3
          go_wp2_with fail
          go_roundw
          case rel => exact ⟨q1, R, _, _, _, _, _, rfl, rfl, G2.out, hin.out.1, OW3.out, .push (s := 1) ⟨_, HB.out⟩ G1.out STK.out, by rw [FZ.out, hin.out.2]; simp, T3.out⟩
          case measure =>
            rw [CN.out, G2.out.cnt]
            simp only [List.length_append, List.length_cons]
            omega
      | false =>
        rw [hg] at CA
        have hout := hide (MZ.out.out (x := (k, v)) hg)
        clear hg c3 c4
        go_wp2_with fail
        refine CA.out.mono ?_
        rintro e w2 ⟨rfl, t2⟩
        have T2 := hide (TR.out.tr t2)
        have OW2 := hide (own_touch OWN.out t2 (fun _ _ h => h))
        obtain ⟨-, -, -, d3, d4⟩ := cells5 (T2.out.at HB.out)
        clear t2 c0
        go_wp2_with fail
        go_roundw
        case rel => exact ⟨p1, L, A, ao, n, cap, vs, rfl, rfl, G1.out, hout.out.1, OW2.out, STK.out, by rw [FZ.out, hout.out.2], T2.out⟩
        case measure =>
          rw [CN.out, G1.out.cnt]
          simp only [List.length_append, List.length_cons]
          omega

end Go.Proofs.YtamfcmmhmfhhkaaGreatDoor.LM

namespace Go.Proofs.YtamfcmmhmfhhkaaGreatDoor


section
variable {P : Program} {b : Frame} {a : Act} {k : List Item} {cs : List Frame} {w : World}

theorem stepR_scope {c : Code} : step P (lone (b.atR a (.code (.scope c) :: k)) cs w) = .next (lone (b.atR a (.code c :: .inScope c :: k)) cs w) :=
  step_lone_go (by simp [stepG, stepG.exec, Frame.atR])
theorem stepR_inScope {c : Code} : step P (lone (b.atR a (.inScope c :: k)) cs w) = .next (lone (b.atR a k) cs w) :=
  step_lone_go (by simp [stepG, stepG.exec, Frame.atR])

theorem wpIn_scope_straight {F : Fence} {n : Nat} {Q : Exit → Act → World → Prop} {c : Code} (h : c.wpIn F n P (Exit.noGoto Q) a w) : (Code.scope c).wpIn F n P Q a w := by
  intro b k cs hro hb hr
  have h0 : (lone (b.atR a (.code (.scope c) :: k)) cs w).fenced P F := fenced_calm hb hr rfl
  obtain ⟨e, a₁, w₁, hq, harr⟩ := h b (.inScope c :: k) cs hro hb hr
  cases e with
  | normal => exact ⟨.normal, a₁, w₁, hq, .head h0 stepR_scope (StepsIn.trans harr (.one (fenced_calm hb hr rfl) stepR_inScope))⟩
  | exit id' =>
    have hx : exitTo id' (.inScope c :: k) = exitTo id' k := by simp [exitTo]
    exact ⟨.exit id', a₁, w₁, hq, fun k' hk => .head h0 stepR_scope (harr.1 k' (by rw [hx]; exact hk)),
      fun hr' hk => let ⟨k₁, h1, h2⟩ := harr.2 hr' (by rw [hx]; exact hk); ⟨k₁, h1, .head h0 stepR_scope h2⟩⟩
  | goto l => exact hq.elim
  | ret => exact ⟨_, a₁, w₁, hq, .of_steps (.one h0 stepR_scope) harr⟩
  | panic ch => exact ⟨_, a₁, w₁, hq, .of_steps (.one h0 stepR_scope) harr⟩
  | outgrown => exact ⟨_, a₁, w₁, hq, .of_steps (.one h0 stepR_scope) harr⟩
end

end Go.Proofs.YtamfcmmhmfhhkaaGreatDoor
