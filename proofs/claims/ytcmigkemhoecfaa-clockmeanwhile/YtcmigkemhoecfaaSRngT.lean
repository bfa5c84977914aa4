/- A range over an iterator that keeps a row of its own between its rounds, and whose rounds may change memory that was there and whatever is made while it goes: a law of one's own, over the library's steps. -/
import Derived.Test.YtcmigkemhoecfaaSRng
namespace Go.Proofs.Ytcmigkemhoecfaa
open Go.RowKit

/-- What an iterator is to do: rounds 0, 1 .. up to m, each with what H says of it; J between two rounds, Jx behind a round that said no. Rounds touch S, and what lies at T or beyond; T is told by the iterator. -/
def SeqT {α : Type} (P : Program) (g : Nat) (lb : Array Value) (encs : α → Array Value) (m : Nat) (H : Nat → α → Prop) (A : World → Prop) : Prop :=
  ∀ (n l : Nat) (S : Nat → Prop) (J : Nat → Nat → World → Prop) (Jx : Nat → World → Prop) (W : World), A W → (∀ k, S k → k < W.heap.size) → (∀ W1, Calm W W1 → J W1.heap.size 0 W1) → (∀ T k W1 W2, J T k W1 → Calm W1 W2 → J T k W2) →
    (∀ T k x W1, J T k W1 → k < m → H k x → YieldAt Fence.wide (n - 1) P l (encs x) W1 fun e W' => Touch (fun g => S g ∨ T ≤ g) W1 W' ∧ ((e = .returned (.bool true) ∧ J T (k + 1) W') ∨ (e = .returned (.bool false) ∧ Jx (k + 1) W'))) →
    CallsIn Fence.wide n P g (#[.func (.yield l) #[] #[]] ++ lb) W fun e W' => (∃ v, e = .returned v) ∧ ((∃ T, J T m W') ∨ ∃ k, k ≤ m ∧ Jx k W')

/-- How a round's body may be left. -/
def leftByT (S : Nat → Prop) (I : Nat → World → Prop) (Ix : Code → Nat → World → Prop) (k : Nat) (W : World) : Exit → Act → World → Prop
  | .normal, _, W' => Touch S W W' ∧ I k W'
  | .ret, _, W' => Touch S W W' ∧ Ix .ret k W'
  | .exit id, _, W' => Touch S W W' ∧ Ix (.exit id) k W'
  | .goto t, _, W' => Touch S W W' ∧ Ix (.goto t) k W'
  | .panic _, _, _ => False
  | .outgrown, _, _ => False

theorem wpIn_rangeT {α : Type} {P : Program} {n : Nat} {g : Operand} {ps : Array Tmp} {assign body : Code} {Q : Exit → Act → World → Prop} {a : Act} {w : World}
    {gf : Nat} {lb : Array Value} (hg : a.eval g = .func (.func gf) #[] lb) (eg : ∀ args w, (callFunc gf args).run P w = .ok (.enter gf args) w)
    {encs : α → Array Value} {m : Nat} {H : Nat → α → Prop} {A : World → Prop} (hseq : SeqT P gf lb encs m H A) (hps : ∀ x, (encs x).size = ps.size)
    (S : Nat → Prop) (hS : ∀ k, S k → k < w.heap.size) (hA : ∀ W, Calm w W → A W)
    (I : Nat → Nat → World → Prop) (Ix : Code → Nat → World → Prop) (Ax : Nat → Nat → α → Act → World → Prop)
    (h0 : ∀ W, Calm w W → w.heap.size + 2 ≤ W.heap.size → I W.heap.size 0 W) (hIt : ∀ T k W W', I T k W → Calm W W' → I T k W')
    (hIp : ∀ T k W o, w.heap.size + 2 ≤ T → I T k W → I T k (W.putObj (w.heap.size + 1) o)) (hXp : ∀ c k W o, Ix c k W → Ix c k (W.putObj (w.heap.size + 1) o)) (hAp : ∀ T k x a' W o, w.heap.size + 2 ≤ T → Ax T k x a' W → Ax T k x a' (W.putObj (w.heap.size + 1) o))
    (hassign : ∀ (l T k : Nat) (x : α) (W : World) (K : Act → World → Prop), w.heap.size + 2 ≤ T → I T k W → k < m → H k x → (∀ a' W', Touch (fun g => S g ∨ T ≤ g) W W' → I T k W' → Ax T k x a' W' → K a' W') →
      assign.wpIn (Fence.wide.inRound l) (n - 1 - 1) P (Exit.then K (fun _ _ _ => False)) { tmps := (ps.zip (encs x)).foldl (fun t (p, v) => t.setIfInBounds p v) a.tmps, defers := [] } W)
    (hbody : ∀ (l T k : Nat) (x : α) (a' : Act) (W : World), w.heap.size + 2 ≤ T → I T k W → k < m → H k x → Ax T k x a' W → body.wpIn (Fence.wide.inRound l) (n - 1 - 1) P (leftByT (fun g => S g ∨ T ≤ g) (I T) Ix (k + 1) W) a' W)
    (hdone : ∀ (T : Nat) (W : World), w.heap.size + 2 ≤ T → I T m W → W.heap[w.heap.size]? = some (.deferred (some [])) → Q .normal { a with defers := { target := .collected w.heap.size, args := #[] } :: a.defers } W)
    (hstop : ∀ (c : Code) (k : Nat) (W : World), k ≤ m → Ix c k W → W.heap[w.heap.size]? = some (.deferred (some [])) → c.wpIn Fence.wide n P Q { a with defers := { target := .collected w.heap.size, args := #[] } :: a.defers } W) :
    (Code.rangeFunc g ps assign body).wpIn Fence.wide n P Q a w := by
  refine wpIn_rangeFunc fun fn _ => ?_
  have hro : Fence.wide.round = none := rfl
  rw [hro]
  obtain ⟨rec, hrec⟩ : ∃ rec : LoopState → Option Code → Loop, rec = fun st pe => { state := st, pending := pe, fn, tmps := a.tmps, params := ps, assign, body, defers := w.heap.size } := ⟨_, rfl⟩
  obtain ⟨W1, hW1⟩ : ∃ W1, W1 = (w.alloc (.deferred (some []))).alloc (.loop (rec .ready none)) := ⟨_, rfl⟩
  have t1 : Touch (fun _ => False) w W1 := by rw [hW1]; exact ((Touch.refl _ _).alloc _).alloc _
  have hL1 : W1.heap[w.heap.size + 1]? = some (.loop (rec .ready none)) := by
    rw [hW1]; have := World.alloc_heap_new (w.alloc (.deferred (some []))) (.loop (rec .ready none)); rwa [World.size_alloc] at this
  have hD1 : W1.heap[w.heap.size]? = some (.deferred (some [])) := by
    rw [hW1]; exact (Below.heap_alloc _ _ _ (by simp)).trans (World.alloc_heap_new w _)
  have keepD : ∀ (st : LoopState) (pe : Option Code) (W : World), W.heap[w.heap.size]? = some (.deferred (some [])) → (W.putObj (w.heap.size + 1) (.loop (rec st pe))).heap[w.heap.size]? = some (.deferred (some [])) := fun _ _ W h => (World.putObj_heap_other (by omega)).trans h
  refine ⟨w.heap.size + 1, [{ target := .collected w.heap.size, args := #[] }], W1, { target := .fn (.func gf) lb, args := #[.func (.yield (w.heap.size + 1)) #[] #[]] }, W1, gf,
    #[.func (.yield (w.heap.size + 1)) #[] #[]] ++ lb, W1, ?_, ?_, fun _ _ => trivial, ?_, fun h => (nomatch h), ?_⟩
  · rw [hW1, hrec]; exact run_enterLoop_outer _ _ _ _ _
  · simp only [resolve, hg]
    simp [go_sem]
  · simp [invoke, go_sem, eg]
  · refine (hseq (n - 1) (w.heap.size + 1) (fun g => S g ∨ g = w.heap.size + 1)
      (fun T k W => w.heap.size + 2 ≤ T ∧ I T k W ∧ W.heap[w.heap.size + 1]? = some (.loop (rec .ready none)) ∧ W.heap[w.heap.size]? = some (.deferred (some [])))
      (fun k W => ∃ c, Ix c k W ∧ W.heap[w.heap.size + 1]? = some (.loop (rec .done (some c))) ∧ W.heap[w.heap.size]? = some (.deferred (some [])))
      W1 (hA W1 t1) ?_ (fun W h => ⟨by have h1 := h.size; have h2 := lt_of_heap hL1; omega, h0 W (t1.tr h) (by have h1 := h.size; have h2 := lt_of_heap hL1; omega), h.at hL1, h.at hD1⟩) (fun T k W W' h ht => ⟨h.1, hIt T k W W' h.2.1 ht, ht.at h.2.2.1, ht.at h.2.2.2⟩) ?_).mono ?_
    · rintro g (hg | rfl)
      · exact Nat.lt_of_lt_of_le (hS g hg) t1.size
      · exact lt_of_heap hL1
    · rintro T k x W ⟨hT, hi, hl, hd⟩ hk hx
      have hy := run_yield (P := P) (args := encs x) hl (by rw [hrec]; exact hps x)
      rw [hrec] at hy
      have nL : ¬ (S (w.heap.size + 1) ∨ T ≤ w.heap.size + 1) := fun h => by
        rcases h with h | h
        · have := hS _ h; omega
        · omega
      have nD : ¬ (S w.heap.size ∨ T ≤ w.heap.size) := fun h => by
        rcases h with h | h
        · have := hS _ h; omega
        · omega
      refine ⟨fn, _, assign, body, hy, roundIn_of_wpIn trivial (hassign _ T k x W _ hT hi hk hx fun a' W2 tk2 hi2 hax => ?_)⟩
      have hl2 := tk2.heap hl nL
      have hd2 := tk2.heap hd nD
      refine ⟨_, run_beginRound hl2 (by rw [hrec]), ?_⟩
      have hlt := lt_of_heap hl2
      have hbz : ({ rec .ready none with state := .busy } : Loop) = rec .busy none := by rw [hrec]
      rw [hbz]
      have hl3 : (W2.putObj (w.heap.size + 1) (.loop (rec .busy none))).heap[w.heap.size + 1]? = some (.loop (rec .busy none)) := World.putObj_heap_same hlt
      have hd3 := keepD .busy none W2 hd2
      have tb : Touch (fun g => (S g ∨ g = w.heap.size + 1) ∨ T ≤ g) W (W2.putObj (w.heap.size + 1) (.loop (rec .busy none))) := (tk2.mono (fun _ _ h => h.elim (fun h => .inl (.inl h)) .inr)).trans (touch_put W2 _ _) (fun _ _ h => .inl (.inr h))
      refine wpIn_mono (hbody _ T k x a' _ hT (hIp T k W2 _ hT hi2) hk hx (hAp T k x a' W2 _ hT hax)) ?_
      have fin : ∀ (jump : Option Code) (W3 : World), Touch (fun g => S g ∨ T ≤ g) (W2.putObj (w.heap.size + 1) (.loop (rec .busy none))) W3 →
          (Instr.endRound (w.heap.size + 1) jump).run P W3 = .ok (.bool jump.isNone) (W3.putObj (w.heap.size + 1) (.loop (rec (if jump.isNone then .ready else .done) jump))) ∧
          W3.heap[w.heap.size + 1]? = some (.loop (rec .busy none)) ∧
          (W3.putObj (w.heap.size + 1) (.loop (rec (if jump.isNone then .ready else .done) jump))).heap[w.heap.size + 1]? = some (.loop (rec (if jump.isNone then .ready else .done) jump)) ∧
          (W3.putObj (w.heap.size + 1) (.loop (rec (if jump.isNone then .ready else .done) jump))).heap[w.heap.size]? = some (.deferred (some [])) := fun jump W3 hk3 => by
        have h4 := hk3.heap hl3 nL
        have h5 := run_endRound (P := P) jump h4
        have e5 : ({ rec .busy none with state := if jump.isNone then .ready else .done, pending := jump } : Loop) = rec (if jump.isNone then .ready else .done) jump := by rw [hrec]
        rw [e5] at h5
        exact ⟨h5, h4, World.putObj_heap_same (lt_of_heap h4), keepD _ _ W3 (hk3.heap hd3 nD)⟩
      rintro e a3 W3 hp
      have leave : ∀ c, Touch (fun g => S g ∨ T ≤ g) (W2.putObj (w.heap.size + 1) (.loop (rec .busy none))) W3 ∧ Ix c (k + 1) W3 → ∃ v w', (Instr.endRound (w.heap.size + 1) (some c)).run P W3 = .ok v w' ∧
          Touch (fun g => (S g ∨ g = w.heap.size + 1) ∨ T ≤ g) W w' ∧ ((Ending.returned v = .returned (.bool true) ∧ w.heap.size + 2 ≤ T ∧ I T (k + 1) w' ∧ w'.heap[w.heap.size + 1]? = some (.loop (rec .ready none)) ∧ w'.heap[w.heap.size]? = some (.deferred (some []))) ∨
           (Ending.returned v = .returned (.bool false) ∧ ∃ c, Ix c (k + 1) w' ∧ w'.heap[w.heap.size + 1]? = some (.loop (rec .done (some c))) ∧ w'.heap[w.heap.size]? = some (.deferred (some [])))) := fun c h => by
        obtain ⟨hr, h3, h4, h5⟩ := fin (some c) W3 h.1
        exact ⟨_, _, hr, (tb.trans (h.1.mono (fun _ _ h => h.elim (fun h => .inl (.inl h)) .inr)) (fun _ _ h => h)).trans (touch_put W3 _ _) (fun _ _ h => .inl (.inr h)), .inr ⟨rfl, c, hXp c _ W3 _ h.2, h4, h5⟩⟩
      cases e with
      | normal =>
        obtain ⟨hr, h3, h4, h5⟩ := fin none W3 hp.1
        exact ⟨_, _, hr, (tb.trans (hp.1.mono (fun _ _ h => h.elim (fun h => .inl (.inl h)) .inr)) (fun _ _ h => h)).trans (touch_put W3 _ _) (fun _ _ h => .inl (.inr h)), .inl ⟨rfl, hT, hIp T _ W3 _ hT hp.2, h4, h5⟩⟩
      | ret => exact leave .ret hp
      | exit id => exact leave (.exit id) hp
      | goto t => exact leave (.goto t) hp
      | panic ch => exact hp.elim
      | outgrown => exact hp.elim
    · rintro e W2 ⟨⟨v, rfl⟩, (⟨T, hT, hi, hl, hd⟩ | ⟨k, hk, c, hi, hl, hd⟩)⟩
      · have h6 := run_endLoop (P := P) hl (by rw [hrec]; simp)
        have e6 : ({ rec .ready none with state := .exhausted } : Loop) = rec .exhausted none := by rw [hrec]
        rw [e6] at h6
        exact ⟨none, _, by rw [h6, hrec], hdone T _ hT (hIp T m W2 _ hT hi) (keepD _ _ W2 hd)⟩
      · have h6 := run_endLoop (P := P) hl (by rw [hrec]; simp)
        have e6 : ({ rec .done (some c) with state := .exhausted } : Loop) = rec .exhausted (some c) := by rw [hrec]
        rw [e6] at h6
        exact ⟨some c, _, by rw [h6, hrec], hstop c k _ hk (hXp c k W2 _ hi) (keepD _ _ W2 hd)⟩

end Go.Proofs.Ytcmigkemhoecfaa
