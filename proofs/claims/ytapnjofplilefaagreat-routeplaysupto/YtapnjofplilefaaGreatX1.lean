/- Many routers at once (RoutePlays): each block has a colour, each router its own; what the law keeps of its own has colour 1. RoutePlays: what the law keeps: two routers of each side, and those put aside. -/
import Derived.Test.YtapnjofplilefaaGreatZ3
import Derived.Test.YtapnjofplilefaaGreatZB
import Derived.Test.YtapnjofplilefaaGreatR4
namespace Go.Proofs.YtapnjofplilefaaGreat
open Go.RowKit

/-- A router of either side. -/
structure Th where
  pr : Bool
  a : Nat
  L : List Int
  s : Int
section
variable {Pk : World → Nat → (Nat → Prop) → Cf → Nat → List Int → Int → Prop}

/-- It lies so. -/
def Ho15 (Pk : World → Nat → (Nat → Prop) → Cf → Nat → List Int → Int → Prop) (c : Cf) (p : Nat) (w : World) (t : Th) (G : Nat → Prop) : Prop := if t.pr = true then Pk w t.a G c p t.L t.s else Rr w t.a G c p t.L t.s
theorem Ho15.touch (I : Rpi Pk) {c : Cf} {p : Nat} {w w' : World} {t : Th} {G S : Nat → Prop} (h : Ho15 Pk c p w t G) (ht : Touch S w w') (hS : ∀ g, G g → ¬ S g) : Ho15 Pk c p w' t G := by
  unfold Ho15 at *
  split
  · rename_i e; rw [if_pos e] at h; exact I.touch h ht hS
  · rename_i e; rw [if_neg e] at h; exact h.touch ht hS
theorem Ho15.lt (I : Rpi Pk) {c : Cf} {p : Nat} {w : World} {t : Th} {G : Nat → Prop} (h : Ho15 Pk c p w t G) : ∀ g, G g → g < w.heap.size := by
  unfold Ho15 at h
  split at h
  · exact I.lt h
  · exact h.lt

/-- The routers th 0 .. th (n - 1), apart from one another, from the blocks S of the law's own, and from all below b. -/
def Tb (Pk : World → Nat → (Nat → Prop) → Cf → Nat → List Int → Int → Prop) (c : Cf) (p b : Nat) (S : Nat → Prop) (th : Nat → Th) (n : Nat) (w : World) : Prop :=
  ∃ col : Nat → Nat, (∀ r, r < n → ∃ G, Ho15 Pk c p w (th r) G ∧ ∀ g, G g → col g = r + 2 ∧ b ≤ g) ∧ ∀ g, S g → col g = 1 ∧ g < w.heap.size ∧ b ≤ g
variable {c : Cf} {p b n : Nat} {S : Nat → Prop} {th : Nat → Th} {w w2 : World}

theorem Tb.still (I : Rpi Pk) (h : Tb Pk c p b S th n w) (ht : Calm w w2) : Tb Pk c p b S th n w2 := by
  obtain ⟨col, h1, h2⟩ := h
  refine ⟨col, fun r hr => ?_, fun g hg => ⟨(h2 g hg).1, Nat.lt_of_lt_of_le (h2 g hg).2.1 ht.size, (h2 g hg).2.2⟩⟩
  obtain ⟨G, h3, h4⟩ := h1 r hr
  exact ⟨G, h3.touch I ht (fun _ _ h => h), h4⟩
/-- The law writes into what is its own, or makes new. -/
theorem Tb.own (I : Rpi Pk) (h : Tb Pk c p b S th n w) (hb : b ≤ w.heap.size) (ht : Touch S w w2) {S' : Nat → Prop} (hS : ∀ g, S' g → (S g ∨ w.heap.size ≤ g) ∧ g < w2.heap.size) : Tb Pk c p b S' th n w2 := by
  obtain ⟨col, h1, h2⟩ := h
  refine ⟨fun g => if g < w.heap.size then col g else 1, fun r hr => ?_, fun g hg => ?_⟩
  · obtain ⟨G, h3, h4⟩ := h1 r hr
    refine ⟨G, h3.touch I ht (fun g hg hs => by have := (h4 g hg).1; have := (h2 g hs).1; omega), fun g hg => ?_⟩
    dsimp only
    rw [if_pos (h3.lt I g hg)]
    exact h4 g hg
  · obtain ⟨h5, h6⟩ := hS g hg
    by_cases hl : g < w.heap.size
    · dsimp only
      rw [if_pos hl]
      rcases h5 with h5 | h5
      · exact ⟨(h2 g h5).1, h6, (h2 g h5).2.2⟩
      · omega
    · dsimp only
      rw [if_neg hl]; exact ⟨rfl, h6, by omega⟩
/-- One of them is turned. -/
theorem Tb.turn (I : Rpi Pk) (h : Tb Pk c p b S th n w) (hb : b ≤ w.heap.size) (r : Nat) (hr : r < n) {t' : Th} (hs : w.heap.size ≤ w2.heap.size) :
    ∃ G0, Ho15 Pk c p w (th r) G0 ∧ ∀ G', Touch G0 w w2 → Ho15 Pk c p w2 t' G' → (∀ g, G' g → G0 g ∨ w.heap.size ≤ g) → Tb Pk c p b S (fun i => if i = r then t' else th i) n w2 ∧ (∀ g, S g → ¬ G0 g) ∧ ∀ g, G0 g → b ≤ g := by
  obtain ⟨col, h1, h2⟩ := h
  obtain ⟨G0, h3, h4⟩ := h1 r hr
  refine ⟨G0, h3, fun G' ht hn hg => ⟨⟨fun g => if g < w.heap.size then col g else r + 2, fun i hi => ?_, fun g hS => ?_⟩, fun g hS h0 => by have := (h4 g h0).1; have := (h2 g hS).1; omega, fun g h0 => (h4 g h0).2⟩⟩
  · by_cases hir : i = r
    · subst hir
      refine ⟨G', by dsimp only; rw [if_pos rfl]; exact hn, fun g hg' => ?_⟩
      by_cases hl : g < w.heap.size
      · dsimp only
        rw [if_pos hl]
        rcases hg g hg' with h5 | h5
        · exact h4 g h5
        · omega
      · dsimp only
        rw [if_neg hl]; exact ⟨rfl, by omega⟩
    · obtain ⟨G1, h5, h6⟩ := h1 i hi
      refine ⟨G1, by dsimp only; rw [if_neg hir]; exact h5.touch I ht (fun g ha hb => by have := (h6 g ha).1; have := (h4 g hb).1; omega), fun g hg' => ?_⟩
      dsimp only
      rw [if_pos (h5.lt I g hg')]
      exact h6 g hg'
  · dsimp only
    rw [if_pos (h2 g hS).2.1]
    exact ⟨(h2 g hS).1, by have := (h2 g hS).2.1; omega, (h2 g hS).2.2⟩
/-- A new one is put behind. -/
theorem Tb.add (I : Rpi Pk) (h : Tb Pk c p b S th n w) (hb : b ≤ w.heap.size) {t' : Th} {G' : Nat → Prop} (ht : Calm w w2) (hn : Ho15 Pk c p w2 t' G') (hg : ∀ g, G' g → w.heap.size ≤ g) : Tb Pk c p b S (fun i => if i = n then t' else th i) (n + 1) w2 := by
  obtain ⟨col, h1, h2⟩ := h
  refine ⟨fun g => if g < w.heap.size then col g else n + 2, fun i hi => ?_, fun g hS => ?_⟩
  · by_cases hin : i = n
    · subst hin
      refine ⟨G', by dsimp only; rw [if_pos rfl]; exact hn, fun g hg' => ?_⟩
      have := hg g hg'
      dsimp only
      rw [if_neg (by omega)]; exact ⟨rfl, by omega⟩
    · obtain ⟨G1, h5, h6⟩ := h1 i (by omega)
      refine ⟨G1, by dsimp only; rw [if_neg hin]; exact h5.touch I ht (fun _ _ h => h), fun g hg' => ?_⟩
      dsimp only
      rw [if_pos (h5.lt I g hg')]
      exact h6 g hg'
  · dsimp only
    rw [if_pos (h2 g hS).2.1]
    exact ⟨(h2 g hS).1, Nat.lt_of_lt_of_le (h2 g hS).2.1 ht.size, (h2 g hS).2.2⟩
/-- Two change places. -/
theorem Tb.swap (h : Tb Pk c p b S th n w) (i j : Nat) (hi : i < n) (hj : j < n) : Tb Pk c p b S (fun r => if r = i then th j else if r = j then th i else th r) n w := by
  obtain ⟨col, h1, h2⟩ := h
  by_cases hij : i = j
  · subst hij
    refine ⟨col, fun r hr => ?_, h2⟩
    have e : (if r = i then th i else if r = i then th i else th r) = th r := by
      split
      · rename_i e; rw [e]
      · rfl
    dsimp only
    rw [e]
    exact h1 r hr
  · refine ⟨fun g => if col g = i + 2 then j + 2 else if col g = j + 2 then i + 2 else col g, fun r hr => ?_, fun g hg => ?_⟩
    · by_cases hri : r = i
      · subst hri
        obtain ⟨G, h3, h4⟩ := h1 j hj
        refine ⟨G, by dsimp only; rw [if_pos rfl]; exact h3, fun g hg => ?_⟩
        dsimp only
        rw [(h4 g hg).1, if_neg (by omega), if_pos rfl]; exact ⟨rfl, (h4 g hg).2⟩
      · by_cases hrj : r = j
        · subst hrj
          obtain ⟨G, h3, h4⟩ := h1 i hi
          refine ⟨G, by dsimp only; rw [if_neg hri, if_pos rfl]; exact h3, fun g hg => ?_⟩
          dsimp only
          rw [(h4 g hg).1, if_pos rfl]; exact ⟨rfl, (h4 g hg).2⟩
        · obtain ⟨G, h3, h4⟩ := h1 r hr
          refine ⟨G, by dsimp only; rw [if_neg hri, if_neg hrj]; exact h3, fun g hg => ?_⟩
          dsimp only
          rw [(h4 g hg).1, if_neg (by omega), if_neg (by omega)]; exact ⟨rfl, (h4 g hg).2⟩
    · dsimp only
      rw [(h2 g hg).1, if_neg (by omega), if_neg (by omega)]; exact ⟨rfl, (h2 g hg).2⟩
/-- The last ones are let go. -/
theorem Tb.less (h : Tb Pk c p b S th n w) {m : Nat} (hm : m ≤ n) : Tb Pk c p b S th m w := by
  obtain ⟨col, h1, h2⟩ := h
  exact ⟨col, fun r hr => h1 r (by omega), h2⟩
/-- None yet. -/
theorem Tb.none (hS : ∀ g, S g → g < w.heap.size ∧ b ≤ g) : Tb Pk c p b S th 0 w := ⟨fun _ => 1, fun r hr => absurd hr (by omega), fun g hg => ⟨rfl, (hS g hg).1, (hS g hg).2⟩⟩
end

end Go.Proofs.YtapnjofplilefaaGreat

namespace Go.Proofs.YtapnjofplilefaaGreat
open Go.RowKit

/-- Two of them are turned. -/
theorem Tb.two {Pk : World → Nat → (Nat → Prop) → Cf → Nat → List Int → Int → Prop} (I : Rpi Pk) {c : Cf} {p b n : Nat} {S : Nat → Prop} {th : Nat → Th} {w : World} (h : Tb Pk c p b S th n w) (i j : Nat) (hi : i < n) (hj : j < n) (hij : i ≠ j) :
    ∃ G0 G1, Ho15 Pk c p w (th i) G0 ∧ Ho15 Pk c p w (th j) G1 ∧ (∀ g, G0 g → ¬ G1 g) ∧ (∀ g, S g → ¬ G0 g ∧ ¬ G1 g) ∧ (∀ g, G0 g ∨ G1 g → b ≤ g ∧ g < w.heap.size) ∧
      ∀ w2 ti tj, Touch (fun g => G0 g ∨ G1 g) w w2 → Ho15 Pk c p w2 ti G0 → Ho15 Pk c p w2 tj G1 → Tb Pk c p b S (fun r => if r = i then ti else if r = j then tj else th r) n w2 := by
  obtain ⟨col, h1, h2⟩ := h
  obtain ⟨G0, a1, a2⟩ := h1 i hi
  obtain ⟨G1, b1, b2⟩ := h1 j hj
  refine ⟨G0, G1, a1, b1, fun g x y => by have := (a2 g x).1; have := (b2 g y).1; omega, fun g x => ⟨fun y => by have := (a2 g y).1; have := (h2 g x).1; omega, fun y => by have := (b2 g y).1; have := (h2 g x).1; omega⟩, fun g x => ?_, fun w2 ti tj ht hti htj => ?_⟩
  · rcases x with x | x
    · exact ⟨(a2 g x).2, a1.lt I g x⟩
    · exact ⟨(b2 g x).2, b1.lt I g x⟩
  · refine ⟨col, fun r hr => ?_, fun g hg => ⟨(h2 g hg).1, Nat.lt_of_lt_of_le (h2 g hg).2.1 ht.size, (h2 g hg).2.2⟩⟩
    by_cases e : r = i
    · subst e
      exact ⟨G0, by dsimp only; rw [if_pos rfl]; exact hti, a2⟩
    · by_cases e2 : r = j
      · subst e2
        exact ⟨G1, by dsimp only; rw [if_neg e, if_pos rfl]; exact htj, b2⟩
      · obtain ⟨G, d1, d2⟩ := h1 r hr
        have hd : ∀ g, G g → ¬ (G0 g ∨ G1 g) := fun g x y => by
          rcases y with y | y
          · have := (d2 g x).1; have := (a2 g y).1; omega
          · have := (d2 g x).1; have := (b2 g y).1; omega
        exact ⟨G, by dsimp only; rw [if_neg e, if_neg e2]; exact d1.touch I ht hd, d2⟩

/-- All are times. -/
def allT (L : List Int) : Bool := (List.range L.length).all fun i => timZ (L.getD i 0)
/-- A router of each side stand alike; T: so many items at most. -/
structure Al (c : Cf) (p g : Nat) (T : Int) (t u : Th) : Prop where
  tp : t.pr = true
  up : u.pr = false
  L : t.L = u.L
  s : t.s = u.s
  s0 : 0 ≤ t.s
  sT : t.s ≤ T
  sit : Sit c p g t.L
  tm : allT t.L = true
theorem Al.more {c : Cf} {p g : Nat} {T T' : Int} {t u : Th} (h : Al c p g T t u) (hT : T ≤ T') : Al c p g T' t u := ⟨h.tp, h.up, h.L, h.s, h.s0, Int.le_trans h.sT hT, h.sit, h.tm⟩

/-- Addresses. -/
def encQ : Rc.Enc Nat := ⟨1, fun a => [cp a], fun _ => rfl, fun _ u hu => by simp at hu; subst hu; rfl, by decide⟩
abbrev worldC (a0 a1 b0 b1 : Nat) (old was : Value) : Array Value := #[cp a0, cp a1, cp b0, cp b1, old, was]

/-- What the law keeps: m pairs are put aside. -/
structure Wl (c : Cf) (p g b Wb : Nat) (th : Nat → Th) (m : Nat) (T : Int) (oo : Option Addr) (oc : Nat) (wo : Option Addr) (wc : Nat) (w : World) : Prop where
  own : w.heap[Wb]? = some (.cells (worldC (th 0).a (th 1).a (th 2).a (th 3).a (.slice oo m oc) (.slice wo m wc)) 34 (0, 0))
  old : encQ.Own 27 w b (.slice oo m oc) ((List.range m).map fun i => (th (4 + 2 * i)).a)
  was : encQ.Own 29 w b (.slice wo m wc) ((List.range m).map fun i => (th (5 + 2 * i)).a)
  tb : Tb Pr c p b (fun g => g = Wb ∨ (Value.slice oo m oc).ownBlock = some g ∨ (Value.slice wo m wc).ownBlock = some g) th (4 + 2 * m) w
  a0 : Al c p g T (th 0) (th 2)
  a1 : Al c p g T (th 1) (th 3)
  al : ∀ i, i < m → Al c p g T (th (4 + 2 * i)) (th (5 + 2 * i))
  lo : b ≤ Wb
theorem Wl.pair {c : Cf} {p g b Wb : Nat} {th : Nat → Th} {m : Nat} {T : Int} {oo : Option Addr} {oc : Nat} {wo : Option Addr} {wc : Nat} {w : World} (h : Wl c p g b Wb th m T oo oc wo wc w) (k : Nat) (hk : k < 2) : Al c p g T (th k) (th (k + 2)) := by
  rcases (show k = 0 ∨ k = 1 by omega) with rfl | rfl
  · exact h.a0
  · exact h.a1
theorem wl_cell {w : World} {Wb a0 a1 b0 b1 : Nat} {old was : Value} {ty : TypeId} (h : w.heap[Wb]? = some (.cells (worldC a0 a1 b0 b1 old was) ty (0, 0))) : w.cell? ⟨Wb, 0, none⟩ = some (cp a0) ∧ w.cell? ⟨Wb, 1, none⟩ = some (cp a1) ∧ w.cell? ⟨Wb, 2, none⟩ = some (cp b0) ∧ w.cell? ⟨Wb, 3, none⟩ = some (cp b1) ∧ w.cell? ⟨Wb, 4, none⟩ = some old ∧ w.cell? ⟨Wb, 5, none⟩ = some was ∧ ∀ o, w.frozen? ⟨Wb, o, none⟩ = false := by simp [World.cell?, World.frozen?, h]
/-- The two routers of place k. -/
theorem Wl.two {c : Cf} {p g b Wb : Nat} {th : Nat → Th} {m : Nat} {T : Int} {oo : Option Addr} {oc : Nat} {wo : Option Addr} {wc : Nat} {w : World} (h : Wl c p g b Wb th m T oo oc wo wc w) (k : Nat) (hk : k < 2) :
    ∃ (q r : Nat) (L : List Int) (s : Int) (G0 G1 : Nat → Prop), (∀ W, Calm w W → W.cell? ⟨Wb, k, none⟩ = some (cp q) ∧ W.cell? ⟨Wb, 2 + k, none⟩ = some (cp r)) ∧ Pr w q G0 c p L s ∧ Rr w r G1 c p L s ∧ (∀ g, G0 g → ¬ G1 g) ∧ (∀ g, G0 g ∨ G1 g → b ≤ g ∧ g < w.heap.size) ∧
      Sit c p g L ∧ allT L = true ∧ 0 ≤ s ∧ s ≤ T ∧
      ∀ w2 L' s' T', Touch (fun g => G0 g ∨ G1 g) w w2 → Pr w2 q G0 c p L' s' → Rr w2 r G1 c p L' s' → Sit c p g L' → allT L' = true → 0 ≤ s' → s' ≤ T' → T ≤ T' → ∃ th', Wl c p g b Wb th' m T' oo oc wo wc w2 := by
  have al := h.pair k hk
  obtain ⟨G0, G1, a1, a2, a3, a4, a5, a6⟩ := h.tb.two router_all k (k + 2) (by omega) (by omega) (by omega)
  unfold Ho15 at a1 a2
  rw [if_pos al.tp] at a1
  rw [if_neg (by rw [al.up]; simp), ← al.L, ← al.s] at a2
  refine ⟨(th k).a, (th (k + 2)).a, (th k).L, (th k).s, G0, G1, fun W hW => ?_, a1, a2, a3, a5, al.sit, al.tm, al.s0, al.sT, fun w2 L' s' T' ht hp hr hs hm h0 h1 hT => ?_⟩
  · obtain ⟨c0, c1, c2, c3, -⟩ := wl_cell (hW.at h.own)
    rcases (show k = 0 ∨ k = 1 by omega) with rfl | rfl
    · exact ⟨c0, c2⟩
    · exact ⟨c1, c3⟩
  · have tb := a6 w2 ⟨true, (th k).a, L', s'⟩ ⟨false, (th (k + 2)).a, L', s'⟩ ht (by unfold Ho15; rw [if_pos rfl]; exact hp) (by unfold Ho15; rw [if_neg (by simp)]; exact hr)
    have nS : ∀ g, (g = Wb ∨ (Value.slice oo m oc).ownBlock = some g ∨ (Value.slice wo m wc).ownBlock = some g) → ¬ (G0 g ∨ G1 g) := fun g hg hh => by
      rcases hh with hh | hh
      · exact (a4 g hg).1 hh
      · exact (a4 g hg).2 hh
    refine ⟨_, ht.heap ?_ (nS Wb (.inl rfl)), Rc.Own.touch ?_ ht (fun g hg => nS g (.inr (.inl hg))), Rc.Own.touch ?_ ht (fun g hg => nS g (.inr (.inr hg))), tb, ?_, ?_, fun i hi => ?_, h.lo⟩
    · have := h.own
      rcases (show k = 0 ∨ k = 1 by omega) with rfl | rfl
      · exact this
      · exact this
    · have e : ((List.range m).map fun i => ((fun r => if r = k then (⟨true, (th k).a, L', s'⟩ : Th) else if r = k + 2 then ⟨false, (th (k + 2)).a, L', s'⟩ else th r) (4 + 2 * i)).a) = (List.range m).map fun i => (th (4 + 2 * i)).a := List.map_congr_left fun i _ => by dsimp only; rw [if_neg (by omega), if_neg (by omega)]
      rw [e]; exact h.old
    · have e : ((List.range m).map fun i => ((fun r => if r = k then (⟨true, (th k).a, L', s'⟩ : Th) else if r = k + 2 then ⟨false, (th (k + 2)).a, L', s'⟩ else th r) (5 + 2 * i)).a) = (List.range m).map fun i => (th (5 + 2 * i)).a := List.map_congr_left fun i _ => by dsimp only; rw [if_neg (by omega), if_neg (by omega)]
      rw [e]; exact h.was
    · rcases (show k = 0 ∨ k = 1 by omega) with rfl | rfl
      · exact ⟨rfl, rfl, rfl, rfl, h0, h1, hs, hm⟩
      · exact h.a0.more hT
    · rcases (show k = 0 ∨ k = 1 by omega) with rfl | rfl
      · exact h.a1.more hT
      · exact ⟨rfl, rfl, rfl, rfl, h0, h1, hs, hm⟩
    · rw [if_neg (by omega), if_neg (by omega), if_neg (by omega), if_neg (by omega)]
      exact (h.al i hi).more hT

end Go.Proofs.YtapnjofplilefaaGreat
