/- RoutePlays: a program's router is put in another's place; numbers that are written over. RoutePlays: a pair is put aside. RoutePlays: at the end all routers are put behind those put aside. -/
import Derived.Test.YtapnjofplilefaaGreatX4
namespace Go.Proofs.YtapnjofplilefaaGreat
open Go.RowKit

theorem wl_put {w : World} {Wb a0 a1 b0 b1 : Nat} {old was : Value} {ty : TypeId} (h : w.heap[Wb]? = some (.cells (worldC a0 a1 b0 b1 old was) ty (0, 0))) (k q : Nat) (hk : k < 2) : (w.setCell ⟨Wb, k, none⟩ (cp q)).heap[Wb]? = some (.cells (worldC (if k = 0 then q else a0) (if k = 1 then q else a1) b0 b1 old was) ty (0, 0)) := by
  rcases (show k = 0 ∨ k = 1 by omega) with rfl | rfl
  · have := heap_setCell_row (i := 0) h (cp q)
    simpa using this
  · have := heap_setCell_row (i := 1) h (cp q)
    simpa using this
/-- A router of the program's is put in the place k. -/
theorem Wl.renew {c : Cf} {p g b Wb : Nat} {th : Nat → Th} {m : Nat} {T T' : Int} {oo : Option Addr} {oc : Nat} {wo : Option Addr} {wc : Nat} {w w5 : World} (h : Wl c p g b Wb th m T oo oc wo wc w) (k : Nat) (hk : k < 2) (hT : T ≤ T') (ht : Calm w w5) {q' : Nat} {G' : Nat → Prop} (hp : Pr w5 q' G' c p (th k).L (th k).s) (hg : ∀ d, G' d → w.heap.size ≤ d) :
    (∃ th', Wl c p g b Wb th' m T' oo oc wo wc (w5.setCell ⟨Wb, k, none⟩ (cp q'))) ∧ Touch (fun d => b ≤ d) w (w5.setCell ⟨Wb, k, none⟩ (cp q')) ∧ (∃ u, w5.cell? ⟨Wb, k, none⟩ = some u) ∧ w5.frozen? ⟨Wb, k, none⟩ = false ∧ (w5.setCell ⟨Wb, k, none⟩ (cp q')).cell? ⟨Wb, k, none⟩ = some (cp q') := by
  have al := h.pair k hk
  have o5 := ht.at h.own
  have hWb := lt_of_heap h.own
  have hbw : b ≤ w.heap.size := by have := h.lo; omega
  obtain ⟨G0, -, tn⟩ := h.tb.turn router_all hbw k (by omega) (t' := ⟨true, q', (th k).L, (th k).s⟩) ht.size
  obtain ⟨tb, -, -⟩ := tn G' (ht.mono fun _ _ h => h.elim) (by unfold Ho15; rw [if_pos rfl]; exact hp) (fun d hd => .inr (hg d hd))
  have T5 := (Touch.refl (fun d => d = Wb) w5).setCell (p := ⟨Wb, k, none⟩) (fun _ => rfl) (cp q')
  have P := wl_put o5 k q' hk
  have nb : ∀ {e e2 : TypeId} {v : Value} {l : List Nat} {cs : Array Value}, encQ.Own e w b v l → w.heap[Wb]? = some (.cells cs e2 (0, 0)) → e2 ≠ e → ¬ v.ownBlock = some Wb := fun ho hh hne hv => by
    obtain ⟨-, cur, hc⟩ := Rc.own_block ho hv
    rw [hh] at hc
    injection hc with hc
    injection hc with _ e
    exact hne e
  have tS := tb.own router_all (by have := ht.size; omega) (T5.mono fun d _ e => .inl e) (S' := fun d => d = Wb ∨ (Value.slice oo m oc).ownBlock = some d ∨ (Value.slice wo m wc).ownBlock = some d) (fun d hd => ⟨.inl hd, by
    have hs := T5.size
    have h5 := ht.size
    rcases hd with hd | hd | hd
    · rw [hd]; omega
    · have := (own_lt h.old hd).2; omega
    · have := (own_lt h.was hd).2; omega⟩)
  refine ⟨⟨fun i => if i = k then ⟨true, q', (th k).L, (th k).s⟩ else th i, ?_, ?_, ?_, tS, ?_, ?_, fun i hi => ?_, h.lo⟩, (ht.mono fun _ _ h => h.elim).trans T5 fun d _ e => by rw [e]; exact h.lo, ?_, ?_, ?_⟩
  · rw [P]
    rcases (show k = 0 ∨ k = 1 by omega) with rfl | rfl <;> simp
  · have e : ((List.range m).map fun i => ((fun r => if r = k then (⟨true, q', (th k).L, (th k).s⟩ : Th) else th r) (4 + 2 * i)).a) = (List.range m).map fun i => (th (4 + 2 * i)).a := List.map_congr_left fun i _ => by dsimp only; rw [if_neg (by omega)]
    rw [e]
    exact Rc.Own.touch (Rc.Own.calm h.old ht) T5 (fun d hd e => nb h.old h.own (by decide) (by rw [← e]; exact hd))
  · have e : ((List.range m).map fun i => ((fun r => if r = k then (⟨true, q', (th k).L, (th k).s⟩ : Th) else th r) (5 + 2 * i)).a) = (List.range m).map fun i => (th (5 + 2 * i)).a := List.map_congr_left fun i _ => by dsimp only; rw [if_neg (by omega)]
    rw [e]
    exact Rc.Own.touch (Rc.Own.calm h.was ht) T5 (fun d hd e => nb h.was h.own (by decide) (by rw [← e]; exact hd))
  · rcases (show k = 0 ∨ k = 1 by omega) with rfl | rfl
    · have a := h.a0.more hT
      exact ⟨rfl, a.up, a.L, a.s, a.s0, a.sT, a.sit, a.tm⟩
    · exact h.a0.more hT
  · rcases (show k = 0 ∨ k = 1 by omega) with rfl | rfl
    · exact h.a1.more hT
    · have a := h.a1.more hT
      exact ⟨rfl, a.up, a.L, a.s, a.s0, a.sT, a.sit, a.tm⟩
  · rw [if_neg (by omega), if_neg (by omega)]
    exact (h.al i hi).more hT
  · obtain ⟨c0, c1, -⟩ := wl_cell o5
    rcases (show k = 0 ∨ k = 1 by omega) with rfl | rfl
    · exact ⟨_, c0⟩
    · exact ⟨_, c1⟩
  · exact (wl_cell o5).2.2.2.2.2.2 k
  · obtain ⟨c0, c1, -⟩ := wl_cell P
    rcases (show k = 0 ∨ k = 1 by omega) with rfl | rfl
    · exact c0
    · exact c1

/-- The two routers of place k, by their names. -/
theorem Wl.two2 {c : Cf} {p g b Wb : Nat} {th : Nat → Th} {m : Nat} {T : Int} {oo : Option Addr} {oc : Nat} {wo : Option Addr} {wc : Nat} {w : World} (h : Wl c p g b Wb th m T oo oc wo wc w) (k : Nat) (hk : k < 2) :
    ∃ (q r : Nat) (L : List Int) (s : Int) (G0 G1 : Nat → Prop), (∀ W, Calm w W → W.cell? ⟨Wb, k, none⟩ = some (cp q) ∧ W.cell? ⟨Wb, 2 + k, none⟩ = some (cp r)) ∧ Pr w q G0 c p L s ∧ Rr w r G1 c p L s ∧ (∀ g, G0 g → ¬ G1 g) ∧ (∀ g, G0 g ∨ G1 g → b ≤ g ∧ g < w.heap.size) ∧
      Sit c p g L ∧ allT L = true ∧ 0 ≤ s ∧ s ≤ T ∧ (th k).a = q ∧ (th (k + 2)).a = r ∧ (th k).L = L ∧ (th k).s = s ∧ ∀ d, (d = Wb ∨ (Value.slice oo m oc).ownBlock = some d ∨ (Value.slice wo m wc).ownBlock = some d) → ¬ G0 d ∧ ¬ G1 d := by
  have al := h.pair k hk
  obtain ⟨G0, G1, a1, a2, a3, a4, a5, a6⟩ := h.tb.two router_all k (k + 2) (by omega) (by omega) (by omega)
  unfold Ho15 at a1 a2
  rw [if_pos al.tp] at a1
  rw [if_neg (by rw [al.up]; simp), ← al.L, ← al.s] at a2
  refine ⟨(th k).a, (th (k + 2)).a, (th k).L, (th k).s, G0, G1, fun W hW => ?_, a1, a2, a3, a5, al.sit, al.tm, al.s0, al.sT, rfl, rfl, rfl, rfl, a4⟩
  obtain ⟨c0, c1, c2, c3, -⟩ := wl_cell (hW.at h.own)
  rcases (show k = 0 ∨ k = 1 by omega) with rfl | rfl
  · exact ⟨c0, c2⟩
  · exact ⟨c1, c3⟩
theorem from_stands {c : Cf} {p g : Nat} {L : List Int} {s : Int} (hj : jobB c = true) (hS : Sit c p g L) (hT : allT L = true) (h0 : 0 ≤ s) (h1 : s ≤ 4611686018427387904) : fromE c (p : Int) L s = 0 := by
  have e : newE c (p : Int) = 0 := by
    unfold newE
    rw [if_neg (by rw [hj]; simp), if_neg]
    have := hS.gr
    have := hS.may.p1
    have := hS.may.p2
    omega
  unfold fromE
  rw [if_neg (by rw [e]; simp), if_neg]
  rintro ((h | h | h) | h)
  · exact h hS.so
  · omega
  · omega
  · unfold allT at hT
    rw [hT] at h; cases h

/-- One more of a list of addresses. -/
theorem infoold : (Tryz.prog.info? 27).map (fun i => (i.zero, i.size, i.bytes)) = some (some (.pointer none), 1, 8) := by kernel_rfl
theorem qold_app {w : World} {base n : Nat} {ao : Option Addr} {cap : Nat} {A : List Nat} (x : Nat) (h : encQ.Own 27 w base (.slice ao n cap) A) (hs : base ≤ w.heap.size) (hn : n ≤ 1000000) :
    ∃ a2 p2 w4, (Builtin.append_ #[31, 31] 31 #[.slice ao n cap, .slice (some ⟨w.heap.size, 0, none⟩) 1 1]).run Tryz.prog (w.alloc (.cells #[cp x] 27)) = .ok (.slice a2 (n + 1) p2) w4 ∧
      encQ.Own 27 w4 base (.slice a2 (n + 1) p2) (A ++ [x]) ∧ Touch (fun d => (Value.slice ao n cap).ownBlock = some d) w w4 ∧ ∀ d, (Value.slice a2 (n + 1) p2).ownBlock = some d → (Value.slice ao n cap).ownBlock = some d ∨ w.heap.size ≤ d := by
  obtain rfl : n = A.length := (Rc.Own.mem h).1
  obtain ⟨i0, hi, hz, hsz, hby⟩ := Rc.info_parts infoold
  have own := Rc.Own.calm h ((Touch.refl (fun _ => False) w).alloc (.cells #[cp x] 27))
  have hs1 := al_size w (.cells #[cp x] 27)
  obtain ⟨a2, p2, w4, hr, ow, t2, nb⟩ := Rc.Own.appw (E := encQ) (ty := 31) Tryz.underlying31 hi hz hsz hby rfl own (some ⟨w.heap.size, 0, none⟩) 1 [x] (Rc.Mem.new w [x] 27) (fun h => (nomatch h)) (by simp; unfold maxLen; omega) (by simp; omega) (by omega) (by omega)
  have e3 : (A ++ [x]).length = A.length + 1 := by simp
  rw [e3] at ow
  refine ⟨a2, p2, w4, by rw [← e3]; exact hr, ow, Touch.trans (((Touch.refl (fun _ => False) w).alloc _).mono fun _ _ h => h.elim) t2 fun _ _ h => h, fun d hd => ?_⟩
  rw [← e3] at hd
  rcases nb d hd with h | h
  · exact .inl h
  · exact .inr (by omega)
theorem infowas : (Tryz.prog.info? 29).map (fun i => (i.zero, i.size, i.bytes)) = some (some (.pointer none), 1, 8) := by kernel_rfl
theorem qwas_app {w : World} {base n : Nat} {ao : Option Addr} {cap : Nat} {A : List Nat} (x : Nat) (h : encQ.Own 29 w base (.slice ao n cap) A) (hs : base ≤ w.heap.size) (hn : n ≤ 1000000) :
    ∃ a2 p2 w4, (Builtin.append_ #[32, 32] 32 #[.slice ao n cap, .slice (some ⟨w.heap.size, 0, none⟩) 1 1]).run Tryz.prog (w.alloc (.cells #[cp x] 29)) = .ok (.slice a2 (n + 1) p2) w4 ∧
      encQ.Own 29 w4 base (.slice a2 (n + 1) p2) (A ++ [x]) ∧ Touch (fun d => (Value.slice ao n cap).ownBlock = some d) w w4 ∧ ∀ d, (Value.slice a2 (n + 1) p2).ownBlock = some d → (Value.slice ao n cap).ownBlock = some d ∨ w.heap.size ≤ d := by
  obtain rfl : n = A.length := (Rc.Own.mem h).1
  obtain ⟨i0, hi, hz, hsz, hby⟩ := Rc.info_parts infowas
  have own := Rc.Own.calm h ((Touch.refl (fun _ => False) w).alloc (.cells #[cp x] 29))
  have hs1 := al_size w (.cells #[cp x] 29)
  obtain ⟨a2, p2, w4, hr, ow, t2, nb⟩ := Rc.Own.appw (E := encQ) (ty := 32) Tryz.underlying32 hi hz hsz hby rfl own (some ⟨w.heap.size, 0, none⟩) 1 [x] (Rc.Mem.new w [x] 29) (fun h => (nomatch h)) (by simp; unfold maxLen; omega) (by simp; omega) (by omega) (by omega)
  have e3 : (A ++ [x]).length = A.length + 1 := by simp
  rw [e3] at ow
  refine ⟨a2, p2, w4, by rw [← e3]; exact hr, ow, Touch.trans (((Touch.refl (fun _ => False) w).alloc _).mono fun _ _ h => h.elim) t2 fun _ _ h => h, fun d hd => ?_⟩
  rw [← e3] at hd
  rcases nb d hd with h | h
  · exact .inl h
  · exact .inr (by omega)

/-- Numbers, n at least, that may be written over. -/
def Bj (w0 : World) (g n : Nat) (wr : World) : Prop := (∃ cur : Array Value, wr.heap[g]? = some (.cells cur 2 (0, 0)) ∧ n ≤ cur.size) ∧ Touch (fun d => d = g) w0 wr
theorem Bj.of {w : World} {base n k : Nat} {a : Option Addr} {A : List Int} (h : encJ.Own 2 w base (.slice a n k) A) (hn : 0 < n) : ∃ g, a = some ⟨g, 0, none⟩ ∧ base ≤ g ∧ g < w.heap.size ∧ Bj w g n w := by
  obtain ⟨-, h | ⟨g, cap, cur, e, h1, h2, h3, -, h5, -⟩⟩ := h
  · injection h.1 with e1 e2 e3
    omega
  · injection e with e1 e2 e3
    have e6 : encJ.n = 1 := rfl
    rw [e6] at h5
    have eA : A.length = n := e2.symm
    exact ⟨g, e1, h1, lt_of_heap h2, ⟨cur, h2, by omega⟩, Touch.refl _ _⟩
theorem Bj.free {w0 wr : World} {g n i : Nat} (h : Bj w0 g n wr) (hi : i < n) : (∃ u, wr.cell? ⟨g, i, none⟩ = some u) ∧ wr.frozen? ⟨g, i, none⟩ = false := by
  obtain ⟨⟨cur, h1, h2⟩, -⟩ := h
  exact ⟨⟨cur[i]'(by omega), by simp [World.cell?, h1]⟩, by simp [World.frozen?, h1]⟩
theorem Bj.next {w0 wr : World} {g n : Nat} (h : Bj w0 g n wr) (i : Nat) (v : Value) : Bj w0 g n (wr.setCell ⟨g, i, none⟩ v) := by
  obtain ⟨⟨cur, h1, h2⟩, h4⟩ := h
  exact ⟨⟨_, heap_setCell_row (i := i) h1 v, by simpa using h2⟩, h4.setCell (p := ⟨g, i, none⟩) (fun _ => rfl) _⟩

end Go.Proofs.YtapnjofplilefaaGreat

namespace Go.Proofs.YtapnjofplilefaaGreat
open Go.RowKit

theorem Wl.push {c : Cf} {p g b Wb : Nat} {th : Nat → Th} {m : Nat} {T T' : Int} {oo : Option Addr} {oc : Nat} {wo : Option Addr} {wc : Nat} {w w6 : World} (h : Wl c p g b Wb th m T oo oc wo wc w) (k : Nat) (hk : k < 2) (hT : T ≤ T') {a1 a2 : Option Addr} {p1 p2 q' r' : Nat} {G' F' : Nat → Prop}
    (ht : Touch (fun d => d = Wb ∨ (Value.slice oo m oc).ownBlock = some d ∨ (Value.slice wo m wc).ownBlock = some d) w w6)
    (own6 : w6.heap[Wb]? = some (.cells (worldC (if k = 0 then q' else (th 0).a) (if k = 1 then q' else (th 1).a) (th 2).a (th 3).a (.slice a1 (m + 1) p1) (.slice a2 (m + 1) p2)) 34 (0, 0)))
    (o1 : encQ.Own 27 w6 b (.slice a1 (m + 1) p1) (((List.range m).map fun i => (th (4 + 2 * i)).a) ++ [(th k).a]))
    (o2 : encQ.Own 29 w6 b (.slice a2 (m + 1) p2) (((List.range m).map fun i => (th (5 + 2 * i)).a) ++ [r']))
    (hp : Pr w6 q' G' c p (th k).L (th k).s) (hr : Rr w6 r' F' c p (th k).L (th k).s) (hG : ∀ d, G' d → w.heap.size ≤ d) (hF : ∀ d, F' d → w.heap.size ≤ d) (hGF : ∀ d, G' d → ¬ F' d)
    (hS1 : ∀ d, (Value.slice a1 (m + 1) p1).ownBlock = some d → ((Value.slice oo m oc).ownBlock = some d ∨ w.heap.size ≤ d) ∧ ¬ G' d ∧ ¬ F' d) (hS2 : ∀ d, (Value.slice a2 (m + 1) p2).ownBlock = some d → ((Value.slice wo m wc).ownBlock = some d ∨ w.heap.size ≤ d) ∧ ¬ G' d ∧ ¬ F' d) :
    ∃ th', Wl c p g b Wb th' (m + 1) T' a1 p1 a2 p2 w6 := by
  classical
  have al := h.pair k hk
  have hWb := lt_of_heap h.own
  obtain ⟨th', e'⟩ : ∃ th' : Nat → Th, ∀ i, th' i = if i = k then ⟨true, q', (th k).L, (th k).s⟩ else if i = 4 + 2 * m then th k else if i = 5 + 2 * m then ⟨false, r', (th k).L, (th k).s⟩ else th i := ⟨_, fun _ => rfl⟩
  have ek : th' k = ⟨true, q', (th k).L, (th k).s⟩ := by rw [e', if_pos rfl]
  have e4 : th' (4 + 2 * m) = th k := by rw [e', if_neg (by omega), if_pos rfl]
  have e5 : th' (5 + 2 * m) = ⟨false, r', (th k).L, (th k).s⟩ := by rw [e', if_neg (by omega), if_neg (by omega), if_pos rfl]
  have eo : ∀ i, i ≠ k → i < 4 + 2 * m → th' i = th i := fun i h1 h2 => by rw [e', if_neg h1, if_neg (by omega), if_neg (by omega)]
  refine ⟨th', ?_, ?_, ?_, ?_, ?_, ?_, fun i hi => ?_, h.lo⟩
  · rw [own6, eo 2 (by omega) (by omega), eo 3 (by omega) (by omega)]
    rcases (show k = 0 ∨ k = 1 by omega) with rfl | rfl
    · rw [ek, eo 1 (by omega) (by omega)]; simp
    · rw [ek, eo 0 (by omega) (by omega)]; simp
  · rw [List.range_succ, List.map_append, List.map_singleton, e4]
    have e : ((List.range m).map fun i => (th' (4 + 2 * i)).a) = (List.range m).map fun i => (th (4 + 2 * i)).a := List.map_congr_left fun i hi => by rw [List.mem_range] at hi; rw [eo _ (by omega) (by omega)]
    rw [e]; exact o1
  · rw [List.range_succ, List.map_append, List.map_singleton, e5]
    have e : ((List.range m).map fun i => (th' (5 + 2 * i)).a) = (List.range m).map fun i => (th (5 + 2 * i)).a := List.map_congr_left fun i hi => by rw [List.mem_range] at hi; rw [eo _ (by omega) (by omega)]
    rw [e]; exact o2
  · obtain ⟨col, h1, h2⟩ := h.tb
    have nS : ∀ r, r < 4 + 2 * m → ∀ (G : Nat → Prop), (∀ d, G d → col d = r + 2 ∧ b ≤ d) → ∀ d, G d → ¬ (d = Wb ∨ (Value.slice oo m oc).ownBlock = some d ∨ (Value.slice wo m wc).ownBlock = some d) := fun r _ G hG d hd hs => by
      have := (hG d hd).1
      have := (h2 d hs).1
      omega
    refine ⟨fun d => if d < w.heap.size then (if col d = k + 2 then 4 + 2 * m + 2 else col d) else if G' d then k + 2 else if F' d then 5 + 2 * m + 2 else 1, fun r hr9 => ?_, fun d hd => ?_⟩
    · by_cases r1 : r = k
      · subst r1
        refine ⟨G', by rw [ek]; unfold Ho15; rw [if_pos rfl]; exact hp, fun d hd => ?_⟩
        have := hG d hd
        have := h.lo
        dsimp only
        rw [if_neg (by omega), if_pos hd]
        exact ⟨rfl, by omega⟩
      · by_cases r2 : r = 4 + 2 * m
        · subst r2
          obtain ⟨G, h3, h4⟩ := h1 k (by omega)
          refine ⟨G, by rw [e4]; exact h3.touch router_all ht (nS k (by omega) G h4), fun d hd => ?_⟩
          dsimp only
          rw [if_pos (h3.lt router_all d hd), if_pos (h4 d hd).1]
          exact ⟨rfl, (h4 d hd).2⟩
        · by_cases r3 : r = 5 + 2 * m
          · subst r3
            refine ⟨F', by rw [e5]; unfold Ho15; rw [if_neg (by simp)]; exact hr, fun d hd => ?_⟩
            have := hF d hd
            have := h.lo
            dsimp only
            rw [if_neg (by omega), if_neg (fun hg => hGF d hg hd), if_pos hd]
            exact ⟨rfl, by omega⟩
          · obtain ⟨G, h3, h4⟩ := h1 r (by omega)
            refine ⟨G, by rw [eo r r1 (by omega)]; exact h3.touch router_all ht (nS r (by omega) G h4), fun d hd => ?_⟩
            have := (h4 d hd).1
            dsimp only
            rw [if_pos (h3.lt router_all d hd), if_neg (by omega)]
            exact h4 d hd
    · have old1 : ∀ d, (d = Wb ∨ (Value.slice oo m oc).ownBlock = some d ∨ (Value.slice wo m wc).ownBlock = some d) → (if d < w.heap.size then (if col d = k + 2 then 4 + 2 * m + 2 else col d) else if G' d then k + 2 else if F' d then 5 + 2 * m + 2 else 1) = 1 := fun d hs => by
        obtain ⟨c1, c2, c3⟩ := h2 d hs
        rw [if_pos c2, c1, if_neg (by omega)]
      have new1 : ∀ d, w.heap.size ≤ d → ¬ G' d → ¬ F' d → (if d < w.heap.size then (if col d = k + 2 then 4 + 2 * m + 2 else col d) else if G' d then k + 2 else if F' d then 5 + 2 * m + 2 else 1) = 1 := fun d a b c => by
        rw [if_neg (by omega), if_neg b, if_neg c]
      rcases hd with hd | hd | hd
      · have := ht.size
        exact ⟨old1 d (.inl hd), by omega, by have := h.lo; omega⟩
      · refine ⟨?_, (own_lt o1 hd).2, (own_lt o1 hd).1⟩
        obtain ⟨s1 | s1, s2, s3⟩ := hS1 d hd
        · exact old1 d (.inr (.inl s1))
        · exact new1 d s1 s2 s3
      · refine ⟨?_, (own_lt o2 hd).2, (own_lt o2 hd).1⟩
        obtain ⟨s1 | s1, s2, s3⟩ := hS2 d hd
        · exact old1 d (.inr (.inr s1))
        · exact new1 d s1 s2 s3
  · rcases (show k = 0 ∨ k = 1 by omega) with rfl | rfl
    · rw [ek, eo 2 (by omega) (by omega)]
      have a := h.a0.more hT
      exact ⟨rfl, a.up, a.L, a.s, a.s0, a.sT, a.sit, a.tm⟩
    · rw [eo 0 (by omega) (by omega), eo 2 (by omega) (by omega)]
      exact h.a0.more hT
  · rcases (show k = 0 ∨ k = 1 by omega) with rfl | rfl
    · rw [eo 1 (by omega) (by omega), eo 3 (by omega) (by omega)]
      exact h.a1.more hT
    · rw [ek, eo 3 (by omega) (by omega)]
      have a := h.a1.more hT
      exact ⟨rfl, a.up, a.L, a.s, a.s0, a.sT, a.sit, a.tm⟩
  · by_cases e : i = m
    · subst e
      rw [e4, e5]
      have a := al.more hT
      exact ⟨a.tp, rfl, rfl, rfl, a.s0, a.sT, a.sit, a.tm⟩
    · rw [eo _ (by omega) (by omega), eo _ (by omega) (by omega)]
      exact (h.al i (by omega)).more hT

end Go.Proofs.YtapnjofplilefaaGreat

namespace Go.Proofs.YtapnjofplilefaaGreat
open Go.RowKit

/-- j of the two pairs are put behind. -/
structure Lp (c : Cf) (p g b Wb : Nat) (th : Nat → Th) (m j : Nat) (T : Int) (a1 : Option Addr) (p1 : Nat) (a2 : Option Addr) (p2 : Nat) (w : World) : Prop where
  own : w.heap[Wb]? = some (.cells (worldC (th 0).a (th 1).a (th 2).a (th 3).a (.slice a1 (m + j) p1) (.slice a2 (m + j) p2)) 34 (0, 0))
  old : encQ.Own 27 w b (.slice a1 (m + j) p1) (((List.range m).map fun i => (th (4 + 2 * i)).a) ++ (List.range j).map fun i => (th i).a)
  was : encQ.Own 29 w b (.slice a2 (m + j) p2) (((List.range m).map fun i => (th (5 + 2 * i)).a) ++ (List.range j).map fun i => (th (i + 2)).a)
  tb : Tb Pr c p b (fun d => d = Wb ∨ (Value.slice a1 (m + j) p1).ownBlock = some d ∨ (Value.slice a2 (m + j) p2).ownBlock = some d) th (4 + 2 * m) w
  a0 : Al c p g T (th 0) (th 2)
  a1 : Al c p g T (th 1) (th 3)
  al : ∀ i, i < m → Al c p g T (th (4 + 2 * i)) (th (5 + 2 * i))
  lo : b ≤ Wb
theorem Wl.end_ {c : Cf} {p g b Wb : Nat} {th : Nat → Th} {m : Nat} {T : Int} {oo : Option Addr} {oc : Nat} {wo : Option Addr} {wc : Nat} {w : World} (h : Wl c p g b Wb th m T oo oc wo wc w) : Lp c p g b Wb th m 0 T oo oc wo wc w :=
  ⟨h.own, by simpa using h.old, by simpa using h.was, h.tb, h.a0, h.a1, h.al, h.lo⟩
theorem tags_own {w : World} {base Wb : Nat} {e e2 : TypeId} {v : Value} {l : List Nat} {cs : Array Value} (ho : encQ.Own e w base v l) (hh : w.heap[Wb]? = some (.cells cs e2 (0, 0))) (hne : e2 ≠ e) : ∀ d, v.ownBlock = some d → d ≠ Wb := fun d hd e9 => by
  obtain ⟨-, cur, hc⟩ := Rc.own_block ho hd
  rw [e9, hh] at hc
  injection hc with hc
  injection hc with _ e
  exact hne e
theorem tags_two {w : World} {base b2 : Nat} {e e2 : TypeId} {v v2 : Value} {l l2 : List Nat} (ho : encQ.Own e w base v l) (ho2 : encQ.Own e2 w b2 v2 l2) (hne : e ≠ e2) : ∀ d, v.ownBlock = some d → ¬ v2.ownBlock = some d := fun d hd hd2 => by
  obtain ⟨-, cur, hc⟩ := Rc.own_block ho hd
  obtain ⟨-, cur2, hc2⟩ := Rc.own_block ho2 hd2
  rw [hc] at hc2
  injection hc2 with hc2
  injection hc2 with _ e9
  exact hne e9
theorem Lp.still {c : Cf} {p g b Wb : Nat} {th : Nat → Th} {m j : Nat} {T : Int} {a1 : Option Addr} {p1 : Nat} {a2 : Option Addr} {p2 : Nat} {w w2 : World} (h : Lp c p g b Wb th m j T a1 p1 a2 p2 w) (ht : Calm w w2) : Lp c p g b Wb th m j T a1 p1 a2 p2 w2 :=
  ⟨ht.at h.own, Rc.Own.calm h.old ht, Rc.Own.calm h.was ht, h.tb.still router_all ht, h.a0, h.a1, h.al, h.lo⟩
/-- The program's of the next pair is put behind. -/
theorem Lp.half {c : Cf} {p g b Wb : Nat} {th : Nat → Th} {m j : Nat} {T : Int} {a1 : Option Addr} {p1 : Nat} {a2 : Option Addr} {p2 : Nat} {w : World} (h : Lp c p g b Wb th m j T a1 p1 a2 p2 w) (hm : m + j ≤ 100) :
    ∃ a1' p1' w4, (Builtin.append_ #[31, 31] 31 #[.slice a1 (m + j) p1, .slice (some ⟨w.heap.size, 0, none⟩) 1 1]).run Tryz.prog (w.alloc (.cells #[cp (th j).a] 27)) = .ok (.slice a1' (m + j + 1) p1') w4 ∧ Touch (fun d => (Value.slice a1 (m + j) p1).ownBlock = some d) w w4 ∧ (∃ u, w4.cell? ⟨Wb, 4, none⟩ = some u) ∧ w4.frozen? ⟨Wb, 4, none⟩ = false ∧
      ∀ w5, w4.setCell ⟨Wb, 4, none⟩ (.slice a1' (m + j + 1) p1') = w5 → Touch (fun d => d = Wb ∨ (Value.slice a1 (m + j) p1).ownBlock = some d) w w5 ∧ w5.heap[Wb]? = some (.cells (worldC (th 0).a (th 1).a (th 2).a (th 3).a (.slice a1' (m + j + 1) p1') (.slice a2 (m + j) p2)) 34 (0, 0)) ∧
        ∀ w6, Calm w5 w6 → ∃ a2' p2' w8, (Builtin.append_ #[32, 32] 32 #[.slice a2 (m + j) p2, .slice (some ⟨w6.heap.size, 0, none⟩) 1 1]).run Tryz.prog (w6.alloc (.cells #[cp (th (j + 2)).a] 29)) = .ok (.slice a2' (m + j + 1) p2') w8 ∧ Touch (fun d => (Value.slice a2 (m + j) p2).ownBlock = some d) w6 w8 ∧ (∃ u, w8.cell? ⟨Wb, 5, none⟩ = some u) ∧ w8.frozen? ⟨Wb, 5, none⟩ = false ∧ (∀ d, (Value.slice a2 (m + j) p2).ownBlock = some d → d ≠ Wb) ∧
          Lp c p g b Wb th m (j + 1) T a1' p1' a2' p2' (w8.setCell ⟨Wb, 5, none⟩ (.slice a2' (m + j + 1) p2')) := by
  have hWb := lt_of_heap h.own
  have hbb : b ≤ w.heap.size := by have := h.lo; omega
  have n1 := tags_own h.old h.own (by decide)
  have n2 := tags_own h.was h.own (by decide)
  have n12 := tags_two h.was h.old (by decide)
  obtain ⟨a1', p1', w4, hr1, o1, t1, nb1⟩ := qold_app (th j).a h.old hbb (by omega)
  have own4 := t1.heap h.own (fun hd => n1 Wb hd rfl)
  refine ⟨a1', p1', w4, hr1, t1, ⟨_, (wl_cell own4).2.2.2.2.1⟩, (wl_cell own4).2.2.2.2.2.2 4, fun w5 e5 => ?_⟩
  have own5 := heap_setCell_row (i := 4) own4 (.slice a1' (m + j + 1) p1')
  have T5s := (Touch.refl (fun d => d = Wb) w4).setCell (p := ⟨Wb, 4, none⟩) (fun _ => rfl) (.slice a1' (m + j + 1) p1')
  rw [e5] at own5 T5s
  have own5 : w5.heap[Wb]? = some (.cells (worldC (th 0).a (th 1).a (th 2).a (th 3).a (.slice a1' (m + j + 1) p1') (.slice a2 (m + j) p2)) 34 (0, 0)) := by rw [own5]; simp
  have T5 : Touch (fun d => d = Wb ∨ (Value.slice a1 (m + j) p1).ownBlock = some d) w w5 := (t1.mono fun _ _ h => .inr h).trans (T5s.mono fun _ _ h => .inl h) fun _ _ h => h
  have n1' : ∀ d, (Value.slice a1' (m + j + 1) p1').ownBlock = some d → d ≠ Wb := fun d hd e => by
    rcases nb1 d hd with h9 | h9
    · exact n1 d h9 e
    · omega
  have o5 := Rc.Own.touch o1 T5s (fun d hd e => n1' d hd e)
  have ow5 := Rc.Own.touch h.was T5 (fun d hd e => e.elim (n2 d hd) (n12 d hd))
  have tb5 := h.tb.own router_all hbb (T5.mono fun d _ e => e.imp id .inl) (S' := fun d => d = Wb ∨ (Value.slice a1' (m + j + 1) p1').ownBlock = some d ∨ (Value.slice a2 (m + j) p2).ownBlock = some d) (fun d hd => by
    have hs := T5.size
    rcases hd with hd | hd | hd
    · exact ⟨.inl (.inl hd), by omega⟩
    · exact ⟨(nb1 d hd).imp (fun h9 => .inr (.inl h9)) id, (own_lt o5 hd).2⟩
    · exact ⟨.inl (.inr (.inr hd)), (own_lt ow5 hd).2⟩)
  refine ⟨T5, own5, fun w6 t6 => ?_⟩
  have own6 := t6.at own5
  have o6 := Rc.Own.calm o5 t6
  have ow6 := Rc.Own.calm ow5 t6
  have tb6 := tb5.still router_all t6
  have hb6 : b ≤ w6.heap.size := by have := T5.size; have := t6.size; omega
  obtain ⟨a2', p2', w8, hr2, o2, t2, nb2⟩ := qwas_app (th (j + 2)).a ow6 hb6 (by omega)
  have n12' := tags_two o6 ow6 (by decide)
  have own8 := t2.heap own6 (fun hd => n2 Wb hd rfl)
  have own9 := heap_setCell_row (i := 5) own8 (.slice a2' (m + j + 1) p2')
  have T9s := (Touch.refl (fun d => d = Wb) w8).setCell (p := ⟨Wb, 5, none⟩) (fun _ => rfl) (.slice a2' (m + j + 1) p2')
  have T9 : Touch (fun d => d = Wb ∨ (Value.slice a2 (m + j) p2).ownBlock = some d) w6 (w8.setCell ⟨Wb, 5, none⟩ (.slice a2' (m + j + 1) p2')) := (t2.mono fun _ _ h => .inr h).trans (T9s.mono fun _ _ h => .inl h) fun _ _ h => h
  have n2' : ∀ d, (Value.slice a2' (m + j + 1) p2').ownBlock = some d → d ≠ Wb := fun d hd e => by
    rcases nb2 d hd with h9 | h9
    · exact n2 d h9 e
    · have := lt_of_heap own6; omega
  have o9 := Rc.Own.touch o6 T9 (fun d hd e => e.elim (n1' d hd) (n12' d hd))
  have ow9 := Rc.Own.touch o2 T9s (fun d hd e => n2' d hd e)
  have tb9 := tb6.own router_all hb6 (T9.mono fun d _ e => e.imp id .inr) (S' := fun d => d = Wb ∨ (Value.slice a1' (m + j + 1) p1').ownBlock = some d ∨ (Value.slice a2' (m + j + 1) p2').ownBlock = some d) (fun d hd => by
    have hs := T9.size
    rcases hd with hd | hd | hd
    · exact ⟨.inl (.inl hd), by have := lt_of_heap own6; omega⟩
    · exact ⟨.inl (.inr (.inl hd)), (own_lt o9 hd).2⟩
    · exact ⟨(nb2 d hd).imp (fun h9 => .inr (.inr h9)) id, (own_lt ow9 hd).2⟩)
  refine ⟨a2', p2', w8, hr2, t2, ⟨_, (wl_cell own8).2.2.2.2.2.1⟩, (wl_cell own8).2.2.2.2.2.2 5, n2, ⟨by rw [own9]; simp; rfl, ?_, ?_, tb9, h.a0, h.a1, h.al, h.lo⟩⟩
  · rw [List.range_succ, List.map_append, ← List.append_assoc]; exact o9
  · rw [List.range_succ, List.map_append, ← List.append_assoc]; exact ow9
/-- Each pair that lies there stands alike. -/
theorem Lp.see {c : Cf} {p g b Wb : Nat} {th : Nat → Th} {m : Nat} {T : Int} {a1 : Option Addr} {p1 : Nat} {a2 : Option Addr} {p2 : Nat} {w : World} (h : Lp c p g b Wb th m 2 T a1 p1 a2 p2 w) (i : Nat) (hi : i < m + 2) :
    ∃ (q r : Nat) (L : List Int) (s : Int) (G F : Nat → Prop), Pr w q G c p L s ∧ Rr w r F c p L s ∧ (∃ d, a1 = some ⟨d, 0, none⟩ ∧ w.cell? ⟨d, i, none⟩ = some (cp q)) ∧ (∃ d, a2 = some ⟨d, 0, none⟩ ∧ w.cell? ⟨d, i, none⟩ = some (cp r)) := by
  have get : ∀ {e : TypeId} {a : Option Addr} {n k : Nat} {A : List Nat}, encQ.Own e w b (.slice a n k) A → ∀ x, A[i]? = some x → ∃ d, a = some ⟨d, 0, none⟩ ∧ w.cell? ⟨d, i, none⟩ = some (cp x) := fun ho x hx => by
    obtain ⟨-, m9, -, -, -, h5⟩ := Rc.Own.mem ho
    have hlt := (List.getElem?_eq_some_iff.1 hx).1
    obtain ⟨d, off, e1, k9⟩ := Rc.Mem.at m9 i hlt
    subst e1
    obtain ⟨-, e, -⟩ := h5 _ rfl
    have e : off = 0 := e
    subst e
    refine ⟨d, rfl, ?_⟩
    have := k9 0 (cp x) (by
      rw [List.getElem?_eq_getElem hlt] at hx
      injection hx with hx
      rw [hx]; rfl)
    have e1 : encQ.n = 1 := rfl
    rw [e1, Nat.mul_one, Nat.zero_add, Nat.add_zero] at this
    exact this
  obtain ⟨col, h1, -⟩ := h.tb
  have pair : ∀ x y, x < 4 + 2 * m → y < 4 + 2 * m → Al c p g T (th x) (th y) → ∃ (L : List Int) (s : Int) (G F : Nat → Prop), Pr w (th x).a G c p L s ∧ Rr w (th y).a F c p L s := fun x y hx hy al => by
    obtain ⟨G, g1, -⟩ := h1 x hx
    obtain ⟨F, f1, -⟩ := h1 y hy
    unfold Ho15 at g1 f1
    rw [if_pos al.tp] at g1
    rw [if_neg (by rw [al.up]; simp), ← al.L, ← al.s] at f1
    exact ⟨_, _, G, F, g1, f1⟩
  by_cases hm : i < m
  · obtain ⟨L, s, G, F, x1, x2⟩ := pair (4 + 2 * i) (5 + 2 * i) (by omega) (by omega) (h.al i hm)
    exact ⟨_, _, L, s, G, F, x1, x2, get h.old _ (by rw [List.getElem?_append_left (by simpa using hm)]; simp [hm]), get h.was _ (by rw [List.getElem?_append_left (by simpa using hm)]; simp [hm])⟩
  · rcases (show i = m ∨ i = m + 1 by omega) with rfl | rfl
    · obtain ⟨L, s, G, F, x1, x2⟩ := pair 0 2 (by omega) (by omega) h.a0
      exact ⟨_, _, L, s, G, F, x1, x2, get h.old _ (by rw [List.getElem?_append_right (by simp)]; simp), get h.was _ (by rw [List.getElem?_append_right (by simp)]; simp)⟩
    · obtain ⟨L, s, G, F, x1, x2⟩ := pair 1 3 (by omega) (by omega) h.a1
      exact ⟨_, _, L, s, G, F, x1, x2, get h.old _ (by rw [List.getElem?_append_right (by simp)]; simp), get h.was _ (by rw [List.getElem?_append_right (by simp)]; simp)⟩

end Go.Proofs.YtapnjofplilefaaGreat
