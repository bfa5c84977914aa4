/- What StoreTexts keeps in memory. -/
import Derived.Test.YtcbaloenlodkdaaXCmp
import Derived.Test.YtcbaloenlodkdaaIWorks
namespace Go.Proofs.Ytcbaloenlodkdaa.XM
open Go.RowKit

/-- Texts in memory. -/
def SegS (w : World) (ao : Option Addr) (ks : List ByteArray) : Prop := ∀ j (hj : j < ks.length), ∃ b off, ao = some ⟨b, off, none⟩ ∧ w.cell? ⟨b, off + j, none⟩ = some (.string ks[j])

theorem SegS.calm {w w' : World} {ao : Option Addr} {ks : List ByteArray} (h : SegS w ao ks) (ht : Calm w w') : SegS w' ao ks := fun j hj => by
  obtain ⟨b, off, e, h1⟩ := h j hj
  exact ⟨b, off, e, (ht.cell (p := ⟨b, off + j, none⟩) (lt_of_cell h1) (fun h => h)).trans h1⟩

/-- A list of one number, as a value. -/
abbrev tv (b : Nat) : Option Addr × Nat × Nat := (some ⟨b, 0, none⟩, 1, 1)

/-- The lists, each of its own number. -/
def Lst (w : World) (lv : List Nat) : Prop := ∀ i (hi : i < lv.length), w.heap[lv[i]]? = some (.cells #[.int .i64 (i : Int)] 3 (0, 0))

/-- A map's entries: texts of keys, with their lists. -/
def Ent (ks : List ByteArray) (lv : List Nat) (X : List (ByteArray × (Option Addr × Nat × Nat))) : Prop := ∀ a ∈ X, ∃ i, ∃ (h1 : i < lv.length) (h2 : i < ks.length), a.2 = tv lv[i] ∧ a.1.toList = ks[i].toList

theorem Ent.put {ks : List ByteArray} {lv : List Nat} {X : List (ByteArray × (Option Addr × Nat × Nat))} (h : Ent ks lv X) (b : Nat) (hk : lv.length < ks.length) : Ent ks (lv ++ [b]) (lput (cmpS ks[lv.length]) ks[lv.length] (tv b) X) := by
  have up : ∀ a ∈ X, ∃ i, ∃ (h1 : i < (lv ++ [b]).length) (h2 : i < ks.length), a.2 = tv (lv ++ [b])[i] ∧ a.1.toList = ks[i].toList := fun a ha => by
    obtain ⟨i, h1, h2, h3, h4⟩ := h a ha
    refine ⟨i, by simp; omega, h2, ?_, h4⟩
    rw [List.getElem_append_left h1]; exact h3
  intro a ha
  rcases mem_lput ha with ha | ⟨h1, h2⟩
  · exact up a ha
  · refine ⟨lv.length, by simp, hk, by simp [h1], ?_⟩
    rcases h2 with h2 | ⟨c, hc, h3, h4⟩
    · rw [h2]
    · rw [h4]; exact (cmpS_eq.1 h3).symm

theorem Ent.drop {ks : List ByteArray} {lv : List Nat} {X : List (ByteArray × (Option Addr × Nat × Nat))} (h : Ent ks lv X) (f : ByteArray → Int) : Ent ks lv (ldrop f X) := fun a ha => h a (mem_ldrop ha)

theorem Lst.calm {w w' : World} {lv : List Nat} (h : Lst w lv) (ht : Calm w w') : Lst w' lv := fun i hi => ht.at (h i hi)

/-- All that StoreTexts keeps while the map is made. -/
structure Tx (w : World) (ks : List ByteArray) (kv : Value) (key : ByteArray) (m B3 B5 B6 B7 B8 : Nat) (X : List (ByteArray × (Option Addr × Nat × Nat))) (lv : List Nat) (W : World) : Prop where
  calm : Calm w W
  b3 : W.heap[B3]? = some (.cells #[kv] 59 (0, 0))
  b5 : W.heap[B5]? = some (.cells #[.string key] 9 (0, 0))
  b6 : W.heap[B6]? = some (.cells #[.bool false] 4 (0, 0))
  b7 : W.heap[B7]? = some (.cells #[.pointer (some ⟨m, 0, none⟩)] 60 (0, 0))
  b8 : ∃ ao cap, W.heap[B8]? = some (.cells #[.slice ao lv.length cap] 62 (0, 0)) ∧ W.ownsRow w.heap.size 44 1 (.slice ao lv.length cap) lv.length (lv.map fun b => .slice (some ⟨b, 0, none⟩) 1 1)
  mt : Mt W m 50 #[] X
  lst : Lst W lv
  ent : Ent ks lv X
  up : Up cmpS X
  len : X.length ≤ lv.length
  lo : w.heap.size ≤ B6 ∧ w.heap.size ≤ B7 ∧ w.heap.size ≤ B8 ∧ w.heap.size ≤ m

/-- What stays of it where S is touched. -/
theorem Tx.turn {w : World} {ks : List ByteArray} {kv : Value} {key : ByteArray} {m B3 B5 B6 B7 B8 : Nat} {X : List (ByteArray × (Option Addr × Nat × Nat))} {lv : List Nat} {W W' : World} {S : Nat → Prop} (h : Tx w ks kv key m B3 B5 B6 B7 B8 X lv W) (ht : Touch S W W') (hlo : ∀ g, S g → w.heap.size ≤ g)
    (hS : ∀ g cs t fr, S g → W.heap[g]? = some (.cells cs t fr) → t = 44 ∨ t = 62 ∨ t = 92) :
    Calm w W' ∧ W'.heap[B3]? = some (.cells #[kv] 59 (0, 0)) ∧ W'.heap[B5]? = some (.cells #[.string key] 9 (0, 0)) ∧ W'.heap[B6]? = some (.cells #[.bool false] 4 (0, 0)) ∧
      W'.heap[B7]? = some (.cells #[.pointer (some ⟨m, 0, none⟩)] 60 (0, 0)) ∧ Lst W' lv := by
  have k : ∀ {g : Nat} {cs : Array Value} {t : TypeId}, W.heap[g]? = some (.cells cs t (0, 0)) → ¬ (t = 44 ∨ t = 62 ∨ t = 92) → W'.heap[g]? = some (.cells cs t (0, 0)) := fun {g cs t} hg hn => ht.heap hg (fun hs => hn (hS g cs t _ hs hg))
  exact ⟨h.calm.trans ht (fun g hg hs => by have := hlo g hs; omega), k h.b3 (by decide), k h.b5 (by decide), k h.b6 (by decide), k h.b7 (by decide), fun i hi => k (h.lst i hi) (by decide)⟩

theorem Tx.calm' {w : World} {ks : List ByteArray} {kv : Value} {key : ByteArray} {m B3 B5 B6 B7 B8 : Nat} {X : List (ByteArray × (Option Addr × Nat × Nat))} {lv : List Nat} {W W' : World} (h : Tx w ks kv key m B3 B5 B6 B7 B8 X lv W) (ht : Calm W W') : Tx w ks kv key m B3 B5 B6 B7 B8 X lv W' := by
  obtain ⟨a1, a2, a3, a4, a5, a6⟩ := h.turn ht (fun _ h => h.elim) (fun _ _ _ _ h => h.elim)
  obtain ⟨ao, cap, h1, h2⟩ := h.b8
  exact ⟨a1, a2, a3, a4, a5, ⟨ao, cap, ht.at h1, own_touch h2 ht (fun _ _ h => h)⟩, h.mt.calm ht, a6, h.ent, h.up, h.len, h.lo⟩

/-- The map turned. -/
theorem Tx.map {w : World} {ks : List ByteArray} {kv : Value} {key : ByteArray} {m B3 B5 B6 B7 B8 : Nat} {X : List (ByteArray × (Option Addr × Nat × Nat))} {lv : List Nat} {W W' : World} {X' : List (ByteArray × (Option Addr × Nat × Nat))} (h : Tx w ks kv key m B3 B5 B6 B7 B8 X lv W) (ht : Touch (fun g => g = m) W W') (hm : Mt W' m 50 #[] X') (he : Ent ks lv X') (hu : Up cmpS X') (hl : X'.length ≤ lv.length) : Tx w ks kv key m B3 B5 B6 B7 B8 X' lv W' := by
  obtain ⟨ro, hM, _⟩ := h.mt
  obtain ⟨a1, a2, a3, a4, a5, a6⟩ := h.turn ht (fun g e => by subst e; exact h.lo.2.2.2) (fun g cs t fr e hg => by subst e; rw [hM] at hg; injection hg with hg; injection hg with _ e2 _; exact .inr (.inr e2.symm))
  obtain ⟨ao, cap, h1, h2⟩ := h.b8
  exact ⟨a1, a2, a3, a4, a5, ⟨ao, cap, ht.heap h1 (fun e => tags h1 hM (by decide) e), own_touch h2 ht (fun g hg e => by
    obtain ⟨_, cur, hc⟩ := own_block h2 hg
    exact tags hc hM (by decide) e)⟩, hm, a6, he, hu, hl, h.lo⟩

/-- A list more. -/
theorem Tx.grow {w : World} {ks : List ByteArray} {kv : Value} {key : ByteArray} {m B3 B5 B6 B7 B8 : Nat} {X : List (ByteArray × (Option Addr × Nat × Nat))} {lv : List Nat} {W w3 : World} (h : Tx w ks kv key m B3 B5 B6 B7 B8 X lv W) (ao : Option Addr) (cap : Nat) (h8 : W.heap[B8]? = some (.cells #[.slice ao lv.length cap] 62 (0, 0))) (hown : W.ownsRow w.heap.size 44 1 (.slice ao lv.length cap) lv.length (lv.map fun b => .slice (some ⟨b, 0, none⟩) 1 1))
    (t3 : Touch (fun g => (Value.slice ao lv.length cap).ownBlock = some g) ((W.alloc (.cells #[.int .i64 (lv.length : Int)] 3)).alloc (.cells #[.slice (some ⟨W.heap.size, 0, none⟩) 1 1] 44)) w3) (ao3 : Option Addr) (c3 : Nat)
    (own3 : w3.ownsRow w.heap.size 44 1 (.slice ao3 (lv.length + 1) c3) (lv.length + 1) ((lv.map fun b => .slice (some ⟨b, 0, none⟩) 1 1) ++ [.slice (some ⟨W.heap.size, 0, none⟩) 1 1])) :
    Tx w ks kv key m B3 B5 B6 B7 B8 X (lv ++ [W.heap.size]) (w3.setCell ⟨B8, 0, none⟩ (.slice ao3 (lv.length + 1) c3)) := by
  have tc : Calm W ((W.alloc (.cells #[.int .i64 (lv.length : Int)] 3)).alloc (.cells #[.slice (some ⟨W.heap.size, 0, none⟩) 1 1] 44)) := ((Touch.refl _ _).alloc _).alloc _
  have t13 : Touch (fun g => (Value.slice ao lv.length cap).ownBlock = some g) W w3 := (tc.mono (fun _ _ h => h.elim)).trans t3 (fun _ _ h => h)
  have h83 : w3.heap[B8]? = some (.cells #[.slice ao lv.length cap] 62 (0, 0)) := t13.heap h8 (fun hs => by
    obtain ⟨_, cur, hc⟩ := own_block hown hs
    exact tags hc h8 (by decide) rfl)
  have t4 : Touch (fun g => g = B8) w3 (w3.setCell ⟨B8, 0, none⟩ (.slice ao3 (lv.length + 1) c3)) := (Touch.refl (fun g => g = B8) w3).setCell (p := ⟨B8, 0, none⟩) (fun _ => rfl) _
  have t14 : Touch (fun g => (Value.slice ao lv.length cap).ownBlock = some g ∨ g = B8) W (w3.setCell ⟨B8, 0, none⟩ (.slice ao3 (lv.length + 1) c3)) := (t13.mono (fun _ _ h => .inl h)).trans t4 (fun _ _ h => .inr h)
  obtain ⟨a1, a2, a3, a4, a5, a6⟩ := h.turn t14 (fun g hs => by
    rcases hs with hs | rfl
    · exact (own_block hown hs).1
    · exact h.lo.2.2.1) (fun g cs t fr hs hg => by
    rcases hs with hs | rfl
    · obtain ⟨_, cur, hc⟩ := own_block hown hs
      rw [hc] at hg; injection hg with hg; injection hg with _ e2 _; exact .inl e2.symm
    · rw [h8] at hg; injection hg with hg; injection hg with _ e2 _; exact .inr (.inl e2.symm))
  have hnew : ((W.alloc (.cells #[.int .i64 (lv.length : Int)] 3)).alloc (.cells #[.slice (some ⟨W.heap.size, 0, none⟩) 1 1] 44)).heap[W.heap.size]? = some (.cells #[.int .i64 (lv.length : Int)] 3 (0, 0)) := (Below.heap_alloc _ _ _ (by simp)).trans (heap_alloc_last W _)
  have hnew4 : (w3.setCell ⟨B8, 0, none⟩ (.slice ao3 (lv.length + 1) c3)).heap[W.heap.size]? = some (.cells #[.int .i64 (lv.length : Int)] 3 (0, 0)) := by
    have h1 := t3.heap hnew (fun hs => by
      obtain ⟨_, cur, hc⟩ := own_block hown hs
      have := lt_of_heap hc
      omega)
    exact t4.heap h1 (fun e => tags h1 h83 (by decide) e)
  refine ⟨a1, a2, a3, a4, a5, ⟨ao3, c3, by rw [List.length_append]; exact set_one _ h83, ?_⟩, h.mt.touch t14 (fun hs => ?_) (fun b cs fr hs hb => ?_), fun i hi => ?_, fun a ha => ?_, h.up, by rw [List.length_append]; have := h.len; omega, h.lo⟩
  · rw [List.length_append, List.map_append]
    exact own_touch own3 t4 (fun g hg e => by
      obtain ⟨_, cur, hc⟩ := own_block own3 hg
      exact tags hc h83 (by decide) e)
  · obtain ⟨ro, hM, _⟩ := h.mt
    rcases hs with hs | e
    · obtain ⟨_, cur, hc⟩ := own_block hown hs
      exact tags hc hM (by decide) rfl
    · exact tags hM h8 (by decide) e
  · rcases hs with hs | e
    · obtain ⟨_, cur, hc⟩ := own_block hown hs
      exact tags hc hb (by decide) rfl
    · exact tags hb h8 (by decide) e
  · rw [List.length_append] at hi
    by_cases hlt : i < lv.length
    · rw [List.getElem_append_left hlt]; exact a6 i hlt
    · have e : i = lv.length := by simp at hi; omega
      subst e
      rw [List.getElem_append_right (Nat.le_refl _)]
      simpa using hnew4
  · obtain ⟨i, h1, h2, h3, h4⟩ := h.ent a ha
    exact ⟨i, by rw [List.length_append]; omega, h2, by rw [List.getElem_append_left h1]; exact h3, h4⟩

end Go.Proofs.Ytcbaloenlodkdaa.XM
