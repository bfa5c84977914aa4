/- Spans put together: the notions of Union and Gaps. -/
import Derived.Test.YtbhofihikimgeaaRRMF0
namespace Go.Proofs.YtbhofihikimgeaaRR
open Go.RowKit

/-- One span met: joined, or put aside. -/
def metS (t : Bool) (p : Sp × List Sp) (x : Sp) : Sp × List Sp := if t then (⟨min p.1.a x.a, max p.1.b x.b⟩, p.2) else (p.1, p.2 ++ [x])
/-- A span among those that are there: what it takes in, and what stays aside. -/
def inM (f : Sp → Sp → Bool) (O : List Sp) (s : Sp) : Sp × List Sp := O.foldl (fun p x => metS (f p.1 x) p x) (s, [])
def oneM (f : Sp → Sp → Bool) (O : List Sp) (s : Sp) : List Sp := putS (inM f O s).2 (inM f O s).1

/-- Do they overlap or touch? -/
def meets (s x : Sp) : Bool := decide (x.a ≤ s.b) && decide (s.a ≤ x.b)
def oneU (O : List Sp) (s : Sp) : List Sp := if s.a < s.b then oneM meets O s else O
def unionS (l : List Sp) : List Sp := l.foldl oneU []
def oneG (g : Int) (O : List Sp) (t : Int) : List Sp := oneM (fun _ x => over x ⟨t, t + g⟩) O ⟨t, t + g⟩
def gapsS (l : List Int) (g : Int) : List Sp := l.foldl (oneG g) []

theorem metS_len (t : Bool) (p : Sp × List Sp) (x : Sp) : (metS t p x).2.length ≤ p.2.length + 1 := by unfold metS; split <;> simp
theorem foldM_len (f : Sp → Sp → Bool) : ∀ (O : List Sp) (p : Sp × List Sp), (O.foldl (fun p x => metS (f p.1 x) p x) p).2.length ≤ p.2.length + O.length
  | [], p => by simp
  | x :: O, p => by
    have := foldM_len f O (metS (f p.1 x) p x)
    have := metS_len (f p.1 x) p x
    simp only [List.foldl_cons, List.length_cons]
    omega
theorem inM_len (f : Sp → Sp → Bool) (O : List Sp) (s : Sp) : (inM f O s).2.length ≤ O.length := by
  have := foldM_len f O (s, [])
  unfold inM
  simp at this
  exact this
theorem inM_next (f : Sp → Sp → Bool) (O : List Sp) (s : Sp) (k : Nat) (hk : k < O.length) : inM f (O.take (k + 1)) s = metS (f (inM f (O.take k) s).1 (O.getD k sp0)) (inM f (O.take k) s) (O.getD k sp0) := by
  unfold inM
  rw [List.take_succ_eq_append_getElem hk, List.foldl_append, List.getD_eq_getElem?_getD, List.getElem?_eq_getElem hk]
  rfl
theorem putS_len (L : List Sp) (s : Sp) : (putS L s).length = L.length + 1 := by
  have h : leadS L s ≤ L.length := (List.takeWhile_prefix (fun x : Sp => decide (x.a < s.a))).length_le
  unfold putS
  simp only [List.length_append, List.length_take, List.length_drop, List.length_cons, List.length_nil]
  omega
theorem oneM_len (f : Sp → Sp → Bool) (O : List Sp) (s : Sp) : (oneM f O s).length ≤ O.length + 1 := by
  unfold oneM
  rw [putS_len]
  have := inM_len f O s
  omega
theorem foldO_len {α : Type} (f : List Sp → α → List Sp) (hf : ∀ O x, (f O x).length ≤ O.length + 1) : ∀ (l : List α) (O : List Sp), (l.foldl f O).length ≤ O.length + l.length
  | [], O => by simp
  | x :: l, O => by
    have := foldO_len f hf l (f O x)
    have := hf O x
    simp only [List.foldl_cons, List.length_cons]
    omega
theorem unionS_len (l : List Sp) : (unionS l).length ≤ l.length := by
  have := foldO_len oneU (fun O x => by unfold oneU; split; exact oneM_len _ _ _; omega) l []
  simpa [unionS] using this
theorem gapsS_len (l : List Int) (g : Int) : (gapsS l g).length ≤ l.length := by
  have := foldO_len (oneG g) (fun O x => oneM_len _ _ _) l []
  simpa [gapsS] using this
theorem unionS_next (l : List Sp) (k : Nat) (hk : k < l.length) : unionS (l.take (k + 1)) = oneU (unionS (l.take k)) (l.getD k sp0) := by
  unfold unionS
  rw [List.take_succ_eq_append_getElem hk, List.foldl_append, List.getD_eq_getElem?_getD, List.getElem?_eq_getElem hk]
  rfl
theorem gapsS_next (l : List Int) (g : Int) (k : Nat) (hk : k < l.length) : gapsS (l.take (k + 1)) g = oneG g (gapsS (l.take k) g) (l.getD k 0) := by
  unfold gapsS
  rw [List.take_succ_eq_append_getElem hk, List.foldl_append, List.getD_eq_getElem?_getD, List.getElem?_eq_getElem hk]
  rfl

/-- A span in its block turned. -/
theorem sp_set0 {w : World} {b : Nat} {s : Sp} {ty : TypeId} (v : Int) (h : w.heap[b]? = some (.cells (spc s) ty (0, 0))) :
    (w.setCell ⟨b, 0, none⟩ (.int .i64 v)).heap[b]? = some (.cells (spc ⟨v, s.b⟩) ty (0, 0)) ∧ Touch (fun k => k = b) w (w.setCell ⟨b, 0, none⟩ (.int .i64 v)) := by
  have k1 := heap_setCell_row (i := 0) h (.int .i64 v)
  exact ⟨by simpa using k1, (Touch.refl (fun k => k = b) w).setCell (p := ⟨b, 0, none⟩) (fun _ => rfl) _⟩
theorem sp_set1 {w : World} {b : Nat} {s : Sp} {ty : TypeId} (v : Int) (h : w.heap[b]? = some (.cells (spc s) ty (0, 0))) :
    (w.setCell ⟨b, 1, none⟩ (.int .i64 v)).heap[b]? = some (.cells (spc ⟨s.a, v⟩) ty (0, 0)) ∧ Touch (fun k => k = b) w (w.setCell ⟨b, 1, none⟩ (.int .i64 v)) := by
  have k1 := heap_setCell_row (i := 1) h (.int .i64 v)
  exact ⟨by simpa using k1, (Touch.refl (fun k => k = b) w).setCell (p := ⟨b, 1, none⟩) (fun _ => rfl) _⟩
theorem sp_frozen {w : World} {b : Nat} {c : Array Value} {ty : TypeId} (h : w.heap[b]? = some (.cells c ty (0, 0))) : w.frozen? ⟨b, 0, none⟩ = false ∧ w.frozen? ⟨b, 1, none⟩ = false := by simp [World.frozen?, h]

theorem sp_set {w : World} {b : Nat} {s : Sp} {ty : TypeId} (r : Sp) (h : w.heap[b]? = some (.cells (spc s) ty (0, 0))) :
    ((w.setCell ⟨b, 0, none⟩ (.int .i64 r.a)).setCell ⟨b, 1, none⟩ (.int .i64 r.b)).heap[b]? = some (.cells (spc r) ty (0, 0)) ∧ Touch (fun k => k = b) w ((w.setCell ⟨b, 0, none⟩ (.int .i64 r.a)).setCell ⟨b, 1, none⟩ (.int .i64 r.b)) := by
  have k1 := heap_setCell_row (i := 0) h (.int .i64 r.a)
  have k2 := heap_setCell_row (i := 1) k1 (.int .i64 r.b)
  exact ⟨by simpa using k2, ((Touch.refl (fun k => k = b) w).setCell (p := ⟨b, 0, none⟩) (fun _ => rfl) _).setCell (p := ⟨b, 1, none⟩) (fun _ => rfl) _⟩

/-- Numbers in memory. -/
def encI : Rc.Enc Int := ⟨1, fun x => [.int .i64 x], fun _ => rfl, fun _ u hu => by simp at hu; subst hu; rfl, by decide⟩
theorem int_at {w : World} {ao : Option Addr} {L : List Int} (h : encI.Mem w ao L) (j : Nat) (hj : j < L.length) : ∃ b off, ao = some ⟨b, off, none⟩ ∧ w.cell? ⟨b, off + j, none⟩ = some (.int .i64 (L.getD j 0)) := by
  obtain ⟨b, off, e, g⟩ := Rc.Mem.at h j hj
  rw [List.getD_eq_getElem?_getD, List.getElem?_eq_getElem hj]
  have := g 0 _ rfl
  exact ⟨b, off, e, by simpa [encI] using this⟩

/-- Is the list refused? -/
def badt (t : Int) : Bool := decide (t < -4611686018427387904) || decide (4611686018427387904 < t)
def badG (l : List Int) (g : Int) : Bool := decide (g < 1) || (decide (1099511627776 < g) || l.any badt)
theorem badG_at {l : List Int} {g : Int} (k : Nat) (hk : k < l.length) (h : badt (l.getD k 0) = true) : badG l g = true := by
  rw [List.getD_eq_getElem?_getD, List.getElem?_eq_getElem hk] at h
  unfold badG
  rw [List.any_eq_true.2 ⟨_, List.getElem_mem hk, h⟩]
  simp
theorem badG_no {l : List Int} {g : Int} (h1 : ¬ g < 1) (h2 : ¬ 1099511627776 < g) (h : ∀ k, k < l.length → badt (l.getD k 0) = false) : badG l g = false := by
  unfold badG
  rw [decide_eq_false h1, decide_eq_false h2]
  simp only [Bool.false_or]
  rw [List.any_eq_false]
  intro x hx
  obtain ⟨k, hk, rfl⟩ := List.mem_iff_getElem.1 hx
  have := h k hk
  rw [List.getD_eq_getElem?_getD, List.getElem?_eq_getElem hk] at this
  simpa using this
/-- What Gaps answers. -/
def RetG (w : World) (e : Ending) (w' : World) (l : List Int) (g : Int) : Prop :=
  (badG l g = true → e = .returned (.tuple #[.slice none 0 0, .int .i64 2]) ∧ Calm w w') ∧
  (badG l g = false → ∃ ao cap, e = .returned (.tuple #[.slice ao (gapsS l g).length cap, .int .i64 0]) ∧ encS.Own 24 w' w.heap.size (.slice ao (gapsS l g).length cap) (gapsS l g) ∧ Calm w w')

/-- A row of one's own above a higher mark lies above a lower one. -/
theorem Rc.Own.base {α : Type} {E : Rc.Enc α} {e : TypeId} {w : World} {b b' : Nat} {v : Value} {L : List α} (h : E.Own e w b v L) (hb : b' ≤ b) : E.Own e w b' v L := by
  obtain ⟨h1, h2 | ⟨g, cap, cur, hv, h3, h4⟩⟩ := h
  · exact ⟨h1, .inl h2⟩
  · exact ⟨h1, .inr ⟨g, cap, cur, hv, Nat.le_trans hb h3, h4⟩⟩

/-- Behind what changes the block D alone, a row above it stands. -/
theorem Rc.Own.past {α : Type} {E : Rc.Enc α} {e : TypeId} {w w' : World} {d D : Nat} {v : Value} {L : List α} (h : E.Own e w (D + 1) v L) (ht : Touch (fun k => k = d) w w') (hd : d ≤ D) : E.Own e w' (D + 1) v L :=
  Rc.Own.touch h ht fun g hg e => by have := (Rc.own_block h hg).1; omega

/-- One span more behind those aside. -/
theorem sp_app {w : World} {D : Nat} {ra : Option Addr} {rc : Nat} {R : List Sp} (x : Sp) (h : encS.Own 24 w (D + 1) (.slice ra R.length rc) R) (hD : D < w.heap.size) (hn : R.length ≤ 1000000) {w0 : World} (h0 : Calm w0 w) (hb : w0.heap.size ≤ D) :
    ∃ a2 p2 w4, (Builtin.append_ #[64, 64] 64 #[.slice ra R.length rc, .slice (some ⟨w.heap.size, 0, none⟩) 1 1]).run Try.prog (w.alloc (.cells #[.int .i64 x.a, .int .i64 x.b] 24)) = .ok (.slice a2 (R.length + 1) p2) w4 ∧
      encS.Own 24 w4 (D + 1) (.slice a2 (R ++ [x]).length p2) (R ++ [x]) ∧ (∀ d o, d ≤ D → w.heap[d]? = some o → w4.heap[d]? = some o) ∧ Calm w0 w4 := by
  obtain ⟨i0, hi, hz, hs, hby⟩ := Rc.info_parts infoSpan
  have own := Rc.Own.calm h ((Touch.refl (fun _ => False) w).alloc (.cells (spc x) 24))
  have hs1 := ((Touch.refl (fun _ => False) w).alloc (.cells (spc x) 24)).size
  obtain ⟨a2, p2, w4, hr, ow, t2, -⟩ := Rc.Own.app (E := encS) (ty := 64) Try.underlying64 hi hz hs hby rfl own (some ⟨w.heap.size, 0, none⟩) 1 [x] (Rc.Mem.new w [x] 24) (fun h => (nomatch h)) (by simp; unfold maxLen; omega) (by simp; omega) (by omega)
  have e3 : (R ++ [x]).length = R.length + 1 := by simp
  refine ⟨a2, p2, w4, ?_, ow, ?_, ?_⟩
  · rw [← e3]; exact hr
  · intro d o hd hA
    refine t2.heap (al_old hA _) fun hg => ?_
    have := (Rc.own_block own hg).1
    omega
  · exact Rc.Own.fresh own t2 (fun _ h => h) (h0.alloc _) (by omega)

end Go.Proofs.YtbhofihikimgeaaRR
