/- Tallies: the notions, and how they lie in memory; no function is named here. Records of plain cells: how a list of them lies in memory, rows of one's own, appends. Panes: how they lie in memory. Two lists of panes: whether they are the same. -/
import Derived.Test.YtamfcmmhmfhhkaaGreatDoorG0
import Derived.Laws.FloatArith
import Derived.Lib.MinMax
import Derived.ArgAppend
import Derived.OwnWalk
import Derived.Laws.OwnMore
import Derived.Maps.AppendAt
import Derived.Laws.StructEq
namespace Go.Proofs.YtamfcmmhmfhhkaaGreatDoor
open Go.RowKit

/-- A tally. -/
structure Tl where
  c : Int
  s : Int
  m : Int
  x : Int

/-- A tally's cells. -/
abbrev tlc (t : Tl) : Array Value := #[.int .i64 t.c, .int .i64 t.s, .int .i64 t.m, .int .i64 t.x]
/-- A tally as a value. -/
abbrev tlv (t : Tl) : Value := .agg (tlc t)

/-- Two counts added up. -/
def cnt (a b : Int) : Int := min (a + b) 9007199254740992

theorem cnt_wrap {a b : Int} (ha : 0 ≤ a) (hb : 0 ≤ b) : min (min a 9007199254740992 + min b 9007199254740992) 9007199254740992 = cnt a b := by
  unfold cnt; omega

theorem tl_cells {w : World} {b : Nat} {t : Tl} {ty : TypeId} (h : w.heap[b]? = some (.cells (tlc t) ty (0, 0))) :
    w.cell? ⟨b, 0, none⟩ = some (.int .i64 t.c) ∧ w.cell? ⟨b, 1, none⟩ = some (.int .i64 t.s) ∧ w.cell? ⟨b, 2, none⟩ = some (.int .i64 t.m) ∧ w.cell? ⟨b, 3, none⟩ = some (.int .i64 t.x) := by simp [World.cell?, h]

/-- A tally in its block turned. -/
theorem tl_set {w : World} {b : Nat} {t : Tl} {ty : TypeId} (r : Tl) (h : w.heap[b]? = some (.cells (tlc t) ty (0, 0))) :
    ((((w.setCell ⟨b, 0, none⟩ (.int .i64 r.c)).setCell ⟨b, 1, none⟩ (.int .i64 r.s)).setCell ⟨b, 2, none⟩ (.int .i64 r.m)).setCell ⟨b, 3, none⟩ (.int .i64 r.x)).heap[b]? = some (.cells (tlc r) ty (0, 0)) ∧
    Touch (fun k => k = b) w ((((w.setCell ⟨b, 0, none⟩ (.int .i64 r.c)).setCell ⟨b, 1, none⟩ (.int .i64 r.s)).setCell ⟨b, 2, none⟩ (.int .i64 r.m)).setCell ⟨b, 3, none⟩ (.int .i64 r.x)) := by
  have k1 := heap_setCell_row (i := 0) h (.int .i64 r.c)
  have k2 := heap_setCell_row (i := 1) k1 (.int .i64 r.s)
  have k3 := heap_setCell_row (i := 2) k2 (.int .i64 r.m)
  have k4 := heap_setCell_row (i := 3) k3 (.int .i64 r.x)
  exact ⟨by simpa using k4, ((((Touch.refl (fun k => k = b) w).setCell (p := ⟨b, 0, none⟩) (fun _ => rfl) _).setCell (p := ⟨b, 1, none⟩) (fun _ => rfl) _).setCell (p := ⟨b, 2, none⟩) (fun _ => rfl) _).setCell (p := ⟨b, 3, none⟩) (fun _ => rfl) _⟩

theorem al_new (w : World) (o : Obj) : (w.alloc o).heap[w.heap.size]? = some o := heap_alloc_new w o
theorem al_old {w : World} {k : Nat} {ob : Obj} (h : w.heap[k]? = some ob) (o : Obj) : (w.alloc o).heap[k]? = some ob := ((Touch.refl (fun _ => False) w).alloc o).at h
theorem al_size (w : World) (o : Obj) : (w.alloc o).heap.size = w.heap.size + 1 := by simp

theorem al3 (w : World) (o0 o1 o2 : Obj) : (((w.alloc o0).alloc o1).alloc o2).heap[w.heap.size]? = some o0 ∧ (((w.alloc o0).alloc o1).alloc o2).heap[w.heap.size + 1]? = some o1 ∧ (((w.alloc o0).alloc o1).alloc o2).heap[w.heap.size + 1 + 1]? = some o2 := by
  have a := al_old (al_old (al_new w o0) o1) o2
  have b := al_old (al_new (w.alloc o0) o1) o2
  have c := al_new ((w.alloc o0).alloc o1) o2
  rw [al_size] at b c
  rw [al_size] at c
  exact ⟨a, b, c⟩

/-- Both added up. -/
def rawT (t u : Tl) : Tl := ⟨cnt t.c u.c, wrap64 (t.s + u.s), min t.m u.m, max t.x u.x⟩

/-- A tally with one more behind it that is not empty. -/
def putT (t u : Tl) : Tl := rawT (if t.c < 1 then ⟨0, 0, u.m, u.x⟩ else t) u

/-- A value more. -/
def addT (t : Tl) (v : Int) : Tl := putT t ⟨1, v, v, v⟩

/-- A number of 64 bits. -/
def I64 (x : Int) : Prop := -9223372036854775808 ≤ x ∧ x ≤ 9223372036854775807

/-- All its numbers have 64 bits. -/
structure Tl.Ok (t : Tl) : Prop where
  c : I64 t.c
  s : I64 t.s
  m : I64 t.m
  x : I64 t.x

theorem wrap64_in (x : Int) : I64 (wrap64 x) := by unfold I64 wrap64; omega
theorem wrap64_id {x : Int} (h : I64 x) : wrap64 x = x := by unfold I64 at h; unfold wrap64; omega

theorem tl_frozen {w : World} {b : Nat} {c : Array Value} {ty : TypeId} (h : w.heap[b]? = some (.cells c ty (0, 0))) :
    w.frozen? ⟨b, 0, none⟩ = false ∧ w.frozen? ⟨b, 1, none⟩ = false ∧ w.frozen? ⟨b, 2, none⟩ = false ∧ w.frozen? ⟨b, 3, none⟩ = false := by simp [World.frozen?, h]

theorem addT_eq {t : Tl} {v : Int} (hv : I64 v) : addT t v = if t.c < 1 then ⟨1, v, v, v⟩ else ⟨if t.c < 9007199254740992 then t.c + 1 else 9007199254740992, wrap64 (t.s + v), min t.m v, max t.x v⟩ := by
  unfold addT putT rawT
  by_cases h : t.c < 1
  · simp only [h, if_true]
    have e1 : cnt 0 1 = 1 := by decide
    rw [e1]
    have e2 : wrap64 (0 + v) = v := by rw [Int.zero_add]; exact wrap64_id hv
    rw [e2]
    simp
  · simp only [h, if_false]
    have e1 : cnt t.c 1 = if t.c < 9007199254740992 then t.c + 1 else 9007199254740992 := by unfold cnt; split <;> omega
    rw [e1]

/-- Nothing. -/
abbrev tl0 : Tl := ⟨0, 0, 0, 0⟩

/-- The tally of values. -/
def ofT (xs : List Int) : Tl := xs.foldl addT tl0

theorem ofT_next (xs : List Int) (k : Nat) (hk : k < xs.length) : ofT (xs.take (k + 1)) = addT (ofT (xs.take k)) (xs.getD k 0) := by
  unfold ofT
  rw [List.take_succ_eq_append_getElem hk, List.foldl_append, List.getD_eq_getElem?_getD, List.getElem?_eq_getElem hk]; rfl

/-- Tallies in memory. -/
def Tls (w : World) (ao : Option Addr) (L : List Tl) : Prop := ∀ j, j < L.length → ∃ b off, ao = some ⟨b, off, none⟩ ∧ w.cell? ⟨b, off + j * 4, none⟩ = some (.int .i64 (L.getD j tl0).c) ∧ w.cell? ⟨b, off + j * 4 + 1, none⟩ = some (.int .i64 (L.getD j tl0).s) ∧ w.cell? ⟨b, off + j * 4 + 2, none⟩ = some (.int .i64 (L.getD j tl0).m) ∧ w.cell? ⟨b, off + j * 4 + 3, none⟩ = some (.int .i64 (L.getD j tl0).x)

theorem Tls.touch {S : Nat → Prop} {w w' : World} {ao : Option Addr} {L : List Tl} (h : Tls w ao L) (ht : Touch S w w') (hS : ∀ a, ao = some a → L ≠ [] → ¬ S a.block) : Tls w' ao L := fun j hj => by
  obtain ⟨b, off, e, h0, h1, h2, h3⟩ := h j hj
  have hn : ¬ S b := hS _ e (fun h => by rw [h] at hj; simp at hj)
  have g : ∀ {o : Nat} {v : Value}, w.cell? ⟨b, o, none⟩ = some v → w'.cell? ⟨b, o, none⟩ = some v := fun {o v} h => (ht.cell (p := ⟨b, o, none⟩) (lt_of_cell h) hn).trans h
  exact ⟨b, off, e, g h0, g h1, g h2, g h3⟩

theorem Tls.calm {w w' : World} {ao : Option Addr} {L : List Tl} (h : Tls w ao L) (ht : Calm w w') : Tls w' ao L := h.touch ht fun _ _ _ h => h
theorem Tls.nil (w : World) (ao : Option Addr) : Tls w ao [] := fun j hj => by simp at hj

/-- One more. -/
def joinS (t u : Tl) : Tl := if u.c < 1 then t else putT t u
/-- All together. -/
def joinT (L : List Tl) : Tl := L.foldl joinS tl0

theorem joinT_next (L : List Tl) (k : Nat) (hk : k < L.length) : joinT (L.take (k + 1)) = joinS (joinT (L.take k)) (L.getD k tl0) := by
  unfold joinT
  rw [List.take_succ_eq_append_getElem hk, List.foldl_append, List.getD_eq_getElem?_getD, List.getElem?_eq_getElem hk]; rfl

theorem al1 (w : World) (o0 o1 : Obj) : ((w.alloc o0).alloc o1).heap[w.heap.size]? = some o0 ∧ ((w.alloc o0).alloc o1).heap[w.heap.size + 1]? = some o1 := by
  have a := al_old (al_new w o0) o1
  have b := al_new (w.alloc o0) o1
  rw [al_size] at b
  exact ⟨a, b⟩

/-- The document's way. -/
def joinR (t u : Tl) : Tl := if u.c < 1 then t else if t.c = 0 then ⟨min u.c 9007199254740992, u.s, u.m, u.x⟩ else ⟨min (t.c + min u.c 9007199254740992) 9007199254740992, wrap64 (t.s + u.s), min t.m u.m, max t.x u.x⟩

theorem joinR_eq {t u : Tl} (h0 : 0 ≤ t.c) (hs : I64 u.s) : joinR t u = joinS t u := by
  unfold joinR joinS
  by_cases hu : u.c < 1
  · rw [if_pos hu, if_pos hu]
  · rw [if_neg hu, if_neg hu]
    unfold putT rawT
    by_cases ht : t.c = 0
    · rw [if_pos ht, if_pos (by omega)]
      have e : wrap64 (0 + u.s) = u.s := by rw [Int.zero_add]; exact wrap64_id hs
      simp only [e]
      have e2 : cnt 0 u.c = min u.c 9007199254740992 := by unfold cnt; omega
      rw [e2]
      simp
    · rw [if_neg ht, if_neg (by omega)]
      have e2 : min (t.c + min u.c 9007199254740992) 9007199254740992 = cnt t.c u.c := by unfold cnt; omega
      rw [e2]

theorem joinS_count {t u : Tl} (h : 0 ≤ t.c ∧ t.c ≤ 9007199254740992) : 0 ≤ (joinS t u).c ∧ (joinS t u).c ≤ 9007199254740992 := by
  unfold joinS
  split
  · exact h
  · unfold putT rawT cnt
    split <;> simp <;> omega

theorem joinT_count (L : List Tl) : 0 ≤ (joinT L).c ∧ (joinT L).c ≤ 9007199254740992 := by
  have : ∀ (L : List Tl) (t : Tl), (0 ≤ t.c ∧ t.c ≤ 9007199254740992) → 0 ≤ (L.foldl joinS t).c ∧ (L.foldl joinS t).c ≤ 9007199254740992 := by
    intro L
    induction L with
    | nil => intro t h; exact h
    | cons u L ih => intro t h; exact ih _ (joinS_count h)
  exact this L tl0 (by decide)

theorem seg_new (w : World) (k : IntKind) (xs : List Int) (e : TypeId) : Seg (w.alloc (.cells (xs.map (Value.int k)).toArray e)) k (some ⟨w.heap.size, 0, none⟩) xs :=
  ⟨fun h => (nomatch h), fun a ha _ => by injection ha with ha; subst ha; rfl, fun a ha j hj => by injection ha with ha; subst ha; rw [Addr.add_lit]; simp [hj]⟩

theorem tls_two (w : World) (t u : Tl) (e : TypeId) : Tls (w.alloc (.cells #[.int .i64 t.c, .int .i64 t.s, .int .i64 t.m, .int .i64 t.x, .int .i64 u.c, .int .i64 u.s, .int .i64 u.m, .int .i64 u.x] e)) (some ⟨w.heap.size, 0, none⟩) [t, u] := fun j hj => by
  refine ⟨w.heap.size, 0, rfl, ?_⟩
  have : j = 0 ∨ j = 1 := by simp at hj; omega
  rcases this with rfl | rfl <;> simp

end Go.Proofs.YtamfcmmhmfhhkaaGreatDoor

namespace Go.Proofs.YtamfcmmhmfhhkaaGreatDoor
open Go.RowKit

namespace Rc

theorem own_shape {w : World} {base n sz : Nat} {e : TypeId} {v : Value} {xs : List Value} (h : w.ownsRow base e sz v n xs) : ∃ ao c, v = .slice ao n c := by
  rcases h.2 with ⟨rfl, rfl⟩ | ⟨g, cap, cur, rfl, _⟩
  · exact ⟨none, 0, rfl⟩
  · exact ⟨_, _, rfl⟩

theorem own_stays {w w' : World} {base n sz : Nat} {e : TypeId} {v : Value} {xs : List Value} (h : w.ownsRow base e sz v n xs) (hb : ∀ g, v.ownBlock = some g → w'.heap[g]? = w.heap[g]?) : w'.ownsRow base e sz v n xs := by
  rcases h with ⟨h1, h2 | ⟨g, cap, cur, rfl, h3, h4, h5⟩⟩
  · exact ⟨h1, .inl h2⟩
  · exact ⟨h1, .inr ⟨g, cap, cur, rfl, h3, (hb g rfl).trans h4, h5⟩⟩

theorem own_block {w : World} {base n sz : Nat} {e : TypeId} {v : Value} {xs : List Value} (h : w.ownsRow base e sz v n xs) {g : Nat} (hg : v.ownBlock = some g) : base ≤ g ∧ ∃ cur, w.heap[g]? = some (.cells cur e (0, 0)) := by
  rcases h with ⟨h1, ⟨rfl, _⟩ | ⟨g', cap, cur, rfl, h3, h4, h5⟩⟩
  · simp [Value.ownBlock] at hg
  · simp [Value.ownBlock] at hg; subst hg; exact ⟨h3, cur, h4⟩

theorem own_touch {S : Nat → Prop} {w w' : World} {base n sz : Nat} {e : TypeId} {v : Value} {xs : List Value} (h : w.ownsRow base e sz v n xs) (ht : Touch S w w') (hn : ∀ g, v.ownBlock = some g → ¬ S g) : w'.ownsRow base e sz v n xs :=
  own_stays h fun g hg => by
    obtain ⟨_, cur, hc⟩ := own_block h hg
    exact ht.block g (lt_of_heap hc) (hn g hg)

theorem info_parts {P : Program} {e : TypeId} {z : Value} {s b : Nat} (h : (P.info? e).map (fun i => (i.zero, i.size, i.bytes)) = some (some z, s, b)) : ∃ i, P.info? e = some i ∧ i.zero = some z ∧ i.size = s ∧ i.bytes = b := by
  cases hi : P.info? e with
  | none => rw [hi] at h; cases h
  | some i => rw [hi] at h; simp at h; exact ⟨i, rfl, h.1, h.2.1, h.2.2⟩

/-- How a record lies in its cells. -/
structure Enc (α : Type) where
  n : Nat
  cells : α → List Value
  len : ∀ x, (cells x).length = n
  one : ∀ x, ∀ u ∈ cells x, u.oneCell' = true
  pos : 0 < n

variable {α : Type} (E : Enc α)

/-- The cells of a list of them. -/
def Enc.flat (L : List α) : List Value := L.flatMap E.cells

theorem Enc.flat_append (L M : List α) : E.flat (L ++ M) = E.flat L ++ E.flat M := List.flatMap_append ..
theorem Enc.flat_len : ∀ L : List α, (E.flat L).length = L.length * E.n
  | [] => by simp [Enc.flat]
  | x :: L => by
    have : E.flat (x :: L) = E.cells x ++ E.flat L := rfl
    rw [this, List.length_append, E.len, Enc.flat_len L, List.length_cons, Nat.succ_mul, Nat.add_comm]
theorem Enc.flat_get : ∀ (L : List α) (j : Nat) (hj : j < L.length) (i : Nat), i < E.n → (E.flat L)[j * E.n + i]? = (E.cells L[j])[i]?
  | x :: L, 0, _, i, hi => by
    have : E.flat (x :: L) = E.cells x ++ E.flat L := rfl
    rw [this, Nat.zero_mul, Nat.zero_add, List.getElem?_append_left (by rw [E.len]; exact hi)]; rfl
  | x :: L, j + 1, hj, i, hi => by
    have : E.flat (x :: L) = E.cells x ++ E.flat L := rfl
    rw [this, List.getElem?_append_right (by rw [E.len, Nat.succ_mul]; omega), E.len]
    have e : (j + 1) * E.n + i - E.n = j * E.n + i := by rw [Nat.succ_mul]; omega
    rw [e, Enc.flat_get L j (by simpa using hj) i hi]; rfl
theorem Enc.flat_one (L : List α) : ∀ u ∈ E.flat L, u.oneCell' = true := fun u hu => by
  obtain ⟨a, _, h⟩ := List.mem_flatMap.1 hu
  exact E.one a u h
theorem Enc.flat_take (L : List α) (k : Nat) (hk : k ≤ L.length) : E.flat (L.take k) = (E.flat L).take (k * E.n) := by
  have e : E.flat L = E.flat (L.take k) ++ E.flat (L.drop k) := by rw [← E.flat_append, List.take_append_drop]
  rw [e]
  exact (List.take_left' (by rw [E.flat_len, List.length_take, Nat.min_eq_left hk])).symm
theorem Enc.flat_drop (L : List α) (k : Nat) (hk : k ≤ L.length) : E.flat (L.drop k) = (E.flat L).drop (k * E.n) := by
  have e : E.flat L = E.flat (L.take k) ++ E.flat (L.drop k) := by rw [← E.flat_append, List.take_append_drop]
  rw [e]
  exact (List.drop_left' (by rw [E.flat_len, List.length_take, Nat.min_eq_left hk])).symm

/-- A list of them in memory. -/
def Enc.Mem (w : World) (ao : Option Addr) (L : List α) : Prop := ∀ i u, (E.flat L)[i]? = some u → ∃ b off, ao = some ⟨b, off, none⟩ ∧ w.cell? ⟨b, off + i, none⟩ = some u

variable {E}

theorem Mem.touch {S : Nat → Prop} {w w' : World} {ao : Option Addr} {L : List α} (h : E.Mem w ao L) (ht : Touch S w w') (hS : ∀ a, ao = some a → L ≠ [] → ¬ S a.block) : E.Mem w' ao L := fun i u hu => by
  obtain ⟨b, off, e, hc⟩ := h i u hu
  have hne : L ≠ [] := fun e => by subst e; simp [Enc.flat] at hu
  exact ⟨b, off, e, (ht.cell (p := ⟨b, off + i, none⟩) (lt_of_cell hc) (hS ⟨b, off, none⟩ e hne)).trans hc⟩
theorem Mem.calm {w w' : World} {ao : Option Addr} {L : List α} (h : E.Mem w ao L) (ht : Calm w w') : E.Mem w' ao L := Mem.touch h ht fun _ _ _ h => h
theorem Mem.nil (w : World) (ao : Option Addr) : E.Mem w ao [] := fun i u hu => by simp [Enc.flat] at hu

/-- The record number j. -/
theorem Mem.at {w : World} {ao : Option Addr} {L : List α} (h : E.Mem w ao L) (j : Nat) (hj : j < L.length) : ∃ b off, ao = some ⟨b, off, none⟩ ∧ ∀ i u, (E.cells L[j])[i]? = some u → w.cell? ⟨b, off + j * E.n + i, none⟩ = some u := by
  have get : ∀ i u, (E.cells L[j])[i]? = some u → (E.flat L)[j * E.n + i]? = some u := fun i u hu => by
    have hi : i < E.n := by have := (List.getElem?_eq_some_iff.1 hu).1; rwa [E.len] at this
    rw [E.flat_get L j hj i hi]; exact hu
  have h0 : ∃ u, (E.cells L[j])[0]? = some u := ⟨_, List.getElem?_eq_getElem (by rw [E.len]; exact E.pos)⟩
  obtain ⟨u0, hu0⟩ := h0
  obtain ⟨b, off, e, _⟩ := h _ _ (get 0 u0 hu0)
  refine ⟨b, off, e, fun i u hu => ?_⟩
  obtain ⟨b', off', e', hc⟩ := h _ _ (get i u hu)
  rw [e] at e'
  injection e' with e'
  injection e' with e1 e2
  subst e1 e2
  rw [Nat.add_assoc]
  exact hc

theorem Mem.take {w : World} {ao : Option Addr} {L : List α} (h : E.Mem w ao L) (k : Nat) : E.Mem w ao (L.take k) := fun i u hu => by
  by_cases hk : k ≤ L.length
  · rw [E.flat_take L k hk, List.getElem?_take] at hu
    split at hu
    · exact h i u hu
    · cases hu
  · rw [List.take_of_length_le (by omega)] at hu
    exact h i u hu

theorem Mem.drop {w : World} {b off : Nat} {L : List α} (h : E.Mem w (some ⟨b, off, none⟩) L) (k : Nat) (hk : k ≤ L.length) : E.Mem w (some ⟨b, off + k * E.n, none⟩) (L.drop k) := fun i u hu => by
  rw [E.flat_drop L k hk, List.getElem?_drop] at hu
  obtain ⟨b', off', e, hc⟩ := h _ u hu
  injection e with e
  injection e with e1 e2
  subst e1 e2
  exact ⟨_, _, rfl, by rw [Nat.add_assoc]; exact hc⟩

theorem Mem.cells {w : World} {a : Addr} {L : List α} (h : E.Mem w (some a) L) : ∀ j u, (E.flat L)[j]? = some u → w.cell? (a.add j) = some u := fun j u hu => by
  obtain ⟨b, off, e, hc⟩ := h j u hu
  injection e with e
  subst e
  rw [Addr.add_lit]
  exact hc

variable (E)

/-- A row of one's own. -/
def Enc.Own (e : TypeId) (w : World) (base : Nat) (v : Value) (L : List α) : Prop := w.ownsRow base e E.n v L.length (E.flat L)

variable {E}

theorem Own.touch {e : TypeId} {S : Nat → Prop} {w w' : World} {base : Nat} {v : Value} {L : List α} (h : E.Own e w base v L) (ht : Touch S w w') (hn : ∀ g, v.ownBlock = some g → ¬ S g) : E.Own e w' base v L := own_touch h ht hn
theorem Own.calm {e : TypeId} {w w' : World} {base : Nat} {v : Value} {L : List α} (h : E.Own e w base v L) (ht : Calm w w') : E.Own e w' base v L := Own.touch h ht fun _ _ h => h
theorem Own.nil (e : TypeId) (w : World) (base : Nat) : E.Own e w base (.slice none 0 0) [] := ⟨by simp [Enc.flat], .inl ⟨rfl, rfl⟩⟩

theorem Own.mem {e : TypeId} {w : World} {base : Nat} {ao : Option Addr} {n cap : Nat} {L : List α} (h : E.Own e w base (.slice ao n cap) L) : n = L.length ∧ E.Mem w ao L ∧ L.length ≤ cap ∧ cap ≤ maxLen ∧ (ao = none → cap = 0) ∧ ∀ a, ao = some a → a.spot = none ∧ a.off = 0 ∧ base ≤ a.block ∧ a.block < w.heap.size := by
  have h' := h
  obtain ⟨h1, ⟨hv, h2⟩ | ⟨g, cap', cur, hv, h3, h4, h5, h6, h7, h8⟩⟩ := h'
  · injection hv with e1 e2 e3
    subst e1 e2 e3
    have hL : L = [] := List.eq_nil_of_length_eq_zero h2
    subst hL
    exact ⟨rfl, Mem.nil _ _, Nat.le_refl _, Nat.zero_le _, fun _ => rfl, fun _ h => (nomatch h)⟩
  · injection hv with e1 e2 e3
    subst e1 e3
    refine ⟨e2, fun i u hu => ?_, h5, h6, fun h => (nomatch h), fun a ha => ?_⟩
    · have := World.ownsRow.cells h (g := g) rfl i u hu
      rw [Addr.add_lit] at this
      exact ⟨g, 0, rfl, this⟩
    · injection ha with ha; subst ha; exact ⟨rfl, rfl, h3, lt_of_heap h4⟩

/-- 'append' of records onto a row of one's own. -/
theorem Own.app {P : Program} {t ty e : TypeId} {i : TypeInfo} {z : Value} {bytes : Nat} (ht : P.underlying t = some (.slice e)) (hi : P.info? e = some i) (hz : i.zero = some z) (hs : i.size = E.n) (hby : i.bytes = bytes) (hzs : z.cells.size = E.n)
    {w : World} {base : Nat} {v : Value} {L : List α} (hown : E.Own e w base v L) (ao : Option Addr) (c : Nat) (M : List α) (hp : E.Mem w ao M) (hc : ao = none → c = 0) (h63 : L.length + M.length ≤ maxLen) (hb : (L.length + M.length) * bytes ≤ 140737488355328) (hbase : base ≤ w.heap.size) :
    ∃ ao' cap' w', (Builtin.append_ #[t, t] ty #[v, .slice ao M.length c]).run P w = .ok (.slice ao' (L ++ M).length cap') w' ∧ E.Own e w' base (.slice ao' (L ++ M).length cap') (L ++ M) ∧ Touch (fun g => v.ownBlock = some g) w w' ∧
      (∀ g, (Value.slice ao' (L ++ M).length cap').ownBlock = some g → v.ownBlock = some g ∨ w.heap.size ≤ g) := by
  cases ao with
  | none =>
    have hM : M = [] := by
      cases M with
      | nil => rfl
      | cons x M =>
        obtain ⟨b, off, e, _⟩ := hp 0 _ (List.getElem?_eq_getElem (by rw [E.flat_len]; have := E.pos; simp; omega))
        cases e
    subst hM
    obtain rfl := hc rfl
    have hr := run_append_owned_none (P := P) (w := w) base t ty e i E.n ht hi v L.length (E.flat L) hown
    obtain ⟨ao', cap', hv⟩ := own_shape hown
    refine ⟨ao', cap', w, ?_, ?_, Touch.refl _ _, ?_⟩
    · rw [List.append_nil, ← hv]; exact hr
    · rw [List.append_nil, ← hv]; exact hown
    · rw [List.append_nil, ← hv]; exact fun g hg => .inl hg
  | some a =>
    obtain ⟨v', w', hr, h1, h2, _, h3⟩ := run_append_own_at (P := P) w base t ty e i z E.n bytes ht hi hz hs hby hzs E.pos v L.length (E.flat L) hown a M.length c (E.flat M) (E.flat_len M) (Mem.cells hp) (E.flat_one M) h63 hb hbase
    have h1' : E.Own e w' base v' (L ++ M) := by unfold Enc.Own; rw [E.flat_append, List.length_append]; exact h1
    obtain ⟨ao', cap', hv⟩ := own_shape h1'
    refine ⟨ao', cap', w', by rw [← hv]; exact hr, by rw [← hv]; exact h1', Touch.of_grownBy h2 |>.mono fun g _ h => h, ?_⟩
    rw [← hv]
    intro g hg
    rcases h3 with h3 | h3
    · exact .inl (h3 ▸ hg)
    · rw [h3] at hg; injection hg with hg; exact .inr (by omega)

theorem Mem.off {w : World} {ao : Option Addr} {L : List α} (h : E.Mem w ao L) (k : Nat) : E.Mem w (ao.map fun x => x.add (k * E.n)) (L.drop k) := by
  by_cases hk : k < L.length
  · obtain ⟨b, off, e, _⟩ := Mem.at h k hk
    subst e
    have := Mem.drop h k (by omega)
    simpa [Addr.add_lit] using this
  · rw [List.drop_of_length_le (by omega)]; exact Mem.nil _ _

/-- A list just made. -/
theorem Mem.new (w : World) (L : List α) (e : TypeId) : E.Mem (w.alloc (.cells (E.flat L).toArray e)) (some ⟨w.heap.size, 0, none⟩) L := fun i u hu => ⟨w.heap.size, 0, rfl, by
  have := heap_alloc_new w (.cells (E.flat L).toArray e)
  rw [Nat.zero_add, cell_of_row _ _ i _ _ _ this]
  simpa using hu⟩

/-- Rows that were grown lie in new memory. -/
theorem Own.fresh {e : TypeId} {w w' : World} {base : Nat} {v : Value} {L : List α} (h : E.Own e w base v L) {S : Nat → Prop} (ht : Touch S w w') (hS : ∀ g, S g → v.ownBlock = some g) {w0 : World} (h0 : Calm w0 w) (hb : w0.heap.size ≤ base) : Calm w0 w' :=
  h0.trans ht (fun k hk hs => by have := (own_block h (hS k hs)).1; omega)

variable (E)

/-- A slice: a list in memory, with the room behind it. -/
structure Enc.Sl (w : World) (ao : Option Addr) (cap : Nat) (L : List α) : Prop where
  mem : E.Mem w ao L
  nil : ao = none → cap = 0
  cap : L.length ≤ cap

variable {E}

theorem Sl.calm {w w' : World} {ao : Option Addr} {cap : Nat} {L : List α} (h : E.Sl w ao cap L) (ht : Calm w w') : E.Sl w' ao cap L := ⟨Mem.calm h.mem ht, h.nil, h.cap⟩
theorem Sl.empty (w : World) : E.Sl w none 0 [] := ⟨Mem.nil _ _, fun _ => rfl, Nat.le_refl _⟩
theorem Own.sl {e : TypeId} {w : World} {base : Nat} {ao : Option Addr} {n cap : Nat} {L : List α} (h : E.Own e w base (.slice ao n cap) L) : E.Sl w ao cap L := by
  obtain ⟨_, h2, h3, _, h5, _⟩ := Own.mem h
  exact ⟨h2, h5, h3⟩

/-- x[:k]. -/
theorem Sl.to {P : Program} {t e : TypeId} {i : TypeInfo} (ht : P.underlying t = some (.slice e)) (he : P.elem t = e) (hi : P.info? e = some i) {w : World} {ao : Option Addr} {cap k : Nat} {L : List α} (h : E.Sl w ao cap L) (hk : k ≤ L.length) :
    ∃ so sc, (∀ W, (Instr.slice t (.slice ao L.length cap) none (some (.int .i64 (k : Nat))) none).run P W = .ok (.slice so k sc) W) ∧ E.Mem w so (L.take k) ∧ (so = none → sc = 0) := by
  have hc := h.cap
  refine ⟨if cap = 0 then ao else ao.map fun x => x.add (0 * E.n), cap, fun W => ?_, ?_, ?_⟩
  · rw [run_slice_h W t ao L.length cap (by rw [he]; exact ht) .i64 (k : Nat) (by omega) (by omega), he]
    simp only [sizeOf, typeInfo]
    simp [hi, sliced]
  · have hm := Mem.off h.mem 0
    rw [List.drop_zero] at hm
    split
    · exact Mem.take h.mem k
    · exact Mem.take hm k
  · intro h'
    split at h'
    · assumption
    · exact h.nil (by simpa using h')

/-- x[k:]. -/
theorem Sl.from {P : Program} {t e : TypeId} {i : TypeInfo} (ht : P.underlying t = some (.slice e)) (he : P.elem t = e) (hi : P.info? e = some i) (hs : i.size = E.n) {w : World} {ao : Option Addr} {cap k : Nat} {L : List α} (h : E.Sl w ao cap L) (hk : k ≤ L.length) :
    ∃ so sc, (∀ W, (Instr.slice t (.slice ao L.length cap) (some (.int .i64 (k : Nat))) none none).run P W = .ok (.slice so (L.length - k) sc) W) ∧ E.Mem w so (L.drop k) ∧ (so = none → sc = 0) := by
  have hc := h.cap
  refine ⟨if cap = k then ao else ao.map fun x => x.add (k * E.n), cap - k, fun W => ?_, ?_, ?_⟩
  · rw [run_slice_l W t ao L.length cap (by rw [he]; exact ht) .i64 (k : Nat) (by omega) (by omega), he]
    simp only [sizeOf, typeInfo]
    simp [hi, hs, sliced]
  · by_cases hck : cap = k
    · rw [if_pos hck, List.drop_of_length_le (by omega)]; exact Mem.nil _ _
    · rw [if_neg hck]; exact Mem.off h.mem k
  · intro h'
    by_cases hck : cap = k
    · omega
    · rw [if_neg hck] at h'
      have := h.nil (by simpa using h')
      omega

/-- A row of one's own above a higher mark lies above a lower one. -/
theorem Own.base {e : TypeId} {w : World} {b b' : Nat} {v : Value} {L : List α} (h : E.Own e w b v L) (hb : b' ≤ b) : E.Own e w b' v L := by
  obtain ⟨h1, h2 | ⟨g, cap, cur, hv, h3, h4⟩⟩ := h
  · exact ⟨h1, .inl h2⟩
  · exact ⟨h1, .inr ⟨g, cap, cur, hv, Nat.le_trans hb h3, h4⟩⟩

/-- Behind what changes the block D alone, a row above it stands. -/
theorem Own.past {e : TypeId} {w w' : World} {d D : Nat} {v : Value} {L : List α} (h : E.Own e w (D + 1) v L) (ht : Touch (fun k => k = d) w w') (hd : d ≤ D) : E.Own e w' (D + 1) v L :=
  Own.touch h ht fun g hg e => by have := (own_block h hg).1; omega

end Rc

/-- An 'append' whose outcome is known. -/
theorem Rc.wpList_appR {P : Program} {w w' : World} {ops : Array Oper} {rest : List Oper} {o : Oper} {a : Act} {Q : Exit → Act → World → Prop} (hgd : o.guard = none) (s x : Operand) (t tx : TypeId)
    (ho : o.op = .call { callee := .builtin .append, args := #[s, x], argTypes := #[t, tx] }) (v y r : Value) (hv : a.eval s = v) (hy : a.eval x = y) (hr : (Builtin.append_ #[t, tx] o.type #[v, y]).run P w = .ok r w')
    (h : wpList P ops Q rest (a.put o.dst r) w') : wpList P ops Q (o :: rest) a w :=
  wpList_plain hgd fun K hK => by
    unfold Oper.wp execOp
    simp only [ho, resolve, invoke, builtin, Sem.run_bind, Sem.run_pure, Result.andThen_ok, List.map_toArray, List.map_cons, List.map_nil, hv, hy, hr]
    exact hK _ _ h

end Go.Proofs.YtamfcmmhmfhhkaaGreatDoor

namespace Go.Proofs.YtamfcmmhmfhhkaaGreatDoor
open Go.RowKit

/-- A pane. -/
structure Pn where
  k : ByteArray
  a : Int
  b : Int
  d : Int
  n : Int
  t : Tl
abbrev pnc (p : Pn) : Array Value := #[.string p.k, .int .i64 p.a, .int .i64 p.b, .int .i64 p.d, .int .i64 p.n, .int .i64 p.t.c, .int .i64 p.t.s, .int .i64 p.t.m, .int .i64 p.t.x]
abbrev pnv (p : Pn) : Value := .agg (pnc p)
abbrev pn0 : Pn := ⟨⟨#[]⟩, 0, 0, 0, 0, tl0⟩
def encP : Rc.Enc Pn := ⟨9, fun x => (pnc x).toList, fun _ => rfl, fun _ u hu => by simp at hu; rcases hu with rfl | rfl | rfl | rfl | rfl | rfl | rfl | rfl | rfl <;> rfl, by decide⟩

/-- A pane's cells at a place. -/
def pcell (W : World) (b o : Nat) (x : Pn) : Prop :=
  (W.cell? ⟨b, o, none⟩ = some (.string x.k) ∧ W.cell? ⟨b, o + 1, none⟩ = some (.int .i64 x.a) ∧ W.cell? ⟨b, o + 2, none⟩ = some (.int .i64 x.b) ∧ W.cell? ⟨b, o + 3, none⟩ = some (.int .i64 x.d) ∧ W.cell? ⟨b, o + 4, none⟩ = some (.int .i64 x.n)) ∧
  (W.cell? ⟨b, o + 5, none⟩ = some (.int .i64 x.t.c) ∧ W.cell? ⟨b, o + 6, none⟩ = some (.int .i64 x.t.s) ∧ W.cell? ⟨b, o + 7, none⟩ = some (.int .i64 x.t.m) ∧ W.cell? ⟨b, o + 8, none⟩ = some (.int .i64 x.t.x))

theorem pn_at {w : World} {ao : Option Addr} {L : List Pn} (h : encP.Mem w ao L) (j : Nat) (hj : j < L.length) : ∃ b off, ao = some ⟨b, off, none⟩ ∧ pcell w b (off + j * 9) (L.getD j pn0) := by
  obtain ⟨b, off, e, g⟩ := Rc.Mem.at h j hj
  rw [List.getD_eq_getElem?_getD, List.getElem?_eq_getElem hj]
  exact ⟨b, off, e, ⟨g 0 _ rfl, g 1 _ rfl, g 2 _ rfl, g 3 _ rfl, g 4 _ rfl⟩, g 5 _ rfl, g 6 _ rfl, g 7 _ rfl, g 8 _ rfl⟩

theorem pn_cells {w : World} {b : Nat} {x : Pn} {ty : TypeId} (h : w.heap[b]? = some (.cells (pnc x) ty (0, 0))) :
    (w.cell? ⟨b, 0, none⟩ = some (.string x.k) ∧ w.cell? ⟨b, 1, none⟩ = some (.int .i64 x.a) ∧ w.cell? ⟨b, 2, none⟩ = some (.int .i64 x.b) ∧ w.cell? ⟨b, 3, none⟩ = some (.int .i64 x.d) ∧ w.cell? ⟨b, 4, none⟩ = some (.int .i64 x.n)) ∧
    (w.cell? ⟨b, 5, none⟩ = some (.int .i64 x.t.c) ∧ w.cell? ⟨b, 6, none⟩ = some (.int .i64 x.t.s) ∧ w.cell? ⟨b, 7, none⟩ = some (.int .i64 x.t.m) ∧ w.cell? ⟨b, 8, none⟩ = some (.int .i64 x.t.x)) := by simp [World.cell?, h]

theorem pn_set {w : World} {b : Nat} {x : Pn} {ty : TypeId} (r : Pn) (o : Nat) (v : Value) (h : w.heap[b]? = some (.cells (pnc x) ty (0, 0))) (hr : (pnc x).setIfInBounds o v = pnc r) : (w.setCell ⟨b, o, none⟩ v).heap[b]? = some (.cells (pnc r) ty (0, 0)) := by
  have k1 := heap_setCell_row (i := o) h v
  rw [hr] at k1
  exact k1

/-- A pane in its block turned whole. -/
theorem pn_all {w : World} {b : Nat} {x : Pn} {ty : TypeId} (r : Pn) (h : w.heap[b]? = some (.cells (pnc x) ty (0, 0))) :
    (((((((((w.setCell ⟨b, 0, none⟩ (.string r.k)).setCell ⟨b, 1, none⟩ (.int .i64 r.a)).setCell ⟨b, 2, none⟩ (.int .i64 r.b)).setCell ⟨b, 3, none⟩ (.int .i64 r.d)).setCell ⟨b, 4, none⟩ (.int .i64 r.n)).setCell ⟨b, 5, none⟩ (.int .i64 r.t.c)).setCell ⟨b, 6, none⟩ (.int .i64 r.t.s)).setCell ⟨b, 7, none⟩ (.int .i64 r.t.m)).setCell ⟨b, 8, none⟩ (.int .i64 r.t.x)).heap[b]? = some (.cells (pnc r) ty (0, 0)) ∧
    Touch (fun k => k = b) w (((((((((w.setCell ⟨b, 0, none⟩ (.string r.k)).setCell ⟨b, 1, none⟩ (.int .i64 r.a)).setCell ⟨b, 2, none⟩ (.int .i64 r.b)).setCell ⟨b, 3, none⟩ (.int .i64 r.d)).setCell ⟨b, 4, none⟩ (.int .i64 r.n)).setCell ⟨b, 5, none⟩ (.int .i64 r.t.c)).setCell ⟨b, 6, none⟩ (.int .i64 r.t.s)).setCell ⟨b, 7, none⟩ (.int .i64 r.t.m)).setCell ⟨b, 8, none⟩ (.int .i64 r.t.x)) := by
  have k0 := pn_set { x with k := r.k } 0 (.string r.k) h rfl
  have k1 := pn_set { x with k := r.k, a := r.a } 1 (.int .i64 r.a) k0 rfl
  have k2 := pn_set { x with k := r.k, a := r.a, b := r.b } 2 (.int .i64 r.b) k1 rfl
  have k3 := pn_set { x with k := r.k, a := r.a, b := r.b, d := r.d } 3 (.int .i64 r.d) k2 rfl
  have k4 := pn_set { r with t := x.t } 4 (.int .i64 r.n) k3 rfl
  have k5 := pn_set { r with t := ⟨r.t.c, x.t.s, x.t.m, x.t.x⟩ } 5 (.int .i64 r.t.c) k4 rfl
  have k6 := pn_set { r with t := ⟨r.t.c, r.t.s, x.t.m, x.t.x⟩ } 6 (.int .i64 r.t.s) k5 rfl
  have k7 := pn_set { r with t := ⟨r.t.c, r.t.s, r.t.m, x.t.x⟩ } 7 (.int .i64 r.t.m) k6 rfl
  have k8 := pn_set r 8 (.int .i64 r.t.x) k7 rfl
  exact ⟨k8, (((((((((Touch.refl (fun k => k = b) w).setCell (p := ⟨b, 0, none⟩) (fun _ => rfl) _).setCell (p := ⟨b, 1, none⟩) (fun _ => rfl) _).setCell (p := ⟨b, 2, none⟩) (fun _ => rfl) _).setCell (p := ⟨b, 3, none⟩) (fun _ => rfl) _).setCell (p := ⟨b, 4, none⟩) (fun _ => rfl) _).setCell (p := ⟨b, 5, none⟩) (fun _ => rfl) _).setCell (p := ⟨b, 6, none⟩) (fun _ => rfl) _).setCell (p := ⟨b, 7, none⟩) (fun _ => rfl) _).setCell (p := ⟨b, 8, none⟩) (fun _ => rfl) _⟩

theorem infoPane : (Tryz.prog.info? 40).map (fun i => (i.zero, i.size, i.bytes)) = some (some (pnv pn0), 9, 80) := by kernel_rfl
theorem elemPane : Tryz.prog.elem 22 = 40 := by kernel_rfl

end Go.Proofs.YtamfcmmhmfhhkaaGreatDoor

namespace Go.Proofs.YtamfcmmhmfhhkaaGreatDoor
open Go.RowKit

instance : DecidableEq Tl := fun a b => by
  obtain ⟨a0, a1, a2, a3⟩ := a
  obtain ⟨b0, b1, b2, b3⟩ := b
  simp only [Tl.mk.injEq]
  exact inferInstance
instance : DecidableEq Pn := fun a b => by
  obtain ⟨a0, a1, a2, a3, a4, a5⟩ := a
  obtain ⟨b0, b1, b2, b3, b4, b5⟩ := b
  simp only [Pn.mk.injEq]
  exact inferInstance

theorem ba_beq (a b : ByteArray) : (a.toList == b.toList) = decide (a = b) := by
  by_cases e : a = b
  · subst e; simp
  · rw [decide_eq_false e, beq_eq_false_iff_ne]
    intro h
    rw [ByteArray.toList_eq, ByteArray.toList_eq] at h
    exact e (ByteArray.ext (Array.toList_inj.1 h))

theorem pn_eq (x y : Pn) : decide (x = y) = (decide (x.k = y.k) && (decide (x.a = y.a) && decide (x.b = y.b)) && decide (x.d = y.d) && decide (x.n = y.n) && (decide (x.t.c = y.t.c) && decide (x.t.s = y.t.s) && decide (x.t.m = y.t.m) && decide (x.t.x = y.t.x))) := by
  obtain ⟨a0, a1, a2, a3, a4, ⟨p, q, r, s⟩⟩ := x
  obtain ⟨b0, b1, b2, b3, b4, ⟨p', q', r', s'⟩⟩ := y
  rw [Bool.eq_iff_iff]
  simp only [Pn.mk.injEq, Tl.mk.injEq, decide_eq_true_eq, Bool.and_eq_true]
  constructor
  · rintro ⟨h1, h2, h3, h4, h5, h6, h7, h8, h9⟩; exact ⟨⟨⟨⟨h1, h2, h3⟩, h4⟩, h5⟩, ⟨⟨h6, h7⟩, h8⟩, h9⟩
  · rintro ⟨⟨⟨⟨h1, h2, h3⟩, h4⟩, h5⟩, ⟨⟨h6, h7⟩, h8⟩, h9⟩; exact ⟨h1, h2, h3, h4, h5, h6, h7, h8, h9⟩

/-- A pane's cells, in every world that stays calm. -/
theorem pn_W {w : World} {ao : Option Addr} {L : List Pn} (h : encP.Mem w ao L) (j : Nat) (hj : j < L.length) : ∃ g off, ao = some ⟨g, off, none⟩ ∧ ∀ W, Calm w W → pcell W g (off + j * 9) (L.getD j pn0) := by
  obtain ⟨g, off, e, -⟩ := Rc.Mem.at h j hj
  refine ⟨g, off, e, fun W hW => ?_⟩
  obtain ⟨g2, off2, e2, k⟩ := pn_at (Rc.Mem.calm h hW) j hj
  rw [e] at e2
  injection e2 with e2
  injection e2 with e3 e4
  subst e3 e4
  exact k

/-- Struct comparison of panes, as the model works it off. -/
theorem pn_ifs {R : Type} (x y : Pn) (F : Bool → R) : (if x.k.toList = y.k.toList then (if x.a = y.a then (if x.b = y.b then (if x.d = y.d then (if x.n = y.n then (if x.t.c = y.t.c then (if x.t.s = y.t.s then (if x.t.m = y.t.m then (if x.t.x = y.t.x then F false else F true) else F true) else F true) else F true) else F true) else F true) else F true) else F true) else F true) = F (!decide (x = y)) := by
  have hk : (x.k.toList = y.k.toList) = (x.k = y.k) := by
    have h := ba_beq x.k y.k
    rw [Bool.eq_iff_iff, beq_iff_eq, decide_eq_true_eq] at h
    exact propext h
  simp only [hk]
  rw [pn_eq]
  obtain ⟨a0, a1, a2, a3, a4, ⟨p, q, r, s⟩⟩ := x
  obtain ⟨b0, b1, b2, b3, b4, ⟨p', q', r', s'⟩⟩ := y
  dsimp only
  repeat' split
  all_goals simp [*]

set_option maxRecDepth 100000 in
set_option maxHeartbeats 2000000 in
/-- The same lists. -/
theorem sameP_any (A B : List Pn) (ao bo : Option Addr) (ac bc : Nat) (w : World) (ha : encP.Mem w ao A) (hb : encP.Mem w bo B) (hl : A.length ≤ 140737488355328) (hm : B.length ≤ 140737488355328) : Calls Tryz.prog 14 #[.slice ao A.length ac, .slice bo B.length bc] w fun e w' => e = .returned (.bool (decide (A = B))) ∧ Calm w w' := by
  obtain ⟨x, hx⟩ : ∃ x : Nat → Pn, ∀ i, x i = A.getD i pn0 := ⟨fun i => A.getD i pn0, fun _ => rfl⟩
  obtain ⟨y, hy⟩ : ∃ y : Nat → Pn, ∀ i, y i = B.getD i pn0 := ⟨fun i => B.getD i pn0, fun _ => rfl⟩
  have SA : Hid (∀ j, j < A.length → ∃ g off, ao = some ⟨g, off, none⟩ ∧ ∀ W, Calm w W → pcell W g (off + j * 9) (x j)) := hide fun j hj => by
    rw [hx]; exact pn_W ha j hj
  have SB : Hid (∀ j, j < B.length → ∃ g off, bo = some ⟨g, off, none⟩ ∧ ∀ W, Calm w W → pcell W g (off + j * 9) (y j)) := hide fun j hj => by
    rw [hy]; exact pn_W hb j hj
  have HN : Hid (A.length ≠ B.length → decide (A = B) = false) := hide fun h => decide_eq_false fun e => h (by rw [e])
  have HE : Hid (A.length = B.length → (∀ j, j < A.length → x j = y j) → decide (A = B) = true) := hide fun h k => decide_eq_true (List.ext_getElem h fun j h1 h2 => by
    have := k j h1
    rw [hx, hy, List.getD_eq_getElem?_getD, List.getD_eq_getElem?_getD, List.getElem?_eq_getElem h1, List.getElem?_eq_getElem h2] at this
    exact this)
  have HF : Hid (∀ j, j < A.length → x j ≠ y j → decide (A = B) = false) := hide fun j hj k => decide_eq_false fun e => k (by rw [hx, hy, e])
  clear ha hb hx hy
  generalize decide (A = B) = z at *
  generalize hn : A.length = n at *
  generalize hm' : B.length = m at *
  go_enter Tryz.func14, Tryz.ntmps14
  by_cases hnm : n = m
  case neg =>
    have hz : ¬ (n : Int) = (m : Int) := by omega
    have hz0 := HN.out hnm
    subst hz0
    clear HN HE HF SA SB
    go_wp2_with fail
    go_ret
    exact ⟨rfl, Touch.refl _ _⟩
  subst hnm
  clear HN
  go_wp2_with fail
  go_loopw [5] (fun s5 wr => ∃ i : Nat, s5 = .int .i64 (i : Int) ∧ i ≤ n ∧ (∀ j, j < i → x j = y j) ∧ Calm w wr) (fun s5 _ => n - (intOf s5).toNat)
  case atStart => exact ⟨0, rfl, by omega, fun j hj => by omega, Touch.refl _ _⟩
  case round =>
    obtain ⟨i, rfl, hi, hS, hC⟩ := hrel
    by_cases hlt : i < n
    · have hltz : (i : Int) < (n : Int) := by omega
      obtain ⟨ga, oa, rfl, ca⟩ := SA.out i hlt
      obtain ⟨gb, ob, rfl, cb⟩ := SB.out i hlt
      have KA := hide ca
      have KB := hide cb
      have HC := hide hC
      have HS := hide hS
      have HQ := hide (fun h : x i ≠ y i => HF.out i hlt h)
      have HR := hide (fun h : x i = y i => (fun j (hj : j < i + 1) => if e : j = i then by subst e; exact h else hS j (by omega) : ∀ j, j < i + 1 → x j = y j))
      clear SA SB ca cb hC hS HF HE
      generalize x i = p at *
      generalize y i = q at *
      go_wp2_with fail
      refine wp_region_held (S := Calm w) (by kernel_rfl) ?_
      have hT0 : Calm w { wr with drawn := wr.drawn + 1 } := HC.out.drew
      refine wpAnyH_yield 0 17 (.slice (some ⟨ga, oa, none⟩) n ac) rfl rfl (by kernel_rfl) (by kernel_rfl) (by kernel_rfl) (fun _ _ _ h => h) (by kernel_rfl) (fun W hW => by kernel_rfl) (by assumption) rfl rfl ?_
      simp only [Act.put, List.setIfInBounds_toArray, List.set_cons_zero, List.set_cons_succ]
      refine wpAnyH_yield 1 18 (.int .i64 (i : Int)) rfl rfl (by kernel_rfl) (by kernel_rfl) (by kernel_rfl) (fun _ _ _ h => h) (by kernel_rfl) (fun W hW => by kernel_rfl) (by assumption) rfl rfl ?_
      simp only [Act.put, List.setIfInBounds_toArray, List.set_cons_zero, List.set_cons_succ]
      refine wpAnyH_yield 2 19 (.pointer (some ⟨ga, oa + i * 9, none⟩)) rfl rfl (by kernel_rfl) (by kernel_rfl) (by kernel_rfl) (fun _ _ _ h => h) (by kernel_rfl) (fun W hW => by go_simp) (by assumption) rfl rfl ?_
      simp only [Act.put, List.setIfInBounds_toArray, List.set_cons_zero, List.set_cons_succ]
      refine wpAnyH_yield 3 20 (pnv p) rfl rfl (by kernel_rfl) (by kernel_rfl) (by kernel_rfl) (fun _ _ _ h => h) (by kernel_rfl) (fun W hW => by obtain ⟨⟨c0, c1, c2, c3, c4⟩, c5, c6, c7, c8⟩ := KA.out W hW; go_simp) (by assumption) rfl rfl ?_
      simp only [Act.put, List.setIfInBounds_toArray, List.set_cons_zero, List.set_cons_succ]
      refine wpAnyH_yield 4 21 (.slice (some ⟨gb, ob, none⟩) n bc) rfl rfl (by kernel_rfl) (by kernel_rfl) (by kernel_rfl) (fun _ _ _ h => h) (by kernel_rfl) (fun W hW => by kernel_rfl) (by assumption) rfl rfl ?_
      simp only [Act.put, List.setIfInBounds_toArray, List.set_cons_zero, List.set_cons_succ]
      refine wpAnyH_yield 5 22 (.int .i64 (i : Int)) rfl rfl (by kernel_rfl) (by kernel_rfl) (by kernel_rfl) (fun _ _ _ h => h) (by kernel_rfl) (fun W hW => by kernel_rfl) (by assumption) rfl rfl ?_
      simp only [Act.put, List.setIfInBounds_toArray, List.set_cons_zero, List.set_cons_succ]
      refine wpAnyH_yield 6 23 (.pointer (some ⟨gb, ob + i * 9, none⟩)) rfl rfl (by kernel_rfl) (by kernel_rfl) (by kernel_rfl) (fun _ _ _ h => h) (by kernel_rfl) (fun W hW => by go_simp) (by assumption) rfl rfl ?_
      simp only [Act.put, List.setIfInBounds_toArray, List.set_cons_zero, List.set_cons_succ]
      refine wpAnyH_yield 7 24 (pnv q) rfl rfl (by kernel_rfl) (by kernel_rfl) (by kernel_rfl) (fun _ _ _ h => h) (by kernel_rfl) (fun W hW => by obtain ⟨⟨c0, c1, c2, c3, c4⟩, c5, c6, c7, c8⟩ := KB.out W hW; go_simp) (by assumption) rfl rfl ?_
      simp only [Act.put, List.setIfInBounds_toArray, List.set_cons_zero, List.set_cons_succ]
      refine wpAnyH_yield 8 25 (.bool (!decide (p = q))) rfl rfl (by kernel_rfl) (by kernel_rfl) (by kernel_rfl) (fun _ _ _ h => h) (by kernel_rfl) (fun W hW => by go_simp; exact pn_ifs p q (fun b => Result.ok (Next.value (.bool b)) W)) (by assumption) rfl rfl ?_
      simp only [Act.put, List.setIfInBounds_toArray, List.set_cons_zero, List.set_cons_succ]
      refine wpAnyH_done (by kernel_rfl) ?_ _
      have H1 := hide hT0
      clear hT0 HC
      by_cases hpq : p = q
      · have hd : (!decide (p = q)) = false := by rw [decide_eq_true hpq]; rfl
        have HX := hide (HR.out hpq)
        rw [hd]
        clear HR HQ hd
        go_wp2_with fail
        go_roundw
        case rel => exact ⟨i + 1, by go_num, by omega, HX.out, H1.out⟩
        case measure => simp [intOf]; omega
      · have hd : (!decide (p = q)) = true := by rw [decide_eq_false hpq]; rfl
        have hz := HQ.out hpq
        subst hz
        rw [hd]
        clear HR HQ hd
        go_wp2_with fail
        go_ret
        exact ⟨rfl, H1.out⟩
    · have hltz : ¬ (i : Int) < (n : Int) := by omega
      obtain rfl : i = n := by omega
      have HC := hide hC
      have hz := HE.out (by first | rfl | trivial) hS
      subst hz
      clear SA SB hC HE HF
      go_wp2_with fail
      go_ret
      exact ⟨rfl, HC.out⟩

end Go.Proofs.YtamfcmmhmfhhkaaGreatDoor
