/- Tallies: the notions, and how they lie in memory; no function is named here. A job, and how it lies in memory. -/
import Derived.Test.YtapnjofplilefaaGreatSLast
import Derived.Test.YtapnjofplilefaaGreatSBase
import Derived.Laws.FloatArith
import Derived.Lib.MinMax
namespace Go.Proofs.YtapnjofplilefaaGreat
open Go.RowKit

/-- A tally. -/
structure Tl where
  c : Int
  s : Int
  m : Int
  x : Int

/-- A tally's cells. -/
abbrev tlc (t : Tl) : Array Value := #[.int .i64 t.c, .int .i64 t.s, .int .i64 t.m, .int .i64 t.x]
/-- A tally as a value. -/
abbrev tlv (t : Tl) : Value := .agg (tlc t)

/-- Two counts added up. -/
def cnt (a b : Int) : Int := min (a + b) 9007199254740992

theorem cnt_wrap {a b : Int} (ha : 0 ≤ a) (hb : 0 ≤ b) : min (min a 9007199254740992 + min b 9007199254740992) 9007199254740992 = cnt a b := by
  unfold cnt; omega

theorem tl_cells {w : World} {b : Nat} {t : Tl} {ty : TypeId} (h : w.heap[b]? = some (.cells (tlc t) ty (0, 0))) :
    w.cell? ⟨b, 0, none⟩ = some (.int .i64 t.c) ∧ w.cell? ⟨b, 1, none⟩ = some (.int .i64 t.s) ∧ w.cell? ⟨b, 2, none⟩ = some (.int .i64 t.m) ∧ w.cell? ⟨b, 3, none⟩ = some (.int .i64 t.x) := by simp [World.cell?, h]

/-- A tally in its block turned. -/
theorem tl_set {w : World} {b : Nat} {t : Tl} {ty : TypeId} (r : Tl) (h : w.heap[b]? = some (.cells (tlc t) ty (0, 0))) :
    ((((w.setCell ⟨b, 0, none⟩ (.int .i64 r.c)).setCell ⟨b, 1, none⟩ (.int .i64 r.s)).setCell ⟨b, 2, none⟩ (.int .i64 r.m)).setCell ⟨b, 3, none⟩ (.int .i64 r.x)).heap[b]? = some (.cells (tlc r) ty (0, 0)) ∧
    Touch (fun k => k = b) w ((((w.setCell ⟨b, 0, none⟩ (.int .i64 r.c)).setCell ⟨b, 1, none⟩ (.int .i64 r.s)).setCell ⟨b, 2, none⟩ (.int .i64 r.m)).setCell ⟨b, 3, none⟩ (.int .i64 r.x)) := by
  have k1 := heap_setCell_row (i := 0) h (.int .i64 r.c)
  have k2 := heap_setCell_row (i := 1) k1 (.int .i64 r.s)
  have k3 := heap_setCell_row (i := 2) k2 (.int .i64 r.m)
  have k4 := heap_setCell_row (i := 3) k3 (.int .i64 r.x)
  exact ⟨by simpa using k4, ((((Touch.refl (fun k => k = b) w).setCell (p := ⟨b, 0, none⟩) (fun _ => rfl) _).setCell (p := ⟨b, 1, none⟩) (fun _ => rfl) _).setCell (p := ⟨b, 2, none⟩) (fun _ => rfl) _).setCell (p := ⟨b, 3, none⟩) (fun _ => rfl) _⟩

theorem al_new (w : World) (o : Obj) : (w.alloc o).heap[w.heap.size]? = some o := heap_alloc_new w o
theorem al_old {w : World} {k : Nat} {ob : Obj} (h : w.heap[k]? = some ob) (o : Obj) : (w.alloc o).heap[k]? = some ob := ((Touch.refl (fun _ => False) w).alloc o).at h
theorem al_size (w : World) (o : Obj) : (w.alloc o).heap.size = w.heap.size + 1 := by simp

theorem al3 (w : World) (o0 o1 o2 : Obj) : (((w.alloc o0).alloc o1).alloc o2).heap[w.heap.size]? = some o0 ∧ (((w.alloc o0).alloc o1).alloc o2).heap[w.heap.size + 1]? = some o1 ∧ (((w.alloc o0).alloc o1).alloc o2).heap[w.heap.size + 1 + 1]? = some o2 := by
  have a := al_old (al_old (al_new w o0) o1) o2
  have b := al_old (al_new (w.alloc o0) o1) o2
  have c := al_new ((w.alloc o0).alloc o1) o2
  rw [al_size] at b c
  rw [al_size] at c
  exact ⟨a, b, c⟩

/-- Both added up. -/
def rawT (t u : Tl) : Tl := ⟨cnt t.c u.c, wrap64 (t.s + u.s), min t.m u.m, max t.x u.x⟩

/-- A tally with one more behind it that is not empty. -/
def putT (t u : Tl) : Tl := rawT (if t.c < 1 then ⟨0, 0, u.m, u.x⟩ else t) u

/-- A value more. -/
def addT (t : Tl) (v : Int) : Tl := putT t ⟨1, v, v, v⟩

/-- A number of 64 bits. -/
def I64 (x : Int) : Prop := -9223372036854775808 ≤ x ∧ x ≤ 9223372036854775807

/-- All its numbers have 64 bits. -/
structure Tl.Ok (t : Tl) : Prop where
  c : I64 t.c
  s : I64 t.s
  m : I64 t.m
  x : I64 t.x

theorem wrap64_in (x : Int) : I64 (wrap64 x) := by unfold I64 wrap64; omega
theorem wrap64_id {x : Int} (h : I64 x) : wrap64 x = x := by unfold I64 at h; unfold wrap64; omega

theorem tl_frozen {w : World} {b : Nat} {c : Array Value} {ty : TypeId} (h : w.heap[b]? = some (.cells c ty (0, 0))) :
    w.frozen? ⟨b, 0, none⟩ = false ∧ w.frozen? ⟨b, 1, none⟩ = false ∧ w.frozen? ⟨b, 2, none⟩ = false ∧ w.frozen? ⟨b, 3, none⟩ = false := by simp [World.frozen?, h]

theorem addT_eq {t : Tl} {v : Int} (hv : I64 v) : addT t v = if t.c < 1 then ⟨1, v, v, v⟩ else ⟨if t.c < 9007199254740992 then t.c + 1 else 9007199254740992, wrap64 (t.s + v), min t.m v, max t.x v⟩ := by
  unfold addT putT rawT
  by_cases h : t.c < 1
  · simp only [h, if_true]
    have e1 : cnt 0 1 = 1 := by decide
    rw [e1]
    have e2 : wrap64 (0 + v) = v := by rw [Int.zero_add]; exact wrap64_id hv
    rw [e2]
    simp
  · simp only [h, if_false]
    have e1 : cnt t.c 1 = if t.c < 9007199254740992 then t.c + 1 else 9007199254740992 := by unfold cnt; split <;> omega
    rw [e1]

/-- Nothing. -/
abbrev tl0 : Tl := ⟨0, 0, 0, 0⟩

/-- The tally of values. -/
def ofT (xs : List Int) : Tl := xs.foldl addT tl0

theorem ofT_next (xs : List Int) (k : Nat) (hk : k < xs.length) : ofT (xs.take (k + 1)) = addT (ofT (xs.take k)) (xs.getD k 0) := by
  unfold ofT
  rw [List.take_succ_eq_append_getElem hk, List.foldl_append, List.getD_eq_getElem?_getD, List.getElem?_eq_getElem hk]; rfl

/-- Tallies in memory. -/
def Tls (w : World) (ao : Option Addr) (L : List Tl) : Prop := ∀ j, j < L.length → ∃ b off, ao = some ⟨b, off, none⟩ ∧ w.cell? ⟨b, off + j * 4, none⟩ = some (.int .i64 (L.getD j tl0).c) ∧ w.cell? ⟨b, off + j * 4 + 1, none⟩ = some (.int .i64 (L.getD j tl0).s) ∧ w.cell? ⟨b, off + j * 4 + 2, none⟩ = some (.int .i64 (L.getD j tl0).m) ∧ w.cell? ⟨b, off + j * 4 + 3, none⟩ = some (.int .i64 (L.getD j tl0).x)

theorem Tls.touch {S : Nat → Prop} {w w' : World} {ao : Option Addr} {L : List Tl} (h : Tls w ao L) (ht : Touch S w w') (hS : ∀ a, ao = some a → L ≠ [] → ¬ S a.block) : Tls w' ao L := fun j hj => by
  obtain ⟨b, off, e, h0, h1, h2, h3⟩ := h j hj
  have hn : ¬ S b := hS _ e (fun h => by rw [h] at hj; simp at hj)
  have g : ∀ {o : Nat} {v : Value}, w.cell? ⟨b, o, none⟩ = some v → w'.cell? ⟨b, o, none⟩ = some v := fun {o v} h => (ht.cell (p := ⟨b, o, none⟩) (lt_of_cell h) hn).trans h
  exact ⟨b, off, e, g h0, g h1, g h2, g h3⟩

theorem Tls.calm {w w' : World} {ao : Option Addr} {L : List Tl} (h : Tls w ao L) (ht : Calm w w') : Tls w' ao L := h.touch ht fun _ _ _ h => h
theorem Tls.nil (w : World) (ao : Option Addr) : Tls w ao [] := fun j hj => by simp at hj

/-- One more. -/
def joinS (t u : Tl) : Tl := if u.c < 1 then t else putT t u
/-- All together. -/
def joinT (L : List Tl) : Tl := L.foldl joinS tl0

theorem joinT_next (L : List Tl) (k : Nat) (hk : k < L.length) : joinT (L.take (k + 1)) = joinS (joinT (L.take k)) (L.getD k tl0) := by
  unfold joinT
  rw [List.take_succ_eq_append_getElem hk, List.foldl_append, List.getD_eq_getElem?_getD, List.getElem?_eq_getElem hk]; rfl

theorem al1 (w : World) (o0 o1 : Obj) : ((w.alloc o0).alloc o1).heap[w.heap.size]? = some o0 ∧ ((w.alloc o0).alloc o1).heap[w.heap.size + 1]? = some o1 := by
  have a := al_old (al_new w o0) o1
  have b := al_new (w.alloc o0) o1
  rw [al_size] at b
  exact ⟨a, b⟩

/-- The document's way. -/
def joinR (t u : Tl) : Tl := if u.c < 1 then t else if t.c = 0 then ⟨min u.c 9007199254740992, u.s, u.m, u.x⟩ else ⟨min (t.c + min u.c 9007199254740992) 9007199254740992, wrap64 (t.s + u.s), min t.m u.m, max t.x u.x⟩

theorem joinR_eq {t u : Tl} (h0 : 0 ≤ t.c) (hs : I64 u.s) : joinR t u = joinS t u := by
  unfold joinR joinS
  by_cases hu : u.c < 1
  · rw [if_pos hu, if_pos hu]
  · rw [if_neg hu, if_neg hu]
    unfold putT rawT
    by_cases ht : t.c = 0
    · rw [if_pos ht, if_pos (by omega)]
      have e : wrap64 (0 + u.s) = u.s := by rw [Int.zero_add]; exact wrap64_id hs
      simp only [e]
      have e2 : cnt 0 u.c = min u.c 9007199254740992 := by unfold cnt; omega
      rw [e2]
      simp
    · rw [if_neg ht, if_neg (by omega)]
      have e2 : min (t.c + min u.c 9007199254740992) 9007199254740992 = cnt t.c u.c := by unfold cnt; omega
      rw [e2]

theorem joinS_count {t u : Tl} (h : 0 ≤ t.c ∧ t.c ≤ 9007199254740992) : 0 ≤ (joinS t u).c ∧ (joinS t u).c ≤ 9007199254740992 := by
  unfold joinS
  split
  · exact h
  · unfold putT rawT cnt
    split <;> simp <;> omega

theorem joinT_count (L : List Tl) : 0 ≤ (joinT L).c ∧ (joinT L).c ≤ 9007199254740992 := by
  have : ∀ (L : List Tl) (t : Tl), (0 ≤ t.c ∧ t.c ≤ 9007199254740992) → 0 ≤ (L.foldl joinS t).c ∧ (L.foldl joinS t).c ≤ 9007199254740992 := by
    intro L
    induction L with
    | nil => intro t h; exact h
    | cons u L ih => intro t h; exact ih _ (joinS_count h)
  exact this L tl0 (by decide)

theorem seg_new (w : World) (k : IntKind) (xs : List Int) (e : TypeId) : Seg (w.alloc (.cells (xs.map (Value.int k)).toArray e)) k (some ⟨w.heap.size, 0, none⟩) xs :=
  ⟨fun h => (nomatch h), fun a ha _ => by injection ha with ha; subst ha; rfl, fun a ha j hj => by injection ha with ha; subst ha; rw [Addr.add_lit]; simp [hj]⟩

theorem tls_two (w : World) (t u : Tl) (e : TypeId) : Tls (w.alloc (.cells #[.int .i64 t.c, .int .i64 t.s, .int .i64 t.m, .int .i64 t.x, .int .i64 u.c, .int .i64 u.s, .int .i64 u.m, .int .i64 u.x] e)) (some ⟨w.heap.size, 0, none⟩) [t, u] := fun j hj => by
  refine ⟨w.heap.size, 0, rfl, ?_⟩
  have : j = 0 ∨ j = 1 := by simp at hj; omega
  rcases this with rfl | rfl <;> simp

end Go.Proofs.YtapnjofplilefaaGreat

namespace Go.Proofs.YtapnjofplilefaaGreat
open Go.RowKit

/-- A job. -/
structure Cf where
  gr : Int
  so : Int
  ki : Int
  sz : Int
  sl : Int
  of : Int
  gp : Int
  lt : Int
  ea : Int
  di : Bool
abbrev cfc (c : Cf) : Array Value := #[.int .i64 c.gr, .int .i64 c.so, .int .i64 c.ki, .int .i64 c.sz, .int .i64 c.sl, .int .i64 c.of, .int .i64 c.gp, .int .i64 c.lt, .int .i64 c.ea, .bool c.di]
abbrev cfv (c : Cf) : Value := .agg (cfc c)
theorem cf_cells {w : World} {b : Nat} {c : Cf} {ty : TypeId} (h : w.heap[b]? = some (.cells (cfc c) ty (0, 0))) :
    (w.cell? ⟨b, 0, none⟩ = some (.int .i64 c.gr) ∧ w.cell? ⟨b, 1, none⟩ = some (.int .i64 c.so) ∧ w.cell? ⟨b, 2, none⟩ = some (.int .i64 c.ki) ∧ w.cell? ⟨b, 3, none⟩ = some (.int .i64 c.sz) ∧ w.cell? ⟨b, 4, none⟩ = some (.int .i64 c.sl) ∧ w.cell? ⟨b, 5, none⟩ = some (.int .i64 c.of) ∧ w.cell? ⟨b, 6, none⟩ = some (.int .i64 c.gp)) ∧
    w.cell? ⟨b, 7, none⟩ = some (.int .i64 c.lt) ∧ w.cell? ⟨b, 8, none⟩ = some (.int .i64 c.ea) ∧ w.cell? ⟨b, 9, none⟩ = some (.bool c.di) := by simp [World.cell?, h]

end Go.Proofs.YtapnjofplilefaaGreat
