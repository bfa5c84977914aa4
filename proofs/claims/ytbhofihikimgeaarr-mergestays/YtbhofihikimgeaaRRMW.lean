/- Spans and windows: the notions; the document's Overlap, counts, Sum. -/
import Derived.Test.YtbhofihikimgeaaRRMR
namespace Go.Proofs.YtbhofihikimgeaaRR
open Go.RowKit

/-- A span. -/
structure Sp where
  a : Int
  b : Int
/-- A window. -/
structure Wn where
  a : Int
  b : Int
  h : Int
  t : Tl
  n : Int
  p : Int

abbrev spc (s : Sp) : Array Value := #[.int .i64 s.a, .int .i64 s.b]
abbrev spv (s : Sp) : Value := .agg (spc s)
abbrev wnc (x : Wn) : Array Value := #[.int .i64 x.a, .int .i64 x.b, .int .i64 x.h, .int .i64 x.t.c, .int .i64 x.t.s, .int .i64 x.t.m, .int .i64 x.t.x, .int .i64 x.n, .int .i64 x.p]
abbrev wnv (x : Wn) : Value := .agg (wnc x)
/-- A window's span. -/
abbrev Wn.sp (x : Wn) : Sp := ⟨x.a, x.b⟩

def encS : Rc.Enc Sp := ⟨2, fun s => (spc s).toList, fun _ => rfl, fun _ u hu => by simp at hu; rcases hu with rfl | rfl <;> rfl, by decide⟩
def encW : Rc.Enc Wn := ⟨9, fun x => (wnc x).toList, fun _ => rfl, fun _ u hu => by simp at hu; rcases hu with rfl | rfl | rfl | rfl | rfl | rfl | rfl | rfl | rfl <;> rfl, by decide⟩
def encT : Rc.Enc Tl := ⟨4, fun t => (tlc t).toList, fun _ => rfl, fun _ u hu => by simp at hu; rcases hu with rfl | rfl | rfl | rfl <;> rfl, by decide⟩

abbrev sp0 : Sp := ⟨0, 0⟩
abbrev wn0 : Wn := ⟨0, 0, 0, ⟨0, 0, 0, 0⟩, 0, 0⟩

theorem sp_at {w : World} {ao : Option Addr} {L : List Sp} (h : encS.Mem w ao L) (j : Nat) (hj : j < L.length) : ∃ b off, ao = some ⟨b, off, none⟩ ∧ w.cell? ⟨b, off + j * 2, none⟩ = some (.int .i64 (L.getD j sp0).a) ∧ w.cell? ⟨b, off + j * 2 + 1, none⟩ = some (.int .i64 (L.getD j sp0).b) := by
  obtain ⟨b, off, e, g⟩ := Rc.Mem.at h j hj
  rw [List.getD_eq_getElem?_getD, List.getElem?_eq_getElem hj]
  exact ⟨b, off, e, g 0 _ rfl, g 1 _ rfl⟩

theorem wn_at {w : World} {ao : Option Addr} {L : List Wn} (h : encW.Mem w ao L) (j : Nat) (hj : j < L.length) : ∃ b off, ao = some ⟨b, off, none⟩ ∧
    (w.cell? ⟨b, off + j * 9, none⟩ = some (.int .i64 (L.getD j wn0).a) ∧ w.cell? ⟨b, off + j * 9 + 1, none⟩ = some (.int .i64 (L.getD j wn0).b) ∧ w.cell? ⟨b, off + j * 9 + 2, none⟩ = some (.int .i64 (L.getD j wn0).h)) ∧
    (w.cell? ⟨b, off + j * 9 + 3, none⟩ = some (.int .i64 (L.getD j wn0).t.c) ∧ w.cell? ⟨b, off + j * 9 + 4, none⟩ = some (.int .i64 (L.getD j wn0).t.s) ∧ w.cell? ⟨b, off + j * 9 + 5, none⟩ = some (.int .i64 (L.getD j wn0).t.m) ∧ w.cell? ⟨b, off + j * 9 + 6, none⟩ = some (.int .i64 (L.getD j wn0).t.x)) ∧
    w.cell? ⟨b, off + j * 9 + 7, none⟩ = some (.int .i64 (L.getD j wn0).n) ∧ w.cell? ⟨b, off + j * 9 + 8, none⟩ = some (.int .i64 (L.getD j wn0).p) := by
  obtain ⟨b, off, e, g⟩ := Rc.Mem.at h j hj
  rw [List.getD_eq_getElem?_getD, List.getElem?_eq_getElem hj]
  exact ⟨b, off, e, ⟨g 0 _ rfl, g 1 _ rfl, g 2 _ rfl⟩, ⟨g 3 _ rfl, g 4 _ rfl, g 5 _ rfl, g 6 _ rfl⟩, g 7 _ rfl, g 8 _ rfl⟩

theorem sp_cells {w : World} {b : Nat} {s : Sp} {ty : TypeId} (h : w.heap[b]? = some (.cells (spc s) ty (0, 0))) : w.cell? ⟨b, 0, none⟩ = some (.int .i64 s.a) ∧ w.cell? ⟨b, 1, none⟩ = some (.int .i64 s.b) := by simp [World.cell?, h]

theorem wn_cells {w : World} {b : Nat} {x : Wn} {ty : TypeId} (h : w.heap[b]? = some (.cells (wnc x) ty (0, 0))) :
    (w.cell? ⟨b, 0, none⟩ = some (.int .i64 x.a) ∧ w.cell? ⟨b, 1, none⟩ = some (.int .i64 x.b) ∧ w.cell? ⟨b, 2, none⟩ = some (.int .i64 x.h)) ∧
    (w.cell? ⟨b, 3, none⟩ = some (.int .i64 x.t.c) ∧ w.cell? ⟨b, 4, none⟩ = some (.int .i64 x.t.s) ∧ w.cell? ⟨b, 5, none⟩ = some (.int .i64 x.t.m) ∧ w.cell? ⟨b, 6, none⟩ = some (.int .i64 x.t.x)) ∧
    w.cell? ⟨b, 7, none⟩ = some (.int .i64 x.n) ∧ w.cell? ⟨b, 8, none⟩ = some (.int .i64 x.p) := by simp [World.cell?, h]

/-- Have two spans a time in common? -/
def over (x y : Sp) : Bool := decide (x.a < x.b) && (decide (y.a < y.b) && (decide (x.a < y.b) && decide (y.a < x.b)))

set_option maxRecDepth 100000 in
set_option maxHeartbeats 1000000 in
theorem roverlap_any (x y : Sp) (w : World) : Calls Try.prog 15 #[spv x, spv y] w fun e w' => e = .returned (.bool (over x y)) ∧ Calm w w' := by
  unfold over
  generalize h1 : decide (x.a < x.b) = b1
  generalize h2 : decide (y.a < y.b) = b2
  generalize h3 : decide (x.a < y.b) = b3
  generalize h4 : decide (y.a < x.b) = b4
  cases b1 <;> cases b2 <;> cases b3 <;> cases b4
  all_goals
    go_enter Try.func15, Try.ntmps15
    go_wp2_with fail
    go_ret
    exact ⟨by first | rfl | simp, ((Touch.refl (fun _ => False) w).alloc _).alloc _⟩

/-- Is it from 0 to MaxCount? -/
def inC (n : Int) : Bool := decide (0 ≤ n) && decide (n ≤ 9007199254740992)

set_option maxRecDepth 100000 in
theorem rcounts_any (n : Int) (w : World) : Calls Try.prog 25 #[.int .i64 n] w fun e w' => e = .returned (.bool (inC n)) ∧ w' = w := by
  unfold inC
  generalize h1 : decide (0 ≤ n) = b1
  generalize h2 : decide (n ≤ 9007199254740992) = b2
  cases b1 <;> cases b2
  all_goals
    go_enter Try.func25, Try.ntmps25
    go_wp2_with fail
    go_ret
    exact ⟨by first | rfl | simp, rfl⟩

set_option maxRecDepth 100000 in
theorem rsum_any (a b : Int) (ha : inC a = true) (hb : inC b = true) (w : World) : Calls Try.prog 22 #[.int .i64 a, .int .i64 b] w fun e w' => e = .returned (.int .i64 (cnt a b)) ∧ w' = w := by
  have h : 0 ≤ a ∧ a ≤ 9007199254740992 ∧ 0 ≤ b ∧ b ≤ 9007199254740992 := by unfold inC at ha hb; simp at ha hb; omega
  have hw : wrap64 (a + b) = a + b := by unfold wrap64; omega
  by_cases hg : 9007199254740992 < a + b
  · have e : cnt a b = 9007199254740992 := by unfold cnt; omega
    rw [e]
    clear h ha hb e
    go_enter Try.func22, Try.ntmps22
    go_wp2_with fail
    go_ret
    exact ⟨rfl, rfl⟩
  · have e : cnt a b = a + b := by unfold cnt; omega
    rw [e]
    clear h ha hb e
    go_enter Try.func22, Try.ntmps22
    go_wp2_with fail
    go_ret
    exact ⟨rfl, rfl⟩

end Go.Proofs.YtbhofihikimgeaaRR
