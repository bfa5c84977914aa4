/- The verifier's step: what it keeps in memory. -/
import Derived.Test.YtlnblhajcbmmkaaTWlk
import Derived.Test.YtlnblhajcbmmkaaTCopy
import Derived.Test.YtlnblhajcbmmkaaTDrop
import Derived.Test.YtlnblhajcbmmkaaTRDue
namespace Go.Proofs.Ytlnblhajcbmmkaa
open Go.RowKit

/-- A step. -/
structure Sp where
  kind : Int
  on : Int
  leave : Int
  t : Tm
  u : Tm
  upto : Int

/-- A step's cells. -/
abbrev sc (s : Sp) : Array Value := #[.int .i64 s.kind, .int .i64 s.on, .int .i64 s.leave, .int .i64 s.t.at_, .string s.t.key, .int .i64 s.t.start, .int .i64 s.t.stop, .int .i64 s.u.at_, .string s.u.key, .int .i64 s.u.start, .int .i64 s.u.stop, .int .i64 s.upto]
abbrev sv (s : Sp) : Value := .agg (sc s)

theorem cells12 {w : World} {b : Nat} {s : Sp} {fr : Nat × Nat} {t : TypeId} (h : w.heap[b]? = some (.cells (sc s) t fr)) :
    w.cell? ⟨b, 0, none⟩ = some (.int .i64 s.kind) ∧ w.cell? ⟨b, 1, none⟩ = some (.int .i64 s.on) ∧ w.cell? ⟨b, 2, none⟩ = some (.int .i64 s.leave) ∧
    (w.cell? ⟨b, 3, none⟩ = some (.int .i64 s.t.at_) ∧ w.cell? ⟨b, 4, none⟩ = some (.string s.t.key) ∧ w.cell? ⟨b, 5, none⟩ = some (.int .i64 s.t.start) ∧ w.cell? ⟨b, 6, none⟩ = some (.int .i64 s.t.stop)) ∧
    (w.cell? ⟨b, 7, none⟩ = some (.int .i64 s.u.at_) ∧ w.cell? ⟨b, 8, none⟩ = some (.string s.u.key) ∧ w.cell? ⟨b, 9, none⟩ = some (.int .i64 s.u.start) ∧ w.cell? ⟨b, 10, none⟩ = some (.int .i64 s.u.stop)) ∧ w.cell? ⟨b, 11, none⟩ = some (.int .i64 s.upto) := by
  refine ⟨?_, ?_, ?_, ⟨?_, ?_, ?_, ?_⟩, ⟨?_, ?_, ?_, ?_⟩, ?_⟩ <;> simp [World.cell?, h]

theorem cells6 {w : World} {b : Nat} {a0 a1 a2 a3 a4 a5 : Value} {fr : Nat × Nat} {t : TypeId} (h : w.heap[b]? = some (.cells #[a0, a1, a2, a3, a4, a5] t fr)) :
    w.cell? ⟨b, 0, none⟩ = some a0 ∧ w.cell? ⟨b, 1, none⟩ = some a1 ∧ w.cell? ⟨b, 2, none⟩ = some a2 ∧ w.cell? ⟨b, 3, none⟩ = some a3 ∧ w.cell? ⟨b, 4, none⟩ = some a4 ∧ w.cell? ⟨b, 5, none⟩ = some a5 := by
  refine ⟨?_, ?_, ?_, ?_, ?_, ?_⟩ <;> simp [World.cell?, h]

/-- Which of the two. -/
def kOf (on : Int) : Int := (wrap64 (on.tmod 2 + 2)).tmod 2

theorem kOf_two (on : Int) : kOf on = 0 ∨ kOf on = 1 := by
  unfold kOf
  have h1 : on.tmod 2 = -1 ∨ on.tmod 2 = 0 ∨ on.tmod 2 = 1 := by
    have a1 := Int.tmod_lt_of_pos on (b := 2) (by decide)
    have a2 := Int.lt_tmod_of_pos on (b := 2) (by decide)
    omega
  rcases h1 with h | h | h <;> rw [h]
  · exact .inr (by kernel_rfl)
  · exact .inl (by kernel_rfl)
  · exact .inr (by kernel_rfl)

/-- The cells of the verifier's world: side k, and the rest. -/
def wb (k : Nat) (q l x y u v : Value) : Array Value := if k = 0 then #[q, x, l, y, u, v] else #[x, q, y, l, u, v]

/-- The verifier's world, side k: the queue at q and its list. -/
structure Wd (w : World) (b k q : Nat) (F : Nat → Prop) (V L : List Tm) (lo : Option Addr) (lc : Nat) (x y u v : Value) : Prop where
  own : w.heap[b]? = some (.cells (wb k (.pointer (some ⟨q, 0, none⟩)) (.slice lo L.length lc) x y u v) 31 (0, 0))
  tq : Tq w q F V
  rl : Rl w lo lc L
  srt : Srt L
  mem : ∀ z, z ∈ V ↔ z ∈ L
  row : ∀ a, lo = some a → L ≠ [] → ¬ F a.block ∧ a.block ≠ b
  fb : ¬ F b

theorem Rl.touch {S : Nat → Prop} {w w' : World} {ao : Option Addr} {cap : Nat} {L : List Tm} (h : Rl w ao cap L) (ht : Touch S w w') (hS : ∀ a, ao = some a → L ≠ [] → ¬ S a.block) : Rl w' ao cap L := ⟨h.tms.touch ht hS, h.spot, h.nil, h.cap⟩

theorem Tms.lt {w : World} {ao : Option Addr} {L : List Tm} (h : Tms w ao L) (a : Addr) (ha : ao = some a) (hn : L ≠ []) : a.block < w.heap.size := by
  obtain ⟨b, off, e, h0, _⟩ := h 0 (List.length_pos_iff.2 hn)
  rw [ha] at e
  injection e with e
  rw [e]
  exact lt_of_cell h0

theorem Wd.len {w : World} {b k q : Nat} {F : Nat → Prop} {V L : List Tm} {lo : Option Addr} {lc : Nat} {x y u v : Value} (h : Wd w b k q F V L lo lc x y u v) : V.length = L.length := same_len h.tq.nd.nodup h.srt.nodup h.mem

theorem Wd.good {w : World} {b k q : Nat} {F : Nat → Prop} {V L : List Tm} {lo : Option Addr} {lc : Nat} {x y u v : Value} (h : Wd w b k q F V L lo lc x y u v) : ∀ t ∈ L, Good t := fun t ht => h.tq.good t ((h.mem t).2 ht)

/-- The other blocks turn. -/
theorem Wd.turn {S : Nat → Prop} {w w' : World} {b k q : Nat} {F : Nat → Prop} {V L : List Tm} {lo : Option Addr} {lc : Nat} {x y u v : Value} (h : Wd w b k q F V L lo lc x y u v) (ht : Touch S w w') (h1 : ∀ g, S g → ¬ F g) (h2 : ¬ S b) (h3 : ∀ a, lo = some a → L ≠ [] → ¬ S a.block) : Wd w' b k q F V L lo lc x y u v :=
  ⟨ht.heap h.own h2, h.tq.touch ht h1, h.rl.touch ht h3, h.srt, h.mem, h.row, h.fb⟩

theorem Wd.calm {w w' : World} {b k q : Nat} {F : Nat → Prop} {V L : List Tm} {lo : Option Addr} {lc : Nat} {x y u v : Value} (h : Wd w b k q F V L lo lc x y u v) (ht : Calm w w') : Wd w' b k q F V L lo lc x y u v := h.turn ht (fun _ h => h.elim) (fun h => h) (fun _ _ _ h => h)

/-- A step has been taken. -/
def StpR (w : World) (b k q : Nat) (F : Nat → Prop) (L : List Tm) (lo : Option Addr) (x y u v : Value) (e : Ending) (w' : World) : Prop :=
  e = .returned (.bool true) ∧ ∃ F' V' L' lo' lc', Wd w' b k q F' V' L' lo' lc' x y u v ∧ L'.length ≤ L.length + 1 ∧ (∀ g, F' g → F g ∨ w.heap.size ≤ g) ∧ (∀ a, lo' = some a → (lo = some a ∧ L' = L) ∨ w.heap.size ≤ a.block) ∧ Touch (fun g => F g ∨ g = b) w w'

theorem wb_set {w : World} {b k : Nat} {q l l' x y u v : Value} {t : TypeId} (hk : k < 2) (h : w.heap[b]? = some (.cells (wb k q l x y u v) t (0, 0))) : (w.setCell ⟨b, 2 + k, none⟩ l').heap[b]? = some (.cells (wb k q l' x y u v) t (0, 0)) := by
  have := heap_setCell_row (i := 2 + k) h l'
  rcases (show k = 0 ∨ k = 1 by omega) with rfl | rfl <;> simpa [wb] using this

theorem Wd.fin {w w1 w3 : World} {b k q : Nat} {F F1 : Nat → Prop} {V V1 L L' : List Tm} {lo lo' : Option Addr} {lc lc' : Nat} {x y u v : Value} (h : Wd w b k q F V L lo lc x y u v) (hk : k < 2) (t1 : Touch F w w1) (tq1 : Tq w1 q F1 V1) (hF1 : ∀ g, F1 g → F g ∨ w.heap.size ≤ g)
    (t3 : Calm w1 w3) (srt' : Srt L') (mem' : ∀ z, z ∈ V1 ↔ z ∈ L') (rl' : Rl w3 lo' lc' L') (loc : ∀ a, lo' = some a → (lo = some a ∧ L' = L) ∨ w1.heap.size ≤ a.block) (hlen : L'.length ≤ L.length + 1) :
    StpR w b k q F L lo x y u v (.returned (.bool true)) (w3.setCell ⟨b, 2 + k, none⟩ (.slice lo' L'.length lc')) := by
  have hb := lt_of_heap h.own
  have hb3 := t3.at (t1.heap h.own h.fb)
  have fb1 : ¬ F1 b := fun e => by rcases hF1 b e with e | e; exact h.fb e; omega
  have ts : Touch (fun g => g = b) w3 (w3.setCell ⟨b, 2 + k, none⟩ (.slice lo' L'.length lc')) := (Touch.refl (fun g => g = b) w3).setCell (p := ⟨b, 2 + k, none⟩) (fun _ => rfl) _
  have hrow : ∀ a, lo' = some a → L' ≠ [] → ¬ F1 a.block ∧ a.block ≠ b := fun a ha hn => by
    rcases loc a ha with ⟨h1, h2⟩ | h1
    · have hn' : L ≠ [] := by rw [← h2]; exact hn
      have hlt := h.rl.tms.lt a h1 hn'
      obtain ⟨r1, r2⟩ := h.row a h1 hn'
      exact ⟨fun e => by rcases hF1 _ e with e | e; exact r1 e; omega, r2⟩
    · have hs := t1.size
      exact ⟨fun e => by have := tq1.lt _ e; omega, by omega⟩
  refine ⟨rfl, F1, V1, L', lo', lc', ⟨wb_set hk hb3, (tq1.calm t3).touch ts (fun g e => by rw [e]; exact fb1), rl'.touch ts (fun a ha hn e => (hrow a ha hn).2 e), srt', mem', hrow, fb1⟩, hlen, hF1, fun a ha => (loc a ha).imp id (fun h => Nat.le_trans t1.size h), ?_⟩
  · exact ((t1.mono (fun _ _ h => .inl h)).trans (t3.mono (S' := fun g => F g ∨ g = b) (fun _ _ h => h.elim)) (fun _ _ h => h)).trans (ts.mono (S' := fun g => F g ∨ g = b) (fun _ _ h => .inr h)) (fun _ _ h => h)

end Go.Proofs.Ytlnblhajcbmmkaa
