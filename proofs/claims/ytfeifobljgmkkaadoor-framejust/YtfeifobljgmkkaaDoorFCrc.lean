/- Walks: sums, a sum's bytes and back, as frames use them. -/
import Derived.Test.YtfeifobljgmkkaaDoorLaid
import Derived.Test.YtfeifobljgmkkaaDoorMem
import Derived.Laws.BitsAll
import Derived.BigRegion
import Derived.Deep.WholeRow
import Derived.Deep.MidRow
namespace Go.Proofs.YtfeifobljgmkkaaDoor
open Go.RowKit Crcx

theorem heap_setCell_row {w : World} {g i : Nat} {c : Array Value} {t : TypeId} {fr : Nat × Nat} (h : w.heap[g]? = some (.cells c t fr)) (v : Value) : (w.setCell ⟨g, i, none⟩ v).heap[g]? = some (.cells (c.setIfInBounds i v) t fr) := by
  have hg : g < w.heap.size := (Array.getElem?_eq_some_iff.1 h).1
  have hv : w.heap[g] = .cells c t fr := (Array.getElem?_eq_some_iff.1 h).2
  simp [World.setCell, hg, Array.getElem_modify, hv]

/-- The block of an array that was handed in. -/
structure Held (w : World) (g : Nat) (t : TypeId) (c : Array Value) : Prop where
  block : w.heap[g]? = some (.cells c t (0, 0))

theorem Held.touch {S : Nat → Prop} {w w' : World} {g : Nat} {t : TypeId} {c : Array Value} (h : Held w g t c) (ht : Touch S w w') (hn : ¬ S g) : Held w' g t c :=
  ⟨(ht.block g (Array.getElem?_eq_some_iff.1 h.block).1 hn).trans h.block⟩

theorem alloc_at {w : World} {o : Obj} {g : Nat} (hg : g = w.heap.size) : (w.alloc o).heap[g]? = some o := by
  subst hg; exact heap_alloc_last w o

/-- A store of a whole array, the frame left as it is. -/
theorem wpList_store_all {P : Program} {ops : Array Oper} {rest : List Oper} {o : Oper} {a : Act} {w : World} {Q : Exit → Act → World → Prop} (hgd : o.guard = none) (hdst : o.dst = none) (ty : TypeId) (x y : Operand) (ho : o.op = .store ty x y)
    (g : Nat) (cells : Array Value) (hx : a.eval x = .pointer (some ⟨g, 0, none⟩)) (hy : a.eval y = .agg cells)
    (t : TypeId) (old : Array Value) (hg : w.heap[g]? = some (.cells old t (0, 0))) (hi : (P.info? ty).map (·.size) = some cells.size)
    (hold : old.size = cells.size) (h1 : cells.all (·.oneCell') = true)
    (h : wpList P ops Q rest a (w.setRow g cells)) : wpList P ops Q (o :: rest) a w :=
  wpList_store_row hgd ty x y ho g cells hx hy t old hg hi hold h1 (by rw [hdst]; exact h)

theorem Touch.setRow {S : Nat → Prop} {a w : World} (h : Touch S a w) {g : Nat} (c : Array Value) (hg : g < a.heap.size → S g) : Touch S a (w.setRow g c) :=
  h.trans (S' := fun k => k = g) ⟨rfl, rfl, rfl, by simp, fun j _ hj => setRow_other w _ j _ hj⟩ (fun k hk e => by subst e; exact hg hk)

/-- Slices that lie in a row. -/
structure SegV (w : World) (ao : Option Addr) (vs : List Value) : Prop where
  none : ao = .none → vs = []
  spot : ∀ a, ao = some a → vs ≠ [] → a.spot = .none
  cell : ∀ a, ao = some a → ∀ j (hj : j < vs.length), w.cell? (a.add j) = some vs[j]

/-- A text in memory. -/
structure Txt where
  ao : Option Addr
  cap : Nat
  xs : List Int

def Txt.val (t : Txt) : Value := .slice t.ao t.xs.length t.cap

/-- It can be read. -/
structure Txt.Ok (w : World) (t : Txt) : Prop where
  seg : Seg w .u8 t.ao t.xs
  in8 : In8 t.xs
  len : t.xs.length ≤ 281474976710656

theorem SegV.addr {w : World} {ao : Option Addr} {vs : List Value} (h : SegV w ao vs) (hx : 0 < vs.length) : ∃ b off, ao = .some ⟨b, off, .none⟩ := by
  cases ao with
  | none => rw [h.none rfl] at hx; cases hx
  | some a =>
    have := h.spot a rfl (fun e => by rw [e] at hx; cases hx)
    obtain ⟨b, off, s⟩ := a
    simp at this; subst this
    exact ⟨b, off, rfl⟩

theorem SegV.at {w : World} {b off : Nat} {vs : List Value} (h : SegV w (.some ⟨b, off, .none⟩) vs) (j : Nat) (hj : j < vs.length) : w.cell? ⟨b, off + j, .none⟩ = some vs[j] := by
  have := h.cell _ rfl j hj
  rwa [Addr.add_lit] at this

/-- All bytes, one text behind the other. -/
def alls (ts : List Txt) : List Int := ts.flatMap Txt.xs

theorem alls_take (ts : List Txt) (i : Nat) (hi : i < ts.length) : nats (alls (ts.take (i + 1))) = nats (alls (ts.take i)) ++ nats ts[i].xs := by
  unfold alls nats
  rw [List.take_add_one, List.getElem?_eq_getElem hi, List.flatMap_append, List.map_append]
  simp

theorem alls_in8 {w : World} {ts : List Txt} (h : ∀ t ∈ ts, t.Ok w) : In8 (alls ts) := by
  intro x hx
  obtain ⟨t, ht, hx⟩ := List.mem_flatMap.1 hx
  exact (h t ht).in8 x hx

set_option maxRecDepth 100000 in
theorem sum_any (ao : Option Addr) (ts : List Txt) (cap : Nat) (w : World) (ht : Tab w) (hs : SegV w ao (ts.map Txt.val)) (hts : ∀ t ∈ ts, t.Ok w) (hb : ts.length ≤ 281474976710656) :
    Calls Tryd.prog 37 #[.slice ao ts.length cap] w fun e w' => e = .returned (.int .u32 ((more 0 (nats (alls ts)) : Nat) : Int)) ∧ w = w' := by
  have hlt : ∀ i, more 0 (nats (alls (ts.take i))) < 4294967296 := fun i => more_lt (by omega) (nats_lt (alls_in8 (w := w) fun t h => hts t (List.mem_of_mem_take h)))
  go_enter Tryd.func37, Tryd.ntmps37
  go_wp2_with fail
  go_loopw [3, 8] (fun x i wr => ∃ n : Nat, i = .int .i64 n ∧ n ≤ ts.length ∧ x = .int .u32 ((more 0 (nats (alls (ts.take n))) : Nat) : Int) ∧ wr = w) (fun _ i _ => ts.length - (intOf i).toNat)
  case atStart => exact ⟨0, rfl, Nat.zero_le _, by rw [show ts.take 0 = [] from rfl]; rfl, rfl⟩
  case round =>
    obtain ⟨n, rfl, hn, rfl, rfl⟩ := hrel
    by_cases hlast : n < ts.length
    · obtain ⟨b, off, rfl⟩ := hs.addr (by simpa using (by omega : 0 < ts.length))
      have hc := hs.at n (by simpa using hlast)
      have hc1 : wr.cell? ⟨b, off + n, .none⟩ = some (.slice ts[n].ao ts[n].xs.length ts[n].cap) := by
        rw [hc, List.getElem_map]; rfl
      have ho := hts ts[n] (List.getElem_mem hlast)
      have MO := hide (more_any _ (hlt n) ts[n].ao ts[n].xs ts[n].cap wr ht ho.seg ho.in8 ho.len)
      rw [← more_append, ← alls_take ts n hlast] at MO
      generalize more 0 (nats (alls (ts.take n))) = y at *
      generalize ts[n].ao = ta at *
      generalize ts[n].xs.length = tl at *
      generalize ts[n].cap = tc at *
      clear hc ho hs hts hlt
      go_wp2_with fail
      refine MO.out.mono ?_
      rintro e w' ⟨rfl, rfl⟩
      go_wp2_with fail
      go_roundw
      case rel => exact ⟨n + 1, by go_num, by omega, rfl, trivial⟩
      case measure => simp [intOf]; omega
    · have e : n = ts.length := by omega
      subst e
      rw [List.take_length]
      clear hlt hts hs
      go_wp2_with fail
      go_ret
      exact ⟨rfl, rfl⟩

theorem Txt.Ok.touch {w w' : World} {t : Txt} (h : t.Ok w) (ht : Touch (fun _ => False) w w') : t.Ok w' := ⟨h.seg.touch ht (fun _ _ h => h), h.in8, h.len⟩

/-- The number of four bytes. -/
def word (a b c d : Nat) : Nat := a + 256 * b + 65536 * c + 16777216 * d

/-- A sum's four bytes, as an array. -/
def four8 (s : Nat) : Array Value := #[.int .u8 ((s % 256 : Nat) : Int), .int .u8 ((s / 256 % 256 : Nat) : Int), .int .u8 ((s / 65536 % 256 : Nat) : Int), .int .u8 ((s / 16777216 % 256 : Nat) : Int)]

set_option maxRecDepth 100000 in
theorem bytes_any (s : Nat) (hs : s < 4294967296) (w : World) :
    Calls Tryd.prog 45 #[.int .u32 s] w fun e w' => e = .returned (.agg (four8 s)) ∧ Touch (fun _ => False) w w' := by
  have he : (s : Int) / 16777216 = ((s / 16777216 % 256 : Nat) : Int) := by omega
  have hi : (Tryd.prog.info? 84).map (·.size) = some (four8 s).size := by kernel_rfl
  have H := hide (show #[.int .u8 ((s : Int) % 256), .int .u8 ((s : Int) / 256 % 256), .int .u8 ((s : Int) / 65536 % 256), .int .u8 ((s : Int) / 16777216)] = four8 s by rw [he]; rfl)
  clear he
  go_enter Tryd.func45, Tryd.ntmps45
  go_wp2_with fail
  rw [H.out]
  refine bodyPost_ret (results_cell_row rfl _ _ _ _ _ _ _ rfl (heap_alloc_last w _) Tryd.underlying84 rfl hi) rfl ?_
  exact ⟨rfl, (Touch.refl _ _).alloc _⟩

theorem or_word (a b c d : Nat) (ha : a < 256) (hb : b < 256) (hc : c < 256) (hd : d < 256) :
    bits .or .u32 (bits .or .u32 (bits .or .u32 (a : Int) ((b : Int) * 256)) ((c : Int) * 65536)) ((d : Int) * 16777216) = ((word a b c d : Nat) : Int) := by
  have e1 : bits .or .u32 (a : Int) ((b : Int) * 256) = ((a + 256 * b : Nat) : Int) := by go_bits2
  rw [e1]
  have e2 : bits .or .u32 ((a + 256 * b : Nat) : Int) ((c : Int) * 65536) = ((a + 256 * b + 65536 * c : Nat) : Int) := by go_bits2
  rw [e2]
  unfold word
  go_bits2

set_option maxRecDepth 100000 in
set_option maxHeartbeats 4000000 in
theorem from_four (b off : Nat) (a0 a1 a2 a3 : Nat) (cap : Nat) (w : World) (h0 : w.cell? ⟨b, off, none⟩ = some (.int .u8 (a0 : Int))) (h1 : w.cell? ⟨b, off + 1, none⟩ = some (.int .u8 (a1 : Int))) (h2 : w.cell? ⟨b, off + 2, none⟩ = some (.int .u8 (a2 : Int))) (h3 : w.cell? ⟨b, off + 3, none⟩ = some (.int .u8 (a3 : Int))) (l0 : a0 < 256) (l1 : a1 < 256) (l2 : a2 < 256) (l3 : a3 < 256) :
    Calls Tryd.prog 36 #[.slice (some ⟨b, off, none⟩) 4 cap] w fun e w' => e = .returned (.tuple #[.int .u32 ((word a0 a1 a2 a3 : Nat) : Int), .bool true]) ∧ Touch (fun _ => False) w w' := by
  have HO := hide (or_word a0 a1 a2 a3 l0 l1 l2 l3)
  go_enter Tryd.func36, Tryd.ntmps36
  go_wp2_with fail
  go_region
  rw [HO.out]
  go_wp2_with fail
  go_ret2
  exact ⟨rfl, (Touch.refl _ _).drew⟩

set_option maxRecDepth 100000 in
theorem from_not (ao : Option Addr) (len cap : Nat) (w : World) (h : len ≠ 4) :
    Calls Tryd.prog 36 #[.slice ao len cap] w fun e w' => e = .returned (.tuple #[.int .u32 0, .bool false]) ∧ Touch (fun _ => False) w w' := by
  have h' : ¬ (len : Int) = 4 := by omega
  clear h
  go_enter Tryd.func36, Tryd.ntmps36
  go_wp2_with fail
  go_ret2
  exact ⟨rfl, Touch.refl _ _⟩

theorem heap_alloc_old {w : World} {o : Obj} {k : Nat} (h : k < w.heap.size) : (w.alloc o).heap[k]? = w.heap[k]? := by
  exact Below.heap_alloc w o k h

theorem seg_of {w : World} {g : Nat} {k : IntKind} {xs : List Int} {t : TypeId} {fr : Nat × Nat} {c : Array Value} (h : w.heap[g]? = some (.cells c t fr)) (hc : c = (xs.map (Value.int k)).toArray) : Seg w k (some ⟨g, 0, none⟩) xs := by
  subst hc
  refine ⟨fun h => (nomatch h), fun a ha _ => (by injection ha with ha; subst ha; rfl), fun a ha j hj => ?_⟩
  injection ha with ha; subst ha
  rw [Addr.add_lit, Nat.zero_add, cell_of_row w g j _ _ _ h]
  simp [hj]

theorem segV_of {w : World} {g : Nat} {vs : List Value} {t : TypeId} {fr : Nat × Nat} {c : Array Value} (h : w.heap[g]? = some (.cells c t fr)) (hc : c = vs.toArray) : SegV w (some ⟨g, 0, none⟩) vs := by
  subst hc
  refine ⟨fun h => (nomatch h), fun a ha _ => (by injection ha with ha; subst ha; rfl), fun a ha j hj => ?_⟩
  injection ha with ha; subst ha
  rw [Addr.add_lit, Nat.zero_add, cell_of_row w g j _ _ _ h]
  simp [hj]

/-- Sum of texts whose list has just been laid. -/
theorem sum_row (w : World) (ht : Tab w) (ts : List Txt) (hts : ∀ t ∈ ts, t.Ok w) (hb : ts.length ≤ 281474976710656) (n : Nat) (hn : n = ts.length) (res : Nat) (hres : more 0 (nats (alls ts)) = res) (c : Array Value) (hc : c = (ts.map Txt.val).toArray) :
    Calls Tryd.prog 37 #[.slice (some ⟨w.heap.size, 0, none⟩) n n] (w.alloc (.cells c 22))
      fun e w' => e = .returned (.int .u32 (res : Int)) ∧ Tab w' ∧ Touch (fun _ => False) w w' := by
  subst hn
  obtain ⟨o, ho⟩ : ∃ o, o = Obj.cells c 22 (0, 0) := ⟨_, rfl⟩
  rw [← ho]
  have T : Touch (fun _ => False) w (w.alloc o) := (Touch.refl _ _).alloc _
  have b2 : (w.alloc o).heap[w.heap.size]? = some o := heap_alloc_last w _
  generalize w.alloc o = W at *
  rw [ho] at b2
  have := sum_any (some ⟨w.heap.size, 0, none⟩) ts ts.length W (ht.touch T (fun h => h)) (segV_of b2 hc) (fun t h => (hts t h).touch T) hb
  rw [hres] at this
  refine this.mono ?_
  rintro e w' ⟨rfl, rfl⟩
  exact ⟨rfl, ht.touch T (fun h => h), T⟩

end Go.Proofs.YtfeifobljgmkkaaDoor
