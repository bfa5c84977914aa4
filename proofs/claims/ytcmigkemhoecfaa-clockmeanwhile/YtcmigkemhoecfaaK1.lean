/- The document's clocks: holds, what is told of them, and how they lie in memory. The document's clock: time, Mark, Marks, Len, First, Outward. The document's clock: First, Outward. The document's clock: New, Of. The document's clock: Of, place, Set. -/
import Derived.Test.YtcmigkemhoecfaaJI
import Derived.Test.YtcmigkemhoecfaaYS
import Derived.Test.YtcmigkemhoecfaaYZ
import Derived.Test.YtcmigkemhoecfaaCJ0
import Derived.BigQuiet
namespace Go.Proofs.Ytcmigkemhoecfaa
open Go.RowKit

theorem Touch.drewK {S : Nat → Prop} {a w : World} (h : Touch S a w) (n : Nat) : Touch S a (w.drewN n) := ⟨h.os, h.tape, h.output, h.size, h.block⟩
/-- A hold: a name with its time. -/
structure Hd where
  n : ByteArray
  t : Int
abbrev hd0 : Hd := ⟨⟨#[]⟩, 0⟩
abbrev hdc (h : Hd) : Array Value := #[.string h.n, .int .i64 h.t]
def encH : Rc.Enc Hd := ⟨2, fun h => (hdc h).toList, fun _ => rfl, fun _ u hu => by simp at hu; rcases hu with rfl | rfl <;> rfl, by decide⟩
theorem hd_at {w : World} {ao : Option Addr} {H : List Hd} (h : encH.Mem w ao H) (j : Nat) (hj : j < H.length) : ∃ b off, ao = some ⟨b, off, none⟩ ∧ w.cell? ⟨b, off + j * 2, none⟩ = some (.string (H.getD j hd0).n) ∧ w.cell? ⟨b, off + j * 2 + 1, none⟩ = some (.int .i64 (H.getD j hd0).t) := by
  obtain ⟨b, off, e, g⟩ := Rc.Mem.at h j hj
  rw [List.getD_eq_getElem?_getD, List.getElem?_eq_getElem hj]
  exact ⟨b, off, e, g 0 _ rfl, g 1 _ rfl⟩
theorem infoHd : (Try.prog.info? 57).map (fun i => (i.zero, i.size, i.bytes)) = some (some (.agg #[.string ⟨#[]⟩, .int .i64 0]), 2, 24) := by kernel_rfl
theorem elemHd : Try.prog.elem 53 = 57 := by kernel_rfl
theorem infoJ : (Try.prog.info? 2).map (fun i => (i.zero, i.size, i.bytes)) = some (some (.int .i64 0), 1, 8) := by kernel_rfl
theorem elemJ : Try.prog.elem 22 = 2 := by kernel_rfl

/-- Is it a time? -/
def timC (t : Int) : Bool := decide (-4611686018427387904 ≤ t) && decide (t ≤ 4611686018427387904)
/-- A name ahead of another one. -/
def ltN (a b : ByteArray) : Bool := Op.bytesLess a.toList b.toList
theorem lss_str (t : TypeId) (a b : ByteArray) : binOp .lss t (.string a) (.string b) = pure (.bool (ltN a b)) := by
  unfold ltN
  simp [binOp, Op.stringOp]
/-- The same name. -/
def eqN (a b : ByteArray) : Bool := a.toList == b.toList
theorem eql_str (t : TypeId) (a b : ByteArray) : binOp .eql t (.string a) (.string b) = pure (.bool (eqN a b)) := by
  unfold eqN
  simp [binOp, Op.stringOp]
theorem eqN_iff {a b : ByteArray} : eqN a b = true ↔ a = b := by
  unfold eqN
  rw [beq_iff_eq, ByteArray.toList_eq, ByteArray.toList_eq]
  exact ⟨fun h => ByteArray.ext (Array.toList_inj.1 h), fun h => by rw [h]⟩
/-- The least mark. -/
def mkN (L : List Int) : Int := L.foldl min (L.getD 0 0)
/-- Where a name stands, or should. -/
def plN (H : List Hd) (x : ByteArray) : Nat := (H.takeWhile fun h => ltN h.n x).length
/-- Is it there? -/
def hasH (H : List Hd) (x : ByteArray) : Bool := decide (plN H x < H.length) && eqN (H.getD (plN H x) hd0).n x
def freeH (H : List Hd) (x : ByteArray) : List Hd := if hasH H x then H.take (plN H x) ++ H.drop (plN H x + 1) else H
def holdH (H : List Hd) (x : ByteArray) (t : Int) : List Hd := (freeH H x).take (plN (freeH H x) x) ++ [⟨x, t⟩] ++ (freeH H x).drop (plN (freeH H x) x)
/-- The first hold. -/
def bestH (H : List Hd) : Hd := H.foldl (fun b h => if h.t < b.t then h else b) (H.getD 0 hd0)
def outN (L : List Int) (H : List Hd) : Int := if H.length = 0 then mkN L else min (bestH H).t (mkN L)

theorem plN_le (H : List Hd) (x : ByteArray) : plN H x ≤ H.length := (List.takeWhile_prefix _).length_le
theorem free_len (H : List Hd) (x : ByteArray) : (freeH H x).length ≤ H.length := by
  unfold freeH
  split
  · have := plN_le H x; simp; omega
  · exact Nat.le_refl _
theorem hold_len (H : List Hd) (x : ByteArray) (t : Int) : (holdH H x t).length ≤ H.length + 1 := by
  unfold holdH
  have := free_len H x
  have := plN_le (freeH H x) x
  simp; omega

/-- The document's clock at q, in the blocks F. -/
structure Rk (w : World) (q : Nat) (F : Nat → Prop) (L : List Int) (H : List Hd) : Prop where
  ex : ∃ lo lc ho hc, w.heap[q]? = some (.cells #[.slice lo L.length lc, .slice ho H.length hc] 55 (0, 0)) ∧ encJ.Own 2 w 0 (.slice lo L.length lc) L ∧ encH.Own 57 w 0 (.slice ho H.length hc) H ∧
    (∀ g, (Value.slice lo L.length lc).ownBlock = some g → F g) ∧ ∀ g, (Value.slice ho H.length hc).ownBlock = some g → F g
  at_ : F q
  lt : ∀ g, F g → g < w.heap.size
  ne : L ≠ []

theorem Rk.touch {w w' : World} {q : Nat} {F S : Nat → Prop} {L : List Int} {H : List Hd} (h : Rk w q F L H) (ht : Touch S w w') (hS : ∀ g, F g → ¬ S g) : Rk w' q F L H := by
  obtain ⟨lo, lc, ho, hc, c, o1, o2, f1, f2⟩ := h.ex
  exact ⟨⟨lo, lc, ho, hc, ht.heap c (hS q h.at_), Rc.Own.touch o1 ht (fun g hg => hS g (f1 g hg)), Rc.Own.touch o2 ht (fun g hg => hS g (f2 g hg)), f1, f2⟩, h.at_, fun g hg => Nat.lt_of_lt_of_le (h.lt g hg) ht.size, h.ne⟩
theorem Rk.calm {w w' : World} {q : Nat} {F : Nat → Prop} {L : List Int} {H : List Hd} (h : Rk w q F L H) (ht : Calm w w') : Rk w' q F L H := h.touch ht fun _ _ h => h

theorem rk_cells {w : World} {q : Nat} {a b : Value} {ty : TypeId} (h : w.heap[q]? = some (.cells #[a, b] ty (0, 0))) : w.cell? ⟨q, 0, none⟩ = some a ∧ w.cell? ⟨q, 1, none⟩ = some b := by simp [World.cell?, h]

/-- What is read of it, whatever is made meanwhile. -/
theorem Rk.see {w : World} {q : Nat} {F : Nat → Prop} {L : List Int} {H : List Hd} (h : Rk w q F L H) : ∃ lo lc ho hc, encJ.Sl w lo lc L ∧ encH.Sl w ho hc H ∧ ∀ W, Calm w W → W.cell? ⟨q, 0, none⟩ = some (.slice lo L.length lc) ∧ W.cell? ⟨q, 1, none⟩ = some (.slice ho H.length hc) := by
  obtain ⟨lo, lc, ho, hc, c, o1, o2, -, -⟩ := h.ex
  exact ⟨lo, lc, ho, hc, Rc.Own.sl o1, Rc.Own.sl o2, fun W hW => rk_cells (hW.at c)⟩
theorem ints_W {w : World} {ao : Option Addr} {L : List Int} (h : encJ.Mem w ao L) (j : Nat) (hj : j < L.length) : ∃ g off, ao = some ⟨g, off, none⟩ ∧ ∀ W, Calm w W → W.cell? ⟨g, off + j, none⟩ = some (.int .i64 (L.getD j 0)) := by
  obtain ⟨g, off, e, -⟩ := ints_at h j hj
  refine ⟨g, off, e, fun W hW => ?_⟩
  obtain ⟨g', off', e', h⟩ := ints_at (Rc.Mem.calm h hW) j hj
  rw [e] at e'
  injection e' with e'
  injection e' with e1 e2
  subst e1 e2
  exact h
theorem hd_W {w : World} {ao : Option Addr} {H : List Hd} (h : encH.Mem w ao H) (j : Nat) (hj : j < H.length) : ∃ g off, ao = some ⟨g, off, none⟩ ∧ ∀ W, Calm w W → W.cell? ⟨g, off + j * 2, none⟩ = some (.string (H.getD j hd0).n) ∧ W.cell? ⟨g, off + j * 2 + 1, none⟩ = some (.int .i64 (H.getD j hd0).t) := by
  obtain ⟨g, off, e, -⟩ := hd_at h j hj
  refine ⟨g, off, e, fun W hW => ?_⟩
  obtain ⟨g', off', e', h⟩ := hd_at (Rc.Mem.calm h hW) j hj
  rw [e] at e'
  injection e' with e'
  injection e' with e1 e2
  subst e1 e2
  exact h

theorem mk_next (L : List Int) (i : Nat) (hi : i < L.length) : (L.take (i + 1)).foldl min (L.getD 0 0) = min ((L.take i).foldl min (L.getD 0 0)) (L.getD i 0) := by
  rw [List.take_add_one, List.getElem?_eq_getElem hi, List.foldl_append, List.getD_eq_getElem?_getD (i := i), List.getElem?_eq_getElem hi]
  rfl
theorem best_next (H : List Hd) (i : Nat) (hi : i < H.length) (b : Hd) : (H.take (i + 1)).foldl (fun b h => if h.t < b.t then h else b) b = if (H.getD i hd0).t < ((H.take i).foldl (fun b h => if h.t < b.t then h else b) b).t then H.getD i hd0 else (H.take i).foldl (fun b h => if h.t < b.t then h else b) b := by
  rw [List.take_add_one, List.getElem?_eq_getElem hi, List.foldl_append, List.getD_eq_getElem?_getD, List.getElem?_eq_getElem hi]
  rfl

end Go.Proofs.Ytcmigkemhoecfaa

namespace Go.Proofs.Ytcmigkemhoecfaa
open Go.RowKit

theorem rtime13_any (t : Int) (w : World) : Calls Try.prog 35 #[.int .i64 t] w fun e w' => e = .returned (.bool (timC t)) ∧ w' = w := by
  by_cases h1 : -4611686018427387904 ≤ t
  · by_cases h2 : t ≤ 4611686018427387904
    · have e : timC t = true := by simp [timC, h1, h2]
      rw [e]
      go_enter Try.func35, Try.ntmps35
      go_wp2_with fail
      go_ret
      exact ⟨rfl, rfl⟩
    · have e : timC t = false := by simp [timC, h1, h2]
      rw [e]
      go_enter Try.func35, Try.ntmps35
      go_wp2_with fail
      go_ret
      exact ⟨rfl, rfl⟩
  · have e : timC t = false := by simp [timC, h1]
    rw [e]
    go_enter Try.func35, Try.ntmps35
    go_wp2_with fail
    go_ret
    exact ⟨rfl, rfl⟩

theorem rmark_nil (w : World) : Calls Try.prog 42 #[.pointer none] w fun e w' => e = .returned (.int .i64 0) ∧ w' = w := by
  go_enter Try.func42, Try.ntmps42
  go_wp2_with fail
  go_ret
  exact ⟨rfl, rfl⟩

set_option maxRecDepth 100000 in
set_option maxHeartbeats 1000000 in
theorem rmark_any (q : Nat) (F : Nat → Prop) (L : List Int) (H : List Hd) (w : World) (h : Rk w q F L H) (hl : L.length ≤ 140737488355328) : Calls Try.prog 42 #[.pointer (some ⟨q, 0, none⟩)] w fun e w' => e = .returned (.int .i64 (mkN L)) ∧ w' = w := by
  obtain ⟨lo, lc, ho, hc, s1, -, see⟩ := h.see
  have hpos : 0 < L.length := List.length_pos_iff.2 h.ne
  obtain ⟨m, f, hM, f0, fs, fl⟩ : ∃ (m f : Nat → Int), (∀ j, m j = L.getD j 0) ∧ f 0 = m 0 ∧ (∀ i, i < L.length → f (i + 1) = min (f i) (m i)) ∧ f L.length = mkN L := ⟨fun j => L.getD j 0, fun i => (L.take i).foldl min (L.getD 0 0), fun _ => rfl, rfl, fun i hi => mk_next L i hi, by simp only [List.take_length]; rfl⟩
  have MW : Hid (∀ j, j < L.length → ∃ g off, lo = some ⟨g, off, none⟩ ∧ w.cell? ⟨g, off + j, none⟩ = some (.int .i64 (m j))) := hide fun j hj => by
    obtain ⟨g, off, e, c⟩ := ints_W s1.mem j hj
    exact ⟨g, off, e, by rw [hM]; exact c w (Touch.refl _ _)⟩
  obtain ⟨c0, -⟩ := see w (Touch.refl _ _)
  obtain ⟨g, off, rfl, m0⟩ := MW.out 0 hpos
  rw [Nat.add_zero] at m0
  have FS := hide fs
  have FL := hide fl
  have F0 := hide f0
  clear h s1 see hM fs fl f0
  generalize mkN L = R at *
  generalize hn : L.length = n at *
  have hpz : (0 : Int) < (n : Int) := by omega
  go_enter Try.func42, Try.ntmps42
  go_wp2_with fail
  go_loopw [3, 4] (fun s3 s4 wr => ∃ i : Nat, s4 = .int .i64 (i : Int) ∧ i ≤ n ∧ s3 = .int .i64 (f i) ∧ wr = w) (fun _ s4 _ => n - (intOf s4).toNat)
  case atStart => exact ⟨0, rfl, by omega, by rw [F0.out], rfl⟩
  case round =>
    obtain ⟨i, rfl, hi, rfl, rfl⟩ := hrel
    by_cases hlt : i < n
    · have hltz : (i : Int) < (n : Int) := by omega
      obtain ⟨g', off', e, ci⟩ := MW.out i hlt
      injection e with e
      injection e with e1 e2
      subst e1 e2
      have HZ := hide (FS.out i hlt)
      clear MW FS FL F0 m0
      go_wp2_with fail
      go_roundw
      case rel => exact ⟨i + 1, by go_num, by omega, by rw [HZ.out], by first | rfl | trivial⟩
      case measure => simp [intOf]; omega
    · have hltz : ¬ (i : Int) < (n : Int) := by omega
      obtain rfl : i = n := by omega
      clear MW FS m0
      go_wp2_with fail
      go_ret
      exact ⟨by rw [← FL.out]; rfl, rfl⟩

theorem rmarks_nil (w : World) : Calls Try.prog 46 #[.pointer none] w fun e w' => e = .returned (.slice none 0 0) ∧ w' = w := by
  go_enter Try.func46, Try.ntmps46
  go_wp2_with fail
  go_ret
  exact ⟨rfl, rfl⟩
theorem rmarks_any (q : Nat) (F : Nat → Prop) (L : List Int) (H : List Hd) (w : World) (h : Rk w q F L H) : Calls Try.prog 46 #[.pointer (some ⟨q, 0, none⟩)] w fun e w' => ∃ lo lc, e = .returned (.slice lo L.length lc) ∧ encJ.Sl w lo lc L ∧ w' = w := by
  obtain ⟨lo, lc, ho, hc, s1, -, see⟩ := h.see
  obtain ⟨c0, -⟩ := see w (Touch.refl _ _)
  have S1 := hide s1
  clear h s1 see
  generalize L.length = n at *
  go_enter Try.func46, Try.ntmps46
  go_wp2_with fail
  go_ret
  exact ⟨lo, lc, rfl, S1.out, rfl⟩

theorem rlen_nil (w : World) : Calls Try.prog 44 #[.pointer none] w fun e w' => e = .returned (.int .i64 0) ∧ w' = w := by
  go_enter Try.func44, Try.ntmps44
  go_wp2_with fail
  go_ret
  exact ⟨rfl, rfl⟩
theorem rlen_any (q : Nat) (F : Nat → Prop) (L : List Int) (H : List Hd) (w : World) (h : Rk w q F L H) : Calls Try.prog 44 #[.pointer (some ⟨q, 0, none⟩)] w fun e w' => e = .returned (.int .i64 (H.length : Int)) ∧ w' = w := by
  obtain ⟨lo, lc, ho, hc, -, -, see⟩ := h.see
  obtain ⟨-, c1⟩ := see w (Touch.refl _ _)
  clear h see
  generalize H.length = n at *
  go_enter Try.func44, Try.ntmps44
  go_wp2_with fail
  go_ret
  exact ⟨rfl, rfl⟩

end Go.Proofs.Ytcmigkemhoecfaa

namespace Go.Proofs.Ytcmigkemhoecfaa
open Go.RowKit

theorem hd_cells {w : World} {D : Nat} {x : Hd} {ty : TypeId} (h : w.heap[D]? = some (.cells (hdc x) ty (0, 0))) : w.cell? ⟨D, 0, none⟩ = some (.string x.n) ∧ w.cell? ⟨D, 1, none⟩ = some (.int .i64 x.t) := by simp [World.cell?, h]
theorem hd_frozen {w : World} {b : Nat} {c : Array Value} {ty : TypeId} (h : w.heap[b]? = some (.cells c ty (0, 0))) (o : Nat) : w.frozen? ⟨b, o, none⟩ = false := by simp [World.frozen?, h]
theorem hd_set {w : World} {D : Nat} {x : Hd} {ty : TypeId} (h : w.heap[D]? = some (.cells (hdc x) ty (0, 0))) (y : Hd) : ((w.setCell ⟨D, 0, none⟩ (.string y.n)).setCell ⟨D, 1, none⟩ (.int .i64 y.t)).heap[D]? = some (.cells (hdc y) ty (0, 0)) :=
  heap_setCell_row (i := 1) (heap_setCell_row (i := 0) h (.string y.n)) (.int .i64 y.t)

theorem rfirst_nil (w : World) : Calls Try.prog 41 #[.pointer none] w fun e w' => e = .returned (.tuple #[.string ⟨#[]⟩, .int .i64 0, .bool false]) ∧ w' = w := by
  go_enter Try.func41, Try.ntmps41
  go_wp2_with fail
  go_ret3
  exact ⟨rfl, rfl⟩

/-- What First tells. -/
def firV (H : List Hd) : Value := if H.length = 0 then .tuple #[.string ⟨#[]⟩, .int .i64 0, .bool false] else .tuple #[.string (bestH H).n, .int .i64 (bestH H).t, .bool true]

set_option maxRecDepth 100000 in
set_option maxHeartbeats 1000000 in
theorem rfirst_any (q : Nat) (F : Nat → Prop) (L : List Int) (H : List Hd) (w : World) (h : Rk w q F L H) (hl : H.length ≤ 140737488355328) : Calls Try.prog 41 #[.pointer (some ⟨q, 0, none⟩)] w fun e w' => e = .returned (firV H) ∧ Calm w w' := by
  obtain ⟨lo, lc, ho, hc, -, s2, see⟩ := h.see
  by_cases hz : H.length = 0
  · have e : firV H = .tuple #[.string ⟨#[]⟩, .int .i64 0, .bool false] := if_pos hz
    rw [e]
    obtain ⟨-, c1⟩ := see w (Touch.refl _ _)
    rw [hz] at c1
    clear h s2 see
    go_enter Try.func41, Try.ntmps41
    go_wp2_with fail
    go_ret3
    exact ⟨rfl, Touch.refl _ _⟩
  · have e : firV H = .tuple #[.string (bestH H).n, .int .i64 (bestH H).t, .bool true] := if_neg hz
    rw [e]
    obtain ⟨m, f, hM, f0, fs, fl⟩ : ∃ (m f : Nat → Hd), (∀ j, m j = H.getD j hd0) ∧ f 0 = m 0 ∧ (∀ i, i < H.length → f (i + 1) = if (m i).t < (f i).t then m i else f i) ∧ f H.length = bestH H := ⟨fun j => H.getD j hd0, fun i => (H.take i).foldl (fun b h => if h.t < b.t then h else b) (H.getD 0 hd0), fun _ => rfl, rfl, fun i hi => best_next H i hi _, by simp only [List.take_length]; rfl⟩
    have MW : Hid (∀ j, j < H.length → ∃ g off, ho = some ⟨g, off, none⟩ ∧ ∀ W, Calm w W → W.cell? ⟨g, off + j * 2, none⟩ = some (.string (m j).n) ∧ W.cell? ⟨g, off + j * 2 + 1, none⟩ = some (.int .i64 (m j).t)) := hide fun j hj => by
      obtain ⟨g, off, e, c⟩ := hd_W s2.mem j hj
      exact ⟨g, off, e, by rw [hM]; exact c⟩
    have SE : Hid (∀ W, Calm w W → W.cell? ⟨q, 1, none⟩ = some (.slice ho H.length hc)) := hide fun W hW => (see W hW).2
    obtain ⟨g, off, rfl, m0⟩ := MW.out 0 (by omega)
    obtain ⟨m00, m01⟩ := m0 w (Touch.refl _ _)
    rw [Nat.zero_mul, Nat.add_zero] at m00 m01
    have c1 := SE.out w (Touch.refl _ _)
    have FS := hide fs
    have FL := hide fl
    have F0 := hide f0
    have AD := hide (al_new w (.cells (hdc (m 0)) 57))
    have TD := hide ((Touch.refl (fun _ => False) w).alloc (.cells (hdc (m 0)) 57))
    clear h s2 see hM fs fl f0 m0 e
    generalize bestH H = R at *
    generalize hn : H.length = n at *
    have hpz : (0 : Int) < (n : Int) := by omega
    have hbz : ((n : Int) == 0) = false := by simpa using hz
    go_enter Try.func41, Try.ntmps41
    go_wp2_with fail
    generalize w.alloc (.cells (hdc (m 0)) 57) = w1 at *
    generalize hD : w.heap.size = D at *
    clear m00 m01 c1
    go_loopw [6] (fun s6 wr => ∃ i : Nat, s6 = .int .i64 (i : Int) ∧ i ≤ n ∧ wr.heap[D]? = some (.cells (hdc (f i)) 57 (0, 0)) ∧ Calm w wr) (fun s6 _ => n - (intOf s6).toNat)
    case atStart => exact ⟨0, rfl, by omega, by rw [F0.out]; exact AD.out, TD.out⟩
    case round =>
      obtain ⟨i, rfl, hi, AE, TE⟩ := hrel
      clear AD TD F0
      have c1 := SE.out wr TE
      by_cases hlt : i < n
      · have hltz : (i : Int) < (n : Int) := by omega
        obtain ⟨g', off', e, ci⟩ := MW.out i hlt
        injection e with e
        injection e with e1 e2
        subst e1 e2
        have fs1 := FS.out i hlt
        obtain ⟨d0, d1⟩ := hd_cells AE
        obtain ⟨i0, i1⟩ := ci wr TE
        clear MW FS FL
        by_cases hb : (m i).t < (f i).t
        · rw [if_pos hb] at fs1
          have HZ := hide fs1
          have y0 := hd_frozen AE 0
          have y1 := hd_frozen AE 1
          have HAE := hide AE
          have HTE := hide TE
          have HCI := hide ci
          have HSE := hide (SE.out)
          clear fs1 AE TE SE
          go_wp2_with fail
          go_quiet (fail)
          have TQ := HTE.out.drewK nq
          have AQ : (wr.drewN nq).heap[D]? = some (.cells (hdc (f i)) 57 (0, 0)) := ((Touch.refl (fun _ => False) wr).drewK nq).at HAE.out
          clear d0 d1 i0 i1 y0 y1 c1 ci
          generalize wr.drewN nq = w2 at *
          obtain ⟨d0, d1⟩ := hd_cells AQ
          obtain ⟨i0, i1⟩ := HCI.out w2 TQ
          have y0 := hd_frozen AQ 0
          have y1 := hd_frozen AQ 1
          have c1 := HSE.out w2 TQ
          have A3 := hide (hd_set AQ (m i))
          have T3 := hide ((TQ.trans ((Touch.refl (fun k => k = D) w2).setCell (p := ⟨D, 0, none⟩) (fun _ => rfl) (.string (m i).n)) (fun g hg e => by omega)).trans ((Touch.refl (fun k => k = D) _).setCell (p := ⟨D, 1, none⟩) (fun _ => rfl) (.int .i64 (m i).t)) (fun g hg e => by omega))
          clear TQ AQ HAE HTE HCI HSE
          go_wp2_with fail
          go_roundw
          case rel => exact ⟨i + 1, by go_num, by omega, by rw [HZ.out]; exact A3.out, T3.out⟩
          case measure => simp [intOf]; omega
        · rw [if_neg hb] at fs1
          have HZ := hide fs1
          have HAE := hide AE
          have HTE := hide TE
          clear fs1 AE TE SE ci
          go_wp2_with fail
          go_quiet (fail)
          have TQ := hide (HTE.out.drewK nq)
          have AQ : Hid ((wr.drewN nq).heap[D]? = some (.cells (hdc (f i)) 57 (0, 0))) := hide (((Touch.refl (fun _ => False) wr).drewK nq).at HAE.out)
          clear d0 d1 i0 i1 c1 HAE HTE
          generalize wr.drewN nq = w2 at *
          go_wp2_with fail
          go_roundw
          case rel => exact ⟨i + 1, by go_num, by omega, by rw [HZ.out]; exact AQ.out, TQ.out⟩
          case measure => simp [intOf]; omega
      · have hltz : ¬ (i : Int) < (n : Int) := by omega
        obtain rfl : i = n := by omega
        have HR := hide FL.out
        obtain ⟨d0, d1⟩ := hd_cells AE
        rw [FL.out] at d0 d1
        have HTE := hide TE
        clear MW FS FL SE AE TE
        go_wp2_with fail
        go_quiet (fail)
        go_wp2_with fail
        go_ret3
        exact ⟨rfl, HTE.out.drewK nq⟩

theorem routward_nil (w : World) : Calls Try.prog 45 #[.pointer none] w fun e w' => e = .returned (.int .i64 0) ∧ w' = w := by
  have C1 := fun w => hide (rfirst_nil w)
  have C2 := fun w => hide (rmark_nil w)
  go_enter Try.func45, Try.ntmps45
  go_wp2_with fail
  refine (C1 _).out.mono ?_
  rintro e w1 ⟨rfl, rfl⟩
  go_wp2_with fail
  refine (C2 _).out.mono ?_
  rintro e w1 ⟨rfl, rfl⟩
  go_wp2_with fail
  go_ret
  exact ⟨rfl, rfl⟩

theorem routward_any (q : Nat) (F : Nat → Prop) (L : List Int) (H : List Hd) (w : World) (h : Rk w q F L H) (hl : H.length ≤ 140737488355328) (hm : L.length ≤ 140737488355328) : Calls Try.prog 45 #[.pointer (some ⟨q, 0, none⟩)] w fun e w' => e = .returned (.int .i64 (outN L H)) ∧ Calm w w' := by
  have C1 := hide (rfirst_any q F L H w h hl)
  have C2 : Hid (∀ W, Calm w W → Calls Try.prog 42 #[.pointer (some ⟨q, 0, none⟩)] W fun e w' => e = .returned (.int .i64 (mkN L)) ∧ w' = W) := hide fun W hW => rmark_any q F L H W (h.calm hW) hm
  clear h
  by_cases hz : H.length = 0
  · have e : firV H = .tuple #[.string ⟨#[]⟩, .int .i64 0, .bool false] := if_pos hz
    have e2 : outN L H = mkN L := if_pos hz
    rw [e] at C1
    rw [e2]
    clear e e2
    generalize mkN L = R at *
    go_enter Try.func45, Try.ntmps45
    go_wp2_with fail
    refine C1.out.mono ?_
    rintro e w1 ⟨rfl, T1⟩
    have HT := hide T1
    clear T1
    go_wp2_with fail
    refine (C2.out _ HT.out).mono ?_
    rintro e w2 ⟨rfl, rfl⟩
    go_wp2_with fail
    go_ret
    exact ⟨rfl, HT.out⟩
  · have e : firV H = .tuple #[.string (bestH H).n, .int .i64 (bestH H).t, .bool true] := if_neg hz
    have e2 : outN L H = min (bestH H).t (mkN L) := if_neg hz
    rw [e] at C1
    rw [e2]
    clear e e2
    generalize mkN L = R at *
    generalize bestH H = b at *
    go_enter Try.func45, Try.ntmps45
    go_wp2_with fail
    refine C1.out.mono ?_
    rintro e w1 ⟨rfl, T1⟩
    have HT := hide T1
    clear T1
    go_wp2_with fail
    refine (C2.out _ HT.out).mono ?_
    rintro e w2 ⟨rfl, rfl⟩
    go_wp2_with fail
    go_ret
    exact ⟨rfl, HT.out⟩

end Go.Proofs.Ytcmigkemhoecfaa

namespace Go.Proofs.Ytcmigkemhoecfaa
open Go.RowKit

theorem rngK_succ (f : Nat → Bool) (n : Nat) : (List.range (n + 1)).all f = ((List.range n).all f && f n) := by
  rw [List.range_succ, List.all_append]; simp
theorem rngK_false {f : Nat → Bool} {n i : Nat} (hi : i < n) (h : f i = false) : (List.range n).all f = false := by
  rw [List.all_eq_false]
  exact ⟨i, List.mem_range.2 hi, by simp [h]⟩
/-- May a clock be made of these marks? -/
def ofB (M : List Int) : Bool := decide (1 ≤ M.length) && (decide (M.length ≤ 64) && (List.range M.length).all fun i => timC (M.getD i 0))
abbrev minT : Int := -4611686018427387904

/-- One number more. -/
theorem jn_app1 {w : World} {base : Nat} {ao : Option Addr} {cap : Nat} {A : List Int} (x : Int) (h : encJ.Own 2 w base (.slice ao A.length cap) A) (hs : base ≤ w.heap.size) (hn : A.length ≤ 10000000000000) :
    ∃ a2 p2 w4, (Builtin.append_ #[22, 22] 22 #[.slice ao A.length cap, .slice (some ⟨w.heap.size, 0, none⟩) 1 1]).run Try.prog (w.alloc (.cells #[.int .i64 x] 2)) = .ok (.slice a2 (A.length + 1) p2) w4 ∧
      encJ.Own 2 w4 base (.slice a2 (A ++ [x]).length p2) (A ++ [x]) ∧ Touch (fun d => (Value.slice ao A.length cap).ownBlock = some d) w w4 := by
  obtain ⟨i0, hi, hz, hsz, hby⟩ := Rc.info_parts infoJ
  have own := Rc.Own.calm h ((Touch.refl (fun _ => False) w).alloc (.cells #[.int .i64 x] 2))
  have hs1 := al_size w (.cells #[.int .i64 x] 2)
  obtain ⟨a2, p2, w4, hr, ow, t2, -⟩ := Rc.Own.appw (E := encJ) (ty := 22) Try.underlying22 hi hz hsz hby rfl own (some ⟨w.heap.size, 0, none⟩) 1 [x] (Rc.Mem.new w [x] 2) (fun h => (nomatch h)) (by simp; unfold maxLen; omega) (by simp; omega) (by omega) (by omega)
  have e3 : (A ++ [x]).length = A.length + 1 := by simp
  refine ⟨a2, p2, w4, by rw [← e3]; exact hr, ow, ?_⟩
  exact Touch.trans (((Touch.refl (fun _ => False) w).alloc _).mono fun _ _ h => h.elim) t2 fun _ _ h => h
theorem jn_notC {w : World} {base D : Nat} {v : Value} {L : List Int} {cs : Array Value} (h : encJ.Own 2 w base v L) (hD : w.heap[D]? = some (.cells cs 55 (0, 0))) : ¬ v.ownBlock = some D := fun hv => by
  obtain ⟨-, cur, hc⟩ := Rc.own_block h hv
  rw [hD] at hc
  injection hc with hc
  injection hc with _ e
  cases e
theorem own_lt {α : Type} {E : Rc.Enc α} {e : TypeId} {w : World} {base : Nat} {v : Value} {L : List α} (h : E.Own e w base v L) {g : Nat} (hg : v.ownBlock = some g) : base ≤ g ∧ g < w.heap.size := by
  obtain ⟨h1, cur, hc⟩ := Rc.own_block h hg
  exact ⟨h1, lt_of_heap hc⟩
theorem rk_put {w : World} {g i : Nat} {c : Array Value} {t : TypeId} {fr : Nat × Nat} (h : w.heap[g]? = some (.cells c t fr)) (v : Value) : (w.setCell ⟨g, i, none⟩ v).heap[g]? = some (.cells (c.setIfInBounds i v) t fr) := by
  obtain ⟨hg, hv⟩ := Array.getElem?_eq_some_iff.1 h
  simp [World.setCell, hg, Array.getElem_modify, hv]

theorem rnew_bad (n : Int) (h : n < 1 ∨ 64 < n) (w : World) : Calls Try.prog 10 #[.int .i64 n] w fun e w' => e = .returned (.tuple #[.pointer none, .int .i64 2]) ∧ w' = w := by
  rcases h with h | h
  · go_enter Try.func10, Try.ntmps10
    go_wp2_with fail
    go_ret2
    exact ⟨rfl, rfl⟩
  · have h1 : ¬ n < 1 := by omega
    go_enter Try.func10, Try.ntmps10
    go_wp2_with fail
    go_ret2
    exact ⟨rfl, rfl⟩

set_option maxRecDepth 100000 in
set_option maxHeartbeats 1000000 in
theorem rnew_ok (n : Nat) (h1 : 1 ≤ n) (h2 : n ≤ 64) (w : World) : Calls Try.prog 10 #[.int .i64 (n : Int)] w fun e w' => ∃ q, e = .returned (.tuple #[.pointer (some ⟨q, 0, none⟩), .int .i64 0]) ∧ w.heap.size ≤ q ∧ Rk w' q (fun g => w.heap.size ≤ g ∧ g < w'.heap.size) (List.replicate n minT) [] ∧ Calm w w' := by
  have z1 : ¬ (n : Int) < 1 := by omega
  have z2 : ¬ 64 < (n : Int) := by omega
  have AD := hide (al_new w (.cells #[.slice none 0 0, .slice none 0 0] 55))
  have TD := hide ((Touch.refl (fun _ => False) w).alloc (.cells #[.slice none 0 0, .slice none 0 0] 55))
  go_enter Try.func10, Try.ntmps10
  go_wp2_with fail
  generalize w.alloc (.cells #[.slice none 0 0, .slice none 0 0] 55) = w1 at *
  generalize hD : w.heap.size = D at *
  go_loopw [5] (fun s5 wr => ∃ (i : Nat) (a : Option Addr) (c : Nat), s5 = .int .i64 (i : Int) ∧ i ≤ n ∧ wr.heap[D]? = some (.cells #[.slice a i c, .slice none 0 0] 55 (0, 0)) ∧ encJ.Own 2 wr (D + 1) (.slice a i c) (List.replicate i minT) ∧ Calm w wr) (fun s5 _ => n - (intOf s5).toNat)
  case atStart => exact ⟨0, none, 0, rfl, by omega, AD.out, Rc.Own.nil _ _ _, TD.out⟩
  case round =>
    obtain ⟨i, a, c, rfl, hi, AE, OE, TE⟩ := hrel
    clear AD TD
    by_cases hlt : i < n
    · have hltz : (i : Int) < (n : Int) := by omega
      have nD := jn_notC OE AE
      have hDl := lt_of_heap AE
      have OE1 : encJ.Own 2 wr (D + 1) (.slice a (List.replicate i minT).length c) (List.replicate i minT) := by rw [List.length_replicate]; exact OE
      obtain ⟨a4, p4, w4, hr, ow, t2⟩ := jn_app1 minT OE1 (by omega) (by simp; omega)
      have e0 : (List.replicate i minT).length = i := by simp
      have e1 : List.replicate i minT ++ [minT] = List.replicate (i + 1) minT := by rw [List.replicate_succ']
      rw [e1, show (List.replicate (i + 1) minT).length = i + 1 by simp] at ow
      rw [e0] at hr t2
      have A6 := t2.heap AE nD
      have cD0 : wr.cell? ⟨D, 0, none⟩ = some (.slice a i c) := (rk_cells AE).1
      have cD : w4.cell? ⟨D, 0, none⟩ = some (.slice a i c) := (rk_cells A6).1
      have fD : w4.frozen? ⟨D, 0, none⟩ = false := hd_frozen A6 0
      have A7 : Hid ((w4.setCell ⟨D, 0, none⟩ (.slice a4 (i + 1) p4)).heap[D]? = some (.cells #[.slice a4 (i + 1) p4, .slice none 0 0] 55 (0, 0))) := hide (rk_put (i := 0) A6 (.slice a4 (i + 1) p4))
      have nD6 := jn_notC ow A6
      have tS : Touch (fun d => d = D) w4 (w4.setCell ⟨D, 0, none⟩ (.slice a4 (i + 1) p4)) := (Touch.refl (fun k => k = D) w4).setCell (p := ⟨D, 0, none⟩) (fun _ => rfl) _
      have O7 := hide (Rc.Own.touch ow tS fun g hg e => nD6 (e ▸ hg))
      have T6 : Calm w w4 := Rc.Own.fresh (w0 := w) OE t2 (fun _ h => h) TE (by omega)
      have T7 := hide (T6.trans tS (fun g hg e => by omega))
      have HR := hide hr
      clear AE OE OE1 TE nD hr ow t2 A6 nD6 tS T6 e0 e1
      go_wp2_with (at_builtin; refine Rc.wpList_appR rfl (.tmp 23) (.tmp 24) 22 22 rfl _ _ _ rfl rfl HR.out ?_)
      go_roundw
      case rel => exact ⟨i + 1, a4, p4, by go_num, by omega, A7.out, O7.out, T7.out⟩
      case measure => simp [intOf]; omega
    · have hltz : ¬ (i : Int) < (n : Int) := by omega
      obtain rfl : i = n := by omega
      have hDl := lt_of_heap AE
      have RK : Rk wr D (fun g => D ≤ g ∧ g < wr.heap.size) (List.replicate i minT) [] := ⟨⟨a, c, none, 0, by simpa using AE, by simpa using Rc.Own.base OE (Nat.zero_le _), Rc.Own.nil _ _ _, fun g hg => by
        have hg' : (Value.slice a i c).ownBlock = some g := by simpa using hg
        have := own_lt OE hg'; omega, fun g hg => by simp [Value.ownBlock] at hg⟩, ⟨Nat.le_refl _, hDl⟩, fun g hg => hg.2, by intro e; have := congrArg List.length e; simp at this; omega⟩
      have HR := hide RK
      have HT := hide TE
      clear AE OE TE RK
      go_wp2_with fail
      go_ret2
      exact ⟨D, rfl, Nat.le_refl _, HR.out, HT.out⟩

end Go.Proofs.Ytcmigkemhoecfaa

namespace Go.Proofs.Ytcmigkemhoecfaa
open Go.RowKit

/-- What is in memory, and nothing: a row of its own. -/
theorem jn_copy {w : World} {mo : Option Addr} {mc : Nat} {M : List Int} (hM : encJ.Sl w mo mc M) (hl : M.length ≤ 10000000000000) :
    ∃ a1 p1 w1, (Builtin.append_ #[22, 22] 22 #[.slice none 0 0, .slice mo M.length mc]).run Try.prog w = .ok (.slice a1 M.length p1) w1 ∧ encJ.Own 2 w1 w.heap.size (.slice a1 M.length p1) M ∧ Calm w w1 := by
  obtain ⟨i0, hi, hz, hsz, hby⟩ := Rc.info_parts infoJ
  obtain ⟨a1, p1, w1, hr, ow, t1, -⟩ := Rc.Own.appw (E := encJ) (ty := 22) Try.underlying22 hi hz hsz hby rfl (Rc.Own.nil 2 w w.heap.size) mo mc M hM.mem hM.nil (by simp; unfold maxLen; omega) (by simp; omega) (by omega) (Nat.le_refl _)
  rw [List.nil_append] at hr ow
  exact ⟨a1, p1, w1, hr, ow, t1.mono fun _ _ h => by simp [Value.ownBlock] at h⟩

set_option maxRecDepth 100000 in
set_option maxHeartbeats 1000000 in
theorem rof_any (M : List Int) (mo : Option Addr) (mc : Nat) (w : World) (hM : encJ.Sl w mo mc M) (hl : M.length ≤ 140737488355328) : Calls Try.prog 11 #[.slice mo M.length mc] w fun e w' => (ofB M = false ∧ e = .returned (.tuple #[.pointer none, .int .i64 2]) ∧ Calm w w') ∨ (ofB M = true ∧ ∃ q, e = .returned (.tuple #[.pointer (some ⟨q, 0, none⟩), .int .i64 0]) ∧ w.heap.size ≤ q ∧ Rk w' q (fun g => w.heap.size ≤ g ∧ g < w'.heap.size) M [] ∧ Calm w w') := by
  by_cases h1 : M.length < 1
  · have e : ofB M = false := by unfold ofB; rw [decide_eq_false (by omega)]; rfl
    have z1 : (M.length : Int) < 1 := by omega
    generalize M.length = n at *
    have HE := hide e
    clear hM e
    go_enter Try.func11, Try.ntmps11
    go_wp2_with fail
    go_ret2
    exact .inl ⟨HE.out, rfl, Touch.refl _ _⟩
  by_cases h2 : 64 < M.length
  · have e : ofB M = false := by unfold ofB; rw [decide_eq_false (p := M.length ≤ 64) (by omega)]; simp
    have z1 : ¬ (M.length : Int) < 1 := by omega
    have z2 : 64 < (M.length : Int) := by omega
    generalize M.length = n at *
    have HE := hide e
    clear hM e
    go_enter Try.func11, Try.ntmps11
    go_wp2_with fail
    go_ret2
    exact .inl ⟨HE.out, rfl, Touch.refl _ _⟩
  have e0 : ofB M = (List.range M.length).all fun i => timC (M.getD i 0) := by unfold ofB; rw [decide_eq_true (by omega), decide_eq_true (by omega)]; rfl
  have CT := hide rtime13_any
  have AM : Hid (∀ j, j < M.length → ∃ g off, mo = some ⟨g, off, none⟩ ∧ w.cell? ⟨g, off + j, none⟩ = some (.int .i64 (M.getD j 0))) := hide fun j hj => by
    obtain ⟨g, off, e, c⟩ := ints_W hM.mem j hj
    exact ⟨g, off, e, c w (Touch.refl _ _)⟩
  obtain ⟨a1, p1, w1, hr, ow, t1⟩ := jn_copy hM (by omega)
  have HR := hide hr
  have z1 : ¬ (M.length : Int) < 1 := by omega
  have z2 : ¬ 64 < (M.length : Int) := by omega
  have FIN : Hid (∀ w', Calm w w' → w'.heap.size = w1.heap.size + 1 → (w'.heap[w1.heap.size]? = some (.cells #[.slice a1 M.length p1, .slice none 0 0] 55 (0, 0))) → Calm w1 w' → Rk w' w1.heap.size (fun g => w.heap.size ≤ g ∧ g < w'.heap.size) M []) := hide fun w' _ hs hc hT => ⟨⟨a1, p1, none, 0, hc, Rc.Own.base (Rc.Own.calm ow hT) (Nat.zero_le _), Rc.Own.nil _ _ _, fun g hg => by have := own_lt ow hg; have := hT.size; omega, fun g hg => by simp [Value.ownBlock] at hg⟩, ⟨t1.size, by omega⟩, fun g hg => hg.2, by intro e; rw [e] at h1; simp at h1⟩
  have HT1 := hide t1
  have HS : Hid (∀ g : Nat → Bool, (∀ i, g i = timC (M.getD i 0)) → ofB M = (List.range M.length).all g) := hide fun g hg => by rw [e0, show g = fun i => timC (M.getD i 0) from funext hg]
  obtain ⟨x, hx⟩ : ∃ x : Nat → Int, ∀ i, x i = M.getD i 0 := ⟨fun i => M.getD i 0, fun _ => rfl⟩
  have HO := hide (HS.out (fun i => timC (x i)) (fun i => by rw [hx]))
  have AM2 : Hid (∀ j, j < M.length → ∃ g off, mo = some ⟨g, off, none⟩ ∧ w.cell? ⟨g, off + j, none⟩ = some (.int .i64 (x j))) := hide fun j hj => by rw [hx]; exact AM.out j hj
  clear hM hr ow t1 e0 AM HS hx
  generalize ofB M = R at *
  generalize hn : M.length = n at *
  go_enter Try.func11, Try.ntmps11
  go_wp2_with fail
  go_loopw [4] (fun s4 wr => ∃ i : Nat, s4 = .int .i64 (i : Int) ∧ i ≤ n ∧ Hid (((List.range i).all fun i => timC (x i)) = true) ∧ wr = w) (fun s4 _ => n - (intOf s4).toNat)
  case atStart => exact ⟨0, rfl, by omega, hide rfl, rfl⟩
  case round =>
    obtain ⟨i, rfl, hi, HA, rfl⟩ := hrel
    by_cases hlt : i < n
    · have hltz : (i : Int) < (n : Int) := by omega
      obtain ⟨g, off, rfl, cm⟩ := AM2.out i hlt
      have C1 := hide (CT.out (x i))
      have N1 : Hid (timC (x i) = false → R = false) := hide fun h => by rw [HO.out]; exact rngK_false (f := fun i => timC (x i)) hlt h
      have Y1 : Hid (timC (x i) = true → ((List.range (i + 1)).all fun i => timC (x i)) = true) := hide fun h => by rw [rngK_succ, HA.out, h]; rfl
      generalize x i = t at *
      generalize timC t = tb at *
      clear AM2 HO HA HR FIN HT1
      go_wp2_with fail
      refine (C1.out _).mono ?_
      rintro e w2 ⟨rfl, rfl⟩
      cases tb with
      | false =>
        have N2 := hide (N1.out rfl)
        clear N1 Y1
        go_wp2_with fail
        go_ret2
        exact .inl ⟨N2.out, rfl, Touch.refl _ _⟩
      | true =>
        have Y2 := hide (Y1.out rfl)
        clear N1 Y1
        go_wp2_with fail
        go_roundw
        case rel => exact ⟨i + 1, by go_num, by omega, Y2.out, by first | rfl | trivial⟩
        case measure => simp [intOf]; omega
    · have hltz : ¬ (i : Int) < (n : Int) := by omega
      obtain rfl : i = n := by omega
      have HY : Hid (R = true) := hide (by rw [HO.out, HA.out])
      have F1 := hide (FIN.out (w1.alloc (.cells #[.slice a1 i p1, .slice none 0 0] 55)) (HT1.out.alloc _) (al_size _ _) (al_new _ _) ((Touch.refl _ _).alloc _))
      have T1 := hide (HT1.out.alloc (.cells #[.slice a1 i p1, .slice none 0 0] 55))
      have S1 := hide HT1.out.size
      clear AM2 HO HA FIN HT1
      go_wp2_with (at_builtin; refine Rc.wpList_appR rfl (.const (.slice none 0 0)) (.tmp 25) 22 22 rfl _ _ _ rfl rfl HR.out ?_)
      go_ret2
      exact .inr ⟨HY.out, w1.heap.size, rfl, S1.out, F1.out, T1.out⟩

/-- How far one goes to a name's place. -/
theorem pl_step {H : List Hd} {x : ByteArray} {i : Nat} (hi : i ≤ plN H x) : (i < H.length ∧ ltN (H.getD i hd0).n x = true ↔ i < plN H x) := by
  unfold plN at *
  induction H generalizing i with
  | nil => simp
  | cons a H ih =>
    rw [List.takeWhile_cons] at hi ⊢
    cases hb : ltN a.n x with
    | false =>
      rw [hb] at hi
      simp at hi
      subst hi
      simp [hb]
    | true =>
      rw [hb] at hi
      simp only [if_true] at hi ⊢
      cases i with
      | zero => simp [hb]
      | succ i =>
        have := ih (i := i) (by simpa using hi)
        simpa using this

set_option maxRecDepth 100000 in
set_option maxHeartbeats 1000000 in
theorem rplace_any (q : Nat) (F : Nat → Prop) (L : List Int) (H : List Hd) (x : ByteArray) (w : World) (h : Rk w q F L H) (hl : H.length ≤ 140737488355328) : Calls Try.prog 49 #[.pointer (some ⟨q, 0, none⟩), .string x] w fun e w' => e = .returned (.tuple #[.int .i64 (plN H x : Int), .bool (hasH H x)]) ∧ Calm w w' := by
  obtain ⟨lo, lc, ho, hc, -, s2, see⟩ := h.see
  obtain ⟨m, hm⟩ : ∃ m : Nat → ByteArray, ∀ j, m j = (H.getD j hd0).n := ⟨fun j => (H.getD j hd0).n, fun _ => rfl⟩
  have MW : Hid (∀ j, j < H.length → ∃ g off, ho = some ⟨g, off, none⟩ ∧ w.cell? ⟨g, off + j * 2, none⟩ = some (.string (m j))) := hide fun j hj => by
    obtain ⟨g, off, e, c⟩ := hd_W s2.mem j hj
    exact ⟨g, off, e, by rw [hm]; exact (c w (Touch.refl _ _)).1⟩
  obtain ⟨-, c1⟩ := see w (Touch.refl _ _)
  have ST : Hid (∀ i, i ≤ plN H x → (i < H.length ∧ ltN (m i) x = true ↔ i < plN H x)) := hide fun i hi => by rw [hm]; exact pl_step hi
  have HH : Hid (hasH H x = (decide (plN H x < H.length) && eqN (m (plN H x)) x)) := hide (by rw [hm]; rfl)
  have PL : Hid (plN H x ≤ H.length) := hide (plN_le H x)
  have LS : Hid (∀ a, binOp .lss 9 (.string a) (.string x) = pure (.bool (ltN a x))) := hide fun a => lss_str _ a x
  have ES : Hid (∀ a, binOp .eql 9 (.string a) (.string x) = pure (.bool (eqN a x))) := hide fun a => eql_str _ a x
  clear h s2 see hm
  generalize hasH H x = R at *
  generalize plN H x = p at *
  generalize hn : H.length = n at *
  go_enter Try.func49, Try.ntmps49
  go_wp2_with fail
  go_loopw [6] (fun s6 wr => ∃ i : Nat, s6 = .int .i64 (i : Int) ∧ i ≤ p ∧ wr = w) (fun s6 _ => p - (intOf s6).toNat)
  case atStart => exact ⟨0, rfl, by omega, rfl⟩
  case round =>
    obtain ⟨i, rfl, hi, rfl⟩ := hrel
    have st := ST.out i hi
    by_cases hp : i < p
    · obtain ⟨hin, hlt⟩ := st.2 hp
      have hinz : (i : Int) < (n : Int) := by omega
      obtain ⟨g, off, rfl, ci⟩ := MW.out i hin
      have ls := LS.out (m i)
      rw [hlt] at ls
      generalize m i = mi at *
      clear MW ST HH PL LS ES st hlt
      go_wp2_with fail
      go_roundw
      case rel => exact ⟨i + 1, by go_num, by omega, by first | rfl | trivial⟩
      case measure => simp [intOf]; omega
    · obtain rfl : i = p := by omega
      by_cases hin : i < n
      · have hinz : (i : Int) < (n : Int) := by omega
        have hlt : ltN (m i) x = false := by
          cases hb : ltN (m i) x with
          | false => rfl
          | true => exact absurd (st.1 ⟨hin, hb⟩) hp
        obtain ⟨g, off, rfl, ci⟩ := MW.out i hin
        have ls := LS.out (m i)
        rw [hlt] at ls
        have es := ES.out (m i)
        have HR : Hid (R = eqN (m i) x) := hide (by rw [HH.out, decide_eq_true hin]; rfl)
        have dz : decide ((i : Int) < (n : Int)) = true := decide_eq_true hinz
        generalize m i = mi at *
        generalize eqN mi x = eb at *
        clear MW ST HH PL LS ES st hlt
        go_wp2_with fail
        go_quiet (fail)
        go_wp2_with fail
        go_ret2
        exact ⟨by rw [HR.out]; rfl, (Touch.refl _ _).drewK nq⟩
      · have hinz : ¬ (i : Int) < (n : Int) := by omega
        have HR : Hid (R = false) := hide (by rw [HH.out, decide_eq_false hin]; rfl)
        have dz : decide ((i : Int) < (n : Int)) = false := decide_eq_false hinz
        clear MW ST HH PL LS ES st
        go_wp2_with fail
        go_quiet (fail)
        go_wp2_with fail
        go_ret2
        exact ⟨by rw [HR.out]; rfl, (Touch.refl _ _).drewK nq⟩

end Go.Proofs.Ytcmigkemhoecfaa
