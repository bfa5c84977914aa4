/- A copy of a text. The program's clock in memory; isThere, Mark, Marks, Len. The program's clock: Mark, Len, Marks. The program's clock: put, Hold. The program's clock: Set. -/
import Derived.Test.YtapnjofplilefaaGreatJ1
import Derived.Lib.Strings
import Derived.Lib.BufferWrite
import Derived.Lib.UnsafeStr
import Derived.Laws.MakeOwn
import Derived.BigQuiet
import Derived.Test.YtapnjofplilefaaGreatJ2
namespace Go.Proofs.YtapnjofplilefaaGreat
open Go.RowKit

theorem infoByte : (Tryz.prog.info? 5).map (fun i => (i.zero, i.size, i.bytes)) = some (some (.int .u8 0), 1, 1) := by kernel_rfl

theorem empty_text {s : ByteArray} (h : s.size = 0) : s = { data := #[] } := ByteArray.ext (Array.eq_empty_of_size_eq_zero h)

set_option maxRecDepth 100000 in
set_option maxHeartbeats 4000000 in
theorem cloned_any (s : ByteArray) (w : World) (hs : s.size ≤ 140737488351232) : Calls Tryz.prog 64 #[.string s] w fun e w' => e = .returned (.string s) ∧ Touch (fun _ => False) w w' := by
  by_cases h0 : s.size = 0
  · obtain rfl := empty_text h0
    go_enter Tryz.func64, Tryz.ntmps64
    go_wp2_with fail
    go_ret
    exact ⟨rfl, Touch.refl _ _⟩
  · obtain ⟨i0, hi, hz0, hz1, hz2⟩ := Rc.info_parts infoByte
    have hsz1 : (Tryz.prog.info? 5).map (·.size) = some 1 := by rw [hi]; simp [hz1]
    have hone : Tryz.prog.cellsOf 5 = 1 := by kernel_rfl
    have hne : s.data.toList ≠ [] := fun e => h0 (by rw [Lib.size_eq, e]; rfl)
    obtain ⟨M, hM, hMs⟩ : ∃ M : Array Value, (∀ W : World, (Instr.makeSlice 143 (.int .i64 (s.size : Int)) (.int .i64 (s.size : Int))).run Tryz.prog W = .ok (.slice (some ⟨W.heap.size, 0, none⟩) s.size s.size) (W.alloc (.cells M 5))) ∧ M.size = s.size :=
      ⟨madeCells (Value.int .u8 0).cells (((s.size : Nat) : Int).toNat * i0.size), fun W => by
        have h := run_make (P := Tryz.prog) W 143 5 i0 (.int .u8 0) Tryz.underlying143 hi hz0 .i64 .i64 (s.size : Int) (s.size : Int) (by omega) (by omega) (by rw [hz2]; omega) (by omega)
        simpa using h, by rw [size_madeCells, hz1]; simp⟩
    have CP := Lib.run_copy_row_string (P := Tryz.prog) (w.alloc (.cells M 5)) 143 9 3 5 w.heap.size 0 s.size s.size s M 5 Tryz.underlying143 hsz1 (heap_alloc_last w _) (Nat.le_refl _) (by omega)
    generalize hY : (M.toList.take 0 ++ Lib.byteCells s.data.toList ++ M.toList.drop (0 + s.size)).toArray = Y at CP
    have hYl : Y.toList = Lib.byteCells s.data.toList := by
      rw [← hY, List.toList_toArray, List.take_zero, List.nil_append, List.drop_of_length_le (by rw [Array.length_toList]; omega), List.append_nil]
    have hYs : Y.size = s.size := by rw [← Array.length_toList, hYl, Lib.byteCells_length, ← Lib.size_eq]
    have hrow : ((w.alloc (.cells M 5)).setRow w.heap.size Y).heap[w.heap.size]? = some (.cells Y 5 (0, 0)) := setRow_heap _ _ M _ 5 (0, 0) (heap_alloc_last w _)
    have US := Lib.run_unsafeString_row (P := Tryz.prog) ((w.alloc (.cells M 5)).setRow w.heap.size Y) 144 3 9 5 Tryz.underlying144 hone w.heap.size Y.size (by unfold World.shape?; rw [hrow]) s.data.toList hne (by rw [← Lib.size_eq]; omega) (by rw [← Lib.size_eq]; omega)
      (fun j x hx => Lib.cells_of_row hrow Y.size j _ (by rw [List.take_of_length_le (by rw [Array.length_toList]; exact Nat.le_refl _), hYl]; simp [Lib.byteCells, hx]))
    rw [← Lib.size_eq] at US
    clear hY
    have b1 : Below w.heap.size w (w.alloc (.cells M 5)) := ((Touch.refl (fun _ => False) w).alloc _).below (fun _ _ h => h)
    have b2 : Below w.heap.size (w.alloc (.cells M 5)) ((w.alloc (.cells M 5)).setRow w.heap.size Y) := ⟨rfl, rfl, rfl, by simp, fun k hk => setRow_other _ _ _ _ (by omega)⟩
    have HB := hide (Lib.below_freeze (b1.trans b2) (p := ⟨w.heap.size, 0, none⟩) (Nat.le_refl _) s.size)
    clear b1 b2 hrow hYl hYs hMs hi hz0 hz1 hz2
    go_enter Tryz.func64, Tryz.ntmps64
    go_wp2_with fail
    go_ret
    exact ⟨rfl, (Touch.of_below HB.out).mono (fun k hk h => by omega)⟩

set_option maxRecDepth 100000 in
theorem clone_any (s : ByteArray) (w : World) (hs : s.size ≤ 140737488351232) : Calls Tryz.prog 52 #[.string s] w fun e w' => e = .returned (.string s) ∧ Touch (fun _ => False) w w' := by
  have K := hide (fun W => cloned_any s W hs)
  go_enter Tryz.func52, Tryz.ntmps52
  go_wp2_with fail
  refine (K.out _).mono ?_
  rintro e w1 ⟨rfl, t1⟩
  go_wp2_with fail
  go_ret
  exact ⟨rfl, t1⟩

end Go.Proofs.YtapnjofplilefaaGreat

namespace Go.Proofs.YtapnjofplilefaaGreat
open Go.RowKit

/-- Where a name's hold lies. -/
def Fm (f : ByteArray → Option Nat) (V : List Ho) : Prop := ∀ x b, f x = some b ↔ ∃ v ∈ V, v.n = x ∧ v.b = b
theorem Fm.perm {f : ByteArray → Option Nat} {V V' : List Ho} (h : Fm f V) (hp : V'.Perm V) : Fm f V' := fun x b => (h x b).trans ⟨fun ⟨v, a, c⟩ => ⟨v, hp.mem_iff.2 a, c⟩, fun ⟨v, a, c⟩ => ⟨v, hp.mem_iff.1 a, c⟩⟩
theorem Fm.nil : Fm (fun _ => none) [] := fun x b => by simp
theorem Fm.more {f : ByteArray → Option Nat} {V : List Ho} (h : Fm f V) (x : Ho) (hx : ∀ v ∈ V, v.n ≠ x.n) : Fm (putf f x.n x.b) (V ++ [x]) := fun y b => by
  unfold putf
  by_cases e : y = x.n
  · subst e
    rw [if_pos rfl]
    constructor
    · intro h1
      injection h1 with h1
      exact ⟨x, by simp, rfl, h1⟩
    · rintro ⟨v, hv, a, c⟩
      rcases List.mem_append.1 hv with hv | hv
      · exact absurd a (hx v hv)
      · rw [List.mem_singleton] at hv
        rw [← c, hv]
  · rw [if_neg e, h y b]
    constructor
    · rintro ⟨v, hv, a, c⟩
      exact ⟨v, by simp [hv], a, c⟩
    · rintro ⟨v, hv, a, c⟩
      rcases List.mem_append.1 hv with hv | hv
      · exact ⟨v, hv, a, c⟩
      · rw [List.mem_singleton] at hv
        exact absurd (by rw [← a, hv]) e
theorem Fm.less {f : ByteArray → Option Nat} {V : List Ho} (h : Fm f V) {n : Nat} (hn : n + 1 = V.length) (nd : ∀ i j, i < V.length → j < V.length → (nh V i).n = (nh V j).n → i = j) : Fm (delf f (nh V n).n) (V.take n) := fun y b => by
  have hl : (V.take n).length = n := by rw [List.length_take]; omega
  unfold delf
  by_cases e : y = (nh V n).n
  · rw [if_pos e]
    constructor
    · intro h1; cases h1
    · rintro ⟨v, hv, a, c⟩
      exfalso
      obtain ⟨i, hi, e2⟩ := mem_nh.1 hv
      rw [hl] at hi
      rw [nh_take hi] at e2
      have := nd i n (by omega) (by omega) (by rw [e2, a, e])
      omega
  · rw [if_neg e, h y b]
    constructor
    · rintro ⟨v, hv, a, c⟩
      obtain ⟨i, hi, e2⟩ := mem_nh.1 hv
      have : i ≠ n := by
        rintro rfl
        exact e (by rw [e2, a])
      exact ⟨v, mem_nh.2 ⟨i, by omega, by rw [nh_take (by omega)]; exact e2⟩, a, c⟩
    · rintro ⟨v, hv, a, c⟩
      exact ⟨v, List.mem_of_mem_take hv, a, c⟩
theorem Fm.anew {f : ByteArray → Option Nat} {V : List Ho} (h : Fm f V) {i : Nat} (hi : i < V.length) (t : Int) : Fm f (V.set i ⟨(nh V i).b, (nh V i).n, t⟩) := fun y b => (h y b).trans ⟨fun ⟨v, hv, a, c⟩ => by
  obtain ⟨k, hk, e⟩ := mem_nh.1 hv
  by_cases e2 : k = i
  · subst e2
    exact ⟨_, List.mem_set hk _, by rw [← a, ← e], by rw [← c, ← e]⟩
  · exact ⟨v, mem_nh.2 ⟨k, by simpa using hk, by rw [nh_set hi, if_neg e2]; exact e⟩, a, c⟩, fun ⟨v, hv, a, c⟩ => by
  obtain ⟨k, hk, e⟩ := mem_nh.1 hv
  rw [List.length_set] at hk
  rw [nh_set hi] at e
  split at e
  · exact ⟨nh V i, nh_mem hi, by rw [← a, ← e], by rw [← c, ← e]⟩
  · exact ⟨v, mem_nh.2 ⟨k, hk, e⟩, a, c⟩⟩

/-- The program's clock at q, in the blocks G. -/
structure Clk (w : World) (q : Nat) (G : Nat → Prop) (L : List Int) (H : List Hd) : Prop where
  ex : ∃ (V : List Ho) (p m : Nat) (f : ByteArray → Option Nat) (lo : Option Addr) (lc : Nat) (Gp : Nat → Prop), w.heap[q]? = some (.cells #[.slice lo L.length lc, cp p, .map (some m)] 116 (0, 0)) ∧ encJ.Own 2 w 0 (.slice lo L.length lc) L ∧ (∀ g, (Value.slice lo L.length lc).ownBlock = some g → G g) ∧ Pl w p Gp V ∧ (∀ g, Gp g → G g ∧ g ≠ q ∧ g ≠ m ∧ (Value.slice lo L.length lc).ownBlock ≠ some g) ∧ Mp w m V.length f ∧ G m ∧ Fm f V ∧ Lk V H ∧ Hp V V.length ∧ ∀ v ∈ V, v.n.size ≤ capX
  at_ : G q
  lt : ∀ g, G g → g < w.heap.size
  ne : L ≠ []
  len : L.length ≤ 64

theorem Clk.touch {w w' : World} {q : Nat} {G S : Nat → Prop} {L : List Int} {H : List Hd} (h : Clk w q G L H) (ht : Touch S w w') (hS : ∀ g, G g → ¬ S g) : Clk w' q G L H := by
  obtain ⟨V, p, m, f, lo, lc, Gp, h1, h2, h3, h4, hg, h5, h6, h7⟩ := h.ex
  exact ⟨⟨V, p, m, f, lo, lc, Gp, ht.heap h1 (hS q h.at_), Rc.Own.touch h2 ht (fun g hg => hS g (h3 g hg)), h3, h4.touch ht (fun g hh => hS g (hg g hh).1), hg, h5.touch ht (hS m h6), h6, h7⟩, h.at_, fun g hg => Nat.lt_of_lt_of_le (h.lt g hg) ht.size, h.ne, h.len⟩
theorem Clk.calm {w w' : World} {q : Nat} {G : Nat → Prop} {L : List Int} {H : List Hd} (h : Clk w q G L H) (ht : Calm w w') : Clk w' q G L H := h.touch ht fun _ _ h => h
theorem clk_cells {w : World} {q : Nat} {a b c : Value} {ty : TypeId} (h : w.heap[q]? = some (.cells #[a, b, c] ty (0, 0))) : w.cell? ⟨q, 0, none⟩ = some a ∧ w.cell? ⟨q, 1, none⟩ = some b ∧ w.cell? ⟨q, 2, none⟩ = some c := by simp [World.cell?, h]

theorem isTime_any (t : Int) (w : World) : Calls Tryz.prog 44 #[.int .i64 t] w fun e w' => e = .returned (.bool (!timC t)) ∧ w' = w := by
  by_cases h1 : -4611686018427387904 ≤ t
  · by_cases h2 : t ≤ 4611686018427387904
    · have e : timC t = true := by simp [timC, h1, h2]
      rw [e]
      have h1' : ¬ t < -4611686018427387904 := by omega
      have h2' : ¬ 4611686018427387904 < t := by omega
      clear e
      go_enter Tryz.func44, Tryz.ntmps44
      go_wp2_with fail
      go_ret
      exact ⟨rfl, rfl⟩
    · have e : timC t = false := by simp [timC, h1, h2]
      rw [e]
      have h1' : ¬ t < -4611686018427387904 := by omega
      have h2' : 4611686018427387904 < t := by omega
      clear e
      go_enter Tryz.func44, Tryz.ntmps44
      go_wp2_with fail
      go_ret
      exact ⟨rfl, rfl⟩
  · have e : timC t = false := by simp [timC, h1]
    rw [e]
    have h1' : t < -4611686018427387904 := by omega
    clear e
    go_enter Tryz.func44, Tryz.ntmps44
    go_wp2_with fail
    go_ret
    exact ⟨rfl, rfl⟩

theorem there_any (q : Nat) (lo : Option Addr) (n lc : Nat) (w : World) (hn : 0 < n) (hc : w.cell? ⟨q, 0, none⟩ = some (.slice lo n lc)) : Calls Tryz.prog 48 #[cp q] w fun e w' => e = .returned (.bool true) ∧ w' = w := by
  have z : 0 < (n : Int) := by omega
  go_enter Tryz.func48, Tryz.ntmps48
  go_wp2_with fail
  go_ret
  exact ⟨rfl, rfl⟩
theorem there_nil (w : World) : Calls Tryz.prog 48 #[.pointer none] w fun e w' => e = .returned (.bool false) ∧ w' = w := by
  go_enter Tryz.func48, Tryz.ntmps48
  go_wp2_with fail
  go_ret
  exact ⟨rfl, rfl⟩
theorem there_zero (q : Nat) (w : World) (hc : w.cell? ⟨q, 0, none⟩ = some (.slice none 0 0)) : Calls Tryz.prog 48 #[cp q] w fun e w' => e = .returned (.bool false) ∧ w' = w := by
  go_enter Tryz.func48, Tryz.ntmps48
  go_wp2_with fail
  go_ret
  exact ⟨rfl, rfl⟩

set_option maxRecDepth 100000 in
set_option maxHeartbeats 1000000 in
theorem smin_any (L : List Int) (lo : Option Addr) (lc : Nat) (w : World) (hm : encJ.Mem w lo L) (hne : L ≠ []) (hl : L.length ≤ 140737488355328) : Calls Tryz.prog 49 #[.slice lo L.length lc] w fun e w' => e = .returned (.int .i64 (mkN L)) ∧ w' = w := by
  have hpos : 0 < L.length := List.length_pos_iff.2 hne
  obtain ⟨m, f, hM, f0, fs, fl⟩ : ∃ (m f : Nat → Int), (∀ j, m j = L.getD j 0) ∧ f 1 = m 0 ∧ (∀ i, i < L.length → f (i + 1) = min (f i) (m i)) ∧ f L.length = mkN L := ⟨fun j => L.getD j 0, fun i => (L.take i).foldl min (L.getD 0 0), fun _ => rfl, by
    have := mk_next L 0 hpos
    simp only [Nat.zero_add, List.take_zero, List.foldl_nil] at this
    show List.foldl min (L.getD 0 0) (List.take 1 L) = _
    rw [this]
    exact Int.min_self _, fun i hi => mk_next L i hi, by simp only [List.take_length]; rfl⟩
  have MW : Hid (∀ j, j < L.length → ∃ g off, lo = some ⟨g, off, none⟩ ∧ w.cell? ⟨g, off + j, none⟩ = some (.int .i64 (m j))) := hide fun j hj => by
    obtain ⟨g, off, e, c⟩ := ints_W hm j hj
    exact ⟨g, off, e, by rw [hM]; exact c w (Touch.refl _ _)⟩
  obtain ⟨g, off, rfl, m0⟩ := MW.out 0 hpos
  rw [Nat.add_zero] at m0
  have FS := hide fs
  have FL := hide fl
  have F0 := hide f0
  clear hm hM fs fl f0 hne
  generalize mkN L = R at *
  generalize hn : L.length = n at *
  have hpz : (0 : Int) < (n : Int) := by omega
  have hpz1 : ¬ (n : Int) < 1 := by omega
  go_enter Tryz.func49, Tryz.ntmps49
  go_wp2_with fail
  go_loopw [3, 4] (fun s3 s4 wr => ∃ i : Nat, s4 = .int .i64 (i : Int) ∧ 1 ≤ i ∧ i ≤ n ∧ s3 = .int .i64 (f i) ∧ wr = w) (fun _ s4 _ => n - (intOf s4).toNat)
  case atStart => exact ⟨1, rfl, by omega, by omega, by rw [F0.out], rfl⟩
  case round =>
    obtain ⟨i, rfl, hi1, hi, rfl, rfl⟩ := hrel
    by_cases hlt : i < n
    · have hltz : (i : Int) < (n : Int) := by omega
      obtain ⟨g', off', e, ci⟩ := MW.out i hlt
      injection e with e
      injection e with e1 e2
      subst e1 e2
      have HZ := hide (FS.out i hlt)
      clear MW FS FL F0 m0
      go_wp2_with fail
      go_roundw
      case rel => exact ⟨i + 1, by go_num, by omega, by omega, by rw [HZ.out], by first | rfl | trivial⟩
      case measure => simp [intOf]; omega
    · have hltz : ¬ (i : Int) < (n : Int) := by omega
      obtain rfl : i = n := by omega
      clear MW FS m0
      go_wp2_with fail
      go_ret
      exact ⟨by rw [← FL.out]; rfl, rfl⟩

end Go.Proofs.YtapnjofplilefaaGreat

namespace Go.Proofs.YtapnjofplilefaaGreat
open Go.RowKit

theorem Clk.pos {w : World} {q : Nat} {G : Nat → Prop} {L : List Int} {H : List Hd} (h : Clk w q G L H) : 0 < L.length := List.length_pos_iff.2 h.ne

theorem mark_any {w : World} {q : Nat} {G : Nat → Prop} {L : List Int} {H : List Hd} (h : Clk w q G L H) : Calls Tryz.prog 32 #[cp q] w fun e w' => e = .returned (.int .i64 (mkN L)) ∧ w' = w := by
  obtain ⟨V, p, m, f, lo, lc, Gp, h1, h2, -⟩ := h.ex
  have CT := hide (there_any q lo L.length lc w h.pos (clk_cells h1).1)
  have CM := hide (smin_any L lo lc w (Rc.Own.mem h2).2.1 h.ne (by have := h.len; omega))
  have c0 := (clk_cells h1).1
  clear h h1 h2
  generalize L.length = n at *
  generalize mkN L = R at *
  go_enter Tryz.func32, Tryz.ntmps32
  go_wp2_with fail
  refine CT.out.mono ?_
  rintro e w9 ⟨rfl, rfl⟩
  clear CT
  go_wp2_with fail
  refine CM.out.mono ?_
  rintro e w9 ⟨rfl, rfl⟩
  clear CM
  go_wp2_with fail
  go_ret
  exact ⟨rfl, rfl⟩

theorem len_any {w : World} {q : Nat} {G : Nat → Prop} {L : List Int} {H : List Hd} (h : Clk w q G L H) : Calls Tryz.prog 114 #[cp q] w fun e w' => e = .returned (.int .i64 (H.length : Int)) ∧ w' = w := by
  obtain ⟨V, p, m, f, lo, lc, Gp, h1, h2, h3, h4, hg, h5, h6, h7, h8, -⟩ := h.ex
  obtain ⟨po, pc, c1⟩ := h4.len
  rw [h8.len] at c1
  have CT := hide (there_any q lo L.length lc w h.pos (clk_cells h1).1)
  have CN := hide (plen_any po H.length pc w)
  have c0 := (clk_cells h1).2.1
  clear h h1 h2 h3 h4 hg h5 h6 h7 h8
  generalize H.length = n at *
  go_enter Tryz.func114, Tryz.ntmps114
  go_wp2_with fail
  refine CT.out.mono ?_
  rintro e w9 ⟨rfl, rfl⟩
  clear CT
  go_wp2_with fail
  refine CN.out.mono ?_
  rintro e w9 ⟨rfl, rfl⟩
  clear CN
  go_wp2_with fail
  go_ret
  exact ⟨rfl, rfl⟩

/-- What is read of the first hold. -/
theorem Clk.top {w : World} {q : Nat} {G : Nat → Prop} {L : List Int} {H : List Hd} (h : Clk w q G L H) (h0 : 0 < H.length) : ∃ p g pc b, (bestH H).n.size ≤ capX ∧ ∀ W, Calm w W → W.cell? ⟨q, 1, none⟩ = some (cp p) ∧ W.cell? ⟨p, 0, none⟩ = some (.slice (some ⟨g, 0, none⟩) H.length pc) ∧ W.cell? ⟨g, 0, none⟩ = some (cp b) ∧ W.cell? ⟨b, 0, none⟩ = some (.string (bestH H).n) ∧ W.cell? ⟨b, 1, none⟩ = some (.int .i64 (bestH H).t) := by
  obtain ⟨V, p, m, f, lo, lc, Gp, h1, h2, h3, h4, hg, h5, h6, h7, h8, h9, h10⟩ := h.ex
  have hl := h8.len
  obtain ⟨po, pc, hp, ho, -⟩ := h4.ex
  obtain ⟨g, cur, rfl, -, -⟩ := own_some ho (by omega)
  have e := h8.best h9 (by omega)
  refine ⟨p, g, pc, (nh V 0).b, by rw [e]; exact h10 _ (nh_mem (by omega)), fun W hW => ?_⟩
  obtain ⟨g', off, e1, c1, c2, c3, -⟩ := (h4.hs.touch hW fun _ _ h => h).see (Rc.Mem.calm (Rc.Own.mem ho).2.1 hW) 0 (by omega)
  injection e1 with e1
  injection e1 with e1 e2
  subst e1 e2
  rw [e]
  exact ⟨(clk_cells (hW.at h1)).2.1, by rw [← hl]; exact (one_cell (hW.at hp)).1, c1, c2, c3⟩

theorem own_empty {α : Type} (E : Rc.Enc α) (e : TypeId) (w : World) : E.Own e (w.alloc (.cells #[] e)) w.heap.size (.slice (some ⟨w.heap.size, 0, none⟩) 0 0) [] :=
  ⟨by rw [E.flat_len], .inr ⟨w.heap.size, 0, #[], rfl, Nat.le_refl _, al_new _ _, by simp, by unfold maxLen; omega, by simp, by simp [Rc.Enc.flat]⟩⟩

set_option maxRecDepth 100000 in
theorem sclone_any (L : List Int) (lo : Option Addr) (lc : Nat) (w : World) (hm : encJ.Sl w lo lc L) (hne : L ≠ []) (hl : L.length ≤ 1000) : Calls Tryz.prog 45 #[.slice lo L.length lc] w fun e w' => ∃ a c, e = .returned (.slice a L.length c) ∧ encJ.Own 2 w' w.heap.size (.slice a L.length c) L ∧ Calm w w' := by
  obtain ⟨i0, hi, hz, hsz, hby⟩ := Rc.info_parts infoJ
  have T1 := (Touch.refl (fun _ => False) w).alloc (.cells #[] 2)
  obtain ⟨a1, p1, w1, hr, ow, t1, -⟩ := Rc.Own.appw (E := encJ) (ty := 49) Tryz.underlying49 hi hz hsz hby rfl (own_empty encJ 2 w) lo lc L (Rc.Mem.calm hm.mem T1) hm.nil (by simp; unfold maxLen; omega) (by simp; omega) (by omega) (by simp)
  rw [List.nil_append] at hr ow
  have FIN := hide (And.intro ow (Touch.trans T1 t1 (fun g hg e => by simp only [Value.ownBlock, Option.some.injEq] at e; omega)))
  obtain ⟨g, off, rfl, -⟩ := ints_W hm.mem 0 (List.length_pos_iff.2 hne)
  have NE : ∀ W : World, (binOp .eql 49 (.slice (some ⟨g, off, none⟩) L.length lc) (.slice none 0 0)).run Tryz.prog W = .ok (.bool false) W := fun W => by first | rfl | kernel_rfl
  have HR := hide hr
  clear hm hne hl T1 hr ow t1 hi hz hsz hby
  generalize L.length = n at *
  go_enter Tryz.func45, Tryz.ntmps45
  go_wp2_with (at_builtin; refine Rc.wpList_appR rfl (.tmp 5) (.tmp 6) 49 49 rfl _ _ _ rfl rfl HR.out ?_)
  go_ret
  exact ⟨a1, p1, rfl, FIN.out⟩

theorem marks_any {w : World} {q : Nat} {G : Nat → Prop} {L : List Int} {H : List Hd} (h : Clk w q G L H) : Calls Tryz.prog 38 #[cp q] w fun e w' => ∃ a c, e = .returned (.slice a L.length c) ∧ encJ.Own 2 w' w.heap.size (.slice a L.length c) L ∧ Calm w w' := by
  obtain ⟨V, p, m, f, lo, lc, Gp, h1, h2, -⟩ := h.ex
  have CT := hide (there_any q lo L.length lc w h.pos (clk_cells h1).1)
  have CM := hide (sclone_any L lo lc w (Rc.Own.sl h2) h.ne (by have := h.len; omega))
  have c0 := (clk_cells h1).1
  clear h h1 h2
  generalize L.length = n at *
  go_enter Tryz.func38, Tryz.ntmps38
  go_wp2_with fail
  refine CT.out.mono ?_
  rintro e w9 ⟨rfl, rfl⟩
  clear CT
  go_wp2_with fail
  refine CM.out.mono ?_
  rintro e w8 ⟨a, c, rfl, ow, t⟩
  have FIN := hide (And.intro ow t)
  clear CM ow t
  go_wp2_with fail
  go_ret
  exact ⟨a, c, rfl, FIN.out⟩

end Go.Proofs.YtapnjofplilefaaGreat

namespace Go.Proofs.YtapnjofplilefaaGreat
open Go.RowKit

theorem Pl.bound {w : World} {p : Nat} {G : Nat → Prop} {V : List Ho} (h : Pl w p G V) : Pl w p (fun g => G g ∧ g < w.heap.size) V := by
  obtain ⟨po, pc, h1, h2, h3⟩ := h.ex
  exact ⟨⟨po, pc, h1, h2, fun g hg => ⟨h3 g hg, (own_lt h2 hg).2⟩⟩, h.hs, ⟨h.at_, lt_of_heap h1⟩, fun i hi => ⟨h.in_ i hi, lt_of_heap (h.hs.at_ i hi)⟩⟩

/-- A step of the clock's: what it leaves. -/
def Next (w : World) (q : Nat) (G : Nat → Prop) (L : List Int) (H : List Hd) (w' : World) : Prop := Touch G w w' ∧ ∃ G', Clk w' q G' L H ∧ ∀ g, G' g → G g ∨ w.heap.size ≤ g

set_option maxRecDepth 100000 in
set_option maxHeartbeats 1000000 in
theorem put_any {w : World} {q : Nat} {G : Nat → Prop} {L : List Int} {H : List Hd} (x : ByteArray) (t : Int) (h : Clk w q G L H) (hx : x.size ≤ capX) (hn : hasH H x = false) (hl : H.length ≤ capH) : Calls Tryz.prog 68 #[cp q, .string x, .int .i64 t] w fun e w' => e = .returned (.tuple #[]) ∧ Next w q G L (holdH H x t) w' := by
  obtain ⟨V, p, m, f, lo, lc, Gp, h1, h2, h3, h4, hg, h5, h6, h7, h8, h9, h10⟩ := h.ex
  have hl2 : H.length ≤ 4600000000000 := hl
  have hlen := h8.len
  have hB := al_new w (.cells #[.string x, .int .i64 t, .int .i64 0] 149)
  have T1 := (Touch.refl (fun _ => False) w).alloc (.cells #[.string x, .int .i64 t, .int .i64 0] 149)
  have sz := al_size w (.cells #[.string x, .int .i64 t, .int .i64 0] 149)
  have q1 := T1.at h1
  obtain ⟨w2, hr, m2, T2⟩ := (h5.calm T1).put (x := x) hx w.heap.size (by unfold maxLen; omega)
  have nf : ∀ v ∈ V, v.n ≠ x := fun v hv e => by
    obtain ⟨i, hi, e2⟩ := mem_nh.1 hv
    have := (h8.has x).2 ⟨i, hi, by rw [e2]; exact e⟩
    rw [hn] at this; cases this
  have fx : f x = none := by
    cases e : f x with
    | none => rfl
    | some b =>
      obtain ⟨v, hv, a, -⟩ := (h7 x b).1 e
      exact absurd a (nf v hv)
  rw [fx] at m2
  have m2 : Mp w2 m (V.length + 1) (putf f x w.heap.size) := m2
  have nqm : q ≠ m := by
    rintro rfl
    obtain ⟨es, cl, hm⟩ := h5.isMap
    rw [h1] at hm; cases hm
  have q2 := T2.heap q1 nqm
  have Bm : w.heap.size ≠ m := by have := h.lt m h6; omega
  have B2 := T2.heap hB Bm
  have p2 := (h4.calm T1).touch T2 (fun g hh e => (hg g hh).2.2.1 e)
  have o2 := Rc.Own.touch (Rc.Own.calm h2 T1) T2 (fun g hh e => by
    obtain ⟨-, cur, hc⟩ := Rc.own_block h2 hh
    obtain ⟨es, cl, hm⟩ := h5.isMap
    rw [e, hm] at hc; cases hc)
  have nb : ∀ i, i < V.length → (nh V i).b ≠ w.heap.size := fun i hi e => by have := lt_of_heap (h4.hs.at_ i hi); omega
  have CP := hide (hpush_any V p Gp ⟨w.heap.size, x, t⟩ 0 w2 p2 h9 B2 nb (by omega))
  have s2 := T2.size
  have FIN : Hid (∀ w3 V', Pl w3 p (fun g => Gp g ∨ g = w.heap.size ∨ w2.heap.size ≤ g) V' → V'.Perm (V ++ [⟨w.heap.size, x, t⟩]) → Touch (fun g => Gp g ∨ g = w.heap.size) w2 w3 → Hp V' V'.length → Next w q G L (holdH H x t) w3) := hide fun w3 V' p3 perm T3 hp3 => by
    have s3 := T3.size
    have le : V'.length = V.length + 1 := by rw [perm.length_eq]; simp
    refine ⟨?_, fun g => (G g ∨ w.heap.size ≤ g) ∧ g < w3.heap.size, ⟨⟨V', p, m, putf f x w.heap.size, lo, lc, _, T3.heap q2 ?_, Rc.Own.touch o2 T3 ?_, fun g hh => ⟨.inl (h3 g hh), ?_⟩, p3.bound, fun g hh => ?_, ?_, ⟨.inl h6, ?_⟩, (h7.more ⟨w.heap.size, x, t⟩ nf).perm perm, (h8.more w.heap.size x t hn).perm perm, hp3, fun v hv => ?_⟩, ⟨.inl h.at_, ?_⟩, fun g hh => hh.2, h.ne, h.len⟩, fun g hh => hh.1⟩
    · refine Touch.trans (Touch.trans (T1.mono (S' := G) fun _ _ h => h.elim) (T2.mono (S' := G) fun g _ e => by rw [e]; exact h6) fun _ _ h => h) (T3.mono (S' := fun g => G g ∨ g = w.heap.size) fun g _ e => ?_) fun g hgl e => ?_
      · rcases e with e | e
        · exact .inl (hg g e).1
        · exact .inr e
      · rcases e with e | e
        · exact e
        · omega
    · rintro (e | e)
      · exact (hg q e).2.1 rfl
      · have := h.lt q h.at_; omega
    · intro g hh e
      rcases e with e | e
      · exact (hg g e).2.2.2 hh
      · have := (own_lt h2 hh).2; omega
    · have := (own_lt h2 hh).2; omega
    · rcases hh.1 with e | e | e
      · have := hg g e
        exact ⟨⟨.inl this.1, hh.2⟩, this.2⟩
      · have := h.lt q h.at_
        have := h.lt m h6
        exact ⟨⟨.inr (by omega), hh.2⟩, by omega, by omega, fun hv => by have := (own_lt h2 hv).2; omega⟩
      · have := h.lt q h.at_
        have := h.lt m h6
        exact ⟨⟨.inr (by omega), hh.2⟩, by omega, by omega, fun hv => by have := (own_lt h2 hv).2; omega⟩
    · rw [le]
      refine m2.touch T3 ?_
      rintro (e | e)
      · exact (hg m e).2.2.1 rfl
      · exact Bm e.symm
    · have := h.lt m h6; omega
    · rcases List.mem_append.1 (perm.mem_iff.1 hv) with hv | hv
      · exact h10 v hv
      · rw [List.mem_singleton] at hv
        rw [hv]; exact hx
    · have := h.lt q h.at_; omega
  have k1 := (clk_cells q1).2.2
  have k2 := (clk_cells q2).2.1
  clear h1 h2 h3 h4 h5 h6 h7 h8 h9 h10 hg h hx hn hl hl2 hlen hB T1 sz q1 T2 nf fx m2 nqm q2 Bm B2 p2 o2 nb s2
  go_enter Tryz.func68, Tryz.ntmps68
  go_wp2_with fail
  refine CP.out.mono ?_
  rintro e w3 ⟨rfl, V', p3, perm, T3, hp3⟩
  have N := hide (FIN.out w3 V' p3 perm T3 hp3)
  clear p3 perm T3 hp3 FIN CP hr k1 k2
  go_wp2_with fail
  go_end0
  exact ⟨rfl, N.out⟩

theorem flatV (V : List Ho) : encV.flat V = V.map fun v => cp v.b := by
  unfold Rc.Enc.flat
  induction V with
  | nil => rfl
  | cons v V ih => rw [List.flatMap_cons, ih]; rfl
theorem Pl.anew {w : World} {p : Nat} {G : Nat → Prop} {V : List Ho} (h : Pl w p G V) {i : Nat} (hi : i < V.length) (t : Int) : Pl (w.setCell ⟨(nh V i).b, 1, none⟩ (.int .i64 t)) p G (V.set i ⟨(nh V i).b, (nh V i).n, t⟩) ∧ Touch (fun g => g = (nh V i).b) w (w.setCell ⟨(nh V i).b, 1, none⟩ (.int .i64 t)) := by
  have T := (Touch.refl (fun k => k = (nh V i).b) w).setCell (p := ⟨(nh V i).b, 1, none⟩) (fun _ => rfl) (.int .i64 t)
  refine ⟨?_, T⟩
  obtain ⟨po, pc, h1, h2, h3⟩ := h.ex
  have eq : encV.flat (V.set i ⟨(nh V i).b, (nh V i).n, t⟩) = encV.flat V := by
    rw [flatV, flatV, List.map_set]
    have : cp (nh V i).b = (V.map fun v => cp v.b)[i]'(by simpa using hi) := by rw [List.getElem_map, nh_eq hi]
    show (List.map (fun v => cp v.b) V).set i (cp (nh V i).b) = _
    rw [this, List.set_getElem_self]
  have o2 := Rc.Own.touch h2 T (fun g hg e => by
    obtain ⟨-, cur, hc⟩ := Rc.own_block h2 hg
    exact tags hc (h.hs.at_ i hi) (by decide) e)
  refine ⟨⟨po, pc, by rw [List.length_set]; exact T.heap h1 (tags h1 (h.hs.at_ i hi) (by decide)), ?_, by rw [List.length_set]; exact h3⟩, ⟨fun k hk => ?_, fun k l hk hl e => ?_⟩, h.at_, fun k hk => ?_⟩
  · unfold Rc.Enc.Own at o2 ⊢
    rw [eq, List.length_set]
    exact o2
  · rw [List.length_set] at hk
    rw [nh_set hi]
    split
    · rename_i e
      subst e
      exact heap_setCell_row (i := 1) (h.hs.at_ k hk) (.int .i64 t)
    · rename_i e
      exact T.heap (h.hs.at_ k hk) (fun e2 => e (h.hs.inj k i hk hi e2))
  · rw [List.length_set] at hk hl
    have b : ∀ j, (nh (V.set i ⟨(nh V i).b, (nh V i).n, t⟩) j).b = (nh V j).b := fun j => by
      rw [nh_set hi]
      split
      · rename_i e; rw [e]
      · rfl
    rw [b, b] at e
    exact h.hs.inj k l hk hl e
  · rw [List.length_set] at hk
    rw [nh_set hi]
    split
    · exact h.in_ i hi
    · exact h.in_ k hk

end Go.Proofs.YtapnjofplilefaaGreat

namespace Go.Proofs.YtapnjofplilefaaGreat
open Go.RowKit

/-- A drawn region with a call that changes the world, and operations behind it. -/
theorem wpAnyZ_callH {P : Program} {md : Region.Mode} {ops : Array Oper} {Q : Exit → Act → World → Prop} {S : World → Prop} (S2 : World → World → Prop) {z : Nat} {d : Tmp} {f : FuncId} {args : Array Value} {oi : Oper} {fuel : Nat} {listed : Array Bool} {a : Act} {w : World} (hi : ops[z]? = some oi) (hd : oi.dst = some d)
    (hr : Region.ready md ops listed = [z]) (hw : Region.wanted oi (yielded ops a.tmps) = true) (hrun : (execOp a.eval oi).run P w = .ok (.enter f args) w)
    (hc : Calls P f args w fun e w'' => ∃ v, e = .returned v ∧ wpAnyH P md ops Q (S2 w'') fuel (listed.setIfInBounds z true) (a.put (some d) v) w'') : wpAnyZ P md ops Q S z (fuel + 1) listed a w := by
  refine ⟨fun h0 => (by rw [hr] at h0; cases h0), fun j hj => ?_⟩
  rw [hr] at hj
  obtain rfl : j = z := by simpa using hj
  unfold wpOp
  simp only [hi, hw, if_true]
  left
  unfold Oper.wp
  rw [hrun, Oper.upon_enter]
  refine hc.mono fun e w'' hh => ?_
  obtain ⟨v, rfl, h⟩ := hh
  rw [hd]
  exact wpAny_of_held _ _ _ _ h

set_option maxRecDepth 100000 in
set_option maxHeartbeats 1000000 in
theorem set_bad {w : World} {q : Nat} {G : Nat → Prop} {L : List Int} {H : List Hd} (s t : Int) (h : Clk w q G L H) (hb : setB L s t = false) : Calls Tryz.prog 54 #[cp q, .int .i64 s, .int .i64 t] w fun e w' => e = .returned (.tuple #[.int .i64 0, .int .i64 0, .int .i64 5]) ∧ Calm w w' := by
  obtain ⟨V, p, m, f, lo, lc, Gp, hc, -⟩ := h.ex
  have CH := hide (there_any q lo L.length lc w h.pos (clk_cells hc).1)
  have c0 := (clk_cells hc).1
  have CT := hide (isTime_any t w)
  unfold setB at hb
  generalize timC t = tb at *
  generalize L.length = n at *
  clear h hc
  by_cases h0 : s < 0
  · clear hb
    go_enter Tryz.func54, Tryz.ntmps54
    go_wp2_with fail
    refine CH.out.mono ?_
    rintro e w9 ⟨rfl, rfl⟩
    go_wp2_with fail
    go_ret3
    exact ⟨rfl, Touch.refl _ _⟩
  by_cases h1 : s < n
  · have ht : tb = false := by
      rw [decide_eq_true (by omega), decide_eq_true h1] at hb
      simpa using hb
    subst ht
    have z0 : ¬ (n : Int) ≤ s := by omega
    clear hb
    go_enter Tryz.func54, Tryz.ntmps54
    go_wp2_with fail
    refine CH.out.mono ?_
    rintro e w9 ⟨rfl, rfl⟩
    go_wp2_with fail
    refine CT.out.mono ?_
    rintro e w1 ⟨rfl, rfl⟩
    go_wp2_with fail
    go_ret3
    exact ⟨rfl, Touch.refl _ _⟩
  · have z0 : (n : Int) ≤ s := by omega
    clear hb
    go_enter Tryz.func54, Tryz.ntmps54
    go_wp2_with fail
    refine CH.out.mono ?_
    rintro e w9 ⟨rfl, rfl⟩
    go_wp2_with fail
    go_ret3
    exact ⟨rfl, Touch.refl _ _⟩

/-- A step of the clock's that leaves it in its blocks. -/
def Nxs (w : World) (q : Nat) (G : Nat → Prop) (L : List Int) (H : List Hd) (w' : World) : Prop := Touch G w w' ∧ Clk w' q G L H

set_option maxRecDepth 100000 in
set_option maxHeartbeats 1000000 in
theorem set_same {w : World} {q : Nat} {G : Nat → Prop} {L : List Int} {H : List Hd} (i : Nat) (t : Int) (h : Clk w q G L H) (hi : i < L.length) (ht : timC t = true) : Calls Tryz.prog 54 #[cp q, .int .i64 (i : Int), .int .i64 t] w fun e w' => e = .returned (.tuple #[.int .i64 (mkN L), .int .i64 (mkN (L.set i (max (L.getD i 0) t))), .int .i64 0]) ∧ Nxs w q G (L.set i (max (L.getD i 0) t)) H w' := by
  have C1 := hide (mark_any h)
  have CT := hide (isTime_any t w)
  rw [ht] at CT
  obtain ⟨V, p, m, f, lo, lc, Gp, cq, o1, h3, h4, hg, h5, h6, h7⟩ := h.ex
  have CH := hide (there_any q lo L.length lc w h.pos (clk_cells cq).1)
  obtain ⟨b, off, rfl, ci⟩ := ints_at (Rc.Own.mem o1).2.1 i hi
  have hoff : off = 0 := ((Rc.Own.mem o1).2.2.2.2.2 _ rfl).2.1
  subst hoff
  rw [Nat.zero_add] at ci
  obtain ⟨-, cur, hcur⟩ := Rc.own_block o1 (g := b) rfl
  have c0 := (clk_cells cq).1
  have FIN : Hid (∀ W, Calm w W → Nxs w q G (L.set i (max (L.getD i 0) t)) H (W.setCell ⟨b, i, none⟩ (.int .i64 (max (L.getD i 0) t)))) := hide fun W T0 => by
    have tS : Touch (fun k => k = b) W (W.setCell ⟨b, i, none⟩ (.int .i64 (max (L.getD i 0) t))) := (Touch.refl (fun k => k = b) _).setCell (p := ⟨b, i, none⟩) (fun _ => rfl) _
    have hbq : q ≠ b := tags cq hcur (by decide)
    refine ⟨?_, ⟨⟨V, p, m, f, some ⟨b, 0, none⟩, lc, Gp, ?_, ?_, ?_, ?_, ?_, ?_, h6, h7⟩, h.at_, ?_, ?_, ?_⟩⟩
    · refine (T0.mono fun _ _ h => h.elim).trans (tS.mono fun g _ e => ?_) (fun _ _ h => h)
      rw [e]; exact h3 b rfl
    · rw [List.length_set]
      exact tS.heap (T0.at cq) hbq
    · rw [List.length_set]
      exact jn_set (Rc.Own.calm o1 T0) i _
    · rw [List.length_set]; exact h3
    · exact (h4.calm T0).touch tS (fun g hh e => (hg g hh).2.2.2 (by rw [e]; rfl))
    · rw [List.length_set]; exact hg
    · refine (h5.calm T0).touch tS (fun e => ?_)
      obtain ⟨es, cl, hm⟩ := h5.isMap
      rw [e, hcur] at hm; cases hm
    · intro g hh
      have := h.lt g hh
      have := (T0.mono (S' := fun k => k = b) fun _ _ h => h.elim).size
      have := tS.size
      omega
    · intro e
      have := congrArg List.length e
      rw [List.length_set] at this
      exact h.ne (List.eq_nil_of_length_eq_zero this)
    · rw [List.length_set]; exact h.len
  have KQ : Hid (∀ W, Calm w W → W.cell? ⟨q, 0, none⟩ = some (.slice (some ⟨b, 0, none⟩) L.length lc) ∧ W.cell? ⟨b, i, none⟩ = some (.int .i64 (L.getD i 0)) ∧ W.frozen? ⟨b, i, none⟩ = false) := hide fun W hW => ⟨(clk_cells (hW.at cq)).1, (hW.cell (p := ⟨b, i, none⟩) (lt_of_heap hcur) (fun h => h)).trans ci, hd_frozen (hW.at hcur) i⟩
  have hiz : (i : Int) < (L.length : Int) := by omega
  have z0 : ¬ (L.length : Int) ≤ (i : Int) := by omega
  clear h cq o1 h3 h4 hg h5 h6 h7 hcur ht ci
  generalize L.getD i 0 = y at *
  have C2' : Hid (∀ W, Calm w W → Calls Tryz.prog 32 #[cp q] (W.setCell ⟨b, i, none⟩ (.int .i64 (max y t))) fun e w' => e = .returned (.int .i64 (mkN (L.set i (max y t)))) ∧ w' = (W.setCell ⟨b, i, none⟩ (.int .i64 (max y t)))) := hide fun W hW => by
    obtain ⟨-, c⟩ := FIN.out W hW
    exact mark_any c
  have NX : Hid (∀ W, Calm w W → Nxs w q G (L.set i (max y t)) H (W.setCell ⟨b, i, none⟩ (.int .i64 (max y t)))) := hide FIN.out
  clear FIN
  generalize mkN (L.set i (max y t)) = R2 at *
  generalize L.set i (max y t) = L2 at *
  generalize mkN L = R1 at *
  generalize hn : L.length = n at *
  go_enter Tryz.func54, Tryz.ntmps54
  go_wp2_with fail
  refine CH.out.mono ?_
  rintro e w9 ⟨rfl, rfl⟩
  clear CH
  go_wp2_with fail
  refine CT.out.mono ?_
  rintro e w9 ⟨rfl, rfl⟩
  go_wp2_with fail
  refine C1.out.mono ?_
  rintro e w1 ⟨rfl, rfl⟩
  clear C1 CT
  go_wp2_with fail
  refine wp_region_z 15 (Calm w1) (by kernel_rfl) ?_
  have hT0 : Calm w1 { w1 with drawn := w1.drawn + 1 } := (Touch.refl _ w1).drew
  refine wpAnyZ_yield 0 30 (.pointer (some ⟨q, 0, none⟩)) [15] rfl rfl (by kernel_rfl) (by kernel_rfl) (by kernel_rfl) (by kernel_rfl) (by kernel_rfl) (fun _ _ _ h => h) (by kernel_rfl) (fun W hW => by kernel_rfl) (by assumption) rfl rfl ?_
  simp only [Act.put, List.setIfInBounds_toArray, List.set_cons_zero, List.set_cons_succ]
  refine wpAnyZ_yield 1 31 (.pointer (some ⟨q, 0, none⟩)) [15] rfl rfl (by kernel_rfl) (by kernel_rfl) (by kernel_rfl) (by kernel_rfl) (by kernel_rfl) (fun _ _ _ h => h) (by kernel_rfl) (fun W hW => by go_simp) (by assumption) rfl rfl ?_
  simp only [Act.put, List.setIfInBounds_toArray, List.set_cons_zero, List.set_cons_succ]
  refine wpAnyZ_yield 2 32 (.pointer (some ⟨q, 0, none⟩)) [15] rfl rfl (by kernel_rfl) (by kernel_rfl) (by kernel_rfl) (by kernel_rfl) (by kernel_rfl) (fun _ _ _ h => h) (by kernel_rfl) (fun W hW => by go_simp) (by assumption) rfl rfl ?_
  simp only [Act.put, List.setIfInBounds_toArray, List.set_cons_zero, List.set_cons_succ]
  refine wpAnyZ_yield 3 33 (.slice (some ⟨b, 0, none⟩) n lc) [15] rfl rfl (by kernel_rfl) (by kernel_rfl) (by kernel_rfl) (by kernel_rfl) (by kernel_rfl) (fun _ _ _ h => h) (by kernel_rfl) (fun W hW => by obtain ⟨k0, -⟩ := KQ.out W hW; go_simp) (by assumption) rfl rfl ?_
  simp only [Act.put, List.setIfInBounds_toArray, List.set_cons_zero, List.set_cons_succ]
  refine wpAnyZ_yield 4 34 (.int .i64 (i : Int)) [15] rfl rfl (by kernel_rfl) (by kernel_rfl) (by kernel_rfl) (by kernel_rfl) (by kernel_rfl) (fun _ _ _ h => h) (by kernel_rfl) (fun W hW => by kernel_rfl) (by assumption) rfl rfl ?_
  simp only [Act.put, List.setIfInBounds_toArray, List.set_cons_zero, List.set_cons_succ]
  refine wpAnyZ_yield 5 35 (.pointer (some ⟨q, 0, none⟩)) [15] rfl rfl (by kernel_rfl) (by kernel_rfl) (by kernel_rfl) (by kernel_rfl) (by kernel_rfl) (fun _ _ _ h => h) (by kernel_rfl) (fun W hW => by kernel_rfl) (by assumption) rfl rfl ?_
  simp only [Act.put, List.setIfInBounds_toArray, List.set_cons_zero, List.set_cons_succ]
  refine wpAnyZ_yield 6 36 (.pointer (some ⟨q, 0, none⟩)) [15] rfl rfl (by kernel_rfl) (by kernel_rfl) (by kernel_rfl) (by kernel_rfl) (by kernel_rfl) (fun _ _ _ h => h) (by kernel_rfl) (fun W hW => by go_simp) (by assumption) rfl rfl ?_
  simp only [Act.put, List.setIfInBounds_toArray, List.set_cons_zero, List.set_cons_succ]
  refine wpAnyZ_yield 7 37 (.pointer (some ⟨q, 0, none⟩)) [15] rfl rfl (by kernel_rfl) (by kernel_rfl) (by kernel_rfl) (by kernel_rfl) (by kernel_rfl) (fun _ _ _ h => h) (by kernel_rfl) (fun W hW => by go_simp) (by assumption) rfl rfl ?_
  simp only [Act.put, List.setIfInBounds_toArray, List.set_cons_zero, List.set_cons_succ]
  refine wpAnyZ_yield 8 38 (.slice (some ⟨b, 0, none⟩) n lc) [15] rfl rfl (by kernel_rfl) (by kernel_rfl) (by kernel_rfl) (by kernel_rfl) (by kernel_rfl) (fun _ _ _ h => h) (by kernel_rfl) (fun W hW => by obtain ⟨k0, -⟩ := KQ.out W hW; go_simp) (by assumption) rfl rfl ?_
  simp only [Act.put, List.setIfInBounds_toArray, List.set_cons_zero, List.set_cons_succ]
  refine wpAnyZ_yield 9 39 (.int .i64 (i : Int)) [15] rfl rfl (by kernel_rfl) (by kernel_rfl) (by kernel_rfl) (by kernel_rfl) (by kernel_rfl) (fun _ _ _ h => h) (by kernel_rfl) (fun W hW => by kernel_rfl) (by assumption) rfl rfl ?_
  simp only [Act.put, List.setIfInBounds_toArray, List.set_cons_zero, List.set_cons_succ]
  refine wpAnyZ_yield 10 40 (.pointer (some ⟨b, i, none⟩)) [15] rfl rfl (by kernel_rfl) (by kernel_rfl) (by kernel_rfl) (by kernel_rfl) (by kernel_rfl) (fun _ _ _ h => h) (by kernel_rfl) (fun W hW => by go_simp) (by assumption) rfl rfl ?_
  simp only [Act.put, List.setIfInBounds_toArray, List.set_cons_zero, List.set_cons_succ]
  refine wpAnyZ_yield 11 41 (.int .i64 y) [15] rfl rfl (by kernel_rfl) (by kernel_rfl) (by kernel_rfl) (by kernel_rfl) (by kernel_rfl) (fun _ _ _ h => h) (by kernel_rfl) (fun W hW => by obtain ⟨-, k1, -⟩ := KQ.out W hW; go_simp) (by assumption) rfl rfl ?_
  simp only [Act.put, List.setIfInBounds_toArray, List.set_cons_zero, List.set_cons_succ]
  refine wpAnyZ_yield 12 42 (.int .i64 t) [15] rfl rfl (by kernel_rfl) (by kernel_rfl) (by kernel_rfl) (by kernel_rfl) (by kernel_rfl) (fun _ _ _ h => h) (by kernel_rfl) (fun W hW => by kernel_rfl) (by assumption) rfl rfl ?_
  simp only [Act.put, List.setIfInBounds_toArray, List.set_cons_zero, List.set_cons_succ]
  refine wpAnyZ_yield 13 43 (.int .i64 (max y t)) [15] rfl rfl (by kernel_rfl) (by kernel_rfl) (by kernel_rfl) (by kernel_rfl) (by kernel_rfl) (fun _ _ _ h => h) (by kernel_rfl) (fun W hW => by go_simp) (by assumption) rfl rfl ?_
  simp only [Act.put, List.setIfInBounds_toArray, List.set_cons_zero, List.set_cons_succ]
  refine wpAnyZ_yield 14 44 (.pointer (some ⟨b, i, none⟩)) [15] rfl rfl (by kernel_rfl) (by kernel_rfl) (by kernel_rfl) (by kernel_rfl) (by kernel_rfl) (fun _ _ _ h => h) (by kernel_rfl) (fun W hW => by go_simp) (by assumption) rfl rfl ?_
  simp only [Act.put, List.setIfInBounds_toArray, List.set_cons_zero, List.set_cons_succ]
  generalize ({ w1 with drawn := w1.drawn + 1 } : World) = wD at *
  refine wpAnyZ_end rfl (by kernel_rfl) (by kernel_rfl) (by kernel_rfl) ?_
  obtain ⟨-, k1, k2⟩ := KQ.out _ hT0
  have C3 := hide (C2'.out _ hT0)
  have Q1 := hide (NX.out _ hT0)
  clear C2' NX KQ hT0
  unfold Oper.wp
  go_simp
  go_wp2_with fail
  refine C3.out.mono ?_
  rintro e w2 ⟨rfl, rfl⟩
  go_wp2_with fail
  go_ret3
  exact ⟨rfl, Q1.out⟩

theorem set_ok {w : World} {q : Nat} {G : Nat → Prop} {L : List Int} {H : List Hd} (i : Nat) (t : Int) (h : Clk w q G L H) (hi : i < L.length) (ht : timC t = true) : Calls Tryz.prog 54 #[cp q, .int .i64 (i : Int), .int .i64 t] w fun e w' => e = .returned (.tuple #[.int .i64 (mkN L), .int .i64 (mkN (L.set i (max (L.getD i 0) t))), .int .i64 0]) ∧ Next w q G (L.set i (max (L.getD i 0) t)) H w' :=
  (set_same i t h hi ht).mono fun _ _ ⟨a, b, c⟩ => ⟨a, b, G, c, fun _ hg => .inl hg⟩

end Go.Proofs.YtapnjofplilefaaGreat
