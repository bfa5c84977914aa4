/- A copy of a text. The program's clock in memory; isThere, Mark, Marks, Len. The program's clock: Mark, Len, First, Outward. The program's clock: put, Hold. The program's clock: Hold. -/
import Derived.Test.YtcmigkemhoecfaaJ1
import Derived.Lib.Strings
import Derived.Lib.BufferWrite
import Derived.Lib.UnsafeStr
import Derived.Laws.MakeOwn
import Derived.BigQuiet
import Derived.Test.YtcmigkemhoecfaaJ2
namespace Go.Proofs.Ytcmigkemhoecfaa
open Go.RowKit

theorem infoByte : (Try.prog.info? 5).map (fun i => (i.zero, i.size, i.bytes)) = some (some (.int .u8 0), 1, 1) := by kernel_rfl

theorem empty_text {s : ByteArray} (h : s.size = 0) : s = { data := #[] } := ByteArray.ext (Array.eq_empty_of_size_eq_zero h)

set_option maxRecDepth 100000 in
set_option maxHeartbeats 4000000 in
theorem cloned_any (s : ByteArray) (w : World) (hs : s.size ≤ 140737488351232) : Calls Try.prog 60 #[.string s] w fun e w' => e = .returned (.string s) ∧ Touch (fun _ => False) w w' := by
  by_cases h0 : s.size = 0
  · obtain rfl := empty_text h0
    go_enter Try.func60, Try.ntmps60
    go_wp2_with fail
    go_ret
    exact ⟨rfl, Touch.refl _ _⟩
  · obtain ⟨i0, hi, hz0, hz1, hz2⟩ := Rc.info_parts infoByte
    have hsz1 : (Try.prog.info? 5).map (·.size) = some 1 := by rw [hi]; simp [hz1]
    have hone : Try.prog.cellsOf 5 = 1 := by kernel_rfl
    have hne : s.data.toList ≠ [] := fun e => h0 (by rw [Lib.size_eq, e]; rfl)
    obtain ⟨M, hM, hMs⟩ : ∃ M : Array Value, (∀ W : World, (Instr.makeSlice 115 (.int .i64 (s.size : Int)) (.int .i64 (s.size : Int))).run Try.prog W = .ok (.slice (some ⟨W.heap.size, 0, none⟩) s.size s.size) (W.alloc (.cells M 5))) ∧ M.size = s.size :=
      ⟨madeCells (Value.int .u8 0).cells (((s.size : Nat) : Int).toNat * i0.size), fun W => by
        have h := run_make (P := Try.prog) W 115 5 i0 (.int .u8 0) Try.underlying115 hi hz0 .i64 .i64 (s.size : Int) (s.size : Int) (by omega) (by omega) (by rw [hz2]; omega) (by omega)
        simpa using h, by rw [size_madeCells, hz1]; simp⟩
    have CP := Lib.run_copy_row_string (P := Try.prog) (w.alloc (.cells M 5)) 115 9 3 5 w.heap.size 0 s.size s.size s M 5 Try.underlying115 hsz1 (heap_alloc_last w _) (Nat.le_refl _) (by omega)
    generalize hY : (M.toList.take 0 ++ Lib.byteCells s.data.toList ++ M.toList.drop (0 + s.size)).toArray = Y at CP
    have hYl : Y.toList = Lib.byteCells s.data.toList := by
      rw [← hY, List.toList_toArray, List.take_zero, List.nil_append, List.drop_of_length_le (by rw [Array.length_toList]; omega), List.append_nil]
    have hYs : Y.size = s.size := by rw [← Array.length_toList, hYl, Lib.byteCells_length, ← Lib.size_eq]
    have hrow : ((w.alloc (.cells M 5)).setRow w.heap.size Y).heap[w.heap.size]? = some (.cells Y 5 (0, 0)) := setRow_heap _ _ M _ 5 (0, 0) (heap_alloc_last w _)
    have US := Lib.run_unsafeString_row (P := Try.prog) ((w.alloc (.cells M 5)).setRow w.heap.size Y) 116 3 9 5 Try.underlying116 hone w.heap.size Y.size (by unfold World.shape?; rw [hrow]) s.data.toList hne (by rw [← Lib.size_eq]; omega) (by rw [← Lib.size_eq]; omega)
      (fun j x hx => Lib.cells_of_row hrow Y.size j _ (by rw [List.take_of_length_le (by rw [Array.length_toList]; exact Nat.le_refl _), hYl]; simp [Lib.byteCells, hx]))
    rw [← Lib.size_eq] at US
    clear hY
    have b1 : Below w.heap.size w (w.alloc (.cells M 5)) := ((Touch.refl (fun _ => False) w).alloc _).below (fun _ _ h => h)
    have b2 : Below w.heap.size (w.alloc (.cells M 5)) ((w.alloc (.cells M 5)).setRow w.heap.size Y) := ⟨rfl, rfl, rfl, by simp, fun k hk => setRow_other _ _ _ _ (by omega)⟩
    have HB := hide (Lib.below_freeze (b1.trans b2) (p := ⟨w.heap.size, 0, none⟩) (Nat.le_refl _) s.size)
    clear b1 b2 hrow hYl hYs hMs hi hz0 hz1 hz2
    go_enter Try.func60, Try.ntmps60
    go_wp2_with fail
    go_ret
    exact ⟨rfl, (Touch.of_below HB.out).mono (fun k hk h => by omega)⟩

set_option maxRecDepth 100000 in
theorem clone_any (s : ByteArray) (w : World) (hs : s.size ≤ 140737488351232) : Calls Try.prog 48 #[.string s] w fun e w' => e = .returned (.string s) ∧ Touch (fun _ => False) w w' := by
  have K := hide (fun W => cloned_any s W hs)
  go_enter Try.func48, Try.ntmps48
  go_wp2_with fail
  refine (K.out _).mono ?_
  rintro e w1 ⟨rfl, t1⟩
  go_wp2_with fail
  go_ret
  exact ⟨rfl, t1⟩

end Go.Proofs.Ytcmigkemhoecfaa

namespace Go.Proofs.Ytcmigkemhoecfaa
open Go.RowKit

/-- Where a name's hold lies. -/
def Fm (f : ByteArray → Option Nat) (V : List Ho) : Prop := ∀ x b, f x = some b ↔ ∃ v ∈ V, v.n = x ∧ v.b = b
theorem Fm.perm {f : ByteArray → Option Nat} {V V' : List Ho} (h : Fm f V) (hp : V'.Perm V) : Fm f V' := fun x b => (h x b).trans ⟨fun ⟨v, a, c⟩ => ⟨v, hp.mem_iff.2 a, c⟩, fun ⟨v, a, c⟩ => ⟨v, hp.mem_iff.1 a, c⟩⟩
theorem Fm.nil : Fm (fun _ => none) [] := fun x b => by simp
theorem Fm.more {f : ByteArray → Option Nat} {V : List Ho} (h : Fm f V) (x : Ho) (hx : ∀ v ∈ V, v.n ≠ x.n) : Fm (putf f x.n x.b) (V ++ [x]) := fun y b => by
  unfold putf
  by_cases e : y = x.n
  · subst e
    rw [if_pos rfl]
    constructor
    · intro h1
      injection h1 with h1
      exact ⟨x, by simp, rfl, h1⟩
    · rintro ⟨v, hv, a, c⟩
      rcases List.mem_append.1 hv with hv | hv
      · exact absurd a (hx v hv)
      · rw [List.mem_singleton] at hv
        rw [← c, hv]
  · rw [if_neg e, h y b]
    constructor
    · rintro ⟨v, hv, a, c⟩
      exact ⟨v, by simp [hv], a, c⟩
    · rintro ⟨v, hv, a, c⟩
      rcases List.mem_append.1 hv with hv | hv
      · exact ⟨v, hv, a, c⟩
      · rw [List.mem_singleton] at hv
        exact absurd (by rw [← a, hv]) e
theorem Fm.less {f : ByteArray → Option Nat} {V : List Ho} (h : Fm f V) {n : Nat} (hn : n + 1 = V.length) (nd : ∀ i j, i < V.length → j < V.length → (nh V i).n = (nh V j).n → i = j) : Fm (delf f (nh V n).n) (V.take n) := fun y b => by
  have hl : (V.take n).length = n := by rw [List.length_take]; omega
  unfold delf
  by_cases e : y = (nh V n).n
  · rw [if_pos e]
    constructor
    · intro h1; cases h1
    · rintro ⟨v, hv, a, c⟩
      exfalso
      obtain ⟨i, hi, e2⟩ := mem_nh.1 hv
      rw [hl] at hi
      rw [nh_take hi] at e2
      have := nd i n (by omega) (by omega) (by rw [e2, a, e])
      omega
  · rw [if_neg e, h y b]
    constructor
    · rintro ⟨v, hv, a, c⟩
      obtain ⟨i, hi, e2⟩ := mem_nh.1 hv
      have : i ≠ n := by
        rintro rfl
        exact e (by rw [e2, a])
      exact ⟨v, mem_nh.2 ⟨i, by omega, by rw [nh_take (by omega)]; exact e2⟩, a, c⟩
    · rintro ⟨v, hv, a, c⟩
      exact ⟨v, List.mem_of_mem_take hv, a, c⟩
theorem Fm.anew {f : ByteArray → Option Nat} {V : List Ho} (h : Fm f V) {i : Nat} (hi : i < V.length) (t : Int) : Fm f (V.set i ⟨(nh V i).b, (nh V i).n, t⟩) := fun y b => (h y b).trans ⟨fun ⟨v, hv, a, c⟩ => by
  obtain ⟨k, hk, e⟩ := mem_nh.1 hv
  by_cases e2 : k = i
  · subst e2
    exact ⟨_, List.mem_set hk _, by rw [← a, ← e], by rw [← c, ← e]⟩
  · exact ⟨v, mem_nh.2 ⟨k, by simpa using hk, by rw [nh_set hi, if_neg e2]; exact e⟩, a, c⟩, fun ⟨v, hv, a, c⟩ => by
  obtain ⟨k, hk, e⟩ := mem_nh.1 hv
  rw [List.length_set] at hk
  rw [nh_set hi] at e
  split at e
  · exact ⟨nh V i, nh_mem hi, by rw [← a, ← e], by rw [← c, ← e]⟩
  · exact ⟨v, mem_nh.2 ⟨k, hk, e⟩, a, c⟩⟩

/-- The program's clock at q, in the blocks G. -/
structure Clk (w : World) (q : Nat) (G : Nat → Prop) (L : List Int) (H : List Hd) : Prop where
  ex : ∃ (V : List Ho) (p m : Nat) (f : ByteArray → Option Nat) (lo : Option Addr) (lc : Nat) (Gp : Nat → Prop), w.heap[q]? = some (.cells #[.slice lo L.length lc, cp p, .map (some m)] 69 (0, 0)) ∧ encJ.Own 2 w 0 (.slice lo L.length lc) L ∧ (∀ g, (Value.slice lo L.length lc).ownBlock = some g → G g) ∧ Pl w p Gp V ∧ (∀ g, Gp g → G g ∧ g ≠ q ∧ g ≠ m ∧ (Value.slice lo L.length lc).ownBlock ≠ some g) ∧ Mp w m V.length f ∧ G m ∧ Fm f V ∧ Lk V H ∧ Hp V V.length ∧ ∀ v ∈ V, v.n.size ≤ capX
  at_ : G q
  lt : ∀ g, G g → g < w.heap.size
  ne : L ≠ []
  len : L.length ≤ 64

theorem Clk.touch {w w' : World} {q : Nat} {G S : Nat → Prop} {L : List Int} {H : List Hd} (h : Clk w q G L H) (ht : Touch S w w') (hS : ∀ g, G g → ¬ S g) : Clk w' q G L H := by
  obtain ⟨V, p, m, f, lo, lc, Gp, h1, h2, h3, h4, hg, h5, h6, h7⟩ := h.ex
  exact ⟨⟨V, p, m, f, lo, lc, Gp, ht.heap h1 (hS q h.at_), Rc.Own.touch h2 ht (fun g hg => hS g (h3 g hg)), h3, h4.touch ht (fun g hh => hS g (hg g hh).1), hg, h5.touch ht (hS m h6), h6, h7⟩, h.at_, fun g hg => Nat.lt_of_lt_of_le (h.lt g hg) ht.size, h.ne, h.len⟩
theorem Clk.calm {w w' : World} {q : Nat} {G : Nat → Prop} {L : List Int} {H : List Hd} (h : Clk w q G L H) (ht : Calm w w') : Clk w' q G L H := h.touch ht fun _ _ h => h
theorem clk_cells {w : World} {q : Nat} {a b c : Value} {ty : TypeId} (h : w.heap[q]? = some (.cells #[a, b, c] ty (0, 0))) : w.cell? ⟨q, 0, none⟩ = some a ∧ w.cell? ⟨q, 1, none⟩ = some b ∧ w.cell? ⟨q, 2, none⟩ = some c := by simp [World.cell?, h]

theorem isTime_any (t : Int) (w : World) : Calls Try.prog 33 #[.int .i64 t] w fun e w' => e = .returned (.bool (!timC t)) ∧ w' = w := by
  by_cases h1 : -4611686018427387904 ≤ t
  · by_cases h2 : t ≤ 4611686018427387904
    · have e : timC t = true := by simp [timC, h1, h2]
      rw [e]
      have h1' : ¬ t < -4611686018427387904 := by omega
      have h2' : ¬ 4611686018427387904 < t := by omega
      clear e
      go_enter Try.func33, Try.ntmps33
      go_wp2_with fail
      go_ret
      exact ⟨rfl, rfl⟩
    · have e : timC t = false := by simp [timC, h1, h2]
      rw [e]
      have h1' : ¬ t < -4611686018427387904 := by omega
      have h2' : 4611686018427387904 < t := by omega
      clear e
      go_enter Try.func33, Try.ntmps33
      go_wp2_with fail
      go_ret
      exact ⟨rfl, rfl⟩
  · have e : timC t = false := by simp [timC, h1]
    rw [e]
    have h1' : t < -4611686018427387904 := by omega
    clear e
    go_enter Try.func33, Try.ntmps33
    go_wp2_with fail
    go_ret
    exact ⟨rfl, rfl⟩

theorem there_any (q : Nat) (lo : Option Addr) (n lc : Nat) (w : World) (hn : 0 < n) (hc : w.cell? ⟨q, 0, none⟩ = some (.slice lo n lc)) : Calls Try.prog 36 #[cp q] w fun e w' => e = .returned (.bool true) ∧ w' = w := by
  have z : 0 < (n : Int) := by omega
  go_enter Try.func36, Try.ntmps36
  go_wp2_with fail
  go_ret
  exact ⟨rfl, rfl⟩
theorem there_nil (w : World) : Calls Try.prog 36 #[.pointer none] w fun e w' => e = .returned (.bool false) ∧ w' = w := by
  go_enter Try.func36, Try.ntmps36
  go_wp2_with fail
  go_ret
  exact ⟨rfl, rfl⟩
theorem there_zero (q : Nat) (w : World) (hc : w.cell? ⟨q, 0, none⟩ = some (.slice none 0 0)) : Calls Try.prog 36 #[cp q] w fun e w' => e = .returned (.bool false) ∧ w' = w := by
  go_enter Try.func36, Try.ntmps36
  go_wp2_with fail
  go_ret
  exact ⟨rfl, rfl⟩

set_option maxRecDepth 100000 in
set_option maxHeartbeats 1000000 in
theorem smin_any (L : List Int) (lo : Option Addr) (lc : Nat) (w : World) (hm : encJ.Mem w lo L) (hne : L ≠ []) (hl : L.length ≤ 140737488355328) : Calls Try.prog 52 #[.slice lo L.length lc] w fun e w' => e = .returned (.int .i64 (mkN L)) ∧ w' = w := by
  have hpos : 0 < L.length := List.length_pos_iff.2 hne
  obtain ⟨m, f, hM, f0, fs, fl⟩ : ∃ (m f : Nat → Int), (∀ j, m j = L.getD j 0) ∧ f 1 = m 0 ∧ (∀ i, i < L.length → f (i + 1) = min (f i) (m i)) ∧ f L.length = mkN L := ⟨fun j => L.getD j 0, fun i => (L.take i).foldl min (L.getD 0 0), fun _ => rfl, by
    have := mk_next L 0 hpos
    simp only [Nat.zero_add, List.take_zero, List.foldl_nil] at this
    show List.foldl min (L.getD 0 0) (List.take 1 L) = _
    rw [this]
    exact Int.min_self _, fun i hi => mk_next L i hi, by simp only [List.take_length]; rfl⟩
  have MW : Hid (∀ j, j < L.length → ∃ g off, lo = some ⟨g, off, none⟩ ∧ w.cell? ⟨g, off + j, none⟩ = some (.int .i64 (m j))) := hide fun j hj => by
    obtain ⟨g, off, e, c⟩ := ints_W hm j hj
    exact ⟨g, off, e, by rw [hM]; exact c w (Touch.refl _ _)⟩
  obtain ⟨g, off, rfl, m0⟩ := MW.out 0 hpos
  rw [Nat.add_zero] at m0
  have FS := hide fs
  have FL := hide fl
  have F0 := hide f0
  clear hm hM fs fl f0 hne
  generalize mkN L = R at *
  generalize hn : L.length = n at *
  have hpz : (0 : Int) < (n : Int) := by omega
  have hpz1 : ¬ (n : Int) < 1 := by omega
  go_enter Try.func52, Try.ntmps52
  go_wp2_with fail
  go_loopw [3, 4] (fun s3 s4 wr => ∃ i : Nat, s4 = .int .i64 (i : Int) ∧ 1 ≤ i ∧ i ≤ n ∧ s3 = .int .i64 (f i) ∧ wr = w) (fun _ s4 _ => n - (intOf s4).toNat)
  case atStart => exact ⟨1, rfl, by omega, by omega, by rw [F0.out], rfl⟩
  case round =>
    obtain ⟨i, rfl, hi1, hi, rfl, rfl⟩ := hrel
    by_cases hlt : i < n
    · have hltz : (i : Int) < (n : Int) := by omega
      obtain ⟨g', off', e, ci⟩ := MW.out i hlt
      injection e with e
      injection e with e1 e2
      subst e1 e2
      have HZ := hide (FS.out i hlt)
      clear MW FS FL F0 m0
      go_wp2_with fail
      go_roundw
      case rel => exact ⟨i + 1, by go_num, by omega, by omega, by rw [HZ.out], by first | rfl | trivial⟩
      case measure => simp [intOf]; omega
    · have hltz : ¬ (i : Int) < (n : Int) := by omega
      obtain rfl : i = n := by omega
      clear MW FS m0
      go_wp2_with fail
      go_ret
      exact ⟨by rw [← FL.out]; rfl, rfl⟩

end Go.Proofs.Ytcmigkemhoecfaa

namespace Go.Proofs.Ytcmigkemhoecfaa
open Go.RowKit

theorem Clk.pos {w : World} {q : Nat} {G : Nat → Prop} {L : List Int} {H : List Hd} (h : Clk w q G L H) : 0 < L.length := List.length_pos_iff.2 h.ne

theorem mark_any {w : World} {q : Nat} {G : Nat → Prop} {L : List Int} {H : List Hd} (h : Clk w q G L H) : Calls Try.prog 24 #[cp q] w fun e w' => e = .returned (.int .i64 (mkN L)) ∧ w' = w := by
  obtain ⟨V, p, m, f, lo, lc, Gp, h1, h2, -⟩ := h.ex
  have CT := hide (there_any q lo L.length lc w h.pos (clk_cells h1).1)
  have CM := hide (smin_any L lo lc w (Rc.Own.mem h2).2.1 h.ne (by have := h.len; omega))
  have c0 := (clk_cells h1).1
  clear h h1 h2
  generalize L.length = n at *
  generalize mkN L = R at *
  go_enter Try.func24, Try.ntmps24
  go_wp2_with fail
  refine CT.out.mono ?_
  rintro e w9 ⟨rfl, rfl⟩
  clear CT
  go_wp2_with fail
  refine CM.out.mono ?_
  rintro e w9 ⟨rfl, rfl⟩
  clear CM
  go_wp2_with fail
  go_ret
  exact ⟨rfl, rfl⟩

theorem len_any {w : World} {q : Nat} {G : Nat → Prop} {L : List Int} {H : List Hd} (h : Clk w q G L H) : Calls Try.prog 43 #[cp q] w fun e w' => e = .returned (.int .i64 (H.length : Int)) ∧ w' = w := by
  obtain ⟨V, p, m, f, lo, lc, Gp, h1, h2, h3, h4, hg, h5, h6, h7, h8, -⟩ := h.ex
  obtain ⟨po, pc, c1⟩ := h4.len
  rw [h8.len] at c1
  have CT := hide (there_any q lo L.length lc w h.pos (clk_cells h1).1)
  have CN := hide (plen_any po H.length pc w)
  have c0 := (clk_cells h1).2.1
  clear h h1 h2 h3 h4 hg h5 h6 h7 h8
  generalize H.length = n at *
  go_enter Try.func43, Try.ntmps43
  go_wp2_with fail
  refine CT.out.mono ?_
  rintro e w9 ⟨rfl, rfl⟩
  clear CT
  go_wp2_with fail
  refine CN.out.mono ?_
  rintro e w9 ⟨rfl, rfl⟩
  clear CN
  go_wp2_with fail
  go_ret
  exact ⟨rfl, rfl⟩

/-- What is read of the first hold. -/
theorem Clk.top {w : World} {q : Nat} {G : Nat → Prop} {L : List Int} {H : List Hd} (h : Clk w q G L H) (h0 : 0 < H.length) : ∃ p g pc b, (bestH H).n.size ≤ capX ∧ ∀ W, Calm w W → W.cell? ⟨q, 1, none⟩ = some (cp p) ∧ W.cell? ⟨p, 0, none⟩ = some (.slice (some ⟨g, 0, none⟩) H.length pc) ∧ W.cell? ⟨g, 0, none⟩ = some (cp b) ∧ W.cell? ⟨b, 0, none⟩ = some (.string (bestH H).n) ∧ W.cell? ⟨b, 1, none⟩ = some (.int .i64 (bestH H).t) := by
  obtain ⟨V, p, m, f, lo, lc, Gp, h1, h2, h3, h4, hg, h5, h6, h7, h8, h9, h10⟩ := h.ex
  have hl := h8.len
  obtain ⟨po, pc, hp, ho, -⟩ := h4.ex
  obtain ⟨g, cur, rfl, -, -⟩ := own_some ho (by omega)
  have e := h8.best h9 (by omega)
  refine ⟨p, g, pc, (nh V 0).b, by rw [e]; exact h10 _ (nh_mem (by omega)), fun W hW => ?_⟩
  obtain ⟨g', off, e1, c1, c2, c3, -⟩ := (h4.hs.touch hW fun _ _ h => h).see (Rc.Mem.calm (Rc.Own.mem ho).2.1 hW) 0 (by omega)
  injection e1 with e1
  injection e1 with e1 e2
  subst e1 e2
  rw [e]
  exact ⟨(clk_cells (hW.at h1)).2.1, by rw [← hl]; exact (one_cell (hW.at hp)).1, c1, c2, c3⟩

set_option maxRecDepth 100000 in
set_option maxHeartbeats 1000000 in
theorem first_any {w : World} {q : Nat} {G : Nat → Prop} {L : List Int} {H : List Hd} (h : Clk w q G L H) : Calls Try.prog 40 #[cp q] w fun e w' => e = .returned (firV H) ∧ Calm w w' := by
  have CL := hide (len_any h)
  by_cases h0 : H.length = 0
  · have e : firV H = firV [] := by rw [List.eq_nil_of_length_eq_zero h0]
    rw [e]
    rw [h0] at CL
    clear h h0 e
    go_enter Try.func40, Try.ntmps40
    go_wp2_with fail
    refine CL.out.mono ?_
    rintro e w9 ⟨rfl, rfl⟩
    clear CL
    go_wp2_with fail
    go_ret3
    exact ⟨rfl, Touch.refl _ _⟩
  · obtain ⟨p, g, pc, b, hsz, see⟩ := h.top (by omega)
    have SE := hide see
    have CC := fun W => hide (clone_any (bestH H).n W hsz)
    have z : ¬ (H.length : Int) = 0 := by omega
    have z2 : 0 < (H.length : Int) := by omega
    have z3 : 0 < H.length := by omega
    have FV : Hid (firV H = .tuple #[.string (bestH H).n, .int .i64 (bestH H).t, .bool true]) := hide (by unfold firV; first | rw [if_neg h0] | simp [h0])
    obtain ⟨c1, c2, c3, c4, c5⟩ := see w (Touch.refl _ _)
    clear h h0 hsz see
    generalize firV H = R at *
    generalize (bestH H) = x at *
    generalize H.length = n at *
    go_enter Try.func40, Try.ntmps40
    go_wp2_with fail
    refine CL.out.mono ?_
    rintro e w9 ⟨rfl, rfl⟩
    clear CL
    go_wp2_with fail
    refine wp_region_held (S := Calm w9) (by kernel_rfl) ?_
    have hT0 : Calm w9 { w9 with drawn := w9.drawn + 1 } := (Touch.refl _ w9).drew
    refine wpAnyH_yield 0 17 (cp b) rfl rfl (by kernel_rfl) (by kernel_rfl) (by kernel_rfl) (fun _ _ _ h => h) (by kernel_rfl) (fun W hW => by kernel_rfl) (by assumption) rfl rfl ?_
    simp only [Act.put, List.setIfInBounds_toArray, List.set_cons_zero, List.set_cons_succ]
    refine wpAnyH_yield 1 18 (cp b) rfl rfl (by kernel_rfl) (by kernel_rfl) (by kernel_rfl) (fun _ _ _ h => h) (by kernel_rfl) (fun W hW => by go_simp) (by assumption) rfl rfl ?_
    simp only [Act.put, List.setIfInBounds_toArray, List.set_cons_zero, List.set_cons_succ]
    refine wpAnyH_yield 2 19 (cp b) rfl rfl (by kernel_rfl) (by kernel_rfl) (by kernel_rfl) (fun _ _ _ h => h) (by kernel_rfl) (fun W hW => by go_simp) (by assumption) rfl rfl ?_
    simp only [Act.put, List.setIfInBounds_toArray, List.set_cons_zero, List.set_cons_succ]
    refine wpAnyH_yield 3 20 (.string x.n) rfl rfl (by kernel_rfl) (by kernel_rfl) (by kernel_rfl) (fun _ _ _ h => h) (by kernel_rfl) (fun W hW => by obtain ⟨-, -, -, k0, -⟩ := SE.out W hW; go_simp) (by assumption) rfl rfl ?_
    simp only [Act.put, List.setIfInBounds_toArray, List.set_cons_zero, List.set_cons_succ]
    refine wpAnyH_yield 5 22 (cp b) rfl rfl (by kernel_rfl) (by kernel_rfl) (by kernel_rfl) (fun _ _ _ h => h) (by kernel_rfl) (fun W hW => by kernel_rfl) (by assumption) rfl rfl ?_
    simp only [Act.put, List.setIfInBounds_toArray, List.set_cons_zero, List.set_cons_succ]
    refine wpAnyH_yield 6 23 (cp b) rfl rfl (by kernel_rfl) (by kernel_rfl) (by kernel_rfl) (fun _ _ _ h => h) (by kernel_rfl) (fun W hW => by go_simp) (by assumption) rfl rfl ?_
    simp only [Act.put, List.setIfInBounds_toArray, List.set_cons_zero, List.set_cons_succ]
    refine wpAnyH_yield 7 24 (.pointer (some ⟨b, 1, none⟩)) rfl rfl (by kernel_rfl) (by kernel_rfl) (by kernel_rfl) (fun _ _ _ h => h) (by kernel_rfl) (fun W hW => by go_simp) (by assumption) rfl rfl ?_
    simp only [Act.put, List.setIfInBounds_toArray, List.set_cons_zero, List.set_cons_succ]
    refine wpAnyH_yield 8 25 (.int .i64 x.t) rfl rfl (by kernel_rfl) (by kernel_rfl) (by kernel_rfl) (fun _ _ _ h => h) (by kernel_rfl) (fun W hW => by obtain ⟨-, -, -, -, k1⟩ := SE.out W hW; go_simp) (by assumption) rfl rfl ?_
    simp only [Act.put, List.setIfInBounds_toArray, List.set_cons_zero, List.set_cons_succ]
    refine wpAnyH_enter 4 21 48 #[.string x.n] rfl rfl (by kernel_rfl) (by kernel_rfl) (by kernel_rfl) ?_
    refine ((CC _).out).mono ?_
    rintro r w8 ⟨rfl, t8⟩
    have h8 := hT0.tr t8
    refine ⟨_, rfl, h8, ?_⟩
    simp only [Act.put, List.setIfInBounds_toArray, List.set_cons_zero, List.set_cons_succ]
    refine wpAnyH_yield 9 2 (.string x.n) rfl rfl (by kernel_rfl) (by kernel_rfl) (by kernel_rfl) (fun _ _ _ h => h) (by kernel_rfl) (fun W hW => by kernel_rfl) (by assumption) rfl rfl ?_
    simp only [Act.put, List.setIfInBounds_toArray, List.set_cons_zero, List.set_cons_succ]
    refine wpAnyH_yield 10 3 (.int .i64 x.t) rfl rfl (by kernel_rfl) (by kernel_rfl) (by kernel_rfl) (fun _ _ _ h => h) (by kernel_rfl) (fun W hW => by kernel_rfl) (by assumption) rfl rfl ?_
    simp only [Act.put, List.setIfInBounds_toArray, List.set_cons_zero, List.set_cons_succ]
    refine wpAnyH_yield 11 4 (.bool true) rfl rfl (by kernel_rfl) (by kernel_rfl) (by kernel_rfl) (fun _ _ _ h => h) (by kernel_rfl) (fun W hW => by kernel_rfl) (by assumption) rfl rfl ?_
    simp only [Act.put, List.setIfInBounds_toArray, List.set_cons_zero, List.set_cons_succ]
    refine wpAnyH_done (by kernel_rfl) ?_ _
    have H8 := hide h8
    clear h8 t8 hT0 SE CC
    go_wp2_with fail
    go_ret3
    exact ⟨by rw [FV.out]; rfl, H8.out⟩

set_option maxRecDepth 100000 in
set_option maxHeartbeats 1000000 in
theorem outward_any {w : World} {q : Nat} {G : Nat → Prop} {L : List Int} {H : List Hd} (h : Clk w q G L H) : Calls Try.prog 25 #[cp q] w fun e w' => e = .returned (.int .i64 (outN L H)) ∧ Calm w w' := by
  have CL := hide (len_any h)
  have CM : Hid (∀ W, Calm w W → Calls Try.prog 24 #[cp q] W fun e w' => e = .returned (.int .i64 (mkN L)) ∧ w' = W) := hide fun W hW => mark_any (h.calm hW)
  by_cases h0 : H.length = 0
  · have e : outN L H = mkN L := by unfold outN; rw [if_pos h0]
    rw [e]
    rw [h0] at CL
    have C := hide (CM.out w (Touch.refl _ _))
    clear h h0 e CM
    generalize mkN L = R at *
    go_enter Try.func25, Try.ntmps25
    go_wp2_with fail
    refine CL.out.mono ?_
    rintro e w9 ⟨rfl, rfl⟩
    clear CL
    go_wp2_with fail
    refine C.out.mono ?_
    rintro e w9 ⟨rfl, rfl⟩
    clear C
    go_wp2_with fail
    go_ret
    exact ⟨rfl, Touch.refl _ _⟩
  · obtain ⟨p, g, pc, b, -, see⟩ := h.top (by omega)
    have SE := hide see
    have z : ¬ (H.length : Int) = 0 := by omega
    have z2 : 0 < (H.length : Int) := by omega
    have z3 : 0 < H.length := by omega
    have FV : Hid (outN L H = min (mkN L) (bestH H).t) := hide (by unfold outN; rw [if_neg h0]; exact Int.min_comm _ _)
    clear h h0 see
    generalize outN L H = R at *
    generalize (bestH H) = x at *
    generalize H.length = n at *
    generalize mkN L = M at *
    go_enter Try.func25, Try.ntmps25
    go_wp2_with fail
    refine CL.out.mono ?_
    rintro e w9 ⟨rfl, rfl⟩
    clear CL
    go_wp2_with fail
    refine wp_region_held (S := Calm w9) (by kernel_rfl) ?_
    have hT0 : Calm w9 { w9 with drawn := w9.drawn + 1 } := (Touch.refl _ w9).drew
    refine wpAnyH_yield 0 8 (cp q) rfl rfl (by kernel_rfl) (by kernel_rfl) (by kernel_rfl) (fun _ _ _ h => h) (by kernel_rfl) (fun W hW => by kernel_rfl) (by assumption) rfl rfl ?_
    simp only [Act.put, List.setIfInBounds_toArray, List.set_cons_zero, List.set_cons_succ]
    refine wpAnyH_yield 2 10 (cp q) rfl rfl (by kernel_rfl) (by kernel_rfl) (by kernel_rfl) (fun _ _ _ h => h) (by kernel_rfl) (fun W hW => by kernel_rfl) (by assumption) rfl rfl ?_
    simp only [Act.put, List.setIfInBounds_toArray, List.set_cons_zero, List.set_cons_succ]
    refine wpAnyH_yield 3 11 (cp q) rfl rfl (by kernel_rfl) (by kernel_rfl) (by kernel_rfl) (fun _ _ _ h => h) (by kernel_rfl) (fun W hW => by go_simp) (by assumption) rfl rfl ?_
    simp only [Act.put, List.setIfInBounds_toArray, List.set_cons_zero, List.set_cons_succ]
    refine wpAnyH_yield 4 12 (.pointer (some ⟨q, 1, none⟩)) rfl rfl (by kernel_rfl) (by kernel_rfl) (by kernel_rfl) (fun _ _ _ h => h) (by kernel_rfl) (fun W hW => by go_simp) (by assumption) rfl rfl ?_
    simp only [Act.put, List.setIfInBounds_toArray, List.set_cons_zero, List.set_cons_succ]
    refine wpAnyH_yield 5 13 (cp p) rfl rfl (by kernel_rfl) (by kernel_rfl) (by kernel_rfl) (fun _ _ _ h => h) (by kernel_rfl) (fun W hW => by obtain ⟨k0, -⟩ := SE.out W hW; go_simp) (by assumption) rfl rfl ?_
    simp only [Act.put, List.setIfInBounds_toArray, List.set_cons_zero, List.set_cons_succ]
    refine wpAnyH_yield 6 14 (cp p) rfl rfl (by kernel_rfl) (by kernel_rfl) (by kernel_rfl) (fun _ _ _ h => h) (by kernel_rfl) (fun W hW => by go_simp) (by assumption) rfl rfl ?_
    simp only [Act.put, List.setIfInBounds_toArray, List.set_cons_zero, List.set_cons_succ]
    refine wpAnyH_yield 7 15 (.slice (some ⟨g, 0, none⟩) n pc) rfl rfl (by kernel_rfl) (by kernel_rfl) (by kernel_rfl) (fun _ _ _ h => h) (by kernel_rfl) (fun W hW => by obtain ⟨-, k0, -⟩ := SE.out W hW; go_simp) (by assumption) rfl rfl ?_
    simp only [Act.put, List.setIfInBounds_toArray, List.set_cons_zero, List.set_cons_succ]
    refine wpAnyH_yield 8 16 (.pointer (some ⟨g, 0, none⟩)) rfl rfl (by kernel_rfl) (by kernel_rfl) (by kernel_rfl) (fun _ _ _ h => h) (by kernel_rfl) (fun W hW => by go_simp) (by assumption) rfl rfl ?_
    simp only [Act.put, List.setIfInBounds_toArray, List.set_cons_zero, List.set_cons_succ]
    refine wpAnyH_yield 9 17 (cp b) rfl rfl (by kernel_rfl) (by kernel_rfl) (by kernel_rfl) (fun _ _ _ h => h) (by kernel_rfl) (fun W hW => by obtain ⟨-, -, k0, -⟩ := SE.out W hW; go_simp) (by assumption) rfl rfl ?_
    simp only [Act.put, List.setIfInBounds_toArray, List.set_cons_zero, List.set_cons_succ]
    refine wpAnyH_yield 10 18 (cp b) rfl rfl (by kernel_rfl) (by kernel_rfl) (by kernel_rfl) (fun _ _ _ h => h) (by kernel_rfl) (fun W hW => by go_simp) (by assumption) rfl rfl ?_
    simp only [Act.put, List.setIfInBounds_toArray, List.set_cons_zero, List.set_cons_succ]
    refine wpAnyH_yield 11 19 (.pointer (some ⟨b, 1, none⟩)) rfl rfl (by kernel_rfl) (by kernel_rfl) (by kernel_rfl) (fun _ _ _ h => h) (by kernel_rfl) (fun W hW => by go_simp) (by assumption) rfl rfl ?_
    simp only [Act.put, List.setIfInBounds_toArray, List.set_cons_zero, List.set_cons_succ]
    refine wpAnyH_yield 12 20 (.int .i64 x.t) rfl rfl (by kernel_rfl) (by kernel_rfl) (by kernel_rfl) (fun _ _ _ h => h) (by kernel_rfl) (fun W hW => by obtain ⟨-, -, -, -, k0⟩ := SE.out W hW; go_simp) (by assumption) rfl rfl ?_
    simp only [Act.put, List.setIfInBounds_toArray, List.set_cons_zero, List.set_cons_succ]
    refine wpAnyH_enter 1 9 24 #[cp q] rfl rfl (by kernel_rfl) (by kernel_rfl) (by kernel_rfl) ?_
    refine (CM.out _ hT0).mono ?_
    rintro r w8 ⟨rfl, hw8⟩
    rw [← hw8] at hT0
    refine ⟨_, rfl, hT0, ?_⟩
    simp only [Act.put, List.setIfInBounds_toArray, List.set_cons_zero, List.set_cons_succ]
    refine wpAnyH_yield 13 21 (.int .i64 (min M x.t)) rfl rfl (by kernel_rfl) (by kernel_rfl) (by kernel_rfl) (fun _ _ _ h => h) (by kernel_rfl) (fun W hW => by go_simp) (by assumption) rfl rfl ?_
    simp only [Act.put, List.setIfInBounds_toArray, List.set_cons_zero, List.set_cons_succ]
    refine wpAnyH_yield 14 2 (.int .i64 (min M x.t)) rfl rfl (by kernel_rfl) (by kernel_rfl) (by kernel_rfl) (fun _ _ _ h => h) (by kernel_rfl) (fun W hW => by kernel_rfl) (by assumption) rfl rfl ?_
    simp only [Act.put, List.setIfInBounds_toArray, List.set_cons_zero, List.set_cons_succ]
    refine wpAnyH_done (by kernel_rfl) ?_ _
    have H8 := hide hT0
    clear hT0 SE CM hw8
    go_wp2_with fail
    go_ret
    exact ⟨by rw [FV.out]; rfl, H8.out⟩

theorem own_empty {α : Type} (E : Rc.Enc α) (e : TypeId) (w : World) : E.Own e (w.alloc (.cells #[] e)) w.heap.size (.slice (some ⟨w.heap.size, 0, none⟩) 0 0) [] :=
  ⟨by rw [E.flat_len], .inr ⟨w.heap.size, 0, #[], rfl, Nat.le_refl _, al_new _ _, by simp, by unfold maxLen; omega, by simp, by simp [Rc.Enc.flat]⟩⟩

set_option maxRecDepth 100000 in
theorem sclone_any (L : List Int) (lo : Option Addr) (lc : Nat) (w : World) (hm : encJ.Sl w lo lc L) (hne : L ≠ []) (hl : L.length ≤ 1000) : Calls Try.prog 34 #[.slice lo L.length lc] w fun e w' => ∃ a c, e = .returned (.slice a L.length c) ∧ encJ.Own 2 w' w.heap.size (.slice a L.length c) L ∧ Calm w w' := by
  obtain ⟨i0, hi, hz, hsz, hby⟩ := Rc.info_parts infoJ
  have T1 := (Touch.refl (fun _ => False) w).alloc (.cells #[] 2)
  obtain ⟨a1, p1, w1, hr, ow, t1, -⟩ := Rc.Own.appw (E := encJ) (ty := 22) Try.underlying22 hi hz hsz hby rfl (own_empty encJ 2 w) lo lc L (Rc.Mem.calm hm.mem T1) hm.nil (by simp; unfold maxLen; omega) (by simp; omega) (by omega) (by simp)
  rw [List.nil_append] at hr ow
  have FIN := hide (And.intro ow (Touch.trans T1 t1 (fun g hg e => by simp only [Value.ownBlock, Option.some.injEq] at e; omega)))
  obtain ⟨g, off, rfl, -⟩ := ints_W hm.mem 0 (List.length_pos_iff.2 hne)
  have NE : ∀ W : World, (binOp .eql 22 (.slice (some ⟨g, off, none⟩) L.length lc) (.slice none 0 0)).run Try.prog W = .ok (.bool false) W := fun W => by first | rfl | kernel_rfl
  have HR := hide hr
  clear hm hne hl T1 hr ow t1 hi hz hsz hby
  generalize L.length = n at *
  go_enter Try.func34, Try.ntmps34
  go_wp2_with (at_builtin; refine Rc.wpList_appR rfl (.tmp 5) (.tmp 6) 22 22 rfl _ _ _ rfl rfl HR.out ?_)
  go_ret
  exact ⟨a1, p1, rfl, FIN.out⟩

theorem marks_any {w : World} {q : Nat} {G : Nat → Prop} {L : List Int} {H : List Hd} (h : Clk w q G L H) : Calls Try.prog 26 #[cp q] w fun e w' => ∃ a c, e = .returned (.slice a L.length c) ∧ encJ.Own 2 w' w.heap.size (.slice a L.length c) L ∧ Calm w w' := by
  obtain ⟨V, p, m, f, lo, lc, Gp, h1, h2, -⟩ := h.ex
  have CT := hide (there_any q lo L.length lc w h.pos (clk_cells h1).1)
  have CM := hide (sclone_any L lo lc w (Rc.Own.sl h2) h.ne (by have := h.len; omega))
  have c0 := (clk_cells h1).1
  clear h h1 h2
  generalize L.length = n at *
  go_enter Try.func26, Try.ntmps26
  go_wp2_with fail
  refine CT.out.mono ?_
  rintro e w9 ⟨rfl, rfl⟩
  clear CT
  go_wp2_with fail
  refine CM.out.mono ?_
  rintro e w8 ⟨a, c, rfl, ow, t⟩
  have FIN := hide (And.intro ow t)
  clear CM ow t
  go_wp2_with fail
  go_ret
  exact ⟨a, c, rfl, FIN.out⟩

end Go.Proofs.Ytcmigkemhoecfaa

namespace Go.Proofs.Ytcmigkemhoecfaa
open Go.RowKit

theorem Pl.bound {w : World} {p : Nat} {G : Nat → Prop} {V : List Ho} (h : Pl w p G V) : Pl w p (fun g => G g ∧ g < w.heap.size) V := by
  obtain ⟨po, pc, h1, h2, h3⟩ := h.ex
  exact ⟨⟨po, pc, h1, h2, fun g hg => ⟨h3 g hg, (own_lt h2 hg).2⟩⟩, h.hs, ⟨h.at_, lt_of_heap h1⟩, fun i hi => ⟨h.in_ i hi, lt_of_heap (h.hs.at_ i hi)⟩⟩

/-- A step of the clock's: what it leaves. -/
def Next (w : World) (q : Nat) (G : Nat → Prop) (L : List Int) (H : List Hd) (w' : World) : Prop := Touch G w w' ∧ ∃ G', Clk w' q G' L H ∧ ∀ g, G' g → G g ∨ w.heap.size ≤ g

set_option maxRecDepth 100000 in
set_option maxHeartbeats 1000000 in
theorem put_any {w : World} {q : Nat} {G : Nat → Prop} {L : List Int} {H : List Hd} (x : ByteArray) (t : Int) (h : Clk w q G L H) (hx : x.size ≤ capX) (hn : hasH H x = false) (hl : H.length ≤ capH) : Calls Try.prog 37 #[cp q, .string x, .int .i64 t] w fun e w' => e = .returned (.tuple #[]) ∧ Next w q G L (holdH H x t) w' := by
  obtain ⟨V, p, m, f, lo, lc, Gp, h1, h2, h3, h4, hg, h5, h6, h7, h8, h9, h10⟩ := h.ex
  have hl2 : H.length ≤ 4600000000000 := hl
  have hlen := h8.len
  have hB := al_new w (.cells #[.string x, .int .i64 t, .int .i64 0] 84)
  have T1 := (Touch.refl (fun _ => False) w).alloc (.cells #[.string x, .int .i64 t, .int .i64 0] 84)
  have sz := al_size w (.cells #[.string x, .int .i64 t, .int .i64 0] 84)
  have q1 := T1.at h1
  obtain ⟨w2, hr, m2, T2⟩ := (h5.calm T1).put (x := x) hx w.heap.size (by unfold maxLen; omega)
  have nf : ∀ v ∈ V, v.n ≠ x := fun v hv e => by
    obtain ⟨i, hi, e2⟩ := mem_nh.1 hv
    have := (h8.has x).2 ⟨i, hi, by rw [e2]; exact e⟩
    rw [hn] at this; cases this
  have fx : f x = none := by
    cases e : f x with
    | none => rfl
    | some b =>
      obtain ⟨v, hv, a, -⟩ := (h7 x b).1 e
      exact absurd a (nf v hv)
  rw [fx] at m2
  have m2 : Mp w2 m (V.length + 1) (putf f x w.heap.size) := m2
  have nqm : q ≠ m := by
    rintro rfl
    obtain ⟨es, cl, hm⟩ := h5.isMap
    rw [h1] at hm; cases hm
  have q2 := T2.heap q1 nqm
  have Bm : w.heap.size ≠ m := by have := h.lt m h6; omega
  have B2 := T2.heap hB Bm
  have p2 := (h4.calm T1).touch T2 (fun g hh e => (hg g hh).2.2.1 e)
  have o2 := Rc.Own.touch (Rc.Own.calm h2 T1) T2 (fun g hh e => by
    obtain ⟨-, cur, hc⟩ := Rc.own_block h2 hh
    obtain ⟨es, cl, hm⟩ := h5.isMap
    rw [e, hm] at hc; cases hc)
  have nb : ∀ i, i < V.length → (nh V i).b ≠ w.heap.size := fun i hi e => by have := lt_of_heap (h4.hs.at_ i hi); omega
  have CP := hide (hpush_any V p Gp ⟨w.heap.size, x, t⟩ 0 w2 p2 h9 B2 nb (by omega))
  have s2 := T2.size
  have FIN : Hid (∀ w3 V', Pl w3 p (fun g => Gp g ∨ g = w.heap.size ∨ w2.heap.size ≤ g) V' → V'.Perm (V ++ [⟨w.heap.size, x, t⟩]) → Touch (fun g => Gp g ∨ g = w.heap.size) w2 w3 → Hp V' V'.length → Next w q G L (holdH H x t) w3) := hide fun w3 V' p3 perm T3 hp3 => by
    have s3 := T3.size
    have le : V'.length = V.length + 1 := by rw [perm.length_eq]; simp
    refine ⟨?_, fun g => (G g ∨ w.heap.size ≤ g) ∧ g < w3.heap.size, ⟨⟨V', p, m, putf f x w.heap.size, lo, lc, _, T3.heap q2 ?_, Rc.Own.touch o2 T3 ?_, fun g hh => ⟨.inl (h3 g hh), ?_⟩, p3.bound, fun g hh => ?_, ?_, ⟨.inl h6, ?_⟩, (h7.more ⟨w.heap.size, x, t⟩ nf).perm perm, (h8.more w.heap.size x t hn).perm perm, hp3, fun v hv => ?_⟩, ⟨.inl h.at_, ?_⟩, fun g hh => hh.2, h.ne, h.len⟩, fun g hh => hh.1⟩
    · refine Touch.trans (Touch.trans (T1.mono (S' := G) fun _ _ h => h.elim) (T2.mono (S' := G) fun g _ e => by rw [e]; exact h6) fun _ _ h => h) (T3.mono (S' := fun g => G g ∨ g = w.heap.size) fun g _ e => ?_) fun g hgl e => ?_
      · rcases e with e | e
        · exact .inl (hg g e).1
        · exact .inr e
      · rcases e with e | e
        · exact e
        · omega
    · rintro (e | e)
      · exact (hg q e).2.1 rfl
      · have := h.lt q h.at_; omega
    · intro g hh e
      rcases e with e | e
      · exact (hg g e).2.2.2 hh
      · have := (own_lt h2 hh).2; omega
    · have := (own_lt h2 hh).2; omega
    · rcases hh.1 with e | e | e
      · have := hg g e
        exact ⟨⟨.inl this.1, hh.2⟩, this.2⟩
      · have := h.lt q h.at_
        have := h.lt m h6
        exact ⟨⟨.inr (by omega), hh.2⟩, by omega, by omega, fun hv => by have := (own_lt h2 hv).2; omega⟩
      · have := h.lt q h.at_
        have := h.lt m h6
        exact ⟨⟨.inr (by omega), hh.2⟩, by omega, by omega, fun hv => by have := (own_lt h2 hv).2; omega⟩
    · rw [le]
      refine m2.touch T3 ?_
      rintro (e | e)
      · exact (hg m e).2.2.1 rfl
      · exact Bm e.symm
    · have := h.lt m h6; omega
    · rcases List.mem_append.1 (perm.mem_iff.1 hv) with hv | hv
      · exact h10 v hv
      · rw [List.mem_singleton] at hv
        rw [hv]; exact hx
    · have := h.lt q h.at_; omega
  have k1 := (clk_cells q1).2.2
  have k2 := (clk_cells q2).2.1
  clear h1 h2 h3 h4 h5 h6 h7 h8 h9 h10 hg h hx hn hl hl2 hlen hB T1 sz q1 T2 nf fx m2 nqm q2 Bm B2 p2 o2 nb s2
  go_enter Try.func37, Try.ntmps37
  go_wp2_with fail
  refine CP.out.mono ?_
  rintro e w3 ⟨rfl, V', p3, perm, T3, hp3⟩
  have N := hide (FIN.out w3 V' p3 perm T3 hp3)
  clear p3 perm T3 hp3 FIN CP hr k1 k2
  go_wp2_with fail
  go_end0
  exact ⟨rfl, N.out⟩

theorem flatV (V : List Ho) : encV.flat V = V.map fun v => cp v.b := by
  unfold Rc.Enc.flat
  induction V with
  | nil => rfl
  | cons v V ih => rw [List.flatMap_cons, ih]; rfl
theorem Pl.anew {w : World} {p : Nat} {G : Nat → Prop} {V : List Ho} (h : Pl w p G V) {i : Nat} (hi : i < V.length) (t : Int) : Pl (w.setCell ⟨(nh V i).b, 1, none⟩ (.int .i64 t)) p G (V.set i ⟨(nh V i).b, (nh V i).n, t⟩) ∧ Touch (fun g => g = (nh V i).b) w (w.setCell ⟨(nh V i).b, 1, none⟩ (.int .i64 t)) := by
  have T := (Touch.refl (fun k => k = (nh V i).b) w).setCell (p := ⟨(nh V i).b, 1, none⟩) (fun _ => rfl) (.int .i64 t)
  refine ⟨?_, T⟩
  obtain ⟨po, pc, h1, h2, h3⟩ := h.ex
  have eq : encV.flat (V.set i ⟨(nh V i).b, (nh V i).n, t⟩) = encV.flat V := by
    rw [flatV, flatV, List.map_set]
    have : cp (nh V i).b = (V.map fun v => cp v.b)[i]'(by simpa using hi) := by rw [List.getElem_map, nh_eq hi]
    show (List.map (fun v => cp v.b) V).set i (cp (nh V i).b) = _
    rw [this, List.set_getElem_self]
  have o2 := Rc.Own.touch h2 T (fun g hg e => by
    obtain ⟨-, cur, hc⟩ := Rc.own_block h2 hg
    exact tags hc (h.hs.at_ i hi) (by decide) e)
  refine ⟨⟨po, pc, by rw [List.length_set]; exact T.heap h1 (tags h1 (h.hs.at_ i hi) (by decide)), ?_, by rw [List.length_set]; exact h3⟩, ⟨fun k hk => ?_, fun k l hk hl e => ?_⟩, h.at_, fun k hk => ?_⟩
  · unfold Rc.Enc.Own at o2 ⊢
    rw [eq, List.length_set]
    exact o2
  · rw [List.length_set] at hk
    rw [nh_set hi]
    split
    · rename_i e
      subst e
      exact heap_setCell_row (i := 1) (h.hs.at_ k hk) (.int .i64 t)
    · rename_i e
      exact T.heap (h.hs.at_ k hk) (fun e2 => e (h.hs.inj k i hk hi e2))
  · rw [List.length_set] at hk hl
    have b : ∀ j, (nh (V.set i ⟨(nh V i).b, (nh V i).n, t⟩) j).b = (nh V j).b := fun j => by
      rw [nh_set hi]
      split
      · rename_i e; rw [e]
      · rfl
    rw [b, b] at e
    exact h.hs.inj k l hk hl e
  · rw [List.length_set] at hk
    rw [nh_set hi]
    split
    · exact h.in_ i hi
    · exact h.in_ k hk

end Go.Proofs.Ytcmigkemhoecfaa

namespace Go.Proofs.Ytcmigkemhoecfaa
open Go.RowKit

/-- A drawn region whose last operation is a call. -/
theorem wpAnyZ_call {P : Program} {md : Region.Mode} {ops : Array Oper} {Q : Exit → Act → World → Prop} {S : World → Prop} {z : Nat} {d : Tmp} {f : FuncId} {args : Array Value} {oi : Oper} {fuel : Nat} {listed : Array Bool} {a : Act} {w : World} (hi : ops[z]? = some oi) (hd : oi.dst = some d)
    (hr : Region.ready md ops listed = [z]) (hr' : Region.ready md ops (listed.setIfInBounds z true) = []) (hw : Region.wanted oi (yielded ops a.tmps) = true) (hrun : (execOp a.eval oi).run P w = .ok (.enter f args) w)
    (hc : Calls P f args w fun e w'' => ∃ v, e = .returned v ∧ Q .normal (a.put (some d) v) w'') : wpAnyZ P md ops Q S z (fuel + 1) listed a w := by
  refine wpAnyZ_end hi hr hr' hw ?_
  unfold Oper.wp
  rw [hrun, Oper.upon_enter]
  refine hc.mono fun e w'' hh => ?_
  obtain ⟨v, rfl, h⟩ := hh
  rw [hd]
  exact h

theorem hold_bad {w : World} {q : Nat} {G : Nat → Prop} {L : List Int} {H : List Hd} (x : ByteArray) (t : Int) (h : Clk w q G L H) (ht : timC t = false) : Calls Try.prog 21 #[cp q, .string x, .int .i64 t] w fun e w' => e = .returned (.int .i64 2) ∧ Calm w w' := by
  obtain ⟨V, p, m, f, lo, lc, Gp, h1, -⟩ := h.ex
  have CT := hide (there_any q lo L.length lc w h.pos (clk_cells h1).1)
  have CN := hide (isTime_any t w)
  rw [ht] at CN
  clear h h1 ht
  go_enter Try.func21, Try.ntmps21
  go_wp2_with fail
  refine CT.out.mono ?_
  rintro e w9 ⟨rfl, rfl⟩
  clear CT
  go_wp2_with fail
  refine CN.out.mono ?_
  rintro e w9 ⟨rfl, rfl⟩
  clear CN
  go_wp2_with fail
  go_ret
  exact ⟨rfl, Touch.refl _ _⟩

theorem Lk.at {V : List Ho} {H : List Hd} {f : ByteArray → Option Nat} (h : Lk V H) (hf : Fm f V) (x : ByteArray) : (hasH H x = true ∧ ∃ i, i < V.length ∧ (nh V i).n = x ∧ f x = some (nh V i).b) ∨ (hasH H x = false ∧ f x = none) := by
  cases e : hasH H x with
  | true =>
    obtain ⟨i, hi, e2⟩ := (h.has x).1 e
    exact .inl ⟨rfl, i, hi, e2, (hf x _).2 ⟨nh V i, nh_mem hi, e2, rfl⟩⟩
  | false =>
    refine .inr ⟨rfl, ?_⟩
    cases e2 : f x with
    | none => rfl
    | some b =>
      obtain ⟨v, hv, a, -⟩ := (hf x b).1 e2
      obtain ⟨i, hi, e3⟩ := mem_nh.1 hv
      have := (h.has x).2 ⟨i, hi, by rw [e3]; exact a⟩
      rw [e] at this; cases this

set_option maxRecDepth 100000 in
set_option maxHeartbeats 1000000 in
theorem hold_ok {w : World} {q : Nat} {G : Nat → Prop} {L : List Int} {H : List Hd} (x : ByteArray) (t : Int) (h : Clk w q G L H) (ht : timC t = true) (hl : H.length ≤ capH) (hx : x.size ≤ capX) : Calls Try.prog 21 #[cp q, .string x, .int .i64 t] w fun e w' => e = .returned (.int .i64 0) ∧ Next w q G L (holdH H x t) w' := by
  obtain ⟨V, p, m, f, lo, lc, Gp, h1, h2, h3, h4, hg, h5, h6, h7, h8, h9, h10⟩ := h.ex
  have hl2 : H.length ≤ 4600000000000 := hl
  have hlen := h8.len
  have CT := hide (there_any q lo L.length lc w h.pos (clk_cells h1).1)
  have CN := hide (isTime_any t w)
  rw [ht] at CN
  have k2 := (clk_cells h1).2.2
  have LK := h5.look hx
  rcases h8.at h7 x with ⟨hh, i, hi, ni, fx⟩ | ⟨hh, fx⟩
  · rw [fx, show ptV (some (nh V i).b) = cp (nh V i).b from rfl] at LK
    obtain ⟨p1, T1⟩ := h4.anew hi t
    have nb : (nh V i).b ≠ q := (hg _ (h4.in_ i hi)).2.1
    have q1 := T1.heap h1 (fun e => nb e.symm)
    have k1 := (clk_cells q1).2.1
    have hb := h4.hs.at_ i hi
    have c1 := (ho_cells hb).2.1
    have f1 : w.frozen? ⟨(nh V i).b, 1, none⟩ = false := by simp [World.frozen?, hb]
    have hb1 := p1.hs.at_ i (by simpa using hi)
    rw [nh_set hi, if_pos rfl] at hb1
    have c2 := (ho_cells hb1).2.2
    have e1 : (V.set i ⟨(nh V i).b, (nh V i).n, t⟩).length = V.length := by simp
    have CF := hide (fun W (hW : Calm (w.setCell ⟨(nh V i).b, 1, none⟩ (.int .i64 t)) W) => hfix_any (V.set i ⟨(nh V i).b, (nh V i).n, t⟩) p Gp i W (p1.calm hW) (by omega) (by omega) (by rw [e1]; exact dn_set h9 (Nat.le_refl _) hi))
    have SE : Hid (∀ W, Calm (w.setCell ⟨(nh V i).b, 1, none⟩ (.int .i64 t)) W → W.cell? ⟨q, 1, none⟩ = some (cp p) ∧ W.cell? ⟨(nh V i).b, 2, none⟩ = some (.int .i64 (i : Int))) := hide fun W hW => ⟨(clk_cells (hW.at q1)).2.1, (ho_cells (hW.at hb1)).2.2⟩
    have FIN : Hid (∀ W w3 V', Calm (w.setCell ⟨(nh V i).b, 1, none⟩ (.int .i64 t)) W → Pl w3 p Gp V' → V'.Perm (V.set i ⟨(nh V i).b, (nh V i).n, t⟩) → Touch Gp W w3 → Hp V' V'.length → Next w q G L (holdH H x t) w3) := hide fun W w3 V' hW p3 perm T3 hp3 => by
      have T13 : Touch Gp w w3 := Touch.trans (Touch.trans (T1.mono (S' := Gp) fun g _ e => by rw [e]; exact h4.in_ i hi) (hW.mono fun _ _ h => h.elim) fun _ _ h => h) T3 fun _ _ h => h
      have le : V'.length = V.length := by rw [perm.length_eq]; simp
      refine ⟨T13.mono fun g _ e => (hg g e).1, G, ⟨⟨V', p, m, f, lo, lc, Gp, T13.heap h1 (fun e => (hg q e).2.1 rfl), Rc.Own.touch h2 T13 (fun g hh e => (hg g e).2.2.2 hh), h3, p3, hg, ?_, h6, (h7.anew hi t).perm perm, ?_, hp3, fun v hv => ?_⟩, h.at_, fun g hh => Nat.lt_of_lt_of_le (h.lt g hh) T13.size, h.ne, h.len⟩, fun g hh => .inl hh⟩
      · rw [le]; exact h5.touch T13 (fun e => (hg m e).2.2.1 rfl)
      · have := (h8.anew hi t).perm perm
        rw [ni] at this
        exact this
      · obtain ⟨k, hk, e⟩ := mem_nh.1 (perm.mem_iff.1 hv)
        rw [List.length_set] at hk
        rw [nh_set hi] at e
        split at e
        · have := h10 _ (nh_mem hi)
          rw [← e]; exact this
        · rw [← e]; exact h10 _ (nh_mem hk)
    clear h1 h2 h3 h4 h5 h6 h7 h8 h9 h10 hg h ht hl hl2 hx hlen hb hb1 p1 q1 hh T1 nb e1 hi
    generalize (nh V i).b = b at *
    go_enter Try.func21, Try.ntmps21
    go_wp2_with fail
    refine CT.out.mono ?_
    rintro e w9 ⟨rfl, rfl⟩
    clear CT
    go_wp2_with fail
    refine CN.out.mono ?_
    rintro e w9 ⟨rfl, rfl⟩
    clear CN
    go_wp2_with fail
    clear LK fx
    generalize w9.setCell ⟨b, 1, none⟩ (.int .i64 t) = w1 at *
    refine wp_region_z 9 (Calm w1) (by kernel_rfl) ?_
    have hT0 : Calm w1 { w1 with drawn := w1.drawn + 1 } := (Touch.refl _ w1).drew
    refine wpAnyZ_yield 0 28 (cp q) [1, 2, 3, 4, 9] rfl rfl (by kernel_rfl) (by kernel_rfl) (by kernel_rfl) (by kernel_rfl) (by kernel_rfl) (fun _ _ _ h => h) (by kernel_rfl) (fun W hW => by kernel_rfl) (by assumption) rfl rfl ?_
    simp only [Act.put, List.setIfInBounds_toArray, List.set_cons_zero, List.set_cons_succ]
    refine wpAnyZ_yield 1 29 (cp q) [2, 3, 4, 9] rfl rfl (by kernel_rfl) (by kernel_rfl) (by kernel_rfl) (by kernel_rfl) (by kernel_rfl) (fun _ _ _ h => h) (by kernel_rfl) (fun W hW => by go_simp) (by assumption) rfl rfl ?_
    simp only [Act.put, List.setIfInBounds_toArray, List.set_cons_zero, List.set_cons_succ]
    refine wpAnyZ_yield 2 30 (.pointer (some ⟨q, 1, none⟩)) [3, 4, 9] rfl rfl (by kernel_rfl) (by kernel_rfl) (by kernel_rfl) (by kernel_rfl) (by kernel_rfl) (fun _ _ _ h => h) (by kernel_rfl) (fun W hW => by go_simp) (by assumption) rfl rfl ?_
    simp only [Act.put, List.setIfInBounds_toArray, List.set_cons_zero, List.set_cons_succ]
    refine wpAnyZ_yield 3 31 (cp p) [4, 9] rfl rfl (by kernel_rfl) (by kernel_rfl) (by kernel_rfl) (by kernel_rfl) (by kernel_rfl) (fun _ _ _ h => h) (by kernel_rfl) (fun W hW => by obtain ⟨k0, -⟩ := SE.out W hW; go_simp) (by assumption) rfl rfl ?_
    simp only [Act.put, List.setIfInBounds_toArray, List.set_cons_zero, List.set_cons_succ]
    refine wpAnyZ_yield 4 32 (pv p) [9] rfl rfl (by kernel_rfl) (by kernel_rfl) (by kernel_rfl) (by kernel_rfl) (by kernel_rfl) (fun _ _ _ h => h) (by kernel_rfl) (fun W hW => by go_simp) (by assumption) rfl rfl ?_
    simp only [Act.put, List.setIfInBounds_toArray, List.set_cons_zero, List.set_cons_succ]
    refine wpAnyZ_yield 5 33 (cp b) [6, 7, 8, 9] rfl rfl (by kernel_rfl) (by kernel_rfl) (by kernel_rfl) (by kernel_rfl) (by kernel_rfl) (fun _ _ _ h => h) (by kernel_rfl) (fun W hW => by kernel_rfl) (by assumption) rfl rfl ?_
    simp only [Act.put, List.setIfInBounds_toArray, List.set_cons_zero, List.set_cons_succ]
    refine wpAnyZ_yield 6 34 (cp b) [7, 8, 9] rfl rfl (by kernel_rfl) (by kernel_rfl) (by kernel_rfl) (by kernel_rfl) (by kernel_rfl) (fun _ _ _ h => h) (by kernel_rfl) (fun W hW => by go_simp) (by assumption) rfl rfl ?_
    simp only [Act.put, List.setIfInBounds_toArray, List.set_cons_zero, List.set_cons_succ]
    refine wpAnyZ_yield 7 35 (.pointer (some ⟨b, 2, none⟩)) [8, 9] rfl rfl (by kernel_rfl) (by kernel_rfl) (by kernel_rfl) (by kernel_rfl) (by kernel_rfl) (fun _ _ _ h => h) (by kernel_rfl) (fun W hW => by go_simp) (by assumption) rfl rfl ?_
    simp only [Act.put, List.setIfInBounds_toArray, List.set_cons_zero, List.set_cons_succ]
    refine wpAnyZ_yield 8 36 (.int .i64 (i : Int)) [9] rfl rfl (by kernel_rfl) (by kernel_rfl) (by kernel_rfl) (by kernel_rfl) (by kernel_rfl) (fun _ _ _ h => h) (by kernel_rfl) (fun W hW => by obtain ⟨-, k0⟩ := SE.out W hW; go_simp) (by assumption) rfl rfl ?_
    simp only [Act.put, List.setIfInBounds_toArray, List.set_cons_zero, List.set_cons_succ]
    refine wpAnyZ_call (d := 37) (f := 47) (args := #[pv p, .int .i64 (i : Int)]) rfl rfl (by kernel_rfl) (by kernel_rfl) (by kernel_rfl) (by kernel_rfl) ?_
    refine (CF.out _ hT0).mono ?_
    rintro e w3 ⟨rfl, V', p3, perm, T3, hp3⟩
    have N := hide (FIN.out _ w3 V' hT0 p3 perm T3 hp3)
    refine ⟨_, rfl, ?_⟩
    simp only [Act.put, List.setIfInBounds_toArray, List.set_cons_zero, List.set_cons_succ]
    clear hT0 p3 perm T3 hp3 FIN CF SE
    go_wp2_with fail
    go_ret
    exact ⟨rfl, N.out⟩
  · rw [fx, show ptV none = .pointer none from rfl] at LK
    have CC := hide (clone_any x w hx)
    have CP := hide (fun W (hW : Calm w W) => put_any x t (h.calm hW) hx hh hl)
    clear h1 h2 h3 h4 h5 h6 h7 h8 h9 h10 hg h ht hl hl2 hx hlen hh
    go_enter Try.func21, Try.ntmps21
    go_wp2_with fail
    refine CT.out.mono ?_
    rintro e w9 ⟨rfl, rfl⟩
    clear CT
    go_wp2_with fail
    refine CN.out.mono ?_
    rintro e w9 ⟨rfl, rfl⟩
    clear CN
    go_wp2_with fail
    refine CC.out.mono ?_
    rintro e w8 ⟨rfl, t8⟩
    have C := hide (CP.out w8 t8)
    have T8 := hide t8
    clear CC CP t8 LK
    go_wp2_with fail
    refine C.out.mono ?_
    rintro e w7 ⟨rfl, t7, G', c7, g7⟩
    have N : Hid (Next w9 q G L (holdH H x t) w7) := hide ⟨(T8.out.mono fun _ _ h => h.elim).trans t7 fun _ _ h => h, G', c7, fun g hg => by
      rcases g7 g hg with h | h
      · exact .inl h
      · exact .inr (Nat.le_trans T8.out.size h)⟩
    clear C t7 c7 g7
    go_wp2_with fail
    go_ret
    exact ⟨rfl, N.out⟩

end Go.Proofs.Ytcmigkemhoecfaa
