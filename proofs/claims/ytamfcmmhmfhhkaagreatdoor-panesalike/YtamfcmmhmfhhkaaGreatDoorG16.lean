/- A pane's line behind a text (the program's write): notions, appends, the library's AppendInt. A pane's line behind a text (the program's write; the walk). The program's Line. What of a line has not been read (the program's course): next, take, word, code. -/
import Derived.Test.YtamfcmmhmfhhkaaGreatDoorG12
import Derived.Test.YtamfcmmhmfhhkaaGreatDoorG8
import Derived.Lib.BufferKept
import Derived.Test.YtamfcmmhmfhhkaaGreatDoorG5
import Derived.Great.BuildSlice
import Derived.Test.YtamfcmmhmfhhkaaGreatDoorG9
import Derived.Test.YtamfcmmhmfhhkaaGreatDoorG10
namespace Go.Proofs.YtamfcmmhmfhhkaaGreatDoor
open Go.RowKit

/-- Only rows of bytes above a mark have turned. -/
structure Wr (B : Nat) (w W : World) : Prop where
  below : Below B w W
  kept : Lib.OthersKept 5 none w W
theorem Wr.refl (B : Nat) (w : World) : Wr B w w := ⟨Below.refl _ _, Lib.OthersKept.refl _ _ _⟩
theorem Wr.trans {B : Nat} {a b c : World} (h : Wr B a b) (k : Wr B b c) : Wr B a c := ⟨h.below.trans k.below, h.kept.trans k.kept⟩
theorem Wr.calm {B : Nat} {w W : World} (h : Calm w W) (hB : B ≤ w.heap.size) : Wr B w W :=
  ⟨⟨h.os, h.tape, h.output, h.size, fun k hk => h.block k (by omega) (fun h => h)⟩, fun _ _ hk _ _ => h.at hk⟩
theorem Wr.row {B : Nat} {w W : World} {v : Value} {L : List Int} (ho : encB.Own 5 w B v L) (ht : Touch (fun d => v.ownBlock = some d) w W) (hB : B ≤ w.heap.size) : Wr B w W :=
  ⟨⟨ht.os, ht.tape, ht.output, ht.size, fun k hk => ht.block k (by omega) (fun hs => by have := (Rc.own_block ho hs).1; omega)⟩, fun k o hk _ hn => ht.heap hk (fun hs => by
    obtain ⟨-, cur, hc⟩ := Rc.own_block ho hs
    rw [hk] at hc
    injection hc with hc
    exact hn _ _ hc)⟩
theorem Wr.at {B : Nat} {w W : World} (h : Wr B w W) {g : Nat} {cs : Array Value} {t : TypeId} (hg : w.heap[g]? = some (.cells cs t (0, 0))) (ht : t ≠ 5) : W.heap[g]? = some (.cells cs t (0, 0)) :=
  h.kept g _ hg (fun h => (nomatch h)) (fun c fz e => by injection e with _ e; exact ht e)
theorem Wr.size {B : Nat} {w W : World} (h : Wr B w W) : w.heap.size ≤ W.heap.size := h.below.size

/-- New bytes more, and where the row lies then. -/
theorem by_appM {w : World} {base : Nat} {ao : Option Addr} {cap : Nat} {A : List Int} (M : List Int) (h : encB.Own 5 w base (.slice ao A.length cap) A) (hs : base ≤ w.heap.size) (hn : A.length + M.length ≤ 100000000000000) :
    ∃ a2 p2 w4, (Builtin.append_ #[64, 64] 64 #[.slice ao A.length cap, .slice (some ⟨w.heap.size, 0, none⟩) M.length M.length]).run Tryz.prog (w.alloc (.cells (encB.flat M).toArray 5)) = .ok (.slice a2 (A ++ M).length p2) w4 ∧
      encB.Own 5 w4 base (.slice a2 (A ++ M).length p2) (A ++ M) ∧ Touch (fun d => (Value.slice ao A.length cap).ownBlock = some d) w w4 ∧
      (∀ d, (Value.slice a2 (A ++ M).length p2).ownBlock = some d → (Value.slice ao A.length cap).ownBlock = some d ∨ w.heap.size ≤ d) := by
  obtain ⟨i0, hi, hz, hsz, hby⟩ := Rc.info_parts infoByte
  have own := Rc.Own.calm h ((Touch.refl (fun _ => False) w).alloc (.cells (encB.flat M).toArray 5))
  have hs1 := al_size w (.cells (encB.flat M).toArray 5)
  obtain ⟨a2, p2, w4, hr, ow, t2, hx⟩ := Rc.Own.appw (E := encB) (ty := 64) Tryz.underlying64 hi hz hsz hby rfl own (some ⟨w.heap.size, 0, none⟩) M.length M (Rc.Mem.new w M 5) (fun h => (nomatch h)) (by unfold maxLen; omega) (by omega) (by omega) (by omega)
  exact ⟨a2, p2, w4, hr, ow, Touch.trans (((Touch.refl (fun _ => False) w).alloc _).mono fun _ _ h => h.elim) t2 fun _ _ h => h, fun d hd => (hx d hd).imp (fun h => h) (fun h => by omega)⟩

theorem bsL_app (a b : ByteArray) : bsL (a ++ b) = bsL a ++ bsL b := by
  unfold bsL
  rw [ByteArray.data_append, Array.toList_append, List.map_append]
theorem bs_of {L : List Int} (h : ∀ x ∈ L, 0 ≤ x ∧ x < 256) : bsL (strOfNums L) = L := by
  unfold bsL
  rw [strOfNums_data, List.map_map]
  conv => rhs; rw [← List.map_id L]
  apply List.map_congr_left
  intro x hx
  obtain ⟨h0, h1⟩ := h x hx
  show ((UInt8.ofNat x.toNat).toNat : Int) = x
  rw [UInt8.toNat_ofNat']
  omega
theorem hexB_byte {n : Int} (h0 : 0 ≤ n) (h1 : n < 16) : 0 ≤ hexB n ∧ hexB n < 256 := by
  unfold hexB
  split <;> omega
theorem escL_in {b : Int} (h0 : 0 ≤ b) (h1 : b < 256) : ∀ x ∈ escL b, 0 ≤ x ∧ x < 256 := by
  unfold escL
  split
  · intro x hx; rw [List.mem_singleton] at hx; subst hx; exact ⟨h0, h1⟩
  · intro x hx
    have a := hexB_byte (n := b / 16) (by omega) (by omega)
    have c := hexB_byte (n := b % 16) (by omega) (by omega)
    simp only [List.mem_cons, List.not_mem_nil, or_false] at hx
    rcases hx with rfl | rfl | rfl | rfl
    · omega
    · omega
    · exact a
    · exact c
theorem quoA_in (s : ByteArray) : ∀ x ∈ quoA s, 0 ≤ x ∧ x < 256 := by
  intro x hx
  unfold quoA quoL at hx
  rcases List.mem_append.1 hx with hx | hx
  · rcases List.mem_cons.1 hx with rfl | hx
    · omega
    · obtain ⟨u, -, hx⟩ := List.mem_flatMap.1 hx
      exact escL_in (by omega) (by have := u.toNat_lt; omega) x hx
  · rw [List.mem_singleton] at hx; subst hx; omega
theorem bs_quo (s : ByteArray) : bsL (strOfNums (quoA s)) = quoA s := bs_of (quoA_in s)
theorem bs_bl : bsL blB = [32] := rfl

set_option maxRecDepth 100000 in
theorem appendInt_any (x : Int) (h0 : -9223372036854775808 ≤ x) (h1 : x ≤ 9223372036854775807) (A : List Int) (v : Value) (w : World) (B : Nat) (ho : encB.Own 5 w B v A) (hB : B ≤ w.heap.size) (hl : A.length ≤ 1000000000) (ht : Lib.TabBelow Tryz.prog B w "internal/strconv.uint64pow10" .u64 Lib.pow10Tab) :
    Calls Tryz.prog 48 #[v, .int .i64 x, .int .i64 10] w fun e w' => ∃ a c, e = .returned (.slice a (A ++ bsL (intB x)).length c) ∧ encB.Own 5 w' B (.slice a (A ++ bsL (intB x)).length c) (A ++ bsL (intB x)) ∧ Wr B w w' := by
  refine (Any.strconv_AppendInt_10 Tryz.laysM176 B A.length x h0 h1 v (encB.flat A) w ho hB (by omega) ht).mono ?_
  rintro e w' ⟨v', rfl, ho', hb, hk⟩
  have e1 : encB.flat (bsL (intB x)) = Lib.byteCells (Lib.itoa x) := by
    rw [bsL_flat]
    rfl
  have e2 : (bsL (intB x)).length = (Lib.itoa x).length := by
    rw [bsL_len]
    show (Lib.itoa x).toArray.size = _
    rw [List.size_toArray]
  have ho2 : encB.Own 5 w' B v' (A ++ bsL (intB x)) := by
    unfold Rc.Enc.Own
    rw [encB.flat_append, List.length_append, e1, e2]
    exact ho'
  obtain ⟨a, c, hv⟩ := Rc.own_shape ho2
  subst hv
  exact ⟨a, c, rfl, ho2, hb, hk⟩

end Go.Proofs.YtamfcmmhmfhhkaaGreatDoor

namespace Go.Proofs.YtamfcmmhmfhhkaaGreatDoor
open Go.RowKit

abbrev hexD : ByteArray := ⟨#[48, 49, 50, 51, 52, 53, 54, 55, 56, 57, 97, 98, 99, 100, 101, 102]⟩
theorem hexD_at (n : Nat) (h : n < 16) : ((hexD[n]'h).toNat : Int) = hexB (n : Int) := by
  rcases (by omega : n = 0 ∨ n = 1 ∨ n = 2 ∨ n = 3 ∨ n = 4 ∨ n = 5 ∨ n = 6 ∨ n = 7 ∨ n = 8 ∨ n = 9 ∨ n = 10 ∨ n = 11 ∨ n = 12 ∨ n = 13 ∨ n = 14 ∨ n = 15) with rfl | rfl | rfl | rfl | rfl | rfl | rfl | rfl | rfl | rfl | rfl | rfl | rfl | rfl | rfl | rfl <;> rfl
theorem hexD_run (n : Nat) (h : n < 16) (W : World) : (Instr.index 9 (.string hexD) (.int .u8 (n : Int))).run Tryz.prog W = .ok (.int .u8 (hexB (n : Int))) W := by
  have hs : hexD.size = 16 := rfl
  rw [run_index_string W 9 hexD .u8 (n : Int) Tryz.underlying9, dif_pos ⟨by omega, by rw [hs]; omega⟩, ← hexD_at n h]
  rfl
theorem nums_run (p : Pn) (i : Nat) (h : i < 7) (W : World) : (Instr.index 91 (.agg #[.int .i64 p.a, .int .i64 p.b, .int .i64 p.n, .int .i64 p.t.c, .int .i64 p.t.s, .int .i64 p.t.m, .int .i64 p.t.x]) (.int .i64 (i : Int))).run Tryz.prog W = .ok (.int .i64 ((numsP p).getD i 0)) W := by
  have hu := Tryz.underlying91
  rcases (by omega : i = 0 ∨ i = 1 ∨ i = 2 ∨ i = 3 ∨ i = 4 ∨ i = 5 ∨ i = 6) with rfl | rfl | rfl | rfl | rfl | rfl | rfl <;> simp [Instr.index, run_underlying hu, asIntOf, go_sem, numsP]

set_option maxRecDepth 100000 in
set_option maxHeartbeats 8000000 in
theorem write_any (p : Pn) (hm : mayP p = true) (hp : NumOk p) (A : List Int) (ao : Option Addr) (cap : Nat) (w : World) (B : Nat) (ho : encB.Own 5 w B (.slice ao A.length cap) A) (hB : B ≤ w.heap.size) (hA : A.length ≤ 100000000) (ht : Lib.TabBelow Tryz.prog B w "internal/strconv.uint64pow10" .u64 Lib.pow10Tab) (hk : Kds w) (hg : 0 < B) :
    Calls Tryz.prog 33 #[.slice ao A.length cap, pnv p] w fun e w' => ∃ a c, e = .returned (.slice a (A ++ bsL (lineB p)).length c) ∧ encB.Own 5 w' B (.slice a (A ++ bsL (lineB p)).length c) (A ++ bsL (lineB p)) ∧ Wr B w w' := by
  have hks : p.k.size ≤ 256 := by unfold mayP at hm; exact (of_decide_eq_true hm).1
  have hd := (by unfold mayP at hm; exact (of_decide_eq_true hm).2 : 1 ≤ p.d ∧ p.d ≤ 3)
  obtain ⟨j, hj⟩ : ∃ j : Nat, p.d = (j : Int) := ⟨p.d.toNat, by omega⟩
  have hj1 : 1 ≤ j ∧ j ≤ 3 := by omega
  have QS : Hid (∀ i (h : i < p.k.size), A ++ quoL p.k (i + 1) = (A ++ quoL p.k i) ++ escL ((p.k[i]'h).toNat : Int)) := hide fun i h => by rw [quoL_succ h, List.append_assoc]
  have QL : Hid (∀ i, i ≤ p.k.size → (A ++ quoL p.k i).length ≤ 100002000) := hide fun i hi => by
    rw [List.length_append]
    have := quoL_len (s := p.k) i hi
    omega
  have Q0 : Hid (A ++ quoL p.k 0 = A ++ [34]) := hide (by simp [quoL])
  have T0 : Hid (((A ++ quoL p.k p.k.size) ++ [34, 32]) ++ bsL (kdB j) = A ++ bsL (txL p 0)) := hide (by
    have e : kdB j = nameB p.d := by unfold kdB; rw [if_neg (by omega), hj]
    rw [e, txL, bsL_app, bsL_app, bs_quo, bs_bl]
    unfold quoA
    simp)
  have TS : Hid (∀ i, i < 7 → A ++ bsL (txL p (i + 1)) = ((A ++ bsL (txL p i)) ++ [32]) ++ bsL (intB ((numsP p).getD i 0))) := hide fun i _ => by
    rw [txL, bsL_app, bsL_app, bs_bl]
    simp
  have TL : Hid (∀ i, i ≤ 7 → (A ++ bsL (txL p i)).length ≤ 100002000) := hide fun i hi => by
    rw [List.length_append, bsL_len]
    have := txL_size hks hp i hi
    omega
  have TE : Hid (A ++ bsL (txL p 7) = A ++ bsL (lineB p)) := hide rfl
  have KL : Hid ((bsL (kdB j)).length ≤ 10) := hide (by
    rw [bsL_len]
    unfold kdB
    rw [if_neg (by omega)]
    have := nameB_size (j : Int)
    omega)
  have KC : Hid (∀ W, Below B w W → W.cell? ⟨0, j, none⟩ = some (.string (kdB j))) := hide fun W hW => by
    have h1 := hk j (by omega)
    unfold World.cell? at h1 ⊢
    rw [hW.block _ hg]
    exact h1
  have IX := hide (fun i (h : i < 7) W => nums_run p i h W)
  have NI := hide (fun i (h : i < 7) => hp i h)
  have CI := hide (fun x h0 h1 A' v' (W : World) ho' hB' hl' ht' => appendInt_any x h0 h1 A' v' W B ho' hB' hl' ht')
  have P0 := hide (al_new w (.cells (pnc p) 40))
  have W0 := hide (Wr.calm (B := B) ((Touch.refl (fun _ => False) w).alloc (.cells (pnc p) 40)) hB)
  have O0 := Rc.Own.calm ho ((Touch.refl (fun _ => False) w).alloc (.cells (pnc p) 40))
  have HT := hide ht
  have S0 := al_size w (.cells (pnc p) 40)
  obtain ⟨a1, p1, w1, hr1, ow1, t1, -⟩ := by_appM [34] O0 (by omega) (by simp only [List.length_cons, List.length_nil]; omega)
  rw [← Q0.out] at hr1 ow1
  have hr1' : (Builtin.append_ #[64, 64] 64 #[.slice ao A.length cap, .slice (some ⟨w.heap.size + 1, 0, none⟩) 1 1]).run Tryz.prog ((w.alloc (.cells (pnc p) 40)).alloc (.cells #[.int .u8 34] 5)) = .ok (.slice a1 (A ++ quoL p.k 0).length p1) w1 := by
    have h := hr1
    rw [S0] at h
    exact h
  have HR1 := hide hr1'
  have W1 := hide (W0.out.trans (Wr.row O0 t1 (by omega)))
  have P1 := hide ((Wr.row O0 t1 (by omega)).at P0.out (by decide))
  have H1 := hide ow1
  generalize hq : (fun i => A ++ quoL p.k i) = q at *
  have hq' : ∀ i, A ++ quoL p.k i = q i := fun i => by rw [← hq]
  generalize htx : (fun i => A ++ bsL (txL p i)) = tx at *
  have htx' : ∀ i, A ++ bsL (txL p i) = tx i := fun i => by rw [← htx]
  simp only [hq', htx'] at QS QL T0 TS TL TE H1 HR1
  clear hq hq' htx htx' hr1 hr1' ow1 t1 O0 P0 W0 Q0 hk ho hp hm ht hd
  generalize A ++ bsL (lineB p) = Z at *
  have HD : Hid (p.d = (j : Int)) := hide hj
  clear hj
  obtain ⟨⟨c0, c1, c2, c3, c4⟩, c5, c6, c7, c8⟩ := pn_cells P1.out
  have CV0 := Lib.run_convert_string_bytes (P := Tryz.prog) w1 9 64 5 p.k Tryz.underlying9 Tryz.underlying64 Tryz.underlying5
  have CW0 := Lib.bytesWorld_at_new w1 5 p.k
  have CC0 := fun i hi => Lib.bytesWorld_cell w1 5 p.k i hi
  have TW : Calm w1 (Lib.bytesWorld w1 5 p.k) := calm_below (Lib.bytesWorld_below _ _ _)
  generalize Lib.bytesWorld w1 5 p.k = w2 at *
  generalize hG : (Obj.cells (Lib.bytesCells w1 5 p.k) 5 ((Lib.bytesCells w1 5 p.k).size, (Lib.bytesCells w1 5 p.k).size + 1)) = G at *
  generalize grownCap w1 p.k.size 0 5 = cp at *
  have N1 : Hid ((Value.slice a1 (q 0).length p1).ownBlock ≠ some w1.heap.size) := hide (fun e => by
    obtain ⟨-, cur, hc⟩ := Rc.own_block H1.out e
    have := lt_of_heap hc
    omega)
  generalize w1.heap.size = g at *
  have BC : Hid (∀ W : World, W.heap[g]? = some G → ∀ i (h : i < p.k.size), W.cell? ⟨g, i, none⟩ = some (.int .u8 (((p.k[i]'h).toNat : Nat) : Int))) := hide fun W hW i h => by
    have h1 := CC0 i h
    have e : W.cell? ⟨g, i, none⟩ = w2.cell? ⟨g, i, none⟩ := by unfold World.cell?; rw [hW, CW0]
    rw [e, h1]
    congr 3
    have h' : i < p.k.data.toList.length := by rw [Array.length_toList]; exact h
    rw [List.getD_eq_getElem?_getD, List.getElem?_eq_getElem h']
    rfl
  have H2 := hide (Rc.Own.calm H1.out TW)
  have GW := hide CW0
  have W2 := hide (W1.out.trans (Wr.calm TW (by have := W1.out.size; omega)))
  have P2 := hide (TW.at P1.out)
  have Z2 : Hid (B ≤ w2.heap.size) := hide (by have := W2.out.size; omega)
  clear CC0 CW0 TW hG H1 P1
  have CV := hide CV0
  clear CV0
  have HB := hide hB
  go_enter Tryz.func33, Tryz.ntmps33
  have cv := CV.out
  go_wp2_with (at_builtin; refine Rc.wpList_appR rfl (.tmp 9) (.tmp 10) 64 64 rfl _ _ _ rfl rfl HR1.out ?_)
  clear cv CV HR1 c0 c1 c2 c3 c4 c5 c6 c7 c8 hB
  generalize w.heap.size = D at *
  go_loopw [0, 16] (fun s0 s16 wr => ∃ (i : Nat) (a : Option Addr) (c : Nat), s16 = .int .i64 (i : Int) ∧ i ≤ p.k.size ∧ s0 = .slice a (q i).length c ∧ encB.Own 5 wr B (.slice a (q i).length c) (q i) ∧ Wr B w2 wr ∧ wr.heap[g]? = some G ∧ Hid ((Value.slice a (q i).length c).ownBlock ≠ some g)) (fun _ s16 _ => p.k.size - (intOf s16).toNat)
  case atStart => exact ⟨0, _, _, rfl, by omega, rfl, H2.out, Wr.refl _ _, GW.out, N1⟩
  case round =>
    obtain ⟨i, a, c, rfl, hi, rfl, OW, TR, hg2, HN⟩ := hrel
    clear H2 GW N1
    have BW : Hid (B ≤ wr.heap.size) := hide (by have := TR.size; have := Z2.out; omega)
    by_cases hlt : i < p.k.size
    · have hltz : (i : Int) < (p.k.size : Int) := by omega
      have hs1 := QS.out i hlt
      have hl1 := QL.out i hi
      have cb := BC.out wr hg2 i hlt
      obtain ⟨b, hb⟩ : ∃ b : Nat, (p.k[i]'hlt).toNat = b := ⟨_, rfl⟩
      have hb255 : b < 256 := by rw [← hb]; exact (p.k[i]'hlt).toNat_lt
      rw [hb] at hs1 cb
      have CT := hide (fun W => itself_any (b : Int) W)
      clear QS QL BC T0 TS TL TE KL KC IX NI CI HT hb
      have APP : Hid (∀ M : List Int, q i ++ M = q (i + 1) → M.length ≤ 4 → ∀ W, Calm wr W → ∃ a4 c4 w4, (Builtin.append_ #[64, 64] 64 #[.slice a (q i).length c, .slice (some ⟨W.heap.size, 0, none⟩) M.length M.length]).run Tryz.prog (W.alloc (.cells (encB.flat M).toArray 5)) = .ok (.slice a4 (q (i + 1)).length c4) w4 ∧
          encB.Own 5 w4 B (.slice a4 (q (i + 1)).length c4) (q (i + 1)) ∧ Wr B w2 w4 ∧ w4.heap[g]? = some G ∧ Hid ((Value.slice a4 (q (i + 1)).length c4).ownBlock ≠ some g) ∧ Touch (fun d => (Value.slice a (q i).length c).ownBlock = some d) W w4) := hide fun M hM hM4 W hW => by
        have ow0 := Rc.Own.calm OW hW
        have hsz := hW.size
        obtain ⟨a4, c4, w4, hr, ow, t2, hx⟩ := by_appM M ow0 (by have := BW.out; omega) (by omega)
        rw [hM] at hr ow hx
        refine ⟨a4, c4, w4, hr, ow, (TR.trans (Wr.calm hW BW.out)).trans (Wr.row ow0 t2 (by have := BW.out; omega)), t2.heap (hW.at hg2) (fun e => HN.out e), hide (fun e => ?_), t2⟩
        rcases hx g e with h | h
        · exact HN.out h
        · have := lt_of_heap hg2
          omega
      by_cases hp : 32 ≤ b ∧ b ≤ 126 ∧ b ≠ 34 ∧ b ≠ 92
      · have hE : q i ++ [(b : Int)] = q (i + 1) := by rw [hs1]; unfold escL; rw [if_pos ⟨by omega, by omega, by omega, by omega⟩]
        have hit : itB (b : Int) = true := decide_eq_true ⟨by omega, by omega, by omega, by omega⟩
        rw [hit] at CT
        obtain ⟨a4, c4, w4, hr, ow, t3, h4, hn4, -⟩ := APP.out [(b : Int)] hE (by simp) wr (Touch.refl _ _)
        have hr' : (Builtin.append_ #[64, 64] 64 #[.slice a (q i).length c, .slice (some ⟨wr.heap.size, 0, none⟩) 1 1]).run Tryz.prog (wr.alloc (.cells #[.int .u8 (b : Int)] 5)) = .ok (.slice a4 (q (i + 1)).length c4) w4 := hr
        have HR := hide hr'
        have HO := hide ow
        have H3 := hide t3
        have H4 := hide h4
        clear hr hr' ow t3 h4 APP hE hit hp hs1 hl1 OW TR hg2 HN BW
        go_wp2_with fail
        refine (CT.out _).mono ?_
        rintro r w5 ⟨rfl, hq5⟩
        obtain rfl := hq5.symm
        clear hq5
        go_wp2_with (at_builtin; refine Rc.wpList_appR rfl (.tmp 22) (.tmp 24) 64 64 rfl _ _ _ rfl rfl HR.out ?_)
        go_roundw
        case rel => exact ⟨i + 1, a4, c4, by go_num, by omega, rfl, HO.out, H3.out, H4.out, hn4⟩
        case measure => simp [intOf]; omega
      · have hE : q i ++ [92, 120, hexB ((b : Int) / 16), hexB ((b : Int) % 16)] = q (i + 1) := by rw [hs1]; unfold escL; rw [if_neg (fun h => hp ⟨by omega, by omega, by omega, by omega⟩)]
        have hit : itB (b : Int) = false := decide_eq_false fun h => hp ⟨by omega, by omega, by omega, by omega⟩
        rw [hit] at CT
        obtain ⟨m, hm⟩ : ∃ m, b / 16 = m := ⟨_, rfl⟩
        obtain ⟨n, hn⟩ : ∃ n, b % 16 = n := ⟨_, rfl⟩
        have hm16 : m < 16 := by omega
        have hn16 : n < 16 := by omega
        have hm16z : (m : Int) < 16 := by omega
        have hn16z : (n : Int) < 16 := by omega
        have hmz : (b : Int) / 16 = (m : Int) := by omega
        have hnz0 : (b : Int) % 16 = (n : Int) := by omega
        have hnz : bits .and .u8 (b : Int) 15 = (n : Int) := (u8_and15 (b : Int) (by omega) (by omega)).trans hnz0
        rw [hmz, hnz0] at hE
        have R1 := hide (hexD_at m hm16)
        have R2 := hide (hexD_at n hn16)
        generalize hexB (m : Int) = x at *
        generalize hexB (n : Int) = y at *
        have HM := hide hmz
        have HN2 := hide hnz
        clear hm hn hmz hnz hnz0
        have HE := hide hE
        clear hE hit hp hs1 hl1 OW TR hg2 HN BW
        go_wp2_with fail
        refine (CT.out _).mono ?_
        rintro r w5 ⟨rfl, hq5⟩
        obtain rfl := hq5.symm
        clear hq5 cb
        go_wp2_with fail
        refine wp_region_held (S := Touch (fun d => (Value.slice a (q i).length c).ownBlock = some d) wr) (by kernel_rfl) ?_
        have hT0 : Touch (fun d => (Value.slice a (q i).length c).ownBlock = some d) wr { wr with drawn := wr.drawn + 1 } := (Touch.refl _ wr).drew
        have hC0 : Calm wr { wr with drawn := wr.drawn + 1 } := (Touch.refl _ wr).drew
        refine wpAnyH_yield 0 26 (.slice a (q i).length c) rfl rfl (by kernel_rfl) (by kernel_rfl) (by kernel_rfl) (fun _ _ _ h => h) (by kernel_rfl) (fun W hW => by kernel_rfl) (by assumption) rfl rfl ?_
        simp only [Act.put, List.setIfInBounds_toArray, List.set_cons_zero, List.set_cons_succ]
        refine wpAnyH_yield 1 27 (.int .u8 (b : Int)) rfl rfl (by kernel_rfl) (by kernel_rfl) (by kernel_rfl) (fun _ _ _ h => h) (by kernel_rfl) (fun W hW => by kernel_rfl) (by assumption) rfl rfl ?_
        simp only [Act.put, List.setIfInBounds_toArray, List.set_cons_zero, List.set_cons_succ]
        refine wpAnyH_yield 2 28 (.int .u8 (m : Int)) rfl rfl (by kernel_rfl) (by kernel_rfl) (by kernel_rfl) (fun _ _ _ h => h) (by kernel_rfl) (fun W hW => by have z := HM.out; go_simp) (by assumption) rfl rfl ?_
        simp only [Act.put, List.setIfInBounds_toArray, List.set_cons_zero, List.set_cons_succ]
        refine wpAnyH_yield 3 29 (.int .u8 x) rfl rfl (by kernel_rfl) (by kernel_rfl) (by kernel_rfl) (fun _ _ _ h => h) (by kernel_rfl) (fun W hW => by have z := R1.out; go_simp) (by assumption) rfl rfl ?_
        simp only [Act.put, List.setIfInBounds_toArray, List.set_cons_zero, List.set_cons_succ]
        refine wpAnyH_yield 4 30 (.int .u8 (b : Int)) rfl rfl (by kernel_rfl) (by kernel_rfl) (by kernel_rfl) (fun _ _ _ h => h) (by kernel_rfl) (fun W hW => by kernel_rfl) (by assumption) rfl rfl ?_
        simp only [Act.put, List.setIfInBounds_toArray, List.set_cons_zero, List.set_cons_succ]
        refine wpAnyH_yield 5 31 (.int .u8 (n : Int)) rfl rfl (by kernel_rfl) (by kernel_rfl) (by kernel_rfl) (fun _ _ _ h => h) (by kernel_rfl) (fun W hW => by have z := HN2.out; go_simp) (by assumption) rfl rfl ?_
        simp only [Act.put, List.setIfInBounds_toArray, List.set_cons_zero, List.set_cons_succ]
        refine wpAnyH_yield 6 32 (.int .u8 y) rfl rfl (by kernel_rfl) (by kernel_rfl) (by kernel_rfl) (fun _ _ _ h => h) (by kernel_rfl) (fun W hW => by have z := R2.out; go_simp) (by assumption) rfl rfl ?_
        simp only [Act.put, List.setIfInBounds_toArray, List.set_cons_zero, List.set_cons_succ]
        have hr0 := APP.out [92, 120, x, y] HE.out (by simp) _ hC0
        generalize ({ wr with drawn := wr.drawn + 1 } : World) = wD at *
        obtain ⟨a4, c4, w4, hr, ow, t3, h4, hn4, t4⟩ := hr0
        have hr' : (Builtin.append_ #[64, 64] 64 #[.slice a (q i).length c, .slice (some ⟨wD.heap.size, 0, none⟩) 4 4]).run Tryz.prog (wD.alloc (.cells #[.int .u8 92, .int .u8 120, .int .u8 x, .int .u8 y] 5)) = .ok (.slice a4 (q (i + 1)).length c4) w4 := hr
        have hT4 : Touch (fun d => (Value.slice a (q i).length c).ownBlock = some d) wr w4 := hT0.trans t4 (fun _ _ h => h)
        refine wpAnyH_value 7 33 (.slice (some ⟨wD.heap.size, 0, none⟩) 4 4) (w' := wD.alloc (.cells #[.int .u8 92, .int .u8 120, .int .u8 x, .int .u8 y] 5)) rfl rfl (by kernel_rfl) (by kernel_rfl) (by go_simp) (hT0.alloc _) ?_
        simp only [Act.put, List.setIfInBounds_toArray, List.set_cons_zero, List.set_cons_succ]
        refine wpAnyH_value 8 34 (.slice a4 (q (i + 1)).length c4) (w' := w4) rfl rfl (by kernel_rfl) (by kernel_rfl) (exec_apk (.tmp 26) (.tmp 33) 64 64 rfl _ _ _ rfl rfl hr') hT4 ?_
        simp only [Act.put, List.setIfInBounds_toArray, List.set_cons_zero, List.set_cons_succ]
        have HO := hide ow
        have H3 := hide t3
        have H4 := hide h4
        clear hr hr' ow t3 h4 APP t4 HE R1 R2 HM HN2
        refine wpAnyH_yield 9 0 (.slice a4 (q (i + 1)).length c4) rfl rfl (by kernel_rfl) (by kernel_rfl) (by kernel_rfl) (fun _ _ _ h => h) (by kernel_rfl) (fun W hW => by kernel_rfl) (by assumption) rfl rfl ?_
        simp only [Act.put, List.setIfInBounds_toArray, List.set_cons_zero]
        refine wpAnyH_done (by kernel_rfl) ?_ _
        clear hT0 hC0 hT4
        go_wp2_with fail
        go_roundw
        case rel => exact ⟨i + 1, a4, c4, by go_num, by omega, rfl, HO.out, H3.out, H4.out, hn4⟩
        case measure => simp [intOf]; omega
    · have hltz : ¬ (i : Int) < (p.k.size : Int) := by omega
      obtain rfl : i = p.k.size := by omega
      have hl1 := QL.out _ hi
      obtain ⟨a2, c2, w3, hr2, ow2, t2, -⟩ := by_appM [34, 32] OW BW.out (by simp only [List.length_cons, List.length_nil]; omega)
      have T3 := Wr.row OW t2 BW.out
      have Z3 : B ≤ w3.heap.size := by have := T3.size; have := BW.out; omega
      have e2 : (q p.k.size ++ [34, 32]).length = (q p.k.size).length + 2 := by simp
      obtain ⟨a3, c3, w4, hr3, ow3, t3⟩ := by_appS (kdB j) ow2 Z3 (by rw [e2]; have := KL.out; rw [bsL_len] at this; omega)
      rw [T0.out] at ow3 hr3
      have TT := (TR.trans T3).trans (Wr.row ow2 t3 Z3)
      have HR2' : (Builtin.append_ #[64, 64] 64 #[.slice a (q p.k.size).length c, .slice (some ⟨wr.heap.size, 0, none⟩) 2 2]).run Tryz.prog (wr.alloc (.cells #[.int .u8 34, .int .u8 32] 5)) = .ok (.slice a2 (q p.k.size ++ [34, 32]).length c2) w3 := hr2
      have HR2 := hide HR2'
      have HR3 := hide hr3
      have H3 := hide ow3
      have W4 := hide TT
      have P3 := hide ((TR.trans T3).at P2.out (by decide))
      have P4 := hide (TT.at P2.out (by decide))
      have K3 := hide (KC.out w3 (W2.out.trans (TR.trans T3)).below)
      have HD2 := HD.out
      have hj4 : (j : Int) < 4 := by omega
      have hj0 : (0 : Int) ≤ (j : Int) := by omega
      clear hr2 HR2' hr3 ow2 ow3 t2 t3 T3 Z3 e2 hl1 OW TR hg2 HN BW QS QL BC
      obtain ⟨⟨d0, d1, d2, d3, d4⟩, d5, d6, d7, d8⟩ := pn_cells P3.out
      obtain ⟨⟨c0, c1, c2', c3', c4⟩, c5, c6, c7, c8⟩ := pn_cells P4.out
      rw [HD2] at d3
      have k3 := K3.out
      generalize (q p.k.size ++ [34, 32]).length = l2 at *
      go_wp2_with (at_builtin; first | refine Rc.wpList_appR rfl (.tmp 36) (.tmp 37) 64 64 rfl _ _ _ rfl rfl HR2.out ?_ | refine Rc.wpList_appR rfl (.tmp 39) (.tmp 43) 64 9 rfl _ _ _ rfl rfl HR3.out ?_)
      clear k3 K3 d0 d1 d2 d3 d4 d5 d6 d7 d8 c0 c1 c2' c3' c4 c5 c6 c7 c8 HR2 HR3 P3 P4 P2 KC KL T0
      go_loopw [0, 66] (fun s0 s66 wr => ∃ (i : Nat) (a : Option Addr) (c : Nat), s66 = .int .i64 (i : Int) ∧ i ≤ 7 ∧ s0 = .slice a (tx i).length c ∧ encB.Own 5 wr B (.slice a (tx i).length c) (tx i) ∧ Wr B w2 wr) (fun _ s66 _ => 7 - (intOf s66).toNat)
      case atStart => exact ⟨0, _, _, rfl, by omega, rfl, H3.out, W4.out⟩
      case round =>
        obtain ⟨i, a, c, rfl, hi, rfl, OW, TR⟩ := hrel
        clear H3 W4
        have BW : Hid (B ≤ wr.heap.size) := hide (by have := TR.size; have := Z2.out; omega)
        by_cases hlt : i < 7
        · have hltz : (i : Int) < 7 := by omega
          have ix := IX.out i hlt wr
          have hl1 := TL.out i hi
          have hts := TS.out i hlt
          obtain ⟨n0, n1⟩ := NI.out i hlt
          obtain ⟨a2, c2, w3, hr2, ow2, t2, -⟩ := by_appM [32] OW BW.out (by simp only [List.length_cons, List.length_nil]; omega)
          have T3 := Wr.row OW t2 BW.out
          have Z3 : B ≤ w3.heap.size := by have := T3.size; have := BW.out; omega
          have e2 : (tx i ++ [32]).length = (tx i).length + 1 := by simp
          have C3 := CI.out ((numsP p).getD i 0) n0 n1 (tx i ++ [32]) (.slice a2 (tx i ++ [32]).length c2) w3 ow2 Z3 (by rw [e2]; omega) (HT.out.on (W2.out.trans (TR.trans T3)).below)
          rw [← hts] at C3
          have hr2' : (Builtin.append_ #[64, 64] 64 #[.slice a (tx i).length c, .slice (some ⟨wr.heap.size, 0, none⟩) 1 1]).run Tryz.prog (wr.alloc (.cells #[.int .u8 32] 5)) = .ok (.slice a2 (tx i ++ [32]).length c2) w3 := hr2
          have HR2 := hide hr2'
          have HC3 := hide C3
          have W3 := hide (TR.trans T3)
          clear hr2 hr2' ow2 t2 T3 Z3 e2 hl1 OW TR BW C3 hts n0 n1 IX NI TS TL TE CI HT
          generalize (numsP p).getD i 0 = x at *
          generalize (tx i ++ [32]).length = l2 at *
          go_wp2_with (at_builtin; refine Rc.wpList_appR rfl (.tmp 69) (.tmp 70) 64 64 rfl _ _ _ rfl rfl HR2.out ?_)
          refine HC3.out.mono ?_
          rintro r w5 ⟨a5, c5, rfl, o5, T5⟩
          have O5 := hide o5
          have W5 := hide (W3.out.trans T5)
          clear o5 T5 HC3 HR2 ix
          go_wp2_with fail
          go_roundw
          case rel => exact ⟨i + 1, a5, c5, by go_num, by omega, rfl, O5.out, W5.out⟩
          case measure => simp [intOf]; omega
        · have hltz : ¬ (i : Int) < 7 := by omega
          obtain rfl : i = 7 := by omega
          have HO := hide OW
          have HW := hide (W2.out.trans TR)
          clear OW TR IX NI TS TL CI HT BW
          go_wp2_with fail
          go_ret
          refine ⟨a, c, ?_, ?_, HW.out⟩
          · rw [← TE.out]; rfl
          · rw [← TE.out]; exact HO.out

end Go.Proofs.YtamfcmmhmfhhkaaGreatDoor

namespace Go.Proofs.YtamfcmmhmfhhkaaGreatDoor
open Go.RowKit

theorem Kds.lt {w : World} (h : Kds w) : 0 < w.heap.size := by
  have h1 := h 0 (by omega)
  rcases Nat.lt_or_ge 0 w.heap.size with h' | h'
  · exact h'
  · exfalso; simp [World.cell?, Array.getElem?_eq_none h'] at h1
/-- Bytes of one's own, as a text. -/
theorem conv_any {W : World} {base : Nat} {a : Option Addr} {c : Nat} {xs : List Int} (h : encB.Own 5 W base (.slice a xs.length c) xs) : (convert 64 9 (.slice a xs.length c)).run Tryz.prog W = .ok (.string (strOfNums xs)) W := by
  by_cases hx : xs = []
  · subst hx; exact conv_none h
  · exact conv_own h hx

set_option maxRecDepth 100000 in
set_option maxHeartbeats 4000000 in
theorem line_any (p : Pn) (w : World) (hp : NumOk p) (hy : Yv w) : Calls Tryz.prog 20 #[pnv p] w fun e w' => e = .returned (.tuple #[.string (if mayP p then lineB p else ⟨#[]⟩), .int .i64 (if mayP p then 0 else 2)]) ∧ Calm w w' := by
  have T0 := hide ((Touch.refl (fun _ => False) w).alloc (.cells (pnc p) 40))
  have A0 := hide (al_new w (.cells (pnc p) 40))
  have CM : Hid (∀ W, _) := hide fun W => maybe_any p W
  have CWr : Hid (∀ W, mayP p = true → Calm w W → Calls Tryz.prog 33 #[.slice none 0 0, pnv p] W fun e w' => ∃ a c, e = .returned (.slice a (bsL (lineB p)).length c) ∧ (convert 64 9 (.slice a (bsL (lineB p)).length c)).run Tryz.prog w' = .ok (.string (lineB p)) w' ∧ Calm W w') := hide fun W hm hW => by
    have h := write_any p hm hp [] none 0 W W.heap.size (Rc.Own.nil _ _ _) (Nat.le_refl _) (by simp) ((hy.tab.calm hW).below rfl) (hy.kds.calm hW) (hy.kds.calm hW).lt
    refine h.mono ?_
    rintro e w' ⟨a, c, rfl, ho, ht⟩
    refine ⟨a, c, rfl, ?_, calm_below ht.below⟩
    have h2 := conv_any ho
    rw [List.nil_append, strOf_bs] at h2
    exact h2
  cases hm : mayP p with
  | false =>
    rw [hm] at CM
    go_enter Tryz.func20, Tryz.ntmps20
    obtain ⟨⟨c0, c1, c2, c3, c4⟩, c5, c6, c7, c8⟩ := pn_cells A0.out
    go_wp2_with fail
    refine (CM.out _).mono ?_
    rintro r w1 ⟨rfl, T1⟩
    have HT := hide (T0.out.tr T1)
    clear T1 c0 c1 c2 c3 c4 c5 c6 c7 c8
    go_wp2_with fail
    go_ret2
    exact ⟨rfl, HT.out⟩
  | true =>
    rw [hm] at CM
    have CW := hide (fun W hW => CWr.out W hm hW)
    clear CWr hm hp
    generalize lineB p = R at *
    generalize (bsL R).length = n at *
    go_enter Tryz.func20, Tryz.ntmps20
    obtain ⟨⟨c0, c1, c2, c3, c4⟩, c5, c6, c7, c8⟩ := pn_cells A0.out
    go_wp2_with fail
    refine (CM.out _).mono ?_
    rintro r w1 ⟨rfl, T1⟩
    have A1 := hide (T1.at A0.out)
    have HT := hide (T0.out.tr T1)
    clear T1 c0 c1 c2 c3 c4 c5 c6 c7 c8 CM
    obtain ⟨⟨c0, c1, c2, c3, c4⟩, c5, c6, c7, c8⟩ := pn_cells A1.out
    go_wp2_with fail
    refine (CW.out _ HT.out).mono ?_
    rintro r w2 ⟨a, c, rfl, cv, T2⟩
    have HT2 := hide (HT.out.tr T2)
    clear T2 c0 c1 c2 c3 c4 c5 c6 c7 c8 CW
    go_wp2_with fail
    go_ret2
    exact ⟨rfl, HT2.out⟩

end Go.Proofs.YtamfcmmhmfhhkaaGreatDoor

namespace Go.Proofs.YtamfcmmhmfhhkaaGreatDoor
open Go.RowKit

/-- A text of these bytes. -/
def bl (R : List UInt8) : ByteArray := ⟨R.toArray⟩
theorem bl_list (R : List UInt8) : (bl R).toList = R := by rw [ByteArray.toList_eq]; rfl
theorem bl_data (R : List UInt8) : (bl R).data.toList = R := rfl
theorem bl_size (R : List UInt8) : (bl R).size = R.length := by
  show R.toArray.size = _
  rw [List.size_toArray]
theorem bl_of (s : ByteArray) : bl s.toList = s := ba_ext (bl_list _)
theorem bl_cut (R : List UInt8) (a b : Nat) : (bl R).extract a b = bl ((R.drop a).take (b - a)) := ba_ext (by rw [ex_toList, bl_list, bl_list])
theorem bl_from (R : List UInt8) (a : Nat) : (bl R).extract a (bl R).size = bl (R.drop a) := by
  rw [bl_cut, bl_size, List.take_of_length_le (by rw [List.length_drop]; omega)]
theorem bl_to (R : List UInt8) (b : Nat) : (bl R).extract 0 b = bl (R.take b) := by rw [bl_cut, List.drop_zero, Nat.sub_zero]
theorem bl_ne {R : List UInt8} (h : R ≠ []) : (bl R).toList.isEmpty = false := by
  rw [bl_list]
  exact List.isEmpty_eq_false_iff.2 h
theorem bl_at {R : List UInt8} {i : Nat} (h : i < R.length) : ∃ h' : i < (bl R).size, ((bl R)[i]'h') = R[i] := ⟨by rw [bl_size]; exact h, by
  rfl⟩

/-- The course lies at q, so much is left of it. -/
def Crs (W : World) (q : Nat) (R : List UInt8) : Prop := W.heap[q]? = some (.cells #[.string (bl R)] 94 (0, 0))
theorem Crs.calm {w w' : World} {q : Nat} {R : List UInt8} (h : Crs w q R) (ht : Calm w w') : Crs w' q R := ht.at h
theorem Crs.put {w : World} {q : Nat} {R R' : List UInt8} (h : Crs w q R) : Crs (w.setCell ⟨q, 0, none⟩ (.string (bl R'))) q R' ∧ Touch (fun g => g = q) w (w.setCell ⟨q, 0, none⟩ (.string (bl R'))) := ⟨set_one _ h, (Touch.refl (fun g => g = q) w).setCell (p := ⟨q, 0, none⟩) (fun _ => rfl) _⟩

/-- The next byte. -/
def hdI : List UInt8 → Int
  | [] => 0
  | b :: _ => (b.toNat : Int)

set_option maxRecDepth 100000 in
set_option maxHeartbeats 1000000 in
theorem next_any (R : List UInt8) (q : Nat) (w : World) (h : Crs w q R) : Calls Tryz.prog 50 #[.pointer (some ⟨q, 0, none⟩)] w fun e w' => e = .returned (.tuple #[.int .u8 (hdI R), .bool (!R.isEmpty)]) ∧ Crs w' q R.tail ∧ Touch (fun g => g = q) w w' := by
  obtain ⟨c0, f0⟩ := one_cell h
  cases R with
  | nil =>
    have e : bl [] = ⟨#[]⟩ := rfl
    rw [e] at c0
    have H := hide h
    clear h
    go_enter Tryz.func50, Tryz.ntmps50
    go_wp2_with fail
    go_ret2
    exact ⟨rfl, H.out, Touch.refl _ _⟩
  | cons b R =>
    have hne := bl_ne (R := b :: R) (by simp)
    obtain ⟨hpos, hb⟩ := bl_at (R := b :: R) (i := 0) (by simp)
    have hb' : ((bl (b :: R))[0]'hpos).toNat = b.toNat := by rw [hb]; rfl
    have hex := bl_from (b :: R) 1
    have hz : (0 : Int) < ((bl (b :: R)).size : Int) := by omega
    have hz1 : (1 : Int) ≤ ((bl (b :: R)).size : Int) := by omega
    have e2 : (b :: R).drop 1 = R := rfl
    rw [e2] at hex
    have PU := hide (h.put (R' := R))
    have HB : Hid (hdI (b :: R) = (b.toNat : Int)) := hide rfl
    clear h hb e2
    generalize bl (b :: R) = s at *
    generalize bl R = t at *
    generalize hdI (b :: R) = x at *
    generalize b.toNat = n at *
    go_enter Tryz.func50, Tryz.ntmps50
    go_wp2_with fail
    go_ret2
    exact ⟨by rw [HB.out]; rfl, PU.out.1, PU.out.2⟩

/-- Is that byte the next one? -/
def tkB (R : List UInt8) (n : Nat) : Bool := !R.isEmpty && decide (hdI R = (n : Int))
theorem tkB_yes {R : List UInt8} {n : Nat} (h : tkB R n = true) : ∃ b R', R = b :: R' ∧ b.toNat = n := by
  cases R with
  | nil => simp [tkB] at h
  | cons b R' =>
    refine ⟨b, R', rfl, ?_⟩
    unfold tkB hdI at h
    simp only [List.isEmpty_cons, Bool.not_false, Bool.true_and, decide_eq_true_eq] at h
    omega
theorem tkB_no {R : List UInt8} {n : Nat} (h : tkB R n = false) : ∀ b R', R = b :: R' → b.toNat ≠ n := by
  rintro b R' rfl e
  unfold tkB hdI at h
  simp only [List.isEmpty_cons, Bool.not_false, Bool.true_and, decide_eq_false_iff_not] at h
  omega

set_option maxRecDepth 100000 in
set_option maxHeartbeats 1000000 in
theorem take_any (R : List UInt8) (n : Nat) (q : Nat) (w : World) (h : Crs w q R) : Calls Tryz.prog 49 #[.pointer (some ⟨q, 0, none⟩), .int .u8 (n : Int)] w fun e w' => e = .returned (.bool (tkB R n)) ∧ Crs w' q R.tail ∧ Touch (fun g => g = q) w w' := by
  have CN := hide (next_any R q w h)
  have G : Hid (tkB R n = (!R.isEmpty && decide (hdI R = (n : Int)))) := hide rfl
  clear h
  generalize tkB R n = z at *
  generalize R.tail = R' at *
  generalize hdI R = x at *
  generalize R.isEmpty = y at *
  cases y with
  | true =>
    go_enter Tryz.func49, Tryz.ntmps49
    go_wp2_with fail
    refine CN.out.mono ?_
    rintro r w1 ⟨rfl, h1, t1⟩
    have H1 := hide h1
    have T1 := hide t1
    clear h1 t1 CN
    go_wp2_with fail
    go_ret
    exact ⟨by rw [G.out]; rfl, H1.out, T1.out⟩
  | false =>
    by_cases he : x = (n : Int)
    · have hz : (x == (n : Int)) = true := by rw [beq_iff_eq]; exact he
      have G2 : Hid (z = true) := hide (by rw [G.out, decide_eq_true he]; rfl)
      clear G he
      go_enter Tryz.func49, Tryz.ntmps49
      go_wp2_with fail
      refine CN.out.mono ?_
      rintro r w1 ⟨rfl, h1, t1⟩
      have H1 := hide h1
      have T1 := hide t1
      clear h1 t1 CN
      go_wp2_with fail
      go_ret
      exact ⟨by rw [G2.out]; rfl, H1.out, T1.out⟩
    · have hz : (x == (n : Int)) = false := by rw [beq_eq_false_iff_ne]; exact he
      have G2 : Hid (z = false) := hide (by rw [G.out, decide_eq_false he]; rfl)
      clear G he
      go_enter Tryz.func49, Tryz.ntmps49
      go_wp2_with fail
      refine CN.out.mono ?_
      rintro r w1 ⟨rfl, h1, t1⟩
      have H1 := hide h1
      have T1 := hide t1
      clear h1 t1 CN
      go_wp2_with fail
      go_ret
      exact ⟨by rw [G2.out]; rfl, H1.out, T1.out⟩

/-- The next word, and what stands behind it. -/
def wdL (R : List UInt8) : List UInt8 := R.takeWhile fun b => decide (b ≠ 32)
def wdR (R : List UInt8) : List UInt8 := R.dropWhile fun b => decide (b ≠ 32)
theorem wd_app (R : List UInt8) : wdL R ++ wdR R = R := List.takeWhile_append_dropWhile
theorem ib_cases : ∀ R : List UInt8, (Lib.indexByte R 32 = -1 ∧ wdL R = R ∧ wdR R = []) ∨ ∃ k : Nat, Lib.indexByte R 32 = (k : Int) ∧ k < R.length ∧ wdL R = R.take k ∧ wdR R = R.drop k
  | [] => .inl ⟨rfl, rfl, rfl⟩
  | b :: R => by
    by_cases h : b = 32
    · subst h
      exact .inr ⟨0, rfl, by simp, rfl, rfl⟩
    · have e1 : wdL (b :: R) = b :: wdL R := List.takeWhile_cons_of_pos (by simpa using h)
      have e2 : wdR (b :: R) = wdR R := List.dropWhile_cons_of_pos (by simpa using h)
      have hb : (b == 32) = false := by rw [beq_eq_false_iff_ne]; exact h
      rcases ib_cases R with ⟨h1, h2, h3⟩ | ⟨k, h1, h2, h3, h4⟩
      · refine .inl ⟨?_, by rw [e1, h2], by rw [e2, h3]⟩
        rw [Lib.indexByte, hb, h1]
        rfl
      · refine .inr ⟨k + 1, ?_, by simpa using h2, by rw [e1, h3]; rfl, by rw [e2, h4]; rfl⟩
        rw [Lib.indexByte, hb, h1]
        have : ((k : Int) == -1) = false := by rw [beq_eq_false_iff_ne]; omega
        rw [this]
        simp

set_option maxRecDepth 100000 in
set_option maxHeartbeats 1000000 in
theorem word_any (R : List UInt8) (hl : R.length ≤ 1000000) (q : Nat) (w : World) (h : Crs w q R) : Calls Tryz.prog 53 #[.pointer (some ⟨q, 0, none⟩)] w fun e w' => e = .returned (.string (bl (wdL R))) ∧ Crs w' q (wdR R) ∧ Touch (fun g => g = q) w w' := by
  obtain ⟨c0, f0⟩ := one_cell h
  have CI : Hid (∀ W, Calls Tryz.prog 69 #[.string (bl R), .int .u8 32] W fun e w' => e = .returned (.int .i64 (Lib.indexByte R 32)) ∧ w' = W) := hide fun W => Any.strings_IndexByte Tryz.lays137 (bl R) 32 W
  have PU := hide (h.put (R' := wdR R))
  have hs := bl_size R
  rcases ib_cases R with ⟨h1, h2, h3⟩ | ⟨k, h1, h2, h3, h4⟩
  · rw [h1] at CI
    have e2 : bl (wdR R) = ByteArray.empty := by rw [h3]; rfl
    rw [e2] at PU
    rw [h2]
    have HW := hide e2
    clear h h1 h2 h3 e2
    have hR : Hid (∀ W, Crs W q (wdR R) ↔ W.heap[q]? = some (.cells #[.string ByteArray.empty] 94 (0, 0))) := hide fun W => by unfold Crs; rw [HW.out]
    simp only [hR.out] at PU ⊢
    clear hR HW
    rw [← hs] at hl
    clear hs
    generalize bl R = s at *
    have hl2 : (s.size : Int) ≤ 1000000 := by omega
    have hl3 : ¬ (s.size : Int) < 0 := by omega
    go_enter Tryz.func53, Tryz.ntmps53
    go_wp2_with fail
    refine (CI.out _).mono ?_
    rintro r w1 ⟨rfl, hq⟩
    obtain rfl := hq.symm
    clear hq CI
    go_wp2_with fail
    go_ret
    exact ⟨rfl, PU.out.1, PU.out.2⟩
  · rw [h1] at CI
    have e1 : bl (wdL R) = (bl R).extract 0 k := by rw [h3, bl_to]
    have e2 : bl (wdR R) = (bl R).extract k (bl R).size := by rw [h4, bl_from]
    rw [e2] at PU
    rw [e1]
    have HW := hide e2
    have hkz : (k : Int) ≤ ((bl R).size : Int) := by rw [hs]; omega
    clear h h1 h2 h3 e1 e2 h4
    have hR : Hid (∀ W, Crs W q (wdR R) ↔ W.heap[q]? = some (.cells #[.string ((bl R).extract k (bl R).size)] 94 (0, 0))) := hide fun W => by unfold Crs; rw [HW.out]
    simp only [hR.out] at PU ⊢
    clear hR HW
    rw [← hs] at hl
    clear hs
    generalize bl R = s at *
    have hk3 : ¬ (k : Int) < 0 := by omega
    have hk4 : (0 : Int) ≤ (k : Int) := by omega
    go_enter Tryz.func53, Tryz.ntmps53
    go_wp2_with fail
    refine (CI.out _).mono ?_
    rintro r w1 ⟨rfl, hq⟩
    obtain rfl := hq.symm
    clear hq CI
    go_wp2_with fail
    go_ret
    exact ⟨rfl, PU.out.1, PU.out.2⟩

end Go.Proofs.YtamfcmmhmfhhkaaGreatDoor
