/- The walk of FrameSizes. -/
import Derived.Test.YtfeifobljgmkkabDoorSameW
namespace Go.Proofs.YtfeifobljgmkkabDoor
open Go.RowKit Crcx

theorem fsize_0 : fsize 0 = 6 := by unfold fsize; rw [numb_lo (by omega)]; rfl
theorem fsize_127 : fsize 127 = 133 := by unfold fsize; rw [numb_lo (by omega)]; rfl
theorem fsize_128 : fsize 128 = 135 := by unfold fsize; rw [numb_hi (by omega), numb_lo (by omega)]; rfl
theorem fsize_max : fsize 268435456 = 268435466 := by
  have : (numb 268435456).length = 5 := by
    rw [numb_hi (by omega), numb_hi (by omega), numb_hi (by omega), numb_hi (by omega), numb_lo (by omega)]; rfl
  unfold fsize; rw [this]
theorem fsize_mega : fsize 1048576 = 1048584 := by
  have : (numb 1048576).length = 3 := by
    rw [numb_hi (by omega), numb_hi (by omega), numb_lo (by omega)]; rfl
  unfold fsize; rw [this]

/-- A great body. -/
def mega : List Int := List.replicate 1048576 0
theorem mega_len : mega.length = 1048576 := List.length_replicate
theorem mega_in8 : In8 mega := fun x hx => by have := List.eq_of_mem_replicate hx; omega
theorem mega_eq : mega = List.replicate 1048576 0 := rfl
theorem mega_b1 : 1048576 ≤ 281474976710656 := by omega
theorem mega_b2 : 1048576 ≤ maxLen := by unfold maxLen; omega

/-- 'make([]byte, n)': n noughts. -/
theorem wpList_make_zeros {P : Program} (w : World) {ops : Array Oper} {rest : List Oper} {o : Oper} {a : Act} {Q : Exit → Act → World → Prop}
    (hg : o.guard = none) (l c : Operand) (t : TypeId) (hop : o.op = Op.makeSlice t l c)
    (e : TypeId) (i : TypeInfo) (h1 : P.underlying t = some (.slice e)) (h2 : P.info? e = some i) (h3 : i.zero = some (.int .u8 0)) (h4 : i.size = 1) (h5 : i.bytes = 1)
    (L : Int) (n : Nat) (hl : a.eval l = .int .i64 L) (hc : a.eval c = .int .i64 L) (hL : L = (n : Int)) (b2 : n ≤ 281474976710656) (b3 : n ≤ maxLen) (zs : List Int) (hzs : zs = List.replicate n 0)
    (hK : ∀ w', Row w' e .u8 (.slice (some ⟨w.heap.size, 0, none⟩) n n) zs → Touch (fun _ => False) w w' → wpList P ops Q rest (a.put o.dst (.slice (some ⟨w.heap.size, 0, none⟩) n n)) w') :
    wpList P ops Q (o :: rest) a w := by
  refine wpList_make_full w hg l c t hop 0 e i _ 1 h1 h2 h3 h4 .i64 .i64 L L n hl hc hL hL (by rw [h5]; omega) b3 (Nat.zero_le _) fun w' hown hgr => ?_
  refine hK w' ?_ ((Touch.of_grownBy hgr).mono (fun k _ h => by simp at h))
  have e1 : (madeCells (Value.cells (.int .u8 0)) (n * 1)).toList = (List.replicate n (0 : Int)).map (Value.int .u8) := by
    rw [List.map_replicate]
    show (madeCells #[.int .u8 0] (n * 1)).toList = _
    apply List.ext_getElem?
    intro i
    by_cases h : i < n
    · simp [madeCells, h, Nat.mod_one]
    · simp [madeCells, h]
  rw [e1] at hown
  subst hzs
  unfold Row
  rw [List.length_replicate]
  exact hown

theorem size_0 (W : World) : Calls Tryd.prog 13 #[.int .i64 0] W fun e w' => e = .returned (.int .i64 6) ∧ W = w' := by
  have h := fsize_any 0 (by omega) W
  rw [fsize_0] at h
  exact h

theorem size_127 (W : World) : Calls Tryd.prog 13 #[.int .i64 127] W fun e w' => e = .returned (.int .i64 133) ∧ W = w' := by
  have h := fsize_any 127 (by omega) W
  rw [fsize_127] at h
  exact h

theorem size_128 (W : World) : Calls Tryd.prog 13 #[.int .i64 128] W fun e w' => e = .returned (.int .i64 135) ∧ W = w' := by
  have h := fsize_any 128 (by omega) W
  rw [fsize_128] at h
  exact h

theorem size_268435456 (W : World) : Calls Tryd.prog 13 #[.int .i64 268435456] W fun e w' => e = .returned (.int .i64 268435466) ∧ W = w' := by
  have h := fsize_any 268435456 (by omega) W
  rw [fsize_max] at h
  exact h

theorem size_mega (xs : List Int) (h : xs.length = 1048576) (W : World) : Calls Tryd.prog 13 #[.int .i64 (xs.length : Int)] W fun e w' => e = .returned (.int .i64 1048584) ∧ W = w' := by
  have h := fsize_any xs.length (by omega) W
  rw [show fsize xs.length = 1048584 by rw [‹xs.length = 1048576›, fsize_mega]] at h
  exact h

/-- Four blocks, all the same. -/
theorem four_blocks {w : World} {g : Nat} {x : Blk} (h : w.heap[g]? = some (.cells #[.int .u8 x.tag, x.t.val, .int .u8 x.tag, x.t.val, .int .u8 x.tag, x.t.val, .int .u8 x.tag, x.t.val] 32 (0, 0))) (hx : x.Ok w) : SegB w (some ⟨g, 0, none⟩) [x, x, x, x] := by
  refine ⟨fun _ => ⟨g, 0, rfl⟩, fun b off e i hi => ?_, fun y hy => by simp at hy; subst hy; exact hx⟩
  injection e with e; injection e with e1 e2 _
  subst e1 e2
  rw [cell_of_row w g _ _ _ _ h, cell_of_row w g _ _ _ _ h]
  match i, hi with
  | 0, _ => exact ⟨rfl, rfl⟩
  | 1, _ => exact ⟨rfl, rfl⟩
  | 2, _ => exact ⟨rfl, rfl⟩
  | 3, _ => exact ⟨rfl, rfl⟩

set_option maxRecDepth 100000 in
set_option maxHeartbeats 1000000 in
theorem sizes_walk (w : World) (hT : Tab w) :
    Calls Tryd.prog 5 #[] w fun e w' => e = .returned (.bool true) ∧ Touch (fun _ => False) w w' := by
  obtain ⟨i0, hi, hz0, hz1, hz2⟩ := info_parts Tryd.info5
  have KN := hide (fun (W : World) (hW : Touch (fun _ => False) w W) => known_any W (hT.touch hW (fun h => h)))
  have HL := hide mega_len
  have H8 := hide mega_in8
  go_enter Tryd.func5, Tryd.ntmps5
  go_wp2_with (at_make; refine wpList_make_zeros _ rfl (.const (.int .i64 1048576)) (.const (.int .i64 1048576)) 22 rfl 5 i0 Tryd.underlying22 hi hz0 hz1 hz2 1048576 1048576 rfl rfl (by omega) mega_b1 mega_b2 mega mega_eq ?nx)
  case nx =>
    intro w1 R1 T1
    generalize mega = xs at *
    have hlo1 : w.heap.size ≤ w.heap.size := Nat.le_refl _
    generalize w.heap.size = g1 at R1 ⊢
    go_wp2_with fail
    rw [← HL.out] at R1 ⊢
    have t2 : Touch (fun _ => False) w1 ((w1.alloc (.cells #[.int .u8 5, .slice (some ⟨g1, 0, none⟩) xs.length xs.length] 32)).alloc (.cells #[.int .u8 5, .slice (some ⟨g1, 0, none⟩) xs.length xs.length, .int .u8 5, .slice (some ⟨g1, 0, none⟩) xs.length xs.length, .int .u8 5, .slice (some ⟨g1, 0, none⟩) xs.length xs.length, .int .u8 5, .slice (some ⟨g1, 0, none⟩) xs.length xs.length] 32)) := ((Touch.refl _ _).alloc _).alloc _
    have b2 := heap_alloc_last (w1.alloc (.cells #[.int .u8 5, .slice (some ⟨g1, 0, none⟩) xs.length xs.length] 32)) (.cells #[.int .u8 5, .slice (some ⟨g1, 0, none⟩) xs.length xs.length, .int .u8 5, .slice (some ⟨g1, 0, none⟩) xs.length xs.length, .int .u8 5, .slice (some ⟨g1, 0, none⟩) xs.length xs.length, .int .u8 5, .slice (some ⟨g1, 0, none⟩) xs.length xs.length] 32)
    have hz : (w1.alloc (.cells #[.int .u8 5, .slice (some ⟨g1, 0, none⟩) xs.length xs.length] 32)).heap.size = w1.heap.size + 1 := by simp
    rw [hz] at b2
    generalize (w1.alloc (.cells #[.int .u8 5, .slice (some ⟨g1, 0, none⟩) xs.length xs.length] 32)).alloc (.cells #[.int .u8 5, .slice (some ⟨g1, 0, none⟩) xs.length xs.length, .int .u8 5, .slice (some ⟨g1, 0, none⟩) xs.length xs.length, .int .u8 5, .slice (some ⟨g1, 0, none⟩) xs.length xs.length, .int .u8 5, .slice (some ⟨g1, 0, none⟩) xs.length xs.length] 32) = w2 at *
    generalize w1.heap.size + 1 = g2 at *
    clear hz
    obtain ⟨x, hx⟩ : ∃ x : Blk, x = ⟨5, ⟨some ⟨g1, 0, none⟩, xs.length, xs⟩⟩ := ⟨_, rfl⟩
    have xok : x.Ok w2 := by rw [hx]; exact ⟨by simp, ⟨Seg.of_row (R1.touch t2 (fun _ _ h => h)), H8.out, by simp only; rw [HL.out]; omega⟩⟩
    have T2 := T1.trans t2 (fun _ _ h => h)
    have xb : rowB [x, x, x, x] = rowF (List.replicate 4 (5, xs)) := by rw [rowB_key, hx]; rfl
    have xf : ∀ y ∈ List.replicate 4 ((5 : Int), xs), FrOk y := fun y hy => by
      rw [List.eq_of_mem_replicate hy]; exact ⟨by simp, H8.out, by simp only; rw [HL.out]; omega⟩
    have xlen : (rowF (List.replicate 4 ((5 : Int), xs))).length = 4194336 := by
      have e : (rowF (List.replicate 4 ((5 : Int), xs))).length = (frm 5 xs).length + ((frm 5 xs).length + ((frm 5 xs).length + (frm 5 xs).length)) := by
        simp [rowF, List.replicate]
      rw [e, frm_len, HL.out, fsize_mega]
    have sb := four_blocks (x := x) (by rw [hx]; exact b2) xok
    have RW := hide (row_any (some ⟨g2, 0, none⟩) [x, x, x, x] 4 w2 (hT.touch T2 (fun h => h)) sb (by rw [xb, xlen]; omega) (by simp))
    rw [xb] at RW
    have XF := hide xf
    have XL := hide xlen
    have HT2 := hide T2
    have h8r : In8 (rowF (List.replicate 4 ((5 : Int), xs))) := fun y hy => by
      unfold rowF at hy
      obtain ⟨z, hz, hyz⟩ := List.mem_flatMap.1 hy
      have hk := xf z hz
      exact in8_frm hk.tag hk.in8 y hyz
    have H8R := hide h8r
    have HR := hide (heads_row xf)
    obtain ⟨K, hK⟩ : ∃ K, K = List.replicate 4 ((5 : Int), xs) := ⟨_, rfl⟩
    rw [← hK] at RW XF XL H8R HR
    have HK := hide hK
    clear xf xlen sb xb hx xok b2 t2 T1 T2 h8r hK R1
    refine RW.out.mono ?_
    rintro e w3 ⟨bo, bn, bc, rfl, N3⟩
    have hbn := N3.row.len
    subst hbn
    obtain ⟨o3, q3⟩ := N3.txt H8R.out (by rw [XL.out]; omega)
    have HT3 := hide (HT2.out.trans N3.touch (fun _ _ h => h))
    have AL := hide (all_any ⟨bo, bc, rowF K⟩ w3 (hT.touch HT3.out (fun h => h)) o3 q3 (by simp only; rw [XL.out]; omega))
    simp only at AL
    generalize rowF K = R at *
    clear N3 o3 q3 RW HT2
    go_wp2_with fail
    refine AL.out.mono ?_
    rintro e w4 ⟨v, bl, l, p, er, rfl, hB, hH, hk⟩
    obtain ⟨rfl, rfl, rfl⟩ := heads_one _ _ _ _ _ _ _ hH HR.out
    rw [if_pos rfl] at hk
    obtain ⟨vo, vc, rfl⟩ := hB.shape
    have sg := hB.seg (by rw [hk]; exact XF.out)
    have hbl4 : bl.length = 4 := by
      have := congrArg List.length hk
      rw [HK.out] at this
      simpa using this
    have hbt : ∀ i (hi : i < bl.length), bl[i].tag = 5 ∧ bl[i].t.xs = xs := fun i hi => by
      have hm : bl[i].key ∈ bl.map Blk.key := List.mem_map.2 ⟨_, List.getElem_mem hi, rfl⟩
      rw [hk, HK.out] at hm
      have := List.eq_of_mem_replicate hm
      unfold Blk.key at this
      injection this with h1 h2
      exact ⟨h1, h2⟩
    have HT4 := hide (HT3.out.trans hB.touch (fun _ _ h => h))
    rw [XL.out]
    have h4 : ∃ b off, vo = some ⟨b, off, none⟩ ∧ ∀ i, i < 4 → w4.cell? ⟨b, off + i * 2, none⟩ = some (.int .u8 5) ∧ w4.cell? ⟨b, off + i * 2 + 1, none⟩ = some (.slice (bl.getD i ⟨0, ⟨none, 0, []⟩⟩).t.ao xs.length (bl.getD i ⟨0, ⟨none, 0, []⟩⟩).t.cap) := by
      obtain ⟨b, off, rfl⟩ := sg.addr (by omega)
      refine ⟨b, off, rfl, fun i hi => ?_⟩
      obtain ⟨c0, c1⟩ := sg.cell b off rfl i (by omega)
      obtain ⟨e1, e2⟩ := hbt i (by omega)
      rw [c0, c1, e1]
      refine ⟨rfl, ?_⟩
      unfold Txt.val
      rw [e2, List.getD_eq_getElem?_getD, List.getElem?_eq_getElem (by omega)]
      rfl
    obtain ⟨b, off, rfl, hcells⟩ := h4
    rw [hbl4]
    have HC := hide hcells
    clear hB hH hk sg hbl4 hbt hcells AL HT3
    go_wp2_with fail
    go_loop [8] (fun i => ∃ n : Nat, i = .int .i64 n ∧ n ≤ 4) (fun i => 4 - (intOf i).toNat)
    case atStart => exact ⟨0, rfl, by omega⟩
    case round =>
      obtain ⟨n, rfl, hn⟩ := hrel
      by_cases hlt : n < 4
      · obtain ⟨c0, c1⟩ := HC.out n hlt
        have hlt' : (n : Int) < 4 := by omega
        go_wp2_with fail
        go_round
        case rel => exact ⟨n + 1, by go_num, by omega⟩
        case measure => simp [intOf]; omega
      · have e : n = 4 := by omega
        subst e
        have SM := hide (size_mega xs HL.out)
        go_wp2_with fail
        refine (SM.out _).mono ?_
        rintro e w' ⟨rfl, rfl⟩
        go_wp2_with fail
        refine (size_0 _).mono ?_
        rintro e w' ⟨rfl, rfl⟩
        go_wp2_with fail
        refine (size_127 _).mono ?_
        rintro e w' ⟨rfl, rfl⟩
        go_wp2_with fail
        refine (size_128 _).mono ?_
        rintro e w' ⟨rfl, rfl⟩
        go_wp2_with fail
        refine (size_268435456 _).mono ?_
        rintro e w' ⟨rfl, rfl⟩
        go_wp2_with fail
        refine (fsize_no 268435457 (by omega) _).mono ?_
        rintro e w' ⟨rfl, rfl⟩
        go_wp2_with fail
        refine (fsize_no (-1) (by omega) _).mono ?_
        rintro e w' ⟨rfl, rfl⟩
        go_wp2_with fail
        refine (KN.out _ HT4.out).mono ?_
        rintro e w5 ⟨rfl, t5⟩
        go_wp2_with fail
        go_ret
        exact ⟨rfl, HT4.out.trans t5 (fun _ _ h => h)⟩

end Go.Proofs.YtfeifobljgmkkabDoor
