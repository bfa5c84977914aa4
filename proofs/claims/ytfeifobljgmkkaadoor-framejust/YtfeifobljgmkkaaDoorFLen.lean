/- The program's least, length, fresh. -/
import Derived.Test.YtfeifobljgmkkaaDoorFMath
import Derived.Test.YtfeifobljgmkkaaDoorFCat
import Derived.Deep.Slices
namespace Go.Proofs.YtfeifobljgmkkaaDoor
open Go.RowKit Crcx

/-- A part of a slice. -/
theorem Seg.cut {w : World} {k : IntKind} {ao : Option Addr} {xs : List Int} (h : Seg w k ao xs) (cap p q : Nat) (hc : xs.length ≤ cap) (hq : q ≤ xs.length) (hp : p ≤ q) : Seg w k (if cap = p then ao else ao.map (·.add (p * 1))) ((xs.drop p).take (q - p)) := by
  by_cases e : cap = p
  · have : (xs.drop p).take (q - p) = [] := by rw [List.drop_eq_nil_of_le (by omega)]; simp
    rw [this]
    exact ⟨fun _ => rfl, fun _ _ h => absurd rfl h, fun _ _ j hj => absurd hj (by simp)⟩
  · rw [if_neg e, Nat.mul_one]
    by_cases hx : xs = []
    · subst hx
      simp only [List.drop_nil, List.take_nil]
      exact ⟨fun _ => rfl, fun _ _ h => absurd rfl h, fun _ _ j hj => absurd hj (by simp)⟩
    · obtain ⟨b, off, rfl⟩ := h.addr (List.length_pos_iff.2 hx)
      simp only [Option.map_some, Addr.add_lit]
      refine ⟨fun h => (nomatch h), fun a ha _ => (by injection ha with ha; subst ha; rfl), fun a ha j hj => ?_⟩
      injection ha with ha; subst ha
      rw [Addr.add_lit]
      have hj' : j < q - p ∧ j < xs.length - p := by simpa [List.length_take, List.length_drop, Nat.lt_min] using hj
      have := h.at (p + j) (by omega)
      rw [Nat.add_assoc, this, List.getD_eq_getElem?_getD, List.getElem?_eq_getElem (by omega)]
      simp [List.getElem_take, List.getElem_drop]

/-- A text, cut from p to q. -/
theorem Txt.cut {w : World} {t : Txt} (h : t.Ok w) (hc : t.xs.length ≤ t.cap) (p q : Nat) (hq : q ≤ t.xs.length) (hp : p ≤ q) :
    ∃ u : Txt, u.xs = (t.xs.drop p).take (q - p) ∧ u.xs.length = q - p ∧ u.Ok w ∧ u.xs.length ≤ u.cap ∧ u.ao = (if t.cap = p then t.ao else t.ao.map (·.add (p * 1))) ∧ u.cap = t.cap - p := by
  have hl : ((t.xs.drop p).take (q - p)).length = q - p := by simp; omega
  refine ⟨⟨if t.cap = p then t.ao else t.ao.map (·.add (p * 1)), t.cap - p, (t.xs.drop p).take (q - p)⟩, rfl, hl, ⟨h.seg.cut t.cap p q hc hq hp, fun x hx => h.in8 x (List.mem_of_mem_drop (List.mem_of_mem_take hx)), ?_⟩, ?_, rfl, rfl⟩
  · have := h.len; simp only; rw [hl]; omega
  · simp only; rw [hl]; omega

theorem cut_lh {w : World} {t : Txt} (h : t.Ok w) (hc : t.xs.length ≤ t.cap) (p q : Nat) (hq : q ≤ t.xs.length) (hp : p ≤ q) :
    ∃ u : Txt, u.xs = (t.xs.drop p).take (q - p) ∧ u.xs.length = q - p ∧ u.Ok w ∧ u.xs.length ≤ u.cap ∧ ∀ W, (Instr.slice 22 (.slice t.ao t.xs.length t.cap) (some (.int .i64 p)) (some (.int .i64 q)) none).run Tryd.prog W = .ok (.slice u.ao u.xs.length u.cap) W := by
  obtain ⟨u, h1, h2, h3, h4, h5, h6⟩ := Txt.cut h hc p q hq hp
  refine ⟨u, h1, h2, h3, h4, fun W => ?_⟩
  obtain ⟨i0, hi, hz0, hz1, hz2⟩ := info_parts Tryd.info5
  have he : Tryd.prog.elem 22 = 5 := by kernel_rfl
  rw [run_slice_lh W 22 t.ao t.xs.length t.cap (by rw [he]; exact Tryd.underlying22) .i64 .i64 p q (by omega) (by omega) (by omega), he]
  simp only [sizeOf, typeInfo]
  simp [hi, hz1, sliced, h2, h5, h6]

theorem cut_l {w : World} {t : Txt} (h : t.Ok w) (hc : t.xs.length ≤ t.cap) (p : Nat) (hp : p ≤ t.xs.length) :
    ∃ u : Txt, u.xs = t.xs.drop p ∧ u.xs.length = t.xs.length - p ∧ u.Ok w ∧ u.xs.length ≤ u.cap ∧ ∀ W, (Instr.slice 22 (.slice t.ao t.xs.length t.cap) (some (.int .i64 p)) none none).run Tryd.prog W = .ok (.slice u.ao u.xs.length u.cap) W := by
  obtain ⟨u, h1, h2, h3, h4, h5, h6⟩ := Txt.cut h hc p t.xs.length (Nat.le_refl _) hp
  refine ⟨u, by rw [h1, List.take_of_length_le (by simp)], h2, h3, h4, fun W => ?_⟩
  obtain ⟨i0, hi, hz0, hz1, hz2⟩ := info_parts Tryd.info5
  have he : Tryd.prog.elem 22 = 5 := by kernel_rfl
  rw [run_slice_l W 22 t.ao t.xs.length t.cap (by rw [he]; exact Tryd.underlying22) .i64 p (by omega) (by omega), he]
  simp only [sizeOf, typeInfo]
  simp [hi, hz1, sliced, h2, h5, h6]

theorem cut_h {w : World} {t : Txt} (h : t.Ok w) (hc : t.xs.length ≤ t.cap) (q : Nat) (hq : q ≤ t.xs.length) :
    ∃ u : Txt, u.xs = t.xs.take q ∧ u.xs.length = q ∧ u.Ok w ∧ u.xs.length ≤ u.cap ∧ ∀ W, (Instr.slice 22 (.slice t.ao t.xs.length t.cap) none (some (.int .i64 q)) none).run Tryd.prog W = .ok (.slice u.ao u.xs.length u.cap) W := by
  obtain ⟨u, h1, h2, h3, h4, h5, h6⟩ := Txt.cut h hc 0 q hq (Nat.zero_le _)
  refine ⟨u, by rw [h1]; simp, h2, h3, h4, fun W => ?_⟩
  obtain ⟨i0, hi, hz0, hz1, hz2⟩ := info_parts Tryd.info5
  have he : Tryd.prog.elem 22 = 5 := by kernel_rfl
  rw [run_slice_h W 22 t.ao t.xs.length t.cap (by rw [he]; exact Tryd.underlying22) .i64 q (by omega) (by omega), he]
  simp only [sizeOf, typeInfo]
  simp [hi, hz1, sliced, h2, h5, h6]

set_option maxRecDepth 100000 in
set_option maxHeartbeats 400000 in
theorem fresh_any (t : Txt) (w : World) (ho : t.Ok w) (hb : t.xs.length ≤ 140737488351232) :
    Calls Tryd.prog 38 #[.slice t.ao t.xs.length t.cap] w fun e w' => ∃ ao n c, e = .returned (.slice ao n c) ∧ New w w' (.slice ao n c) t.xs := by
  obtain ⟨ao, cap, xs⟩ := t
  simp only at *
  have hs := ho.seg
  simp only at hs
  obtain ⟨i0, hi, hz0, hz1, hz2⟩ := info_parts Tryd.info5
  go_enter Tryd.func38, Tryd.ntmps38
  go_wp2_with (at_make; refine wpList_make_new _ rfl (.tmp 5) (.tmp 5) 22 rfl 5 i0 (.int .u8 0) 1 Tryd.underlying22 hi hz0 hz1 hz2 xs.length rfl rfl ?b1 ?b2 ?nx)
  case b1 => omega
  case b2 => unfold maxLen; omega
  case nx =>
    intro w1 cur hcell hcur ht
    have hlt := lt_of_block hcell
    have hs1 := hs.touch ht (fun _ _ h => h)
    go_wp2_with (refine wpList_copy_new rfl (.tmp 7) (.tmp 8) 22 22 rfl 5 .u8 Tryd.underlying22 Tryd.one5 w.heap.size ao cap xs rfl rfl cur hcell hcur ?b3 hs1 ?nx2)
    case b3 => unfold maxLen; omega
    case nx2 =>
      intro w2 hrow ht2
      have N2 : New w w2 (.slice (some ⟨w.heap.size, 0, none⟩) xs.length xs.length) xs := ⟨hrow, fun g hg => by simp [Value.ownBlock] at hg; omega, ht.trans ht2 (fun k hk e => by omega)⟩
      clear hs1 hs hcell hcur ht ht2 hrow
      go_wp2
      go_ret
      exact ⟨_, _, _, rfl, N2⟩

theorem segV_two {w : World} {g : Nat} {t u : Txt} {ty : TypeId} {fr : Nat × Nat} (h : w.heap[g]? = some (.cells #[t.val, u.val] ty fr)) : SegV w (some ⟨g, 0, none⟩) ([t, u].map Txt.val) := segV_of h rfl

set_option maxRecDepth 100000 in
set_option maxHeartbeats 400000 in
theorem least_any (t : Txt) (w : World) (ho : t.Ok w) (hb : t.xs.length ≤ 5) :
    Calls Tryd.prog 49 #[.slice t.ao t.xs.length t.cap] w fun e w' => e = .returned (.int .u64 ((scan (t.xs ++ [1])).1 : Int)) ∧ Touch (fun _ => False) w w' := by
  obtain ⟨ao, cap, xs⟩ := t
  simp only at *
  obtain ⟨x, n, er, hsc⟩ : ∃ x n er, scan (xs ++ [1]) = (x, n, er) := ⟨_, _, _, rfl⟩
  have H1 := hide hsc
  rw [hsc]
  clear hsc
  go_enter Tryd.func49, Tryd.ntmps49
  go_wp2_with fail
  have T1 : Touch (fun _ => False) w (w.alloc (.cells #[.int .u8 1] 5)) := (Touch.refl _ _).alloc _
  have S1 : Seg (w.alloc (.cells #[.int .u8 1] 5)) .u8 (some ⟨w.heap.size, 0, none⟩) [1] := seg_of (heap_alloc_last w _) rfl
  have hsz : (w.alloc (.cells #[.int .u8 1] 5)).heap.size = w.heap.size + 1 := by simp
  generalize w.alloc (.cells #[.int .u8 1] 5) = w1 at *
  rw [← hsz]
  generalize w.heap.size = g at S1 ⊢
  have T2 : Touch (fun _ => False) w1 (w1.alloc (.cells #[.slice ao xs.length cap, .slice (some ⟨g, 0, none⟩) 1 1] 22)) := (Touch.refl _ _).alloc _
  have S2 : SegV (w1.alloc (.cells #[.slice ao xs.length cap, .slice (some ⟨g, 0, none⟩) 1 1] 22)) (some ⟨w1.heap.size, 0, none⟩) ([Txt.mk ao cap xs, Txt.mk (some ⟨g, 0, none⟩) 1 [1]].map Txt.val) := segV_of (heap_alloc_last w1 _) rfl
  generalize w1.alloc (.cells #[.slice ao xs.length cap, .slice (some ⟨g, 0, none⟩) 1 1] 22) = w2 at *
  generalize w1.heap.size = g1 at S2 ⊢
  have T02 := T1.trans T2 (fun _ _ h => h)
  have eall : alls [Txt.mk ao cap xs, Txt.mk (some ⟨g, 0, none⟩) 1 [1]] = xs ++ [1] := by simp [alls]
  have CC := concat_any _ _ 2 w2 S2 (fun t ht => by
    rcases List.mem_cons.1 ht with rfl | ht
    · exact ho.touch T02
    · obtain rfl := List.mem_singleton.1 ht
      exact ⟨S1.touch T2 (fun _ _ h => h), in8_one (by omega), by simp⟩) (by simp) (by rw [eall]; simp) (by rw [eall]; simp; omega)
  rw [eall] at CC
  clear S1 S2 T1 T2 hsz eall
  refine CC.mono ?_
  rintro e w3 ⟨bo, m, c, rfl, N3⟩
  have h83 : In8 (xs ++ [1]) := in8_append ho.in8 (in8_one (by omega))
  have hm := N3.row.len
  subst hm
  have hl6 : (xs ++ [1]).length ≤ 6 := by simp; omega
  have NR := hide (newReader_any bo (xs ++ [1]) c w3 (Seg.of_row N3.row) (by omega))
  generalize hys : xs ++ [1] = ys at *
  have T3 := T02.trans N3.touch (fun _ _ h => h)
  clear CC N3 T02 ho
  go_wp2_with fail
  refine NR.out.mono ?_
  rintro e w4 ⟨rb, c4, rfl, hrb, R4, t4⟩
  have T4 := T3.trans t4 (fun _ _ h => h)
  have NU := hide (number_eq rb _ c4 ys 0 x n er w4 R4 h83 (by omega) (by rw [List.drop_zero]; exact H1.out))
  have hlo : w.heap.size ≤ rb := by have := T3.size; omega
  clear R4 t4 T3 NR
  go_wp2_with fail
  refine NU.out.mono ?_
  rintro e w5 ⟨rfl, R5, t5⟩
  have T5 := T4.trans t5 (fun k hk e => by omega)
  go_wp2_with fail
  go_ret
  exact ⟨rfl, T5⟩

end Go.Proofs.YtfeifobljgmkkaaDoor
