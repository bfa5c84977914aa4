/- The verifier's loans: lent, kept, spoilt. -/
import Derived.Test.YtfeifobljgmkkaaDoorFRef
import Derived.Test.YtfeifobljgmkkaaDoorBrs
namespace Go.Proofs.YtfeifobljgmkkaaDoor
open Go.RowKit Crcx

theorem Row.set {w : World} {e : TypeId} {k : IntKind} {g n cap q : Nat} {ys : List Int} (h : Row w e k (.slice (some ⟨g, 0, none⟩) n cap) ys) (x : Int) :
    Row (w.setCell ⟨g, q, none⟩ (.int k x)) e k (.slice (some ⟨g, 0, none⟩) n cap) (ys.set q x) := by
  have hn := h.len
  rcases h.form with ⟨hv, _⟩ | ⟨g', cap', cur, hv, hb, hc, hm, hs, ht⟩
  · cases hv
  · injection hv with h1 h2 h3
    injection h1 with h1
    injection h1 with h1 _ _
    subst h1 h3
    rw [hn, show ys.length = (ys.set q x).length by simp]
    refine Row.mk (heap_setCell_row hb _) (by simpa using hc) hm (by simpa using hs) ?_
    rw [Array.toList_setIfInBounds, List.length_set, List.take_set, ht, List.map_set]

theorem Row.frozen {w : World} {e : TypeId} {k : IntKind} {g n cap : Nat} {ys : List Int} (h : Row w e k (.slice (some ⟨g, 0, none⟩) n cap) ys) (i : Nat) : w.frozen? ⟨g, i, none⟩ = false := by
  rcases h.form with ⟨hv, _⟩ | ⟨g', cap', cur, hv, hb, _⟩
  · cases hv
  · injection hv with h1 h2 h3
    injection h1 with h1
    injection h1 with h1 _ _
    subst h1
    simp [World.frozen?, hb]

theorem byt_set {ys : List Int} {q : Nat} (hq : q < ys.length) (v i : Nat) : byt (ys.set q (v : Int)) i = if i = q then v else byt ys i := by
  unfold byt
  rw [List.getD_eq_getElem?_getD, List.getD_eq_getElem?_getD, List.getElem?_set]
  by_cases h : i = q
  · subst h; simp [hq]
  · have h' : ¬ q = i := fun e => h e.symm
    simp [h, h']

theorem in8_set {ys : List Int} (h : In8 ys) (q v : Nat) (hv : v < 256) : In8 (ys.set q (v : Int)) := by
  intro x hx
  rcases List.mem_or_eq_of_mem_set hx with h1 | h1
  · exact h x h1
  · subst h1; omega

/-- What is lent: the text, and two marks behind it. -/
structure Lent (w0 w : World) (g c : Nat) (xs : List Int) : Prop where
  new : New w0 w (.slice (some ⟨g, 0, none⟩) (xs.length + 2) c) (xs ++ [165, 90])

theorem Lent.lo {w0 w : World} {g c : Nat} {xs : List Int} (h : Lent w0 w g c xs) : w0.heap.size ≤ g := h.new.lo g rfl

theorem Lent.lt {w0 w : World} {g c : Nat} {xs : List Int} (h : Lent w0 w g c xs) : g < w.heap.size := h.new.row.lt rfl

theorem Lent.keep {w0 w w' : World} {g c : Nat} {xs : List Int} (h : Lent w0 w g c xs) (ht : Touch (fun _ => False) w w') : Lent w0 w' g c xs := ⟨h.new.keep ht⟩

theorem Seg.prefix {w : World} {k : IntKind} {ao : Option Addr} {xs ys : List Int} (h : Seg w k ao (xs ++ ys)) : Seg w k ao xs := by
  refine ⟨fun e => ?_, fun a ha hne => h.spot a ha (by simp [hne]), fun a ha j hj => ?_⟩
  · have := h.none e; simp at this; exact this.1
  · rw [h.cell a ha j (by simp; omega), List.getElem_append_left hj]

theorem Lent.seg {w0 w : World} {g c : Nat} {xs : List Int} (h : Lent w0 w g c xs) : Seg w .u8 (some ⟨g, 0, none⟩) xs := (Seg.of_row h.new.row).prefix

theorem Lent.cap {w0 w : World} {g c : Nat} {xs : List Int} (h : Lent w0 w g c xs) : xs.length + 2 ≤ c := by
  have := h.new.row.cap; simpa using this

theorem Lent.txt {w0 w : World} {g c : Nat} {xs : List Int} (h : Lent w0 w g c xs) (h8 : In8 xs) (hl : xs.length ≤ 281474976710656) : (Txt.mk (some ⟨g, 0, none⟩) c xs).Ok w ∧ xs.length ≤ c := ⟨⟨h.seg, h8, hl⟩, by have := h.cap; omega⟩

theorem Lent.marks {w0 w : World} {g c : Nat} {xs : List Int} (h : Lent w0 w g c xs) : w.cell? ⟨g, xs.length, none⟩ = some (.int .u8 165) ∧ w.cell? ⟨g, xs.length + 1, none⟩ = some (.int .u8 90) := by
  have a := (Seg.of_row h.new.row).at xs.length (by simp)
  have b := (Seg.of_row h.new.row).at (xs.length + 1) (by simp)
  rw [Nat.zero_add] at a b
  rw [a, b, List.getD_eq_getElem?_getD, List.getD_eq_getElem?_getD, List.getElem?_append_right (by omega), List.getElem?_append_right (by omega), Nat.sub_self, Nat.add_sub_cancel_left]
  exact ⟨rfl, rfl⟩

set_option maxRecDepth 100000 in
set_option maxHeartbeats 400000 in
theorem lent_any (t : Txt) (w : World) (ho : t.Ok w) (hb : t.xs.length ≤ 140737488340000) :
    Calls Tryd.prog 12 #[.slice t.ao t.xs.length t.cap] w fun e w' => ∃ g c, e = .returned (.slice (some ⟨g, 0, none⟩) t.xs.length c) ∧ Lent w w' g c t.xs := by
  obtain ⟨i0, hi, hz0, hz1, hz2⟩ := info_parts Tryd.info5
  obtain ⟨ao, cap, xs⟩ := t
  have SR := hide (ho.seg.src (P := Tryd.prog) Tryd.underlying22 cap)
  simp only at *
  clear ho
  go_enter Tryd.func12, Tryd.ntmps12
  go_wp2_with (at_builtin; refine wpList_append_row _ rfl (.const (.slice none 0 0)) (.tmp 4) 22 22 rfl 5 i0 (.int .u8 0) .u8 1 Tryd.underlying22 hi hz0 hz1 hz2 rfl _ [] rfl (Row.nil _ _ _) _ xs rfl SR.out ?b1 ?b2 ?nx)
  case b1 => unfold maxLen; simp only [List.length_nil]; omega
  case b2 => simp only [List.length_nil]; omega
  case nx =>
    intro ao2 n2 c2 w2 R2 G2
    have N2 : New w w2 (.slice ao2 n2 c2) xs := (New.nil (Touch.refl _ _)).of_grew R2 G2
    clear R2 G2 SR
    go_wp2_with (at_builtin; refine wpList_append_row _ rfl (.tmp 5) (.tmp 6) 22 22 rfl 5 i0 (.int .u8 0) .u8 1 Tryd.underlying22 hi hz0 hz1 hz2 rfl _ xs rfl (N2.row.alloc _) _ [165, 90] rfl (src_new (xs := [165, 90]) Tryd.underlying22 _ _ _) ?b3 ?b4 ?nx2)
    case b3 => unfold maxLen; simp only [List.length_cons, List.length_nil]; omega
    case b4 => simp only [List.length_cons, List.length_nil]; omega
    case nx2 =>
      intro ao3 n3 c3 w3 R3 G3
      have N3 : New w w3 (.slice ao3 n3 c3) (xs ++ [165, 90]) := (N2.keep ((Touch.refl _ _).alloc _)).of_grew R3 G3
      have hn3 : n3 = xs.length + 2 := by have := N3.row.len; simpa using this
      subst hn3
      obtain ⟨g, rfl⟩ : ∃ g, ao3 = some ⟨g, 0, none⟩ := by
        rcases N3.row.form with ⟨hv, hx⟩ | ⟨g, cap, cur, hv, _⟩
        · simp at hx
        · injection hv with h1 _ _; exact ⟨g, h1⟩
      have hL : Lent w w3 g c3 xs := ⟨N3⟩
      have hcap := hL.cap
      have hsl : ∀ W, (Instr.slice 22 (.slice (some ⟨g, 0, none⟩) (xs.length + 2) c3) none (some (.int .i64 xs.length)) none).run Tryd.prog W = .ok (.slice (some ⟨g, 0, none⟩) xs.length c3) W := by
        intro W
        have he : Tryd.prog.elem 22 = 5 := by kernel_rfl
        rw [run_slice_h W 22 (some ⟨g, 0, none⟩) _ c3 (by rw [he]; exact Tryd.underlying22) .i64 xs.length (by omega) (by omega), he]
        simp only [sizeOf, typeInfo]
        simp [hi, hz1, sliced, Addr.add_lit]
      have HLL := hide hL
      clear N3 N2 R3 G3 hL
      go_wp2_with fail
      go_ret
      exact ⟨g, c3, rfl, HLL.out⟩

set_option maxRecDepth 100000 in
set_option maxHeartbeats 400000 in
theorem kept_any (w0 : World) (g c : Nat) (bo : Option Addr) (xs : List Int) (cb : Nat) (w : World) (hL : Lent w0 w g c xs) (hy : Seg w .u8 bo xs) (hb : xs.length ≤ 140737488340000) :
    Calls Tryd.prog 15 #[.slice (some ⟨g, 0, none⟩) xs.length c, .slice bo xs.length cb] w fun e w' => e = .returned (.bool true) ∧ w = w' := by
  obtain ⟨i0, hi, hz0, hz1, hz2⟩ := info_parts Tryd.info5
  have CV1 := conv_seg hL.seg c
  have CV2 := conv_seg hy cb
  have hcap := hL.cap
  obtain ⟨m1, m2⟩ := hL.marks
  have hsl : ∀ W, (Instr.slice 22 (.slice (some ⟨g, 0, none⟩) xs.length c) none (some (.int .i64 ((xs.length : Int) + 2))) none).run Tryd.prog W = .ok (.slice (some ⟨g, 0, none⟩) (xs.length + 2) c) W := by
    intro W
    have he : Tryd.prog.elem 22 = 5 := by kernel_rfl
    rw [run_slice_h W 22 (some ⟨g, 0, none⟩) _ c (by rw [he]; exact Tryd.underlying22) .i64 ((xs.length : Int) + 2) (by omega) (by omega), he]
    simp only [sizeOf, typeInfo]
    have : ((xs.length : Int) + 2).toNat = xs.length + 2 := by omega
    simp [hi, hz1, sliced, Addr.add_lit, this]
  clear hL hy
  go_enter Tryd.func15, Tryd.ntmps15
  go_wp2_with fail
  go_ret
  exact ⟨rfl, rfl⟩

/- What spoilt leaves: the row, with other bytes; nothing else is touched. -/
set_option maxRecDepth 100000 in
set_option maxHeartbeats 400000 in
theorem spoilt_any (ao : Option Addr) (n N c : Nat) (ys : List Int) (w : World) (hr : Row w 5 .u8 (.slice ao N c) ys) (h8 : In8 ys) (hn : n ≤ N) (hb : N ≤ 140737488351232) :
    Calls Tryd.prog 16 #[.slice ao n c] w fun e w' => (∃ v, e = .returned v) ∧ Touch (fun k => (Value.slice ao N c).ownBlock = some k) w w' := by
  have hN := hr.len
  go_enter Tryd.func16, Tryd.ntmps16
  go_wp2_with fail
  go_loopw [2] (fun i wr => ∃ (k : Nat) (zs : List Int), i = .int .i64 k ∧ k ≤ n ∧ Row wr 5 .u8 (.slice ao N c) zs ∧ In8 zs ∧ Touch (fun k => (Value.slice ao N c).ownBlock = some k) w wr) (fun i _ => n - (intOf i).toNat)
  case atStart => exact ⟨0, ys, rfl, Nat.zero_le _, hr, h8, Touch.refl _ _⟩
  case round =>
    obtain ⟨k, zs, rfl, hk, hz, hz8, ht⟩ := hrel
    by_cases hlt : k < n
    · have hzl := hz.len
      obtain ⟨g, rfl⟩ : ∃ g, ao = some ⟨g, 0, none⟩ := by
        rcases hz.form with ⟨hv, hx⟩ | ⟨g, cap, cur, hv, _⟩
        · rw [hx] at hzl; simp at hzl; omega
        · injection hv with h1 _ _; exact ⟨g, h1⟩
      have cc := (Seg.of_row hz).at k (by omega)
      rw [Nat.zero_add] at cc
      have hby := hz8.at k
      obtain ⟨b, hb0⟩ := Int.eq_ofNat_of_zero_le hby.1
      rw [hb0] at cc hby
      have hfz := hz.frozen k
      have hx := u8_xor_nat b 90 (by omega) (by omega)
      have hk' : (((90 : Nat)) : Int) = 90 := rfl
      rw [hk'] at hx
      have hxl : b ^^^ 90 < 256 := Nat.xor_lt_two_pow (n := 8) (by omega) (by omega)
      have HZ := hide (hz.set (q := k) ((b ^^^ 90 : Nat) : Int))
      have HZ8 := hide (in8_set hz8 k (b ^^^ 90) hxl)
      have HT := hide (ht.setCell (p := ⟨g, k, none⟩) (fun _ => rfl) (.int .u8 ((b ^^^ 90 : Nat) : Int)))
      generalize b ^^^ 90 = d at *
      clear hr h8 hz hz8 ht hk' hb0 hN hzl
      go_wp2_with fail
      go_roundw
      case rel => exact ⟨k + 1, _, by go_num, by omega, HZ.out, HZ8.out, HT.out⟩
      case measure => simp [intOf]; omega
    · have e : k = n := by omega
      subst e
      clear hr h8 hz hz8 hN
      go_wp2_with fail
      go_end0
      exact ⟨⟨_, rfl⟩, ht⟩

end Go.Proofs.YtfeifobljgmkkaaDoor
