/- The walk of FrameSame. -/
import Derived.Test.YtfeifobljgmkkabDoorFKnown
namespace Go.Proofs.YtfeifobljgmkkabDoor
open Go.RowKit Crcx

theorem Blks.shape {w wr : World} {v : Value} {bl : List Blk} (h : Blks w wr v bl) : ∃ ao c, v = .slice ao bl.length c := by
  rcases h.own.2 with ⟨rfl, h0⟩ | ⟨g, cap, cur, rfl, _⟩
  · exact ⟨none, 0, by rw [h0]⟩
  · exact ⟨_, _, rfl⟩

theorem flat_at : ∀ (bl : List Blk) (i : Nat) (hi : i < bl.length), (bl.flatMap Blk.cells)[i * 2]? = some (.int .u8 bl[i].tag) ∧ (bl.flatMap Blk.cells)[i * 2 + 1]? = some bl[i].t.val
  | x :: bl, 0, _ => by simp [Blk.cells]
  | x :: bl, i + 1, hi => by
    have h := flat_at bl i (by simpa using hi)
    have e : (x :: bl).flatMap Blk.cells = .int .u8 x.tag :: x.t.val :: bl.flatMap Blk.cells := rfl
    rw [e, show (i + 1) * 2 = i * 2 + 1 + 1 by omega, List.getElem?_cons_succ, List.getElem?_cons_succ, List.getElem?_cons_succ, List.getElem?_cons_succ]
    simpa using h

theorem Blks.seg {w wr : World} {ao : Option Addr} {n c : Nat} {bl : List Blk} (h : Blks w wr (.slice ao n c) bl) (hok : ∀ x ∈ bl.map Blk.key, FrOk x) : SegB wr ao bl := by
  refine ⟨fun hl => ?_, fun b off e i hi => ?_, fun x hx => ?_⟩
  · rcases h.own.2 with ⟨_, h0⟩ | ⟨g, cap, cur, e, _⟩
    · omega
    · injection e with e1 _ _; exact ⟨g, 0, e1⟩
  · obtain ⟨f1, f2⟩ := flat_at bl i hi
    subst e
    rcases h.own.2 with ⟨e, h0⟩ | ⟨g, cap, cur, e, _⟩
    · omega
    · injection e with e1 _ _; injection e1 with e1; injection e1 with e1 e2 _
      subst e1 e2
      have hcells := h.own.cells (g := b) rfl
      have a1 := hcells _ _ f1
      have a2 := hcells _ _ f2
      rw [Addr.add_lit] at a1 a2
      refine ⟨by simpa using a1, ?_⟩
      rw [Nat.zero_add] at a2
      rw [Nat.zero_add]; exact a2
  · have hk := hok x.key (List.mem_map.2 ⟨x, hx, rfl⟩)
    have hn := h.body x hx
    exact ⟨hk.tag, ⟨Seg.of_row hn.row, hk.in8, by have := hk.len; simp only [Blk.key] at this; omega⟩⟩

theorem rowB_key (bl : List Blk) : rowB bl = rowF (bl.map Blk.key) := by
  unfold rowB rowF; rw [List.flatMap_map]; rfl

theorem blks_len {bl : List Blk} : bl.length ≤ (rowB bl).length := by
  induction bl with
  | nil => simp
  | cons x bl ih =>
    have : rowB (x :: bl) = frm x.tag x.t.xs ++ rowB bl := rfl
    rw [this, List.length_append]
    have := frm_pos x.tag x.t.xs
    simp; omega

set_option maxRecDepth 100000 in
set_option maxHeartbeats 1000000 in
theorem same_walk (t : Txt) (w : World) (hT : Tab w) (ho : t.Ok w) (hc : t.xs.length ≤ t.cap) :
    Calls Tryd.prog 3 #[.slice t.ao t.xs.length t.cap] w fun e w' => e = .returned (.bool true) ∧ Touch (fun _ => False) w w' := by
  have LG := hide (fun W => long_any t.ao t.xs.length t.cap W)
  have KN := hide (fun (W : World) (hW : Touch (fun _ => False) w W) => known_any W (hT.touch hW (fun h => h)))
  have AL := hide (fun (hb : t.xs.length ≤ 2147483648) => all_any t w hT ho hc hb)
  obtain ⟨xl, hxl⟩ : ∃ xl, xl = t.xs.length := ⟨_, rfl⟩
  rw [← hxl] at LG AL ⊢
  have HXL := hide hxl
  clear hxl
  by_cases hlong : 200000 < xl
  · have hd : decide ((200000 : Int) < (xl : Int)) = true := decide_eq_true (by omega)
    rw [hd] at LG
    clear hd
    go_enter Tryd.func3, Tryd.ntmps3
    go_wp2_with fail
    refine (LG.out _).mono ?_
    rintro e w' ⟨rfl, rfl⟩
    go_wp2_with fail
    refine (KN.out _ (Touch.refl _ _)).mono ?_
    rintro e w1 ⟨rfl, t1⟩
    go_wp2_with fail
    go_ret
    exact ⟨rfl, t1⟩
  · have hd : decide ((200000 : Int) < (xl : Int)) = false := decide_eq_false (by omega)
    rw [hd] at LG
    clear hd
    have AL1 := hide (AL.out (by omega))
    clear AL
    go_enter Tryd.func3, Tryd.ntmps3
    go_wp2_with fail
    refine (LG.out _).mono ?_
    rintro e w' ⟨rfl, rfl⟩
    clear LG
    go_wp2_with fail
    refine AL1.out.mono ?_
    rintro e w1 ⟨v, bl, l, p, er, rfl, hB, hH, hk⟩
    obtain ⟨vo, vc, rfl⟩ := hB.shape
    clear AL1
    have hple : (p : Int) ≤ (xl : Int) := by have := hH.le; have := HXL.out; omega
    by_cases he : er = 0
    · subst he
      rw [if_pos rfl] at hk
      have hpx : p = t.xs.length := by
        rcases hH.stop with ⟨_, h⟩ | ⟨h, _⟩
        · exact h
        · exact absurd rfl h
      have hrow : rowB bl = t.xs := by rw [rowB_key, hk, hH.row, hpx, List.take_length]
      have hsb := hB.seg (by rw [hk]; exact hH.ok)
      have RW := hide (row_any vo bl vc w1 (hT.touch hB.touch (fun h => h)) hsb (by rw [hrow, ← HXL.out]; omega) (by have := blks_len (bl := bl); rw [hrow, ← HXL.out] at this; omega))
      rw [hrow] at RW
      have hpi : p = xl := by rw [hpx, HXL.out]
      subst hpi
      have o1 := ho.touch hB.touch
      have HO1 := hide o1
      have HT1 := hide hB.touch
      clear hB hH hk hpx hrow hsb o1 hc ho hple
      generalize bl.length = bn at *
      go_wp2_with fail
      refine RW.out.mono ?_
      rintro e w2 ⟨ro, rn, rc, rfl, N2⟩
      have hrn := N2.row.len
      subst hrn
      have CV1 := conv_seg (Seg.of_row N2.row) rc
      have CV2 := conv_seg (HO1.out.touch N2.touch).seg t.cap
      have T2 := HT1.out.trans N2.touch (fun _ _ h => h)
      rw [← HXL.out] at CV1 CV2 ⊢
      have HT2 := hide T2
      clear RW N2 T2
      go_wp2_with fail
      refine (KN.out _ HT2.out).mono ?_
      rintro e w3 ⟨rfl, t3⟩
      go_wp2_with fail
      go_ret
      exact ⟨rfl, HT2.out.trans t3 (fun _ _ h => h)⟩
    · rw [if_neg he] at hk
      have hb0 : bl = [] := List.map_eq_nil_iff.1 hk
      subst hb0
      have he' : ¬ (er : Int) = 0 := by omega
      have HT1 := hide hB.touch
      clear hB hH hk hc ho
      simp only [List.length_nil]
      go_wp2_with fail
      refine (KN.out _ HT1.out).mono ?_
      rintro e w3 ⟨rfl, t3⟩
      go_wp2_with fail
      go_ret
      exact ⟨rfl, HT1.out.trans t3 (fun _ _ h => h)⟩

end Go.Proofs.YtfeifobljgmkkabDoor
