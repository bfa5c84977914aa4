/- The document's All, SameBlocks. -/
import Derived.Test.YtfeifobljgmkkaaDoorFRHead
import Derived.Deep.QuietTactic
import Derived.BigQuiet
namespace Go.Proofs.YtfeifobljgmkkaaDoor
open Go.RowKit Crcx

set_option maxRecDepth 100000 in
set_option maxHeartbeats 1000000 in
theorem rall_any (t : Txt) (w : World) (ho : t.Ok w) (hc : t.xs.length ≤ t.cap) (hb : t.xs.length ≤ 2147483648) : Calls Tryd.prog 23 #[.slice t.ao t.xs.length t.cap] w (AllEnd w t.xs) := by
  have HE := hide (rheads_any t w ho hc hb)
  obtain ⟨xl, hxl⟩ : ∃ xl, xl = t.xs.length := ⟨_, rfl⟩
  rw [← hxl] at HE ⊢
  have HXL := hide hxl
  clear hxl
  go_enter Tryd.func23, Tryd.ntmps23
  go_wp2_with fail
  refine HE.out.mono ?_
  rintro e w1 ⟨v, pv, bl, p, er, rfl, hB, hN, hH⟩
  obtain ⟨vo, vc, rfl⟩ := hB.shape
  obtain ⟨po, pn, pc, rfl⟩ := hN.row.shape
  have hpn := hN.row.len
  rw [plc_len, List.length_map] at hpn
  clear HE
  by_cases he : er = 0
  · subst he
    have hpx : p = xl := by
      rcases hH.stop with ⟨_, h⟩ | ⟨h, _⟩
      · rw [h, HXL.out]
      · exact absurd rfl h
    subst hpx
    have HEND := hide (show AllEnd w t.xs (.returned (.tuple #[.slice vo bl.length vc, .int .i64 (p : Int), .int .i64 ((0 : Nat) : Int)])) w1 from ⟨_, bl, _, p, 0, rfl, hB, hH, by rw [if_pos rfl]⟩)
    clear hB hN hH hpn ho hc
    generalize bl.length = bn at *
    go_wp2_with fail
    go_ret3
    exact HEND.out
  · have he' : ¬ (er : Int) = 0 := by omega
    have hlp : (rowF (bl.map Blk.key)).length = p := by rw [hH.row, List.length_take, Nat.min_eq_left hH.le]
    have hat := plc_at (bl.map Blk.key) bl.length (by simp)
    rw [List.take_of_length_le (by simp), hlp] at hat
    obtain ⟨g, rfl⟩ : ∃ g, po = some ⟨g, 0, none⟩ := by
      rcases hN.row.form with ⟨hv, hx⟩ | ⟨g, cap, cur, hv, _⟩
      · have := plc_len (bl.map Blk.key); rw [hx] at this; simp at this
      · injection hv with h1 _ _; exact ⟨g, h1⟩
    have hcell := (Seg.of_row hN.row).at bl.length (by rw [plc_len]; simp)
    rw [Nat.zero_add, hat] at hcell
    have HEND := hide (fun nq => show AllEnd w t.xs (.returned (.tuple #[.slice none 0 0, .int .i64 (p : Int), .int .i64 (er : Int)])) (w1.drewN nq) from ⟨_, [], _, p, er, rfl, Blks.nil (Touch.drewN hB.touch nq), hH, by rw [if_neg he]; rfl⟩)
    have hib : (bl.length : Int) < ((bl.length + 1 : Nat) : Int) := by omega
    subst hpn
    clear hB hN hH ho hc hat hlp
    generalize bl.length = bn at *
    go_wp2_with fail
    go_quiet (fail)
    go_wp2_with fail
    go_ret3
    exact HEND.out _

set_option maxRecDepth 100000 in
set_option maxHeartbeats 1000000 in
theorem sameBlocks_any (ao bo : Option Addr) (bl cl : List Blk) (ca cb : Nat) (w : World) (ha : SegB w ao bl) (hb : SegB w bo cl) (hk : bl.map Blk.key = cl.map Blk.key) (hl : bl.length ≤ 70368744177664) :
    Calls Tryd.prog 19 #[.slice ao bl.length ca, .slice bo cl.length cb] w fun e w' => e = .returned (.bool true) ∧ Touch (fun _ => False) w w' := by
  have hll : cl.length = bl.length := by have := congrArg List.length hk; simpa using this.symm
  rw [hll]
  go_enter Tryd.func19, Tryd.ntmps19
  go_wp2_with fail
  go_loopw [5] (fun i wr => ∃ k : Nat, i = .int .i64 k ∧ k ≤ bl.length ∧ Touch (fun _ => False) w wr) (fun i _ => bl.length - (intOf i).toNat)
  case atStart => exact ⟨0, rfl, Nat.zero_le _, Touch.refl _ _⟩
  case round =>
    obtain ⟨k, rfl, hkl, ht⟩ := hrel
    by_cases hlt : k < bl.length
    · have hltc : k < cl.length := by omega
      have sa := ha.touch ht
      have sb := hb.touch ht
      obtain ⟨b1, o1, rfl⟩ := ha.addr (by omega)
      obtain ⟨b2, o2, rfl⟩ := hb.addr (by omega)
      obtain ⟨c0, c1⟩ := sa.cell b1 o1 rfl k hlt
      obtain ⟨d0, d1⟩ := sb.cell b2 o2 rfl k hltc
      have hkey : bl[k].key = cl[k].key := by
        have h1 : (bl.map Blk.key)[k]? = some bl[k].key := by rw [List.getElem?_map, List.getElem?_eq_getElem hlt]; rfl
        have h2 : (cl.map Blk.key)[k]? = some cl[k].key := by rw [List.getElem?_map, List.getElem?_eq_getElem hltc]; rfl
        rw [hk, h2] at h1
        injection h1 with h1; exact h1.symm
      unfold Blk.key at hkey
      injection hkey with hk1 hk2
      have oa := (sa.ok _ (List.getElem_mem hlt)).t
      have ob := (sb.ok _ (List.getElem_mem hltc)).t
      have CV1 : ∀ n, (convert 22 9 (.slice bl[k].t.ao bl[k].t.xs.length bl[k].t.cap)).run Tryd.prog (wr.drewN n) = .ok (.string (strOfNums bl[k].t.xs)) (wr.drewN n) := fun n => conv_seg (oa.touch (Touch.drewN (Touch.refl _ _) n)).seg _
      have CV2 : ∀ n, (convert 22 9 (.slice cl[k].t.ao cl[k].t.xs.length cl[k].t.cap)).run Tryd.prog (wr.drewN n) = .ok (.string (strOfNums cl[k].t.xs)) (wr.drewN n) := fun n => conv_seg (ob.touch (Touch.drewN (Touch.refl _ _) n)).seg _
      rw [← hk1] at d0
      simp only [Txt.val] at c1 d1
      rw [← hk2] at d1 CV2
      have hlt' : (k : Int) < (bl.length : Int) := by omega
      have HT := hide (fun n => Touch.drewN ht n)
      generalize bl[k].tag = tg at *
      generalize strOfNums bl[k].t.xs = st at *
      generalize bl[k].t.xs.length = n1 at *
      generalize bl[k].t.ao = a1 at *
      generalize bl[k].t.cap = p1 at *
      generalize cl[k].t.ao = a2 at *
      generalize cl[k].t.cap = p2 at *
      clear ha hb sa sb oa ob hk hk1 hk2 hll hltc ht
      go_wp2_with fail
      go_quiet (fail)
      go_wp2_with fail
      go_roundw
      case rel => exact ⟨k + 1, by go_num, by omega, HT.out _⟩
      case measure => simp [intOf]; omega
    · have e : k = bl.length := by omega
      subst e
      clear ha hb hk hll
      go_wp2_with fail
      go_ret
      exact ⟨rfl, ht⟩

end Go.Proofs.YtfeifobljgmkkaaDoor
