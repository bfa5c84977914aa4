/- The document's Row. -/
import Derived.Test.YtfeifobljgmkkaaDoorFRef
import Derived.Test.YtfeifobljgmkkaaDoorFRow
import Derived.Test.YtfeifobljgmkkaaDoorFKnown
import Derived.Deep.RegionHeld3
import Derived.BigQuiet
namespace Go.Proofs.YtfeifobljgmkkaaDoor
open Go.RowKit Crcx

set_option maxRecDepth 100000 in
set_option maxHeartbeats 2000000 in
theorem rrow_any (ao : Option Addr) (bl : List Blk) (cap : Nat) (w : World) (hs : SegB w ao bl) (hl : (rowB bl).length ≤ 268435456) (hbl : bl.length ≤ 70368744177664) :
    Calls Tryd.prog 17 #[.slice ao bl.length cap] w fun e w' => ∃ bo n c, e = .returned (.slice bo n c) ∧ New w w' (.slice bo n c) (rowB bl) := by
  obtain ⟨i0, hi, hz0, hz1, hz2⟩ := info_parts Tryd.info5
  go_enter Tryd.func17, Tryd.ntmps17
  go_wp2_with fail
  go_loopw [3, 4] (fun r i wr => ∃ (k : Nat) (ro : Option Addr) (rn rc : Nat), i = .int .i64 k ∧ k ≤ bl.length ∧ r = .slice ro rn rc ∧ New w wr (.slice ro rn rc) (rowB (bl.take k))) (fun _ i _ => bl.length - (intOf i).toNat)
  case atStart => exact ⟨0, _, _, _, rfl, Nat.zero_le _, rfl, New.nil (Touch.refl _ _)⟩
  case round =>
    obtain ⟨k, ro, rn, rc, rfl, hk, rfl, hN⟩ := hrel
    by_cases hlt : k < bl.length
    · have hsr := hs.touch hN.touch
      obtain ⟨b, off, rfl⟩ := hs.addr (by omega)
      obtain ⟨c0, c1⟩ := hsr.cell b off rfl k hlt
      have hbody := rowB_body bl k hlt
      have hfl := fsize_lt bl[k].t.xs.length
      have HN := hide (rowB_take bl k hlt)
      have ok := hsr.ok _ (List.getElem_mem hlt)
      have hnx : bl[k].t.xs.length ≤ 268435456 := by omega
      have HFL := hide (frm_len bl[k].tag bl[k].t.xs)
      have RP := hide (fun (W : World) (tW : Touch (fun _ => False) wr W) => rput_any bl[k].tag bl[k].t W (ok.t.touch tW) ok.tag hnx)
      have hltb : b < w.heap.size := lt_of_cell ((hs.cell b off rfl k hlt).1)
      have HLO := hide hN.lo
      have HCC := hide (fun (W : World) (tW : Touch (fun g => (Value.slice ro rn rc).ownBlock = some g) wr W) => (show W.cell? ⟨b, off + k * 2, none⟩ = some (.int .u8 bl[k].tag) ∧ W.cell? ⟨b, off + k * 2 + 1, none⟩ = some bl[k].t.val from
        ⟨(tW.cell (p := ⟨b, off + k * 2, none⟩) (lt_of_cell c0) (fun e => by have := HLO.out _ e; simp only at this; omega)).trans c0, (tW.cell (p := ⟨b, off + k * 2 + 1, none⟩) (lt_of_cell c1) (fun e => by have := HLO.out _ e; simp only at this; omega)).trans c1⟩))
      simp only [Txt.val] at c1 RP HCC
      have hm := rowB_le bl k
      have bb1 : (rowB (bl.take k)).length + (frm bl[k].tag bl[k].t.xs).length ≤ maxLen := by unfold maxLen; rw [HFL.out]; omega
      have bb2 : ((rowB (bl.take k)).length + (frm bl[k].tag bl[k].t.xs).length) * 1 ≤ 140737488355328 := by rw [HFL.out]; omega
      have HB1 := hide bb1
      have HB2 := hide bb2
      have HNN := hide hN
      generalize hq : rowB (bl.take (k + 1)) = nxt at *
      have HQ := hide hq
      generalize frm bl[k].tag bl[k].t.xs = f at *
      generalize rowB (bl.take k) = cur at *
      generalize bl[k].t.xs.length = xl at *
      generalize bl[k].t.ao = xa at *
      generalize bl[k].t.cap = xc at *
      generalize bl[k].tag = xt at *
      have hlt' : (k : Int) < (bl.length : Int) := by omega
      have TD := hide (Touch.drew (Touch.refl (fun _ => False) wr))
      clear hsr hbody hfl ok hnx hN bb1 bb2 hs hq hm
      go_wp2_with fail
      go_region_held3 (fun W => W.cell? ⟨b, off + k * 2, none⟩ = some (.int .u8 xt) ∧ W.cell? ⟨b, off + k * 2 + 1, none⟩ = some (.slice xa xl xc)) (go_keep) (first | (go_at_call 11; refine (RP.out _ TD.out).mono ?_; rintro r w4 ⟨fo, fn, fc, rfl, N4⟩; have hfn := N4.row.len; subst hfn; have TD4 := TD.out.trans N4.touch (fun _ _ h => h); obtain ⟨d0, d1⟩ := HCC.out _ (TD4.mono (fun _ _ h => h.elim))) | (refine step_append_row rfl (.tmp 11) (.tmp 22) 22 22 rfl 5 i0 (.int .u8 0) .u8 1 Tryd.underlying22 hi hz0 hz1 hz2 rfl _ _ rfl (HNN.out.row.touch TD4 (fun _ _ h => h)) _ f rfl ((Seg.of_row N4.row).src Tryd.underlying22 fc) HB1.out HB2.out ?_; intro a5 n5 c5 w5 R5 G5; obtain ⟨e0, e1⟩ := HCC.out _ ((TD4.mono (fun _ _ h => h.elim)).trans G5.touch (fun _ _ h => h))))
      have N5 : New w w5 (.slice a5 n5 c5) nxt := by rw [HN.out]; exact (HNN.out.keep TD4).of_grew R5 G5
      have HN5 := hide N5
      clear N5 R5 G5 N4 TD4 e0 e1 d0 d1
      go_wp2_with fail
      go_roundw
      case rel => exact ⟨k + 1, _, _, _, by go_num, by omega, rfl, by rw [HQ.out]; exact HN5.out⟩
      case measure => simp [intOf]; omega
    · have e : k = bl.length := by omega
      subst e
      rw [List.take_length] at hN
      clear hs
      go_wp2_with fail
      go_ret
      exact ⟨_, _, _, rfl, hN⟩

end Go.Proofs.YtfeifobljgmkkaaDoor
