/- The program's Row. -/
import Derived.Test.YtfeifobljgmkkaaDoorFPut
namespace Go.Proofs.YtfeifobljgmkkaaDoor
open Go.RowKit Crcx

set_option maxRecDepth 100000 in
set_option maxHeartbeats 1000000 in
theorem row_any (ao : Option Addr) (bl : List Blk) (cap : Nat) (w : World) (hT : Tab w) (hs : SegB w ao bl) (hl : (rowB bl).length ≤ 268435456) (hbl : bl.length ≤ 70368744177664) :
    Calls Tryd.prog 18 #[.slice ao bl.length cap] w fun e w' => ∃ bo n c, e = .returned (.tuple #[.slice bo n c, .int .i64 0]) ∧ New w w' (.slice bo n c) (rowB bl) := by
  obtain ⟨i0, hi, hz0, hz1, hz2⟩ := info_parts Tryd.info5
  go_enter Tryd.func18, Tryd.ntmps18
  go_wp2_with fail
  refine (rowSize_any ao bl cap w hs hl hbl).mono ?_
  rintro e w0 ⟨rfl, t0⟩
  go_wp2_with (at_make; refine wpList_make_own w0 rfl (.const (.int .i64 0)) (.tmp 17) 22 rfl 0 5 i0 (.int .u8 0) 1 Tryd.underlying22 hi hz0 hz1 .i64 .i64 _ (rowB bl).length rfl rfl rfl ?b1 ?b2 (Nat.zero_le _) ?nx)
  case b1 => rw [hz2]; omega
  case b2 => unfold maxLen; omega
  case nx =>
    intro w1 hown hgr
    have R1 : Row w1 5 .u8 (.slice (some ⟨w0.heap.size, 0, none⟩) 0 (rowB bl).length) [] := hown
    have T1 : Touch (fun _ => False) w w1 := t0.trans ((Touch.of_grownBy hgr).mono (fun k _ h => by simp at h)) (fun _ _ h => h)
    have N1 : New w w1 (.slice (some ⟨w0.heap.size, 0, none⟩) 0 (rowB bl).length) [] := ⟨R1, fun g hg => by simp [Value.ownBlock] at hg; have := t0.size; omega, T1⟩
    clear hown hgr R1 T1 t0
    go_wp2_with fail
    go_loopw [6, 21] (fun r i wr => ∃ (k : Nat) (ro : Option Addr) (rn rc : Nat), i = .int .i64 k ∧ k ≤ bl.length ∧ r = .slice ro rn rc ∧ New w wr (.slice ro rn rc) (rowB (bl.take k))) (fun _ i _ => bl.length - (intOf i).toNat)
    case atStart => exact ⟨0, _, _, _, rfl, Nat.zero_le _, rfl, N1⟩
    case round =>
      obtain ⟨k, ro, rn, rc, rfl, hk, rfl, hN⟩ := hrel
      clear N1
      by_cases hlt : k < bl.length
      · have hsr := hs.touch hN.touch
        obtain ⟨b, off, rfl⟩ := hs.addr (by omega)
        obtain ⟨c0, c1⟩ := hsr.cell b off rfl k hlt
        have hbody := rowB_body bl k hlt
        have hfl := fsize_lt bl[k].t.xs.length
        have HN := hide (rowB_take bl k hlt)
        have ok := hsr.ok _ (List.getElem_mem hlt)
        have ok0 := hs.ok _ (List.getElem_mem hlt)
        have hnx : bl[k].t.xs.length ≤ 268435456 := by omega
        have LY := hide (fun (W : World) (tW : Touch (fun _ => False) wr W) => lay_any (.slice ro rn rc) (rowB (bl.take k)) bl[k].tag bl[k].t W (hT.touch (hN.touch.trans tW (fun _ _ h => h)) (fun h => h)) (hN.row.touch tW (fun _ _ h => h)) (ok.t.touch tW) ok.tag hnx (by omega) (fun a ha hx e => by
          have h1 := ok0.t.seg.lt a ha hx
          have h2 := hN.lo _ e
          omega))
        rw [← HN.out] at LY
        simp only [Txt.val] at c1 LY
        have NX := hide (fun (W1 W2 : World) (v : Value) (tW : Touch (fun _ => False) wr W1) (hr : Row W2 5 .u8 v (rowB (bl.take (k + 1)))) (hg : Grew W1 (.slice ro rn rc) W2 v) => (hN.keep tW).of_grew hr hg)
        generalize hq : rowB (bl.take (k + 1)) = nxt at *
        have HQ := hide hq
        clear hq
        generalize bl[k].t.xs.length = xl at *
        generalize bl[k].t.ao = xa at *
        generalize bl[k].t.cap = xc at *
        generalize bl[k].tag = xt at *
        have ta : Touch (fun _ => False) wr (wr.alloc (.cells #[.int .u8 xt, .slice xa xl xc] 36)) := (Touch.refl _ _).alloc _
        have HTA := hide ta
        clear hsr hbody hfl HN ok ok0 hnx hN ta
        go_wp2_with fail
        refine (LY.out _ HTA.out).mono ?_
        rintro e w2 ⟨ao2, n2, c2, rfl, R2, G2⟩
        have N2 := NX.out _ _ _ HTA.out R2 G2
        clear R2 G2 NX LY
        go_wp2_with fail
        go_roundw
        case rel => exact ⟨k + 1, _, _, _, by go_num, by omega, rfl, by rw [HQ.out]; exact N2⟩
        case measure => simp [intOf]; omega
      · have e : k = bl.length := by omega
        subst e
        rw [List.take_length] at hN
        clear hs
        go_wp2_with fail
        go_ret2
        exact ⟨_, _, _, rfl, hN⟩

end Go.Proofs.YtfeifobljgmkkaaDoor
