/- The walk of CrcSums. -/
import Derived.Test.YtaldoaampeopoaaDoorLaid
import Derived.Test.YtaldoaampeopoaaDoorOwn
import Derived.Test.YtaldoaampeopoaaDoorRef1
import Derived.BigQuiet
namespace Go.Proofs.YtaldoaampeopoaaDoor
open Go.ChangeShapes Go.WideShapes Go.ChangeAt Go.RowKit Crcx

theorem infoS : (Tryd.prog.info? 24).map (fun i => (i.zero, i.size, i.bytes)) = some (some (.slice none 0 0), 1, 24) := by kernel_rfl

def Loan.txt (l : Loan) : Txt := ⟨some ⟨l.g, 0, none⟩, l.c, l.xs⟩

theorem txt_map (ls : List Loan) : (ls.map Loan.txt).map Txt.val = ls.map Loan.val := by rw [List.map_map]; rfl
theorem txt_alls (ls : List Loan) : alls (ls.map Loan.txt) = ls.flatMap Loan.xs := by
  unfold alls; rw [List.flatMap_map]; rfl

theorem flat_eq {ls : List Loan} {ts : List Txt} (h : ls.map Loan.xs = ts.map Txt.xs) : ls.flatMap Loan.xs = alls ts := by
  unfold alls
  rw [List.flatMap_def, List.flatMap_def, h]

theorem one_new {w : World} {v : Value} {t : TypeId} : ∀ (j : Nat) (u : Value), [v][j]? = some u → (w.alloc (.cells #[v] t)).cell? ((⟨w.heap.size, 0, none⟩ : Addr).add j) = some u := by
  intro j u hu
  match j, hu with
  | 0, hu =>
    simp at hu; subst hu
    rw [Addr.add_lit]; exact cell_new w _ _
  | j + 1, hu => simp at hu

theorem one_at {w : World} {v : Value} {t : TypeId} {g : Nat} (hg : g = w.heap.size) : ∀ (j : Nat) (u : Value), [v][j]? = some u → (w.alloc (.cells #[v] t)).cell? ((⟨g, 0, none⟩ : Addr).add j) = some u := by
  subst hg; exact one_new

theorem loans_xs {ls : List Loan} {ts : List Txt} (h : ls.map Loan.xs = ts.map Txt.xs) (n : Nat) (h1 : n < ls.length) (h2 : n < ts.length) : ls[n].xs = ts[n].xs := by
  have := congrArg (fun l => l[n]?) h
  simpa [h1, h2] using this

set_option maxRecDepth 100000 in
set_option maxHeartbeats 2000000 in
theorem sums_walk (lo : Option Addr) (lc : Nat) (ts : List Txt) (s : Nat) (hs : s < 4294967296) (w : World) (ht : Tab w) (hseg : SegV w lo (ts.map Txt.val)) (hok : ∀ t ∈ ts, t.Ok w) (htl : ts.length ≤ 1048576) (hal : (alls ts).length ≤ 1048576) :
    Calls Tryd.prog 3 #[.slice lo ts.length lc, .int .u32 s] w fun e w' => e = .returned (.bool true) ∧ Touch (fun _ => False) w w' := by
  obtain ⟨i0, hi, hz0, hz1, hz2⟩ := info_parts infoU8
  obtain ⟨i1, hi', hz0', hz1', hz2'⟩ := info_parts infoS
  have hlen : ∀ t ∈ ts, t.xs.length ≤ 1048576 := fun t h => by
    have : t.xs.length ≤ (alls ts).length := by
      obtain ⟨a, b, e⟩ := List.append_of_mem h
      rw [e]; simp [alls]; omega
    omega
  have hpre : ∀ n, (alls (ts.take n)).length ≤ 1048576 := fun n => Nat.le_trans (by
    have h : alls ts = alls (ts.take n) ++ alls (ts.drop n) := by
      unfold alls; rw [← List.flatMap_append, List.take_append_drop]
    rw [h, List.length_append]; omega) hal
  have hlen' := hlen
  go_enter Tryd.func3, Tryd.ntmps3
  go_wp2_with fail
  go_loopw [5, 6, 7] (fun x v i wr => ∃ (n : Nat) (ls : List Loan), i = .int .i64 n ∧ n ≤ ts.length ∧ ls.map Loan.xs = (ts.take n).map Txt.xs ∧ Sm w wr x v ls) (fun _ _ i _ => ts.length - (intOf i).toNat)
  case atStart => exact ⟨0, [], rfl, Nat.zero_le _, rfl, Sm.start w⟩
  case round =>
    obtain ⟨n, ls, rfl, hn, hmap, hsm⟩ := hrel
    have hll : ls.length = n := by have := congrArg List.length hmap; simpa [List.length_take, Nat.min_eq_left hn] using this
    have hfl := flat_eq hmap
    by_cases hlast : n < ts.length
    · obtain ⟨b, off, rfl⟩ := hseg.addr (by simpa using (by omega : 0 < ts.length))
      have hc := (hseg.touch hsm.touch).at n (by simpa using hlast)
      have hc1 : wr.cell? ⟨b, off + n, .none⟩ = some (.slice ts[n].ao ts[n].xs.length ts[n].cap) := by
        rw [hc, List.getElem_map]; rfl
      have hmem : ts[n] ∈ ts := List.getElem_mem hlast
      have how := hok ts[n] hmem
      have ho := how.touch hsm.touch
      have hcw : ∀ W, Touch (fun _ => False) w W → W.cell? ⟨b, off + n, .none⟩ = some (.slice ts[n].ao ts[n].xs.length ts[n].cap) := fun W hW => by
        rw [(hseg.touch hW).at n (by simpa using hlast), List.getElem_map]; rfl
      have hxl := hlen ts[n] hmem
      have hnext := hpre (n + 1)
      have htk : (ts.take (n + 1)).map Txt.xs = (ts.take n).map Txt.xs ++ [ts[n].xs] := by
        rw [List.take_add_one, List.getElem?_eq_getElem hlast, List.map_append]; rfl
      have hal1 : alls (ts.take (n + 1)) = alls (ts.take n) ++ ts[n].xs := by
        unfold alls; rw [List.take_add_one, List.getElem?_eq_getElem hlast, List.flatMap_append]; simp
      rw [hal1, List.length_append] at hnext
      rw [← hfl] at hnext
      have LE := hide (lend_any ts[n].ao ts[n].xs ts[n].cap wr ho.seg (by omega))
      obtain ⟨t, ht0⟩ : ∃ t, t = ts[n] := ⟨_, rfl⟩
      rw [← ht0] at LE hc1 ho how hcw hxl hnext htk
      obtain ⟨to, tc, tx⟩ := t
      simp only at LE hc1 ho how hcw hxl hnext htk
      have HSM := hide hsm
      have HMAP := hide hmap
      have HTK := hide htk
      have HOK := hide how
      have HCW := hide hcw
      have HSEG := hide hseg
      have HFL := hide hfl
      clear hc hmem ht0 htk hal1 hsm hmap ho how hcw hfl hpre hlen hlen' hok hseg
      go_wp2_with fail
      refine LE.out.mono ?_
      rintro e w1 ⟨g, c, rfl, hg, hl, t1⟩
      have OW := hide ((own_touch HSM.out.own t1 (fun _ _ h => h)))
      go_wp2_with (at_builtin; refine wpList_append_own _ rfl (.tmp 16) (.tmp 22) 22 rfl w.heap.size 24 i1 _ 1 24 Tryd.underlying22 hi' hz0' hz1' hz2' rfl (by omega) _ ls.length (ls.map Loan.val) rfl (OW.out.alloc _) ⟨w1.heap.size, 0, none⟩ 1 1 [Loan.val ⟨g, c, tx⟩] rfl rfl one_new ?o1 ?b1 ?b2 ?b3 ?nx)
      case o1 => intro u hu; simp at hu; subst hu; rfl
      case b1 => unfold maxLen; omega
      case b2 => omega
      case b3 => have := HSM.out.touch.size; have := t1.size; simp; omega
      case nx =>
        intro x' w2 hown hgr _
        obtain ⟨q1, q2, q3, q4⟩ := HSM.out.lend (l := ⟨g, c, tx⟩) t1 hl hg (by rw [hll]; exact hown) hgr
        have hsg : Seg w2 .u8 to tx := (HOK.out.touch q4).seg
        have hc2 := HCW.out w2 q4
        have hfall := HSM.out.fall
        have Q1 := hide q1
        have Q2 := hide q2
        have Q4 := hide q4
        have hl2 := hnext
        clear hown hgr hl t1 hc1 OW LE q1 q2 q4
        go_wp2_with (at_builtin; refine wpList_append_row _ rfl (.tmp 24) (.tmp 28) 24 24 rfl 5 i0 (.int .u8 0) .u8 1 Tryd.underlying24 hi hz0 hz1 hz2 rfl _ (ls.flatMap Loan.xs) rfl q3 _ tx rfl (hsg.src Tryd.underlying24 _) ?c1 ?c2 ?nx2)
        case c1 => unfold maxLen; omega
        case c2 => omega
        case nx2 =>
          intro ao3 n3 c3 w3 hr3 hg3
          have HS3 := hide (Sm.more Q1.out Q2.out q3 hfall Q4.out hr3 hg3)
          clear hr3 hg3 q3 hfall hsg
          go_wp2_with fail
          go_roundw
          case rel => exact ⟨n + 1, ls ++ [⟨g, c, tx⟩], by go_num, by omega, by rw [HTK.out, List.map_append, HMAP.out]; rfl, HS3.out⟩
          case measure => simp [intOf]; omega
    · have e : n = ts.length := by omega
      subst e
      rw [List.take_length] at hmap hfl
      obtain ⟨oo, cc, rfl, _, _⟩ := own_shape hsm.own
      obtain ⟨vo, vn, vc, rfl⟩ := hsm.all.shape
      have hvn := hsm.all.len
      subst hvn
      have HSM := hide hsm
      rw [hll]
      clear hpre hlen
      go_wp2_with (at_builtin; refine wpList_append_own _ rfl (.tmp 30) (.tmp 32) 22 rfl w.heap.size 24 i1 _ 1 24 Tryd.underlying22 hi' hz0' hz1' hz2' rfl (by omega) _ ts.length (ls.map Loan.val) rfl ?ow _ 1 1 [.slice (some ⟨wr.heap.size, 0, none⟩) 1 1] rfl rfl ?cn ?o1 ?b1 ?b2 ?b3 ?nx)
      case ow => have := HSM.out.own; rw [hll] at this; exact (this.alloc _).alloc _
      case cn => exact one_at (by simp)
      case o1 => intro u hu; simp at hu; subst hu; rfl
      case b1 => unfold maxLen; omega
      case b2 => omega
      case b3 => have := HSM.out.touch.size; simp; omega
      case nx =>
        intro x' w4 hown hgr _
        obtain ⟨xo, xc, rfl, hxc, hxg⟩ := own_shape hown
        obtain ⟨X, rfl⟩ := hxg (by omega)
        rw [← hll] at hgr
        obtain ⟨q2, q3, q4⟩ := hsm.last hgr
        have sv := own_segV hown
        have svp := sv.prefix
        rw [← txt_map] at svp
        have hnine : w4.cell? ⟨X, ts.length, none⟩ = some (.slice (some ⟨wr.heap.size, 0, none⟩) 1 1) := by
          have := sv.at ts.length (by simp [hll])
          rw [Nat.zero_add] at this
          rw [this, List.getElem_append_right (by simp [hll])]
          simp
        have ht4 := ht.touch q4 (fun h => h)
        have okl : ∀ t ∈ ls.map Loan.txt, t.Ok w4 := fun t h => by
          obtain ⟨l, hl, rfl⟩ := List.mem_map.1 h
          have hx : l.xs.length ≤ 1048576 := by
            have h1 : l.xs ∈ ls.map Loan.xs := List.mem_map_of_mem hl
            rw [hmap] at h1
            obtain ⟨t, ht, e⟩ := List.mem_map.1 h1
            rw [← e]; exact hlen' t ht
          have h8 : In8 l.xs := by
            have h1 : l.xs ∈ ls.map Loan.xs := List.mem_map_of_mem hl
            rw [hmap] at h1
            obtain ⟨t, ht, e⟩ := List.mem_map.1 h1
            rw [← e]; exact (hok t ht).in8
          exact ⟨(q2 l hl).seg, h8, show l.xs.length ≤ 281474976710656 by omega⟩
        have a8 : In8 (alls ts) := alls_in8 hok
        have sall : Seg w4 .u8 vo (alls ts) := by rw [← hfl]; exact Seg.of_row q3
        have SU := hide (sum_any (some ⟨X, 0, none⟩) (ls.map Loan.txt) xc w4 ht4 svp okl (by simp; omega))
        rw [List.length_map, hll, txt_alls, hfl] at SU
        have RS := hide (fun W (h : Seg W .u8 vo (alls ts)) => rsum_any vo (alls ts) vc W h a8 (by omega))
        have M1 := hide (more_any s hs vo (alls ts) vc w4 ht4 sall a8 (by omega))
        have M2 := hide (rmore_any s hs vo (alls ts) vc w4 sall a8 (by omega))
        have hsl : ∀ W, (Instr.slice 22 (.slice (some ⟨X, 0, none⟩) (ts.length + 1) xc) none (some (.int .i64 ts.length)) none).run Tryd.prog W = .ok (.slice (some ⟨X, 0, none⟩) ts.length xc) W := by
          intro W
          have he : Tryd.prog.elem 22 = 24 := by kernel_rfl
          rw [run_slice_h W 22 (some ⟨X, 0, none⟩) _ xc (by rw [he]; exact Tryd.underlying22) .i64 ts.length (by omega) (by omega), he]
          simp only [sizeOf, typeInfo]
          simp [hi', hz1', sliced, Addr.add_lit]
        have HQ2 := hide q2
        have HQ4 := hide q4
        have HSEG := hide hseg
        have HOK := hide hok
        have HMAP := hide hmap
        have HSV := hide sv
        have HLL := hide hll
        have HAL := hide sall
        have LT := hide hlen'
        have A8 := hide a8
        clear hown hgr svp sv q2 q3 q4 hseg hok hmap hll hsm HSM okl hfl sall hlen' a8
        generalize hSS : more 0 (nats (alls ts)) = SS at *
        generalize more s (nats (alls ts)) = MM at *
        go_wp2_with fail
        refine SU.out.mono ?_
        rintro e w' ⟨rfl, rfl⟩
        go_wp2_with fail
        refine (RS.out _ HAL.out).mono ?_
        rintro e w' ⟨rfl, rfl⟩
        go_wp2_with fail
        refine M1.out.mono ?_
        rintro e w' ⟨rfl, rfl⟩
        go_wp2_with fail
        refine M2.out.mono ?_
        rintro e w' ⟨rfl, rfl⟩
        go_wp2_with fail
        go_loopw [8, 9] (fun a i wr2 => ∃ n : Nat, i = .int .i64 n ∧ n ≤ ts.length ∧ a = .int .u32 ((more 0 (nats (alls (ts.take n))) : Nat) : Int) ∧ Touch (fun _ => False) w4 wr2) (fun _ i _ => ts.length - (intOf i).toNat)
        case atStart => exact ⟨0, rfl, Nat.zero_le _, by rw [show ts.take 0 = [] from rfl]; rfl, Touch.refl _ _⟩
        case round =>
          obtain ⟨n, rfl, hn, rfl, htw⟩ := hrel
          have TW := HQ4.out.trans htw (fun _ _ h => h)
          by_cases hlast : n < ts.length
          · obtain ⟨b, off, rfl⟩ := HSEG.out.addr (by simpa using (by omega : 0 < ts.length))
            have hln : n < ls.length := by have := HLL.out; omega
            have hxs := loans_xs HMAP.out n hln hlast
            have c1 : wr.cell? ⟨X, n, none⟩ = some (.slice (some ⟨ls[n].g, 0, none⟩) ts[n].xs.length ls[n].c) := by
              have := (HSV.out.touch htw).at n (by simp; omega)
              rw [Nat.zero_add] at this
              rw [this, List.getElem_append_left (by simpa using hln), List.getElem_map]
              unfold Loan.val
              rw [hxs]
            have c2 : wr.cell? ⟨b, off + n, none⟩ = some (.slice ts[n].ao ts[n].xs.length ts[n].cap) := by
              rw [(HSEG.out.touch TW).at n (by simpa using hlast), List.getElem_map]; rfl
            have hmem : ts[n] ∈ ts := List.getElem_mem hlast
            have hxl := LT.out ts[n] hmem
            have h8n := (HOK.out ts[n] hmem).in8
            have hL : Lent wr ls[n].g ls[n].c ts[n].xs := by
              have := (HQ2.out ls[n] (List.getElem_mem hln)).touch htw (fun h => h)
              rwa [hxs] at this
            have hlt : more 0 (nats (alls (ts.take n))) < 4294967296 := more_lt (by omega) (nats_lt (alls_in8 (w := w) fun t h => HOK.out t (List.mem_of_mem_take h)))
            have MO := hide (more_any _ hlt (some ⟨ls[n].g, 0, none⟩) ts[n].xs ls[n].c wr (ht.touch TW (fun h => h)) hL.seg h8n (by omega))
            rw [← more_append, ← alls_take ts n hlast] at MO
            have KE := hide (fun W (hW : Touch (fun _ => False) wr W) => kept_any ls[n].g ls[n].c ts[n].ao ts[n].xs ts[n].cap W (hL.touch hW (fun h => h)) (((HOK.out ts[n] hmem).touch TW).touch hW).seg (by omega))
            have HT := hide htw
            generalize more 0 (nats (alls (ts.take n))) = y at *
            obtain ⟨G, hG⟩ : ∃ G, ls[n].g = G := ⟨_, rfl⟩
            obtain ⟨C, hC⟩ : ∃ C, ls[n].c = C := ⟨_, rfl⟩
            obtain ⟨t, ht0⟩ : ∃ t, ts[n] = t := ⟨_, rfl⟩
            rw [hG, hC, ht0] at KE MO c1
            rw [ht0] at c2
            obtain ⟨to, tc, tx⟩ := t
            simp only at KE MO c1 c2
            clear hxs hmem hxl h8n hL hlt hG hC ht0 htw TW
            generalize tx.length = TL at *
            go_wp2_with fail
            refine MO.out.mono ?_
            rintro e w' ⟨rfl, rfl⟩
            go_wp2_with fail
            go_region_with (go_at_call 14; refine (KE.out _ (by first | exact (Touch.refl _ _).drew | exact Touch.refl _ _)).mono ?_; rintro e w5 ⟨rfl, rfl⟩)
            all_goals go_wp2_with fail
            all_goals go_roundw
            all_goals first
              | (case rel => exact ⟨n + 1, by go_num, by omega, rfl, HT.out.drew⟩)
              | (case measure => simp [intOf]; omega)
          · have e : n = ts.length := by omega
            subst e
            rw [List.take_length, hSS]
            have sr : Seg wr .u8 vo (alls ts) := HAL.out.touch htw (fun _ _ h => h)
            have htr := ht.touch TW (fun h => h)
            go_wp2_with fail
            refine (RS.out _ sr).mono ?_
            rintro e w' ⟨rfl, rfl⟩
            go_wp2_with fail
            refine (works_any _ htr).mono ?_
            rintro e w6 ⟨rfl, t6⟩
            go_wp2_with fail
            go_ret
            exact ⟨rfl, TW.trans t6 (fun _ _ h => h)⟩

end Go.Proofs.YtaldoaampeopoaaDoor
