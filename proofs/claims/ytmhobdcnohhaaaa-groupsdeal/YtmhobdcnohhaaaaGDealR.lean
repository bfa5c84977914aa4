/- The walk of the document's Deal. -/
import Derived.Test.YtmhobdcnohhaaaaGDealN
import Derived.Deep.RegionHeld3
namespace Go.Proofs.Ytmhobdcnohhaaaa
open Go.RowKit

set_option maxRecDepth 100000 in
set_option maxHeartbeats 4000000 in
theorem rdeal_any (P G : Nat) (may : May P G) (ao : Option Addr) (c : Nat) (ks : List ByteArray) (hlen : ks.length ≤ 8796093022207) (hks : ∀ s ∈ ks, s.size ≤ 256) (w : World) (hseg : SegT w ao ks) :
    Calls Try.prog 26 #[.int .i64 P, .int .i64 G, .slice ao ks.length c] w fun e w' => ∃ O vs, e = .returned (.tuple #[.slice (some ⟨O, 0, none⟩) P P, .int .i64 0]) ∧ vs.length = P ∧ Dl w.heap.size w' O vs (dealt P G ks) ∧ Touch (fun _ => False) w w' := by
  obtain ⟨i0, hi, hz0, hz1, hz2⟩ := info_parts2 infoTs
  obtain ⟨i1, hj, hy0, hy1, hy2⟩ := info_parts2 infoStr
  have M := hide (rmays_any P G)
  have hm := may.may
  have HM := hide may
  have HP := hide (Nat.le_trans may.p2 may.g2)
  obtain ⟨n, hn⟩ : ∃ n, ks.length = n := ⟨_, rfl⟩
  have HN := hide hn
  rw [hn] at hlen ⊢
  have HL := hide hlen
  have HKS := hide hks
  have HSEG := hide hseg
  clear hlen hks hseg hn
  go_enter Try.func26, Try.ntmps26
  go_wp2_with fail
  refine (M.out _).mono ?_
  rintro e w' ⟨rfl, hq⟩
  obtain rfl := hq.symm
  clear hq
  go_wp2_with fail
  go_loopw [8] (fun i wr => ∃ k : Nat, i = .int .i64 (k : Int) ∧ k ≤ n ∧ w = wr) (fun i _ => n - (intOf i).toNat)
  case atStart => exact ⟨0, rfl, Nat.zero_le _, rfl⟩
  case round =>
    obtain ⟨k, rfl, hk, rfl⟩ := hrel
    by_cases hlt : k < n
    · have hlt' : (k : Int) < (n : Int) := by omega
      have SW := hide (wrap_up (n := k) (m := n) hlt (by have := HL.out; omega))
      have hkl : k < ks.length := by have := HN.out; omega
      obtain ⟨b1, o1, rfl⟩ := HSEG.out.addr (by omega)
      have p0 := HSEG.out.cell b1 o1 rfl k hkl
      have hsz := HKS.out ks[k] (List.getElem_mem hkl)
      have hsz' : ¬ (256 : Int) < ((ks[k].size : Nat) : Int) := by omega
      have hsz2 : ¬ 256 < ks[k].size := by omega
      generalize ks[k] = s at *
      clear hkl hsz
      go_wp2_with fail
      go_roundw
      case rel => exact ⟨k + 1, by rw [SW.out], hlt, trivial⟩
      case measure => rw [SW.out]; simp [intOf]; omega
    · have e : k = n := by omega
      subst e
      go_wp2_with (at_make; refine wpList_make_nils _ rfl (.tmp 29) (.tmp 29) 56 rfl 55 i0 Try.underlying56 hi hz0 hz1 hz2 P rfl rfl HP.out ?nx)
      case nx =>
        intro w1 hrow t1
        have D1 := hide (dl_nils (base := w.heap.size) hrow (Nat.le_refl _))
        have T1 := hide t1
        clear hrow t1
        generalize hO : w.heap.size = O at *
        have HO := hide hO
        have HSZ : Hid (O ≤ w1.heap.size) := hide (by rw [← hO]; exact T1.out.size)
        clear hO hk hlt
        go_wp2_with fail
        go_loopw [10] (fun i wq => ∃ (m : Nat) (vs : List Value), i = .int .i64 (m : Int) ∧ m ≤ k ∧ vs.length = P ∧ Dl O wq O vs (dealt P G (ks.take m)) ∧ Touch (fun _ => False) w wq) (fun i _ => k - (intOf i).toNat)
        case atStart => exact ⟨0, _, rfl, Nat.zero_le _, List.length_replicate, by rw [List.take_zero]; exact D1.out, T1.out⟩
        case round =>
          obtain ⟨m, vs, rfl, hm', hvs, hd, ht⟩ := hrel
          by_cases hlt : m < k
          · have hlt' : (m : Int) < (k : Int) := by omega
            have SW := hide (wrap_up (n := m) (m := k) hlt (by have := HL.out; omega))
            have hml : m < ks.length := by have := HN.out; omega
            have sg := HSEG.out.touch ht (fun _ _ _ _ h => h)
            obtain ⟨b1, o1, rfl⟩ := sg.addr (by omega)
            have p0 := sg.cell b1 o1 rfl m hml
            have hsz := HKS.out ks[m] (List.getElem_mem hml)
            have HDT := hide (dealt_take P G ks m hml)
            have OF := hide (rof_any ks[m] ⟨by omega⟩ P G)
            rw [(oA_yes (s := ks[m]) HM.out.may hsz).1, (oA_yes (s := ks[m]) HM.out.may hsz).2] at OF
            have hown : owner P G ks[m] < vs.length := by rw [hvs]; exact owner_lt HM.out _
            have how : wk P G (hsh ks[m] % G) = owner P G ks[m] := rfl
            rw [how] at OF
            generalize hs : ks[m] = s at *
            generalize hx : owner P G s = x at *
            have HX := hide hx
            have HD0 := hide hd
            have HT0 := hide ht
            have P0 := hide p0
            have HM0 := hide hm'
            clear hd ht sg hml hx how hs hm'
            go_wp2_with fail
            refine (OF.out _).mono ?_
            rintro e w' ⟨rfl, k5, rfl⟩
            have hd := HD0.out.touch (Touch.drewN (Touch.refl (fun _ => False) wr) k5) (fun h => h) (fun _ _ _ _ h => h)
            have ht := HT0.out.drewN k5
            have p0 : (wr.drewN k5).cell? ⟨b1, o1 + m, none⟩ = some (.string s) := P0.out
            clear HD0 HT0 P0 OF
            generalize wr.drewN k5 = wv at *
            obtain ⟨q0, q1⟩ := hd.cell x hown
            have hlx : x < (dealt P G (ks.take m)).length := by rw [hd.len]; exact hown
            have own0 : wv.ownsRow O 9 1 vs[x] ((dealt P G (ks.take m))[x]'hlx).length (((dealt P G (ks.take m))[x]'hlx).map Value.string) := hd.own x hown
            have HLX : Hid ((dealt P G (ks.take m)).getD x [] = (dealt P G (ks.take m))[x]) := hide (by rw [List.getD_eq_getElem?_getD, List.getElem?_eq_getElem hlx]; rfl)
            have hxi : (x : Int) < (P : Int) := by rw [← hvs]; omega
            have HD := hide hd
            have HT := hide ht
            have HVS := hide hvs
            have HHO := hide hown
            have HLE : Hid ((dealt P G (ks.take m))[x].length ≤ m) := hide (Nat.le_trans (dealt_le P G _ x hlx) (by rw [List.length_take]; omega))
            obtain ⟨ao2, c2, hv⟩ := own_shape own0
            have HV := hide hv
            have HOW := hide own0
            rw [hv] at q0
            clear hd ht hvs own0 hv
            generalize hll : (dealt P G (ks.take m))[x] = l at *
            have HLL := hide hll
            clear hll
            generalize hL : l.length = L at *
            have HLen := hide hL
            clear hL
            have OW : Hid (∀ W, Touch (fun _ => False) wv W → W.ownsRow O 9 1 (.slice ao2 L c2) L (l.map Value.string)) := hide (fun W h => by
              have := own_touch HOW.out h (fun _ _ h => h)
              rwa [HV.out] at this)
            have CC : Hid (∀ W, Touch (fun g' => (Value.slice ao2 L c2).ownBlock = some g') wv W → W.cell? ⟨O, x, none⟩ = some (.slice ao2 L c2) ∧ W.frozen? ⟨O, x, none⟩ = false) := hide (fun W h => by
              have hne : ¬ (Value.slice ao2 L c2).ownBlock = some O := fun hg => by
                obtain ⟨_, cur, hc⟩ := own_block (OW.out wv (Touch.refl _ _)) hg
                exact tags (t := 9) (t' := 55) hc HD.out.row (by decide) rfl
              have hlt := lt_of_heap HD.out.row
              exact ⟨(h.cell (p := ⟨O, x, none⟩) hlt hne).trans q0, (h.frozen (p := ⟨O, x, none⟩) hlt hne).trans q1⟩)
            have TD := hide (Touch.drew (Touch.refl (fun _ => False) wv))
            have HSO : Hid (∀ W, Touch (fun _ => False) wv W → O ≤ W.heap.size) := hide (fun W h => Nat.le_trans (Nat.le_of_lt (lt_of_heap HD.out.row)) h.size)
            have HB1 : Hid (L + 1 ≤ maxLen) := hide (by have := HLE.out; have := HL.out; unfold maxLen; omega)
            have HB2 : Hid ((L + 1) * 16 ≤ 140737488355328) := hide (by have := HLE.out; have := HL.out; omega)
            have H1C : Hid (∀ u ∈ [Value.string s], u.oneCell' = true) := hide (fun u hu => by simp at hu; subst hu; rfl)
            have TD4 := Touch.refl (fun _ => False) wv
            have TD5 := Touch.drew (TD4.alloc (.cells #[.string s] 9))
            obtain ⟨d0, d1⟩ := CC.out _ (TD4.mono (fun _ _ h => h.elim))
            obtain ⟨d2, d3⟩ := CC.out _ ((TD4.alloc (.cells #[.string s] 9)).mono (fun _ _ h => h.elim))
            go_wp2_with fail
            go_region_law (refine step_append_sep rfl (.tmp 52) (.tmp 57) 55 rfl O 9 i1 (.string { data := #[] }) 1 16 Try.underlying55 hj hy0 hy1 hy2 rfl (by decide) _ L (l.map Value.string) rfl (OW.out _ TD5) ⟨wv.heap.size, 0, none⟩ 1 1 [.string s] rfl rfl (new_cells wv [.string s] _) H1C.out HB1.out HB2.out (HSO.out _ TD5) ?_; intro ao6 c6 w6 own6 t6 f6; obtain ⟨e0, e1⟩ := CC.out _ ((TD5.mono (fun _ _ h => h.elim)).trans t6 (fun _ _ h => h)))
            all_goals
              have own7 : w6.ownsRow O 9 1 (.slice ao6 (L + 1) c6) (l ++ [s]).length ((l ++ [s]).map Value.string) := by
                rw [List.length_append, HLen.out, List.map_append]
                exact own6
              have hvx : vs[x]'hown = .slice ao2 L c2 := HV.out
              have t7 : Touch (fun g' => (vs[x]'hown).ownBlock = some g') wv w6 := (TD5.mono (fun _ _ h => h.elim)).trans t6 (fun g' _ hs => by rw [hvx]; exact hs)
              have D7 := hide (HD.out.put hown t7 own7 (fun g' hg' => by
                rw [hvx]
                rcases f6 g' hg' with h | h
                · exact .inl h
                · refine .inr (Nat.le_trans ?_ h)
                  exact TD5.size))
              have T7 : Hid (Touch (fun _ => False) w (w6.setCell ⟨O, x, none⟩ (.slice ao6 (L + 1) c6))) := hide (by
                have t8 : Touch (fun g' => g' = O) w6 (w6.setCell ⟨O, x, none⟩ (.slice ao6 (L + 1) c6)) := (Touch.refl (fun g' => g' = O) w6).setCell (p := ⟨O, x, none⟩) (fun _ => rfl) _
                have h0 := HO.out
                exact ((HT.out.trans TD5 (fun _ _ h => h)).trans t6 (fun g' hg' hs => by
                  have := (own_block (OW.out wv (Touch.refl _ _)) hs).1
                  omega)).trans t8 (fun g' hg' e => by omega))
              have D8 : Hid (Dl O (w6.setCell ⟨O, x, none⟩ (.slice ao6 (L + 1) c6)) O (vs.set x (.slice ao6 (L + 1) c6)) (dealt P G (ks.take (m + 1)))) := hide (by
                rw [HDT.out]
                unfold dealOne
                rw [HX.out, HLX.out]
                exact D7.out)
              clear own6 own7 t6 t7 f6 TD4 TD5 e0 e1 D7 d0 d1 d2 d3
              go_wp2_with fail
              go_roundw
              case rel => exact ⟨m + 1, _, by rw [SW.out], hlt, by rw [List.length_set]; exact HVS.out, D8.out, T7.out⟩
              case measure => rw [SW.out]; simp [intOf]; omega
          · have e : m = k := by omega
            subst e
            rw [List.take_of_length_le (by rw [HN.out]; exact Nat.le_refl _)] at hd
            have HD := hide hd
            have HT := hide ht
            have HVS := hide hvs
            clear hd ht hvs hm' hlt
            go_wp2_with fail
            go_ret2
            exact ⟨O, vs, rfl, HVS.out, by rw [HO.out]; exact HD.out, HT.out⟩

end Go.Proofs.Ytmhobdcnohhaaaa
