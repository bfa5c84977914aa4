/- The walk of GroupsDeal where Deal says no. -/
import Derived.Test.YtmhobdcnohhaaaaDealQ
namespace Go.Proofs.Ytmhobdcnohhaaaa
open Go.RowKit

set_option maxRecDepth 100000 in
set_option maxHeartbeats 4000000 in
theorem gdeal_noes (p g E : Int) (T : Txs) (hno : ∀ n, T.ks.length = n → No p g T.ks n E) (w : World) (hT : T.Ok w) : Calls Try.prog 6 #[.int .i64 p, .int .i64 g, T.val] w fun e w' => e = .returned (.bool true) ∧ Touch (fun _ => False) w w' := by
  obtain ⟨i1, hj, hy0, hy1, hy2⟩ := info_parts2 infoStr
  have HT := hide hT
  have HNO := hide hno
  have HK := hide hT.seg
  have HKL := hide hT.low
  have HL := hide hT.len
  obtain ⟨ao, c, ks⟩ := T
  have eT : Hid ((⟨ao, c, ks⟩ : Txs).val = .slice ao ks.length c) := hide rfl
  simp only at HK HKL HL HNO
  rw [eT.out]
  clear hT hno
  go_enter Try.func6, Try.ntmps6
  go_wp2_with (at_builtin; refine wpList_append_copy _ rfl (.const (.slice none 0 0)) (.tmp 18) 55 rfl i1 Try.underlying55 hj hy0 hy1 hy2 rfl ⟨ao, c, ks⟩ HT.out rfl ?nx)
  case nx =>
    intro ao1 c1 w1 own1 t1
    generalize hn : ks.length = n at *
    have HN := hide hn
    have NO := hide (HNO.out n rfl)
    have hE := NO.out.ne
    have tz := (Touch.refl (fun _ => False) w1).alloc (.cells #[.string room] 9)
    have OZ := hide (own_touch own1 tz (fun _ _ h => h))
    have TZ := hide (t1.trans tz (fun _ _ h => h))
    have HLO : Hid (∀ g', (Value.slice ao1 n c1).ownBlock = some g' → w.heap.size ≤ g') := hide (fun g' hg' => (own_block own1 hg').1)
    have HB1 : Hid (n + 1 ≤ maxLen) := hide (by have := HL.out; unfold maxLen; omega)
    have HB2 : Hid ((n + 1) * 16 ≤ 140737488355328) := hide (by have := HL.out; omega)
    have H1C : Hid (∀ u ∈ [Value.string room], u.oneCell' = true) := hide (fun u hu => by simp at hu; subst hu; rfl)
    clear tz own1 t1 hn HNO HT
    go_wp2_with (at_builtin; refine wpList_append_sep _ rfl (.tmp 19) (.tmp 20) 55 rfl w.heap.size 9 i1 (.string { data := #[] }) 1 16 Try.underlying55 hj hy0 hy1 hy2 rfl (by decide) _ n (ks.map Value.string) rfl OZ.out ⟨w1.heap.size, 0, none⟩ 1 1 [.string room] rfl rfl (new_cells w1 [.string room] _) H1C.out HB1.out HB2.out TZ.out.size (by omega) ?ny)
    case ny =>
      intro ao2 c2 w2 own2 t2 f2
      obtain ⟨B, rfl, hB, hc2, cpy⟩ := copied HN.out own2
      have T2 := hide (TZ.out.trans t2 (fun g' hg' hs => by have := HLO.out g' hs; omega))
      have hci : (n : Int) ≤ (c2 : Int) := by omega
      have hci2 : ((n + 1 : Nat) : Int) ≤ (c2 : Int) := by omega
      have hwr := wrap_up (n := n) (m := n + 1) (by omega) (by have := HL.out; omega)
      have hni : (n : Int) < ((n + 1 : Nat) : Int) := by omega
      have SK := hide (HK.out.touch T2.out (fun _ _ _ _ h => h))
      have CP := hide cpy
      have K1 := hide (NO.out.mine (some ⟨B, 0, none⟩) c2 w2 cpy.seg)
      have K4 := hide (NO.out.its ao c w2 SK.out)
      have KS := hide (fun W (h : Touch (fun _ => False) w2 W) => sameTexts_any (some ⟨B, 0, none⟩) ao c2 c ks n HN.out (by have := HL.out; omega) W (CP.out.touch h (fun h => h)).seg (SK.out.touch h (fun _ _ _ _ h => h)))
      have RM : Hid (∀ k, (w2.drewN k).cell? ⟨B, n, none⟩ = some (.string room)) := hide (fun k => CP.out.room)
      clear own2 t2 f2 OZ TZ cpy HLO HB1 HB2 H1C hB hc2
      go_wp2_with fail
      refine K1.out.mono ?_
      rintro e w' ⟨rfl, hq⟩
      obtain rfl := hq.symm
      clear hq
      go_wp2_with fail
      refine K1.out.mono ?_
      rintro e w' ⟨rfl, hq⟩
      obtain rfl := hq.symm
      clear hq
      go_wp2_with fail
      refine K4.out.mono ?_
      rintro e w' ⟨rfl, hq⟩
      obtain rfl := hq.symm
      clear hq
      go_wp2_with (go_at_call 18; refine (num_any _ _).mono ?_; rintro e w' ⟨rfl, hq⟩; obtain rfl := hq.symm; clear hq)
      refine (KS.out _ (Touch.refl _ _)).mono ?_
      rintro e w5 ⟨rfl, k5, rfl⟩
      have r5 := RM.out k5
      go_wp2_with fail
      refine wp_loop_once ?_
      go_wp2_with fail
      refine wp_loop_once ?_
      go_wp2_with fail
      refine (KS.out _ (Touch.drewN (Touch.refl _ _) _)).mono ?_
      rintro e w6 ⟨rfl, k6, rfl⟩
      go_wp2_with fail
      refine (known_any _).mono ?_
      rintro e w11 ⟨rfl, t11⟩
      go_wp2_with fail
      go_ret
      exact ⟨rfl, (T2.out.drewN _).trans t11 (fun _ _ h => h)⟩

end Go.Proofs.Ytmhobdcnohhaaaa
