/- Of: the panes of a key, in the list's order (the document's). keys: of all panes, rising, each once (the document's; the walk). Keys: each key and its panes (the document's). What the program's panes are to answer: Keys, Of, Last. -/
import Derived.Test.YtamfcmmhmfhhkaaGreatDoorG2
import Derived.Test.YtamfcmmhmfhhkaaGreatDoorG4
import Derived.Test.YtamfcmmhmfhhkaaGreatDoorG12
import Derived.Test.YtamfcmmhmfhhkaaGreatDoorG10
namespace Go.Proofs.YtamfcmmhmfhhkaaGreatDoor
open Go.RowKit

set_option maxRecDepth 100000 in
set_option maxHeartbeats 2000000 in
theorem rof_any (L : List Pn) (key : ByteArray) (ao : Option Addr) (ac : Nat) (w : World) (ha : encP.Mem w ao L) (hl : L.length ≤ 1000000000000) : Calls Tryz.prog 15 #[.slice ao L.length ac, .string key] w fun e w' => RetP w e w' (ofP L key) := by
  obtain ⟨x, hx⟩ : ∃ x : Nat → Pn, ∀ i, x i = L.getD i pn0 := ⟨fun i => L.getD i pn0, fun _ => rfl⟩
  have SA : Hid (∀ j, j < L.length → ∃ g off, ao = some ⟨g, off, none⟩ ∧ ∀ W, Calm w W → pcell W g (off + j * 9) (x j)) := hide fun j hj => by
    rw [hx]; exact pn_W ha j hj
  obtain ⟨o, ho⟩ : ∃ o : Nat → List Pn, ∀ i, o i = ofP (L.take i) key := ⟨fun i => ofP (L.take i) key, fun _ => rfl⟩
  have O0 : Hid (o 0 = []) := hide (by rw [ho]; rfl)
  have OS : Hid (∀ i, i < L.length → o (i + 1) = o i ++ (if (x i).k = key then [x i] else [])) := hide fun i hi => by
    rw [ho, ho, hx]; exact ofP_succ hi
  have OL : Hid (∀ i, i ≤ L.length → (o i).length ≤ i) := hide fun i hi => by
    rw [ho]; exact Nat.le_trans (ofP_le _ _) (by rw [List.length_take]; omega)
  have OE : Hid (o L.length = ofP L key) := hide (by rw [ho, List.take_length])
  unfold RetP
  clear ha hx ho
  generalize ofP L key = Z at *
  generalize L.length = n at *
  go_enter Tryz.func15, Tryz.ntmps15
  go_wp2_with fail
  go_loopw [5, 6] (fun s5 s6 wr => ∃ (i : Nat) (a : Option Addr) (k : Nat), s6 = .int .i64 (i : Int) ∧ i ≤ n ∧ s5 = .slice a (o i).length k ∧ encP.Own 40 wr w.heap.size (.slice a (o i).length k) (o i) ∧ Calm w wr) (fun _ s6 _ => n - (intOf s6).toNat)
  case atStart => exact ⟨0, none, 0, rfl, by omega, by rw [O0.out]; rfl, by rw [O0.out]; exact Rc.Own.nil _ _ _, Touch.refl _ _⟩
  case round =>
    obtain ⟨i, a, k, rfl, hi, rfl, OW, TE⟩ := hrel
    by_cases hlt : i < n
    · have hltz : (i : Int) < (n : Int) := by omega
      obtain ⟨ga, oa, rfl, ca⟩ := SA.out i hlt
      have hs := hide (OS.out i hlt)
      have hll := hide (OL.out i hi)
      have hsz := hide TE.size
      have hrow := ca wr TE
      have KA := hide ca
      generalize x i = p at *
      by_cases hk : p.k = key
      · have ho1 : Hid (o (i + 1) = o i ++ [p]) := hide (by rw [hs.out, if_pos hk])
        obtain ⟨a4, p4, w4, hr, ow, t2⟩ := pn_app1 p OW (by have := hsz.out; omega) (by have := hll.out; omega)
        rw [← ho1.out] at ow
        have e1 : (o (i + 1)).length = (o i).length + 1 := by rw [ho1.out]; simp
        have T6 : Calm w w4 := Rc.Own.fresh (w0 := w) OW t2 (fun _ h => h) TE (Nat.le_refl _)
        have hr' := hr
        rw [← e1] at hr'
        have HR := hide hr'
        have HO := hide ow
        have HT := hide T6
        obtain ⟨pk, pa, pb, pd, pn, ⟨t0, t1, t2', t3⟩⟩ := p
        subst hk
        obtain ⟨⟨c0, c1, c2, c3, c4⟩, c5, c6, c7, c8⟩ := hrow
        clear SA OS OL KA OW TE hr hr' ow t2 T6 hs ca e1
        go_wp2_with (at_builtin; refine Rc.wpList_appR rfl (.tmp 20) (.tmp 25) 22 22 rfl _ _ _ rfl rfl HR.out ?_)
        go_roundw
        case rel => exact ⟨i + 1, a4, p4, by go_num, by omega, rfl, HO.out, HT.out⟩
        case measure => simp [intOf]; omega
      · have ho1 : Hid (o (i + 1) = o i) := hide (by rw [hs.out, if_neg hk, List.append_nil])
        have hkl : Hid ((p.k.toList == key.toList) = false) := hide (by rw [ba_beq, decide_eq_false hk])
        have HO := hide OW
        have HT := hide TE
        obtain ⟨⟨c0, c1, c2, c3, c4⟩, -⟩ := hrow
        clear SA OS OL KA OW TE hs ca
        have hkk := hkl.out
        go_wp2_with fail
        go_roundw
        case rel => exact ⟨i + 1, a, k, by go_num, by omega, by rw [ho1.out], by rw [ho1.out]; exact HO.out, HT.out⟩
        case measure => simp [intOf]; omega
    · have hltz : ¬ (i : Int) < (n : Int) := by omega
      obtain rfl : i = n := by omega
      have HO := hide OW
      have HT := hide TE
      have hz := OE.out
      clear SA OS OL OW TE
      go_wp2_with fail
      go_ret
      exact ⟨a, k, by rw [← hz]; rfl, by rw [← hz]; exact HO.out, HT.out⟩

end Go.Proofs.YtamfcmmhmfhhkaaGreatDoor

namespace Go.Proofs.YtamfcmmhmfhhkaaGreatDoor
open Go.RowKit

set_option maxRecDepth 100000 in
set_option maxHeartbeats 4000000 in
theorem rkeys_any (L : List Pn) (ao : Option Addr) (ac : Nat) (w : World) (ha : encP.Mem w ao L) (hl : L.length ≤ 1000000000) : Calls Tryz.prog 28 #[.slice ao L.length ac] w fun e w' => ∃ a c, e = .returned (.slice a (keysP L).length c) ∧ encZ.Own 9 w' w.heap.size (.slice a (keysP L).length c) (keysP L) ∧ Calm w w' := by
  obtain ⟨x, hx⟩ : ∃ x : Nat → Pn, ∀ i, x i = L.getD i pn0 := ⟨fun i => L.getD i pn0, fun _ => rfl⟩
  have SA : Hid (∀ j, j < L.length → ∃ g off, ao = some ⟨g, off, none⟩ ∧ ∀ W, Calm w W → pcell W g (off + j * 9) (x j)) := hide fun j hj => by
    rw [hx]; exact pn_W ha j hj
  obtain ⟨o, ho⟩ : ∃ o : Nat → List ByteArray, ∀ i, o i = keysP (L.take i) := ⟨fun i => keysP (L.take i), fun _ => rfl⟩
  have O0 : Hid (o 0 = []) := hide (by rw [ho]; rfl)
  have OS : Hid (∀ i, i < L.length → o (i + 1) = putK (o i) (x i).k) := hide fun i hi => by
    rw [ho, ho, hx]; exact keysP_succ hi
  have OL : Hid (∀ i, i ≤ L.length → (o i).length ≤ i) := hide fun i hi => by
    rw [ho]; exact keysP_len L i hi
  have OE : Hid (o L.length = keysP L) := hide (by rw [ho, List.take_length])
  clear ha hx ho
  generalize keysP L = Z at *
  generalize L.length = n at *
  go_enter Tryz.func28, Tryz.ntmps28
  go_wp2_with fail
  go_loopw [3, 4] (fun s3 s4 wr => ∃ (i : Nat) (a : Option Addr) (c : Nat), s4 = .int .i64 (i : Int) ∧ i ≤ n ∧ s3 = .slice a (o i).length c ∧ encZ.Own 9 wr w.heap.size (.slice a (o i).length c) (o i) ∧ Calm w wr) (fun _ s4 _ => n - (intOf s4).toNat)
  case atStart => exact ⟨0, none, 0, rfl, by omega, by rw [O0.out]; rfl, by rw [O0.out]; exact Rc.Own.nil _ _ _, Touch.refl _ _⟩
  case round =>
    obtain ⟨i, a, c, rfl, hi, rfl, OW, TE⟩ := hrel
    generalize wr = w1 at *
    by_cases hlt : i < n
    · have hltz : (i : Int) < (n : Int) := by omega
      obtain ⟨ga, oa, rfl, ca⟩ := SA.out i hlt
      have hs := hide (OS.out i hlt)
      have hll := hide (OL.out i hi)
      have KA : Hid (∀ W, Calm w1 W → W.cell? ⟨ga, oa + i * 9, none⟩ = some (.string (x i).k)) := hide fun W hW => (ca W (TE.tr hW)).1.1
      have HO := hide OW
      have HT := hide TE
      have SO : Hid (∀ j, j < (o i).length → ∃ g off, a = some ⟨g, off, none⟩ ∧ ∀ W, Calm w1 W → W.cell? ⟨g, off + j, none⟩ = some (.string ((o i).getD j ⟨#[]⟩))) := hide fun j hj => st_W (Rc.Own.mem OW).2.1 j hj
      have HL := hide (leadK_eq (o i) (x i).k)
      generalize (x i).k = key at *
      generalize hO : o i = O at *
      have hOb : O.length ≤ 1000000000 := by have := hll.out; omega
      have HOn := hide hO
      clear SA OS OL O0 ca OW TE hO
      go_wp2_with fail
      go_loopw [5] (fun s5 wq => ∃ j : Nat, s5 = .int .i64 (j : Int) ∧ j ≤ O.length ∧ (∀ t, t < j → kLt (O.getD t ⟨#[]⟩) key = true) ∧ Calm w1 wq) (fun s5 _ => O.length - (intOf s5).toNat)
      case atStart => exact ⟨0, rfl, by omega, fun t ht => by omega, Touch.refl _ _⟩
      case round =>
        obtain ⟨j, rfl, hj, hA, TQ⟩ := hrel
        by_cases hjl : j < O.length
        · have hjz : (j : Int) < (O.length : Int) := by omega
          obtain ⟨gb, ob, rfl, cb⟩ := SO.out j hjl
          have KB := hide cb
          have HQ := hide TQ
          have HA := hide hA
          have HL1 : Hid (kLt (O.getD j ⟨#[]⟩) key = false → leadK O key = j) := hide fun h => HL.out j hj hA (fun _ => h)
          have HA1 : Hid (kLt (O.getD j ⟨#[]⟩) key = true → ∀ t, t < j + 1 → kLt (O.getD t ⟨#[]⟩) key = true) := hide fun h t ht => by
            rcases Nat.lt_or_ge t j with h3 | h3
            · exact hA t h3
            · obtain rfl : t = j := by omega
              exact h
          have HG : Hid (∀ y, O.getD j ⟨#[]⟩ = y → O.getD j ⟨#[]⟩ = y) := hide fun _ h => h
          generalize hy : O.getD j ⟨#[]⟩ = y at *
          have HY := hide hy
          generalize hb : kLt y key = lt at *
          have HB := hide hb
          clear cb TQ hA hy hb HG SO
          go_wp2_with fail
          refine wp_region_held (S := Calm w1) (by kernel_rfl) ?_
          have hT0 : Calm w1 { wr with drawn := wr.drawn + 1 } := HQ.out.drew
          refine wpAnyH_yield 0 13 (.int .i64 (j : Int)) rfl rfl (by kernel_rfl) (by kernel_rfl) (by kernel_rfl) (fun _ _ _ h => h) (by kernel_rfl) (fun W hW => by kernel_rfl) (by assumption) rfl rfl ?_
          simp only [Act.put, List.setIfInBounds_toArray, List.set_cons_zero, List.set_cons_succ]
          refine wpAnyH_yield 1 14 (.slice (some ⟨gb, ob, none⟩) O.length c) rfl rfl (by kernel_rfl) (by kernel_rfl) (by kernel_rfl) (fun _ _ _ h => h) (by kernel_rfl) (fun W hW => by kernel_rfl) (by assumption) rfl rfl ?_
          simp only [Act.put, List.setIfInBounds_toArray, List.set_cons_zero, List.set_cons_succ]
          refine wpAnyH_yield 2 15 (.int .i64 (O.length : Int)) rfl rfl (by kernel_rfl) (by kernel_rfl) (by kernel_rfl) (fun _ _ _ h => h) (by kernel_rfl) (fun W hW => by go_simp) (by assumption) rfl rfl ?_
          simp only [Act.put, List.setIfInBounds_toArray, List.set_cons_zero, List.set_cons_succ]
          refine wpAnyH_yield 3 16 (.bool true) rfl rfl (by kernel_rfl) (by kernel_rfl) (by kernel_rfl) (fun _ _ _ h => h) (by kernel_rfl) (fun W hW => by go_simp) (by assumption) rfl rfl ?_
          simp only [Act.put, List.setIfInBounds_toArray, List.set_cons_zero, List.set_cons_succ]
          refine wpAnyH_yield 4 17 (.bool true) rfl rfl (by kernel_rfl) (by kernel_rfl) (by kernel_rfl) (fun _ _ _ h => h) (by kernel_rfl) (fun W hW => by kernel_rfl) (by assumption) rfl rfl ?_
          simp only [Act.put, List.setIfInBounds_toArray, List.set_cons_zero, List.set_cons_succ]
          refine wpAnyH_yield 5 18 (.slice (some ⟨gb, ob, none⟩) O.length c) rfl rfl (by kernel_rfl) (by kernel_rfl) (by kernel_rfl) (fun _ _ _ h => h) (by kernel_rfl) (fun W hW => by kernel_rfl) (by assumption) rfl rfl ?_
          simp only [Act.put, List.setIfInBounds_toArray, List.set_cons_zero, List.set_cons_succ]
          refine wpAnyH_yield 6 19 (.int .i64 (j : Int)) rfl rfl (by kernel_rfl) (by kernel_rfl) (by kernel_rfl) (fun _ _ _ h => h) (by kernel_rfl) (fun W hW => by kernel_rfl) (by assumption) rfl rfl ?_
          simp only [Act.put, List.setIfInBounds_toArray, List.set_cons_zero, List.set_cons_succ]
          refine wpAnyH_yield 7 20 (.pointer (some ⟨gb, ob + j, none⟩)) rfl rfl (by kernel_rfl) (by kernel_rfl) (by kernel_rfl) (fun _ _ _ h => h) (by kernel_rfl) (fun W hW => by go_simp) (by assumption) rfl rfl ?_
          simp only [Act.put, List.setIfInBounds_toArray, List.set_cons_zero, List.set_cons_succ]
          refine wpAnyH_yield 8 21 (.string y) rfl rfl (by kernel_rfl) (by kernel_rfl) (by kernel_rfl) (fun _ _ _ h => h) (by kernel_rfl) (fun W hW => by have c0 := KB.out W hW; go_simp) (by assumption) rfl rfl ?_
          simp only [Act.put, List.setIfInBounds_toArray, List.set_cons_zero, List.set_cons_succ]
          refine wpAnyH_yield 9 22 (.slice (some ⟨ga, oa, none⟩) n ac) rfl rfl (by kernel_rfl) (by kernel_rfl) (by kernel_rfl) (fun _ _ _ h => h) (by kernel_rfl) (fun W hW => by kernel_rfl) (by assumption) rfl rfl ?_
          simp only [Act.put, List.setIfInBounds_toArray, List.set_cons_zero, List.set_cons_succ]
          refine wpAnyH_yield 10 23 (.int .i64 (i : Int)) rfl rfl (by kernel_rfl) (by kernel_rfl) (by kernel_rfl) (fun _ _ _ h => h) (by kernel_rfl) (fun W hW => by kernel_rfl) (by assumption) rfl rfl ?_
          simp only [Act.put, List.setIfInBounds_toArray, List.set_cons_zero, List.set_cons_succ]
          refine wpAnyH_yield 11 24 (.pointer (some ⟨ga, oa + i * 9, none⟩)) rfl rfl (by kernel_rfl) (by kernel_rfl) (by kernel_rfl) (fun _ _ _ h => h) (by kernel_rfl) (fun W hW => by go_simp) (by assumption) rfl rfl ?_
          simp only [Act.put, List.setIfInBounds_toArray, List.set_cons_zero, List.set_cons_succ]
          refine wpAnyH_yield 12 25 (.pointer (some ⟨ga, oa + i * 9, none⟩)) rfl rfl (by kernel_rfl) (by kernel_rfl) (by kernel_rfl) (fun _ _ _ h => h) (by kernel_rfl) (fun W hW => by go_simp) (by assumption) rfl rfl ?_
          simp only [Act.put, List.setIfInBounds_toArray, List.set_cons_zero, List.set_cons_succ]
          refine wpAnyH_yield 13 26 (.string key) rfl rfl (by kernel_rfl) (by kernel_rfl) (by kernel_rfl) (fun _ _ _ h => h) (by kernel_rfl) (fun W hW => by have c0 := KA.out W hW; go_simp) (by assumption) rfl rfl ?_
          simp only [Act.put, List.setIfInBounds_toArray, List.set_cons_zero, List.set_cons_succ]
          refine wpAnyH_yield 14 27 (.bool lt) rfl rfl (by kernel_rfl) (by kernel_rfl) (by kernel_rfl) (fun _ _ _ h => h) (by kernel_rfl) (fun W hW => by go_simp; exact HB.out) (by assumption) rfl rfl ?_
          simp only [Act.put, List.setIfInBounds_toArray, List.set_cons_zero, List.set_cons_succ]
          refine wpAnyH_yield 15 28 (.bool lt) rfl rfl (by kernel_rfl) (by kernel_rfl) (by kernel_rfl) (fun _ _ _ h => h) (by kernel_rfl) (fun W hW => by kernel_rfl) (by assumption) rfl rfl ?_
          simp only [Act.put, List.setIfInBounds_toArray, List.set_cons_zero, List.set_cons_succ]
          refine wpAnyH_done (by kernel_rfl) ?_ _
          have H1 := hide hT0
          clear hT0 HQ
          cases lt with
          | true =>
            have HA2 := hide (HA1.out rfl)
            clear HA HA1 HL1 HB HY KB
            go_wp2_with fail
            go_roundw
            case rel => exact ⟨j + 1, by go_num, by omega, HA2.out, H1.out⟩
            case measure => simp [intOf]; omega
          | false =>
            have E0 := hide (HL1.out rfl)
            clear HA HA1 HL1 HB
            generalize ({ wr with drawn := wr.drawn + 1 } : World) = w2 at *
            by_cases hyk : y = key
            · have EQ : Hid (o (i + 1) = O) := hide (by rw [hs.out]; unfold putK; rw [if_pos (by rw [E0.out, HY.out]; exact ⟨hjl, hyk⟩)])
              subst hyk
              go_wp2_with fail
              refine wp_region_held (S := Calm w1) (by kernel_rfl) ?_
              have hT1 : Calm w1 { w2 with drawn := w2.drawn + 1 } := H1.out.drew
              refine wpAnyH_yield 0 31 (.int .i64 (j : Int)) rfl rfl (by kernel_rfl) (by kernel_rfl) (by kernel_rfl) (fun _ _ _ h => h) (by kernel_rfl) (fun W hW => by kernel_rfl) (by assumption) rfl rfl ?_
              simp only [Act.put, List.setIfInBounds_toArray, List.set_cons_zero, List.set_cons_succ]
              refine wpAnyH_yield 1 32 (.slice (some ⟨gb, ob, none⟩) O.length c) rfl rfl (by kernel_rfl) (by kernel_rfl) (by kernel_rfl) (fun _ _ _ h => h) (by kernel_rfl) (fun W hW => by kernel_rfl) (by assumption) rfl rfl ?_
              simp only [Act.put, List.setIfInBounds_toArray, List.set_cons_zero, List.set_cons_succ]
              refine wpAnyH_yield 2 33 (.int .i64 (O.length : Int)) rfl rfl (by kernel_rfl) (by kernel_rfl) (by kernel_rfl) (fun _ _ _ h => h) (by kernel_rfl) (fun W hW => by go_simp) (by assumption) rfl rfl ?_
              simp only [Act.put, List.setIfInBounds_toArray, List.set_cons_zero, List.set_cons_succ]
              refine wpAnyH_yield 3 34 (.bool true) rfl rfl (by kernel_rfl) (by kernel_rfl) (by kernel_rfl) (fun _ _ _ h => h) (by kernel_rfl) (fun W hW => by go_simp) (by assumption) rfl rfl ?_
              simp only [Act.put, List.setIfInBounds_toArray, List.set_cons_zero, List.set_cons_succ]
              refine wpAnyH_yield 4 35 (.bool true) rfl rfl (by kernel_rfl) (by kernel_rfl) (by kernel_rfl) (fun _ _ _ h => h) (by kernel_rfl) (fun W hW => by kernel_rfl) (by assumption) rfl rfl ?_
              simp only [Act.put, List.setIfInBounds_toArray, List.set_cons_zero, List.set_cons_succ]
              refine wpAnyH_yield 5 36 (.slice (some ⟨gb, ob, none⟩) O.length c) rfl rfl (by kernel_rfl) (by kernel_rfl) (by kernel_rfl) (fun _ _ _ h => h) (by kernel_rfl) (fun W hW => by kernel_rfl) (by assumption) rfl rfl ?_
              simp only [Act.put, List.setIfInBounds_toArray, List.set_cons_zero, List.set_cons_succ]
              refine wpAnyH_yield 6 37 (.int .i64 (j : Int)) rfl rfl (by kernel_rfl) (by kernel_rfl) (by kernel_rfl) (fun _ _ _ h => h) (by kernel_rfl) (fun W hW => by kernel_rfl) (by assumption) rfl rfl ?_
              simp only [Act.put, List.setIfInBounds_toArray, List.set_cons_zero, List.set_cons_succ]
              refine wpAnyH_yield 7 38 (.pointer (some ⟨gb, ob + j, none⟩)) rfl rfl (by kernel_rfl) (by kernel_rfl) (by kernel_rfl) (fun _ _ _ h => h) (by kernel_rfl) (fun W hW => by go_simp) (by assumption) rfl rfl ?_
              simp only [Act.put, List.setIfInBounds_toArray, List.set_cons_zero, List.set_cons_succ]
              refine wpAnyH_yield 8 39 (.string y) rfl rfl (by kernel_rfl) (by kernel_rfl) (by kernel_rfl) (fun _ _ _ h => h) (by kernel_rfl) (fun W hW => by have c0 := KB.out W hW; go_simp) (by assumption) rfl rfl ?_
              simp only [Act.put, List.setIfInBounds_toArray, List.set_cons_zero, List.set_cons_succ]
              refine wpAnyH_yield 9 40 (.slice (some ⟨ga, oa, none⟩) n ac) rfl rfl (by kernel_rfl) (by kernel_rfl) (by kernel_rfl) (fun _ _ _ h => h) (by kernel_rfl) (fun W hW => by kernel_rfl) (by assumption) rfl rfl ?_
              simp only [Act.put, List.setIfInBounds_toArray, List.set_cons_zero, List.set_cons_succ]
              refine wpAnyH_yield 10 41 (.int .i64 (i : Int)) rfl rfl (by kernel_rfl) (by kernel_rfl) (by kernel_rfl) (fun _ _ _ h => h) (by kernel_rfl) (fun W hW => by kernel_rfl) (by assumption) rfl rfl ?_
              simp only [Act.put, List.setIfInBounds_toArray, List.set_cons_zero, List.set_cons_succ]
              refine wpAnyH_yield 11 42 (.pointer (some ⟨ga, oa + i * 9, none⟩)) rfl rfl (by kernel_rfl) (by kernel_rfl) (by kernel_rfl) (fun _ _ _ h => h) (by kernel_rfl) (fun W hW => by go_simp) (by assumption) rfl rfl ?_
              simp only [Act.put, List.setIfInBounds_toArray, List.set_cons_zero, List.set_cons_succ]
              refine wpAnyH_yield 12 43 (.pointer (some ⟨ga, oa + i * 9, none⟩)) rfl rfl (by kernel_rfl) (by kernel_rfl) (by kernel_rfl) (fun _ _ _ h => h) (by kernel_rfl) (fun W hW => by go_simp) (by assumption) rfl rfl ?_
              simp only [Act.put, List.setIfInBounds_toArray, List.set_cons_zero, List.set_cons_succ]
              refine wpAnyH_yield 13 44 (.string y) rfl rfl (by kernel_rfl) (by kernel_rfl) (by kernel_rfl) (fun _ _ _ h => h) (by kernel_rfl) (fun W hW => by have c0 := KA.out W hW; go_simp) (by assumption) rfl rfl ?_
              simp only [Act.put, List.setIfInBounds_toArray, List.set_cons_zero, List.set_cons_succ]
              refine wpAnyH_yield 14 45 (.bool true) rfl rfl (by kernel_rfl) (by kernel_rfl) (by kernel_rfl) (fun _ _ _ h => h) (by kernel_rfl) (fun W hW => by go_simp) (by assumption) rfl rfl ?_
              simp only [Act.put, List.setIfInBounds_toArray, List.set_cons_zero, List.set_cons_succ]
              refine wpAnyH_yield 15 46 (.bool true) rfl rfl (by kernel_rfl) (by kernel_rfl) (by kernel_rfl) (fun _ _ _ h => h) (by kernel_rfl) (fun W hW => by kernel_rfl) (by assumption) rfl rfl ?_
              simp only [Act.put, List.setIfInBounds_toArray, List.set_cons_zero, List.set_cons_succ]
              refine wpAnyH_done (by kernel_rfl) ?_ _
              have HOW := hide (Rc.Own.calm HO.out hT1)
              have HTW := hide (HT.out.tr hT1)
              clear hT1 H1 HO HT KA KB HY hs hll
              go_wp2_with fail
              go_roundw
              case rel => exact ⟨i + 1, _, c, by go_num, by omega, by rw [EQ.out], by rw [EQ.out]; exact HOW.out, HTW.out⟩
              case measure => simp [intOf]; omega
            · have EP : Hid (putK O key = O.take j ++ [key] ++ O.drop j) := hide (by unfold putK; rw [if_neg (by rw [E0.out, HY.out]; exact fun h => hyk h.2), E0.out])
              have hkk : Hid ((y.toList == key.toList) = false) := hide (by rw [ba_beq, decide_eq_false hyk])
              go_wp2_with fail
              refine wp_region_held (S := Calm w1) (by kernel_rfl) ?_
              have hT1 : Calm w1 { w2 with drawn := w2.drawn + 1 } := H1.out.drew
              refine wpAnyH_yield 0 31 (.int .i64 (j : Int)) rfl rfl (by kernel_rfl) (by kernel_rfl) (by kernel_rfl) (fun _ _ _ h => h) (by kernel_rfl) (fun W hW => by kernel_rfl) (by assumption) rfl rfl ?_
              simp only [Act.put, List.setIfInBounds_toArray, List.set_cons_zero, List.set_cons_succ]
              refine wpAnyH_yield 1 32 (.slice (some ⟨gb, ob, none⟩) O.length c) rfl rfl (by kernel_rfl) (by kernel_rfl) (by kernel_rfl) (fun _ _ _ h => h) (by kernel_rfl) (fun W hW => by kernel_rfl) (by assumption) rfl rfl ?_
              simp only [Act.put, List.setIfInBounds_toArray, List.set_cons_zero, List.set_cons_succ]
              refine wpAnyH_yield 2 33 (.int .i64 (O.length : Int)) rfl rfl (by kernel_rfl) (by kernel_rfl) (by kernel_rfl) (fun _ _ _ h => h) (by kernel_rfl) (fun W hW => by go_simp) (by assumption) rfl rfl ?_
              simp only [Act.put, List.setIfInBounds_toArray, List.set_cons_zero, List.set_cons_succ]
              refine wpAnyH_yield 3 34 (.bool true) rfl rfl (by kernel_rfl) (by kernel_rfl) (by kernel_rfl) (fun _ _ _ h => h) (by kernel_rfl) (fun W hW => by go_simp) (by assumption) rfl rfl ?_
              simp only [Act.put, List.setIfInBounds_toArray, List.set_cons_zero, List.set_cons_succ]
              refine wpAnyH_yield 4 35 (.bool true) rfl rfl (by kernel_rfl) (by kernel_rfl) (by kernel_rfl) (fun _ _ _ h => h) (by kernel_rfl) (fun W hW => by kernel_rfl) (by assumption) rfl rfl ?_
              simp only [Act.put, List.setIfInBounds_toArray, List.set_cons_zero, List.set_cons_succ]
              refine wpAnyH_yield 5 36 (.slice (some ⟨gb, ob, none⟩) O.length c) rfl rfl (by kernel_rfl) (by kernel_rfl) (by kernel_rfl) (fun _ _ _ h => h) (by kernel_rfl) (fun W hW => by kernel_rfl) (by assumption) rfl rfl ?_
              simp only [Act.put, List.setIfInBounds_toArray, List.set_cons_zero, List.set_cons_succ]
              refine wpAnyH_yield 6 37 (.int .i64 (j : Int)) rfl rfl (by kernel_rfl) (by kernel_rfl) (by kernel_rfl) (fun _ _ _ h => h) (by kernel_rfl) (fun W hW => by kernel_rfl) (by assumption) rfl rfl ?_
              simp only [Act.put, List.setIfInBounds_toArray, List.set_cons_zero, List.set_cons_succ]
              refine wpAnyH_yield 7 38 (.pointer (some ⟨gb, ob + j, none⟩)) rfl rfl (by kernel_rfl) (by kernel_rfl) (by kernel_rfl) (fun _ _ _ h => h) (by kernel_rfl) (fun W hW => by go_simp) (by assumption) rfl rfl ?_
              simp only [Act.put, List.setIfInBounds_toArray, List.set_cons_zero, List.set_cons_succ]
              refine wpAnyH_yield 8 39 (.string y) rfl rfl (by kernel_rfl) (by kernel_rfl) (by kernel_rfl) (fun _ _ _ h => h) (by kernel_rfl) (fun W hW => by have c0 := KB.out W hW; go_simp) (by assumption) rfl rfl ?_
              simp only [Act.put, List.setIfInBounds_toArray, List.set_cons_zero, List.set_cons_succ]
              refine wpAnyH_yield 9 40 (.slice (some ⟨ga, oa, none⟩) n ac) rfl rfl (by kernel_rfl) (by kernel_rfl) (by kernel_rfl) (fun _ _ _ h => h) (by kernel_rfl) (fun W hW => by kernel_rfl) (by assumption) rfl rfl ?_
              simp only [Act.put, List.setIfInBounds_toArray, List.set_cons_zero, List.set_cons_succ]
              refine wpAnyH_yield 10 41 (.int .i64 (i : Int)) rfl rfl (by kernel_rfl) (by kernel_rfl) (by kernel_rfl) (fun _ _ _ h => h) (by kernel_rfl) (fun W hW => by kernel_rfl) (by assumption) rfl rfl ?_
              simp only [Act.put, List.setIfInBounds_toArray, List.set_cons_zero, List.set_cons_succ]
              refine wpAnyH_yield 11 42 (.pointer (some ⟨ga, oa + i * 9, none⟩)) rfl rfl (by kernel_rfl) (by kernel_rfl) (by kernel_rfl) (fun _ _ _ h => h) (by kernel_rfl) (fun W hW => by go_simp) (by assumption) rfl rfl ?_
              simp only [Act.put, List.setIfInBounds_toArray, List.set_cons_zero, List.set_cons_succ]
              refine wpAnyH_yield 12 43 (.pointer (some ⟨ga, oa + i * 9, none⟩)) rfl rfl (by kernel_rfl) (by kernel_rfl) (by kernel_rfl) (fun _ _ _ h => h) (by kernel_rfl) (fun W hW => by go_simp) (by assumption) rfl rfl ?_
              simp only [Act.put, List.setIfInBounds_toArray, List.set_cons_zero, List.set_cons_succ]
              refine wpAnyH_yield 13 44 (.string key) rfl rfl (by kernel_rfl) (by kernel_rfl) (by kernel_rfl) (fun _ _ _ h => h) (by kernel_rfl) (fun W hW => by have c0 := KA.out W hW; go_simp) (by assumption) rfl rfl ?_
              simp only [Act.put, List.setIfInBounds_toArray, List.set_cons_zero, List.set_cons_succ]
              refine wpAnyH_yield 14 45 (.bool false) rfl rfl (by kernel_rfl) (by kernel_rfl) (by kernel_rfl) (fun _ _ _ h => h) (by kernel_rfl) (fun W hW => by have hk2 := hkk.out; go_simp) (by assumption) rfl rfl ?_
              simp only [Act.put, List.setIfInBounds_toArray, List.set_cons_zero, List.set_cons_succ]
              refine wpAnyH_yield 15 46 (.bool false) rfl rfl (by kernel_rfl) (by kernel_rfl) (by kernel_rfl) (fun _ _ _ h => h) (by kernel_rfl) (fun W hW => by kernel_rfl) (by assumption) rfl rfl ?_
              simp only [Act.put, List.setIfInBounds_toArray, List.set_cons_zero, List.set_cons_succ]
              refine wpAnyH_done (by kernel_rfl) ?_ _
              clear H1 KB HY hkk
              have e1 : Hid (o (i + 1) = O.take j ++ [key] ++ O.drop j) := hide (by rw [hs.out, EP.out])
              have e2 : Hid ((o (i + 1)).length = O.length + 1) := hide (by rw [e1.out]; simp only [List.length_append, List.length_take, List.length_drop, List.length_cons, List.length_nil]; omega)
              generalize ({ w2 with drawn := w2.drawn + 1 } : World) = w3 at *
              obtain ⟨so1, sc1, so2, sc2, a1, p1, w4, a2, p2, w5, a3, p3, w6, hs1, hs2, hr1, hr2, hr3, ow, C3, C5⟩ := st_put key (Rc.Own.calm HO.out hT1) j hj (by have := hll.out; omega)
              have cK := KA.out w4 (hT1.tr C3)
              have HOW := hide (Rc.Own.base ow (HT.out.tr hT1).size)
              have HTW := hide ((HT.out.tr hT1).tr C5)
              clear ow C3 C5 hT1 HO HT hll hs HL EP
              go_wp2_with (at_builtin; first | refine Rc.wpList_appR rfl (.tmp 47) (.tmp 50) 58 58 rfl _ _ _ rfl rfl hr1 ?_ | refine Rc.wpList_appR rfl (.tmp 52) (.tmp 58) 58 58 rfl _ _ _ rfl rfl hr2 ?_ | refine Rc.wpList_appR rfl (.tmp 60) (.tmp 63) 58 58 rfl _ _ _ rfl rfl hr3 ?_)
              go_roundw
              case rel => exact ⟨i + 1, a3, p3, by go_num, by omega, by rw [e2.out], by rw [e2.out, e1.out]; exact HOW.out, HTW.out⟩
              case measure => simp [intOf]; omega
        · have hjz : ¬ (j : Int) < (O.length : Int) := by omega
          have E0 := hide (HL.out j hj hA (fun h => absurd h hjl))
          have EP : Hid (putK O key = O.take j ++ [key] ++ O.drop j) := hide (by unfold putK; rw [if_neg (by rw [E0.out]; exact fun h => hjl h.1), E0.out])
          have HQ := hide TQ
          clear TQ hA SO
          go_wp2_with fail
          refine wp_region_held (S := Calm w1) (by kernel_rfl) ?_
          have hT0 : Calm w1 { wr with drawn := wr.drawn + 1 } := HQ.out.drew
          refine wpAnyH_yield 0 13 (.int .i64 (j : Int)) rfl rfl (by kernel_rfl) (by kernel_rfl) (by kernel_rfl) (fun _ _ _ h => h) (by kernel_rfl) (fun W hW => by kernel_rfl) (by assumption) rfl rfl ?_
          simp only [Act.put, List.setIfInBounds_toArray, List.set_cons_zero, List.set_cons_succ]
          refine wpAnyH_yield 1 14 (.slice a O.length c) rfl rfl (by kernel_rfl) (by kernel_rfl) (by kernel_rfl) (fun _ _ _ h => h) (by kernel_rfl) (fun W hW => by kernel_rfl) (by assumption) rfl rfl ?_
          simp only [Act.put, List.setIfInBounds_toArray, List.set_cons_zero, List.set_cons_succ]
          refine wpAnyH_yield 2 15 (.int .i64 (O.length : Int)) rfl rfl (by kernel_rfl) (by kernel_rfl) (by kernel_rfl) (fun _ _ _ h => h) (by kernel_rfl) (fun W hW => by go_simp) (by assumption) rfl rfl ?_
          simp only [Act.put, List.setIfInBounds_toArray, List.set_cons_zero, List.set_cons_succ]
          refine wpAnyH_yield 3 16 (.bool false) rfl rfl (by kernel_rfl) (by kernel_rfl) (by kernel_rfl) (fun _ _ _ h => h) (by kernel_rfl) (fun W hW => by go_simp) (by assumption) rfl rfl ?_
          simp only [Act.put, List.setIfInBounds_toArray, List.set_cons_zero, List.set_cons_succ]
          refine wpAnyH_yield 4 17 (.bool false) rfl rfl (by kernel_rfl) (by kernel_rfl) (by kernel_rfl) (fun _ _ _ h => h) (by kernel_rfl) (fun W hW => by kernel_rfl) (by assumption) rfl rfl ?_
          simp only [Act.put, List.setIfInBounds_toArray, List.set_cons_zero, List.set_cons_succ]
          refine wpAnyH_skip 5 18 rfl rfl (by kernel_rfl) (by kernel_rfl) (by kernel_rfl) (fun _ _ _ h => h) (by kernel_rfl) (by assumption) rfl rfl ?_
          simp only [Act.put, List.setIfInBounds_toArray, List.set_cons_zero, List.set_cons_succ]
          refine wpAnyH_skip 6 19 rfl rfl (by kernel_rfl) (by kernel_rfl) (by kernel_rfl) (fun _ _ _ h => h) (by kernel_rfl) (by assumption) rfl rfl ?_
          simp only [Act.put, List.setIfInBounds_toArray, List.set_cons_zero, List.set_cons_succ]
          refine wpAnyH_skip 7 20 rfl rfl (by kernel_rfl) (by kernel_rfl) (by kernel_rfl) (fun _ _ _ h => h) (by kernel_rfl) (by assumption) rfl rfl ?_
          simp only [Act.put, List.setIfInBounds_toArray, List.set_cons_zero, List.set_cons_succ]
          refine wpAnyH_skip 8 21 rfl rfl (by kernel_rfl) (by kernel_rfl) (by kernel_rfl) (fun _ _ _ h => h) (by kernel_rfl) (by assumption) rfl rfl ?_
          simp only [Act.put, List.setIfInBounds_toArray, List.set_cons_zero, List.set_cons_succ]
          refine wpAnyH_skip 9 22 rfl rfl (by kernel_rfl) (by kernel_rfl) (by kernel_rfl) (fun _ _ _ h => h) (by kernel_rfl) (by assumption) rfl rfl ?_
          simp only [Act.put, List.setIfInBounds_toArray, List.set_cons_zero, List.set_cons_succ]
          refine wpAnyH_skip 10 23 rfl rfl (by kernel_rfl) (by kernel_rfl) (by kernel_rfl) (fun _ _ _ h => h) (by kernel_rfl) (by assumption) rfl rfl ?_
          simp only [Act.put, List.setIfInBounds_toArray, List.set_cons_zero, List.set_cons_succ]
          refine wpAnyH_skip 11 24 rfl rfl (by kernel_rfl) (by kernel_rfl) (by kernel_rfl) (fun _ _ _ h => h) (by kernel_rfl) (by assumption) rfl rfl ?_
          simp only [Act.put, List.setIfInBounds_toArray, List.set_cons_zero, List.set_cons_succ]
          refine wpAnyH_skip 12 25 rfl rfl (by kernel_rfl) (by kernel_rfl) (by kernel_rfl) (fun _ _ _ h => h) (by kernel_rfl) (by assumption) rfl rfl ?_
          simp only [Act.put, List.setIfInBounds_toArray, List.set_cons_zero, List.set_cons_succ]
          refine wpAnyH_skip 13 26 rfl rfl (by kernel_rfl) (by kernel_rfl) (by kernel_rfl) (fun _ _ _ h => h) (by kernel_rfl) (by assumption) rfl rfl ?_
          simp only [Act.put, List.setIfInBounds_toArray, List.set_cons_zero, List.set_cons_succ]
          refine wpAnyH_skip 14 27 rfl rfl (by kernel_rfl) (by kernel_rfl) (by kernel_rfl) (fun _ _ _ h => h) (by kernel_rfl) (by assumption) rfl rfl ?_
          simp only [Act.put, List.setIfInBounds_toArray, List.set_cons_zero, List.set_cons_succ]
          refine wpAnyH_yield 15 28 (.bool false) rfl rfl (by kernel_rfl) (by kernel_rfl) (by kernel_rfl) (fun _ _ _ h => h) (by kernel_rfl) (fun W hW => by kernel_rfl) (by assumption) rfl rfl ?_
          simp only [Act.put, List.setIfInBounds_toArray, List.set_cons_zero, List.set_cons_succ]
          refine wpAnyH_done (by kernel_rfl) ?_ _
          have H1 := hide hT0
          clear hT0 HQ
          generalize ({ wr with drawn := wr.drawn + 1 } : World) = w2 at *
          go_wp2_with fail
          refine wp_region_held (S := Calm w1) (by kernel_rfl) ?_
          have hT1 : Calm w1 { w2 with drawn := w2.drawn + 1 } := H1.out.drew
          refine wpAnyH_yield 0 31 (.int .i64 (j : Int)) rfl rfl (by kernel_rfl) (by kernel_rfl) (by kernel_rfl) (fun _ _ _ h => h) (by kernel_rfl) (fun W hW => by kernel_rfl) (by assumption) rfl rfl ?_
          simp only [Act.put, List.setIfInBounds_toArray, List.set_cons_zero, List.set_cons_succ]
          refine wpAnyH_yield 1 32 (.slice a O.length c) rfl rfl (by kernel_rfl) (by kernel_rfl) (by kernel_rfl) (fun _ _ _ h => h) (by kernel_rfl) (fun W hW => by kernel_rfl) (by assumption) rfl rfl ?_
          simp only [Act.put, List.setIfInBounds_toArray, List.set_cons_zero, List.set_cons_succ]
          refine wpAnyH_yield 2 33 (.int .i64 (O.length : Int)) rfl rfl (by kernel_rfl) (by kernel_rfl) (by kernel_rfl) (fun _ _ _ h => h) (by kernel_rfl) (fun W hW => by go_simp) (by assumption) rfl rfl ?_
          simp only [Act.put, List.setIfInBounds_toArray, List.set_cons_zero, List.set_cons_succ]
          refine wpAnyH_yield 3 34 (.bool false) rfl rfl (by kernel_rfl) (by kernel_rfl) (by kernel_rfl) (fun _ _ _ h => h) (by kernel_rfl) (fun W hW => by go_simp) (by assumption) rfl rfl ?_
          simp only [Act.put, List.setIfInBounds_toArray, List.set_cons_zero, List.set_cons_succ]
          refine wpAnyH_yield 4 35 (.bool false) rfl rfl (by kernel_rfl) (by kernel_rfl) (by kernel_rfl) (fun _ _ _ h => h) (by kernel_rfl) (fun W hW => by kernel_rfl) (by assumption) rfl rfl ?_
          simp only [Act.put, List.setIfInBounds_toArray, List.set_cons_zero, List.set_cons_succ]
          refine wpAnyH_skip 5 36 rfl rfl (by kernel_rfl) (by kernel_rfl) (by kernel_rfl) (fun _ _ _ h => h) (by kernel_rfl) (by assumption) rfl rfl ?_
          simp only [Act.put, List.setIfInBounds_toArray, List.set_cons_zero, List.set_cons_succ]
          refine wpAnyH_skip 6 37 rfl rfl (by kernel_rfl) (by kernel_rfl) (by kernel_rfl) (fun _ _ _ h => h) (by kernel_rfl) (by assumption) rfl rfl ?_
          simp only [Act.put, List.setIfInBounds_toArray, List.set_cons_zero, List.set_cons_succ]
          refine wpAnyH_skip 7 38 rfl rfl (by kernel_rfl) (by kernel_rfl) (by kernel_rfl) (fun _ _ _ h => h) (by kernel_rfl) (by assumption) rfl rfl ?_
          simp only [Act.put, List.setIfInBounds_toArray, List.set_cons_zero, List.set_cons_succ]
          refine wpAnyH_skip 8 39 rfl rfl (by kernel_rfl) (by kernel_rfl) (by kernel_rfl) (fun _ _ _ h => h) (by kernel_rfl) (by assumption) rfl rfl ?_
          simp only [Act.put, List.setIfInBounds_toArray, List.set_cons_zero, List.set_cons_succ]
          refine wpAnyH_skip 9 40 rfl rfl (by kernel_rfl) (by kernel_rfl) (by kernel_rfl) (fun _ _ _ h => h) (by kernel_rfl) (by assumption) rfl rfl ?_
          simp only [Act.put, List.setIfInBounds_toArray, List.set_cons_zero, List.set_cons_succ]
          refine wpAnyH_skip 10 41 rfl rfl (by kernel_rfl) (by kernel_rfl) (by kernel_rfl) (fun _ _ _ h => h) (by kernel_rfl) (by assumption) rfl rfl ?_
          simp only [Act.put, List.setIfInBounds_toArray, List.set_cons_zero, List.set_cons_succ]
          refine wpAnyH_skip 11 42 rfl rfl (by kernel_rfl) (by kernel_rfl) (by kernel_rfl) (fun _ _ _ h => h) (by kernel_rfl) (by assumption) rfl rfl ?_
          simp only [Act.put, List.setIfInBounds_toArray, List.set_cons_zero, List.set_cons_succ]
          refine wpAnyH_skip 12 43 rfl rfl (by kernel_rfl) (by kernel_rfl) (by kernel_rfl) (fun _ _ _ h => h) (by kernel_rfl) (by assumption) rfl rfl ?_
          simp only [Act.put, List.setIfInBounds_toArray, List.set_cons_zero, List.set_cons_succ]
          refine wpAnyH_skip 13 44 rfl rfl (by kernel_rfl) (by kernel_rfl) (by kernel_rfl) (fun _ _ _ h => h) (by kernel_rfl) (by assumption) rfl rfl ?_
          simp only [Act.put, List.setIfInBounds_toArray, List.set_cons_zero, List.set_cons_succ]
          refine wpAnyH_skip 14 45 rfl rfl (by kernel_rfl) (by kernel_rfl) (by kernel_rfl) (fun _ _ _ h => h) (by kernel_rfl) (by assumption) rfl rfl ?_
          simp only [Act.put, List.setIfInBounds_toArray, List.set_cons_zero, List.set_cons_succ]
          refine wpAnyH_yield 15 46 (.bool false) rfl rfl (by kernel_rfl) (by kernel_rfl) (by kernel_rfl) (fun _ _ _ h => h) (by kernel_rfl) (fun W hW => by kernel_rfl) (by assumption) rfl rfl ?_
          simp only [Act.put, List.setIfInBounds_toArray, List.set_cons_zero, List.set_cons_succ]
          refine wpAnyH_done (by kernel_rfl) ?_ _
          clear H1
          have e1 : Hid (o (i + 1) = O.take j ++ [key] ++ O.drop j) := hide (by rw [hs.out, EP.out])
          have e2 : Hid ((o (i + 1)).length = O.length + 1) := hide (by rw [e1.out]; simp only [List.length_append, List.length_take, List.length_drop, List.length_cons, List.length_nil]; omega)
          generalize ({ w2 with drawn := w2.drawn + 1 } : World) = w3 at *
          obtain ⟨so1, sc1, so2, sc2, a1, p1, w4, a2, p2, w5, a3, p3, w6, hs1, hs2, hr1, hr2, hr3, ow, C3, C5⟩ := st_put key (Rc.Own.calm HO.out hT1) j hj (by have := hll.out; omega)
          have cK := KA.out w4 (hT1.tr C3)
          have HOW := hide (Rc.Own.base ow (HT.out.tr hT1).size)
          have HTW := hide ((HT.out.tr hT1).tr C5)
          clear ow C3 C5 hT1 HO HT hll hs HL EP
          go_wp2_with (at_builtin; first | refine Rc.wpList_appR rfl (.tmp 47) (.tmp 50) 58 58 rfl _ _ _ rfl rfl hr1 ?_ | refine Rc.wpList_appR rfl (.tmp 52) (.tmp 58) 58 58 rfl _ _ _ rfl rfl hr2 ?_ | refine Rc.wpList_appR rfl (.tmp 60) (.tmp 63) 58 58 rfl _ _ _ rfl rfl hr3 ?_)
          go_roundw
          case rel => exact ⟨i + 1, a3, p3, by go_num, by omega, by rw [e2.out], by rw [e2.out, e1.out]; exact HOW.out, HTW.out⟩
          case measure => simp [intOf]; omega
    · have hltz : ¬ (i : Int) < (n : Int) := by omega
      obtain rfl : i = n := by omega
      have HO := hide OW
      have HT := hide TE
      have hz := OE.out
      clear SA OS OL OW TE O0
      go_wp2_with fail
      go_ret
      exact ⟨a, c, by rw [← hz]; rfl, by rw [← hz]; exact HO.out, HT.out⟩

end Go.Proofs.YtamfcmmhmfhhkaaGreatDoor

namespace Go.Proofs.YtamfcmmhmfhhkaaGreatDoor
open Go.RowKit

theorem infoKp : (Tryz.prog.info? 32).map (fun i => (i.zero, i.size, i.bytes)) = some (some (.agg (kpc kp0)), 2, 40) := by kernel_rfl
theorem kp_app1 {w : World} {base : Nat} {ao : Option Addr} {cap : Nat} {A : List Kp} (x : Kp) (h : encG.Own 32 w base (.slice ao A.length cap) A) (hs : base ≤ w.heap.size) (hn : A.length ≤ 1000000000000) :
    ∃ a2 p2 w4, (Builtin.append_ #[25, 25] 25 #[.slice ao A.length cap, .slice (some ⟨w.heap.size, 0, none⟩) 1 1]).run Tryz.prog (w.alloc (.cells (kpc x) 32)) = .ok (.slice a2 (A.length + 1) p2) w4 ∧
      encG.Own 32 w4 base (.slice a2 (A ++ [x]).length p2) (A ++ [x]) ∧ Touch (fun d => (Value.slice ao A.length cap).ownBlock = some d) w w4 := by
  obtain ⟨i0, hi, hz, hsz, hby⟩ := Rc.info_parts infoKp
  have own := Rc.Own.calm h ((Touch.refl (fun _ => False) w).alloc (.cells (kpc x) 32))
  have hs1 := al_size w (.cells (kpc x) 32)
  obtain ⟨a2, p2, w4, hr, ow, t2, -⟩ := Rc.Own.appw (E := encG) (ty := 25) Tryz.underlying25 hi hz hsz hby rfl own (some ⟨w.heap.size, 0, none⟩) 1 [x] (Rc.Mem.new w [x] 32) (fun h => (nomatch h)) (by simp; unfold maxLen; omega) (by simp; omega) (by omega) (by omega)
  have e3 : (A ++ [x]).length = A.length + 1 := by simp
  refine ⟨a2, p2, w4, by rw [← e3]; exact hr, ow, ?_⟩
  exact Touch.trans (((Touch.refl (fun _ => False) w).alloc _).mono fun _ _ h => h.elim) t2 fun _ _ h => h

/-- A row of panes is none of keys. -/
theorem own_notP {w : World} {b b' : Nat} {v v' : Value} {L : List Pn} {P : List Kp} (h : encP.Own 40 w b v L) (h' : encG.Own 32 w b' v' P) {g : Nat} (hg : v.ownBlock = some g) : ¬ v'.ownBlock = some g := fun hv => by
  obtain ⟨-, cur, hc⟩ := Rc.own_block h hg
  obtain ⟨-, cur', hc'⟩ := Rc.own_block h' hv
  rw [hc] at hc'
  injection hc' with hc'
  injection hc' with _ e
  cases e
theorem KpIn.touch {W W' : World} {base b' : Nat} {L : List Pn} {K : List ByteArray} {P Q : List Kp} {v : Value} (h : KpIn W base L K P) (ho : encG.Own 32 W b' v Q) (ht : Touch (fun d => v.ownBlock = some d) W W') : KpIn W' base L K P := fun j hj => by
  obtain ⟨h1, h2, h3⟩ := h j hj
  exact ⟨h1, h2, Rc.Own.touch h3 ht fun g hg => own_notP h3 ho hg⟩
end Go.Proofs.YtamfcmmhmfhhkaaGreatDoor

namespace Go.Proofs.YtamfcmmhmfhhkaaGreatDoor
open Go.RowKit

/-- What Keys answers: each key's panes in a row of its own, apart from each other. -/
def RetK (w : World) (e : Ending) (w' : World) (L : List Pn) : Prop := ∃ a c P, e = .returned (.slice a P.length c) ∧ P.length = (keysP L).length ∧ encG.Own 32 w' w.heap.size (.slice a P.length c) P ∧ KpIn w' w.heap.size L (keysP L) P ∧
  (∀ i j, i < j → j < P.length → ∀ g, (Value.slice (P.getD i kp0).o (P.getD i kp0).n (P.getD i kp0).c).ownBlock = some g → ¬ (Value.slice (P.getD j kp0).o (P.getD j kp0).n (P.getD j kp0).c).ownBlock = some g) ∧ Calm w w'
/-- Keys that can be copied. -/
abbrev KeyB (L : List Pn) : Prop := ∀ p ∈ L, p.k.size ≤ 140737488351232
structure Ppl : Prop extends Ppk where
  keys : ∀ (L : List Pn) (ao : Option Addr) (ac : Nat) (w : World), encP.Sl w ao ac L → L.length ≤ 1000 → KeyB L → Calls Tryz.prog 7 #[.slice ao L.length ac] w fun e w' => RetK w e w' L
  of : ∀ (L : List Pn) (k : ByteArray) (ao : Option Addr) (ac : Nat) (w : World), encP.Sl w ao ac L → L.length ≤ 1000 → KeyB L → Calls Tryz.prog 9 #[.slice ao L.length ac, .string k] w fun e w' => RetP w e w' (ofP L k)
  last : ∀ (L : List Pn) (ao : Option Addr) (ac : Nat) (w : World), encP.Sl w ao ac L → L.length ≤ 1000 → KeyB L → Calls Tryz.prog 8 #[.slice ao L.length ac] w fun e w' => RetP w e w' (lastP L)

end Go.Proofs.YtamfcmmhmfhhkaaGreatDoor
