/- keys: of all panes, rising, each once (the document's; the walk). Keys: each key and its panes (the document's). Keys: each key and its panes (the document's; the walk). Two lists of keys' panes that are the same are told to be so (the document's). -/
import Derived.Test.YtamfcmmhmfhhkaaGreatDoorG4
import Derived.Test.YtamfcmmhmfhhkaaGreatDoorG5
import Derived.Great.BuildSlice
namespace Go.Proofs.YtamfcmmhmfhhkaaGreatDoor
open Go.RowKit

set_option maxRecDepth 100000 in
set_option maxHeartbeats 4000000 in
theorem rkeys_any (L : List Pn) (ao : Option Addr) (ac : Nat) (w : World) (ha : encP.Mem w ao L) (hl : L.length ≤ 1000000000) : Calls Tryz.prog 28 #[.slice ao L.length ac] w fun e w' => ∃ a c, e = .returned (.slice a (keysP L).length c) ∧ encZ.Own 9 w' w.heap.size (.slice a (keysP L).length c) (keysP L) ∧ Calm w w' := by
  obtain ⟨x, hx⟩ : ∃ x : Nat → Pn, ∀ i, x i = L.getD i pn0 := ⟨fun i => L.getD i pn0, fun _ => rfl⟩
  have SA : Hid (∀ j, j < L.length → ∃ g off, ao = some ⟨g, off, none⟩ ∧ ∀ W, Calm w W → pcell W g (off + j * 9) (x j)) := hide fun j hj => by
    rw [hx]; exact pn_W ha j hj
  obtain ⟨o, ho⟩ : ∃ o : Nat → List ByteArray, ∀ i, o i = keysP (L.take i) := ⟨fun i => keysP (L.take i), fun _ => rfl⟩
  have O0 : Hid (o 0 = []) := hide (by rw [ho]; rfl)
  have OS : Hid (∀ i, i < L.length → o (i + 1) = putK (o i) (x i).k) := hide fun i hi => by
    rw [ho, ho, hx]; exact keysP_succ hi
  have OL : Hid (∀ i, i ≤ L.length → (o i).length ≤ i) := hide fun i hi => by
    rw [ho]; exact keysP_len L i hi
  have OE : Hid (o L.length = keysP L) := hide (by rw [ho, List.take_length])
  clear ha hx ho
  generalize keysP L = Z at *
  generalize L.length = n at *
  go_enter Tryz.func28, Tryz.ntmps28
  go_wp2_with fail
  go_loopw [3, 4] (fun s3 s4 wr => ∃ (i : Nat) (a : Option Addr) (c : Nat), s4 = .int .i64 (i : Int) ∧ i ≤ n ∧ s3 = .slice a (o i).length c ∧ encZ.Own 9 wr w.heap.size (.slice a (o i).length c) (o i) ∧ Calm w wr) (fun _ s4 _ => n - (intOf s4).toNat)
  case atStart => exact ⟨0, none, 0, rfl, by omega, by rw [O0.out]; rfl, by rw [O0.out]; exact Rc.Own.nil _ _ _, Touch.refl _ _⟩
  case round =>
    obtain ⟨i, a, c, rfl, hi, rfl, OW, TE⟩ := hrel
    generalize wr = w1 at *
    by_cases hlt : i < n
    · have hltz : (i : Int) < (n : Int) := by omega
      obtain ⟨ga, oa, rfl, ca⟩ := SA.out i hlt
      have hs := hide (OS.out i hlt)
      have hll := hide (OL.out i hi)
      have KA : Hid (∀ W, Calm w1 W → W.cell? ⟨ga, oa + i * 9, none⟩ = some (.string (x i).k)) := hide fun W hW => (ca W (TE.tr hW)).1.1
      have HO := hide OW
      have HT := hide TE
      have SO : Hid (∀ j, j < (o i).length → ∃ g off, a = some ⟨g, off, none⟩ ∧ ∀ W, Calm w1 W → W.cell? ⟨g, off + j, none⟩ = some (.string ((o i).getD j ⟨#[]⟩))) := hide fun j hj => st_W (Rc.Own.mem OW).2.1 j hj
      have HL := hide (leadK_eq (o i) (x i).k)
      generalize (x i).k = key at *
      generalize hO : o i = O at *
      have hOb : O.length ≤ 1000000000 := by have := hll.out; omega
      have HOn := hide hO
      clear SA OS OL O0 ca OW TE hO
      go_wp2_with fail
      go_loopw [5] (fun s5 wq => ∃ j : Nat, s5 = .int .i64 (j : Int) ∧ j ≤ O.length ∧ (∀ t, t < j → kLt (O.getD t ⟨#[]⟩) key = true) ∧ Calm w1 wq) (fun s5 _ => O.length - (intOf s5).toNat)
      case atStart => exact ⟨0, rfl, by omega, fun t ht => by omega, Touch.refl _ _⟩
      case round =>
        obtain ⟨j, rfl, hj, hA, TQ⟩ := hrel
        by_cases hjl : j < O.length
        · have hjz : (j : Int) < (O.length : Int) := by omega
          obtain ⟨gb, ob, rfl, cb⟩ := SO.out j hjl
          have KB := hide cb
          have HQ := hide TQ
          have HA := hide hA
          have HL1 : Hid (kLt (O.getD j ⟨#[]⟩) key = false → leadK O key = j) := hide fun h => HL.out j hj hA (fun _ => h)
          have HA1 : Hid (kLt (O.getD j ⟨#[]⟩) key = true → ∀ t, t < j + 1 → kLt (O.getD t ⟨#[]⟩) key = true) := hide fun h t ht => by
            rcases Nat.lt_or_ge t j with h3 | h3
            · exact hA t h3
            · obtain rfl : t = j := by omega
              exact h
          have HG : Hid (∀ y, O.getD j ⟨#[]⟩ = y → O.getD j ⟨#[]⟩ = y) := hide fun _ h => h
          generalize hy : O.getD j ⟨#[]⟩ = y at *
          have HY := hide hy
          generalize hb : kLt y key = lt at *
          have HB := hide hb
          clear cb TQ hA hy hb HG SO
          go_wp2_with fail
          refine wp_region_held (S := Calm w1) (by kernel_rfl) ?_
          have hT0 : Calm w1 { wr with drawn := wr.drawn + 1 } := HQ.out.drew
          refine wpAnyH_yield 0 13 (.int .i64 (j : Int)) rfl rfl (by kernel_rfl) (by kernel_rfl) (by kernel_rfl) (fun _ _ _ h => h) (by kernel_rfl) (fun W hW => by kernel_rfl) (by assumption) rfl rfl ?_
          simp only [Act.put, List.setIfInBounds_toArray, List.set_cons_zero, List.set_cons_succ]
          refine wpAnyH_yield 1 14 (.slice (some ⟨gb, ob, none⟩) O.length c) rfl rfl (by kernel_rfl) (by kernel_rfl) (by kernel_rfl) (fun _ _ _ h => h) (by kernel_rfl) (fun W hW => by kernel_rfl) (by assumption) rfl rfl ?_
          simp only [Act.put, List.setIfInBounds_toArray, List.set_cons_zero, List.set_cons_succ]
          refine wpAnyH_yield 2 15 (.int .i64 (O.length : Int)) rfl rfl (by kernel_rfl) (by kernel_rfl) (by kernel_rfl) (fun _ _ _ h => h) (by kernel_rfl) (fun W hW => by go_simp) (by assumption) rfl rfl ?_
          simp only [Act.put, List.setIfInBounds_toArray, List.set_cons_zero, List.set_cons_succ]
          refine wpAnyH_yield 3 16 (.bool true) rfl rfl (by kernel_rfl) (by kernel_rfl) (by kernel_rfl) (fun _ _ _ h => h) (by kernel_rfl) (fun W hW => by go_simp) (by assumption) rfl rfl ?_
          simp only [Act.put, List.setIfInBounds_toArray, List.set_cons_zero, List.set_cons_succ]
          refine wpAnyH_yield 4 17 (.bool true) rfl rfl (by kernel_rfl) (by kernel_rfl) (by kernel_rfl) (fun _ _ _ h => h) (by kernel_rfl) (fun W hW => by kernel_rfl) (by assumption) rfl rfl ?_
          simp only [Act.put, List.setIfInBounds_toArray, List.set_cons_zero, List.set_cons_succ]
          refine wpAnyH_yield 5 18 (.slice (some ⟨gb, ob, none⟩) O.length c) rfl rfl (by kernel_rfl) (by kernel_rfl) (by kernel_rfl) (fun _ _ _ h => h) (by kernel_rfl) (fun W hW => by kernel_rfl) (by assumption) rfl rfl ?_
          simp only [Act.put, List.setIfInBounds_toArray, List.set_cons_zero, List.set_cons_succ]
          refine wpAnyH_yield 6 19 (.int .i64 (j : Int)) rfl rfl (by kernel_rfl) (by kernel_rfl) (by kernel_rfl) (fun _ _ _ h => h) (by kernel_rfl) (fun W hW => by kernel_rfl) (by assumption) rfl rfl ?_
          simp only [Act.put, List.setIfInBounds_toArray, List.set_cons_zero, List.set_cons_succ]
          refine wpAnyH_yield 7 20 (.pointer (some ⟨gb, ob + j, none⟩)) rfl rfl (by kernel_rfl) (by kernel_rfl) (by kernel_rfl) (fun _ _ _ h => h) (by kernel_rfl) (fun W hW => by go_simp) (by assumption) rfl rfl ?_
          simp only [Act.put, List.setIfInBounds_toArray, List.set_cons_zero, List.set_cons_succ]
          refine wpAnyH_yield 8 21 (.string y) rfl rfl (by kernel_rfl) (by kernel_rfl) (by kernel_rfl) (fun _ _ _ h => h) (by kernel_rfl) (fun W hW => by have c0 := KB.out W hW; go_simp) (by assumption) rfl rfl ?_
          simp only [Act.put, List.setIfInBounds_toArray, List.set_cons_zero, List.set_cons_succ]
          refine wpAnyH_yield 9 22 (.slice (some ⟨ga, oa, none⟩) n ac) rfl rfl (by kernel_rfl) (by kernel_rfl) (by kernel_rfl) (fun _ _ _ h => h) (by kernel_rfl) (fun W hW => by kernel_rfl) (by assumption) rfl rfl ?_
          simp only [Act.put, List.setIfInBounds_toArray, List.set_cons_zero, List.set_cons_succ]
          refine wpAnyH_yield 10 23 (.int .i64 (i : Int)) rfl rfl (by kernel_rfl) (by kernel_rfl) (by kernel_rfl) (fun _ _ _ h => h) (by kernel_rfl) (fun W hW => by kernel_rfl) (by assumption) rfl rfl ?_
          simp only [Act.put, List.setIfInBounds_toArray, List.set_cons_zero, List.set_cons_succ]
          refine wpAnyH_yield 11 24 (.pointer (some ⟨ga, oa + i * 9, none⟩)) rfl rfl (by kernel_rfl) (by kernel_rfl) (by kernel_rfl) (fun _ _ _ h => h) (by kernel_rfl) (fun W hW => by go_simp) (by assumption) rfl rfl ?_
          simp only [Act.put, List.setIfInBounds_toArray, List.set_cons_zero, List.set_cons_succ]
          refine wpAnyH_yield 12 25 (.pointer (some ⟨ga, oa + i * 9, none⟩)) rfl rfl (by kernel_rfl) (by kernel_rfl) (by kernel_rfl) (fun _ _ _ h => h) (by kernel_rfl) (fun W hW => by go_simp) (by assumption) rfl rfl ?_
          simp only [Act.put, List.setIfInBounds_toArray, List.set_cons_zero, List.set_cons_succ]
          refine wpAnyH_yield 13 26 (.string key) rfl rfl (by kernel_rfl) (by kernel_rfl) (by kernel_rfl) (fun _ _ _ h => h) (by kernel_rfl) (fun W hW => by have c0 := KA.out W hW; go_simp) (by assumption) rfl rfl ?_
          simp only [Act.put, List.setIfInBounds_toArray, List.set_cons_zero, List.set_cons_succ]
          refine wpAnyH_yield 14 27 (.bool lt) rfl rfl (by kernel_rfl) (by kernel_rfl) (by kernel_rfl) (fun _ _ _ h => h) (by kernel_rfl) (fun W hW => by go_simp; exact HB.out) (by assumption) rfl rfl ?_
          simp only [Act.put, List.setIfInBounds_toArray, List.set_cons_zero, List.set_cons_succ]
          refine wpAnyH_yield 15 28 (.bool lt) rfl rfl (by kernel_rfl) (by kernel_rfl) (by kernel_rfl) (fun _ _ _ h => h) (by kernel_rfl) (fun W hW => by kernel_rfl) (by assumption) rfl rfl ?_
          simp only [Act.put, List.setIfInBounds_toArray, List.set_cons_zero, List.set_cons_succ]
          refine wpAnyH_done (by kernel_rfl) ?_ _
          have H1 := hide hT0
          clear hT0 HQ
          cases lt with
          | true =>
            have HA2 := hide (HA1.out rfl)
            clear HA HA1 HL1 HB HY KB
            go_wp2_with fail
            go_roundw
            case rel => exact ⟨j + 1, by go_num, by omega, HA2.out, H1.out⟩
            case measure => simp [intOf]; omega
          | false =>
            have E0 := hide (HL1.out rfl)
            clear HA HA1 HL1 HB
            generalize ({ wr with drawn := wr.drawn + 1 } : World) = w2 at *
            by_cases hyk : y = key
            · have EQ : Hid (o (i + 1) = O) := hide (by rw [hs.out]; unfold putK; rw [if_pos (by rw [E0.out, HY.out]; exact ⟨hjl, hyk⟩)])
              subst hyk
              go_wp2_with fail
              refine wp_region_held (S := Calm w1) (by kernel_rfl) ?_
              have hT1 : Calm w1 { w2 with drawn := w2.drawn + 1 } := H1.out.drew
              refine wpAnyH_yield 0 31 (.int .i64 (j : Int)) rfl rfl (by kernel_rfl) (by kernel_rfl) (by kernel_rfl) (fun _ _ _ h => h) (by kernel_rfl) (fun W hW => by kernel_rfl) (by assumption) rfl rfl ?_
              simp only [Act.put, List.setIfInBounds_toArray, List.set_cons_zero, List.set_cons_succ]
              refine wpAnyH_yield 1 32 (.slice (some ⟨gb, ob, none⟩) O.length c) rfl rfl (by kernel_rfl) (by kernel_rfl) (by kernel_rfl) (fun _ _ _ h => h) (by kernel_rfl) (fun W hW => by kernel_rfl) (by assumption) rfl rfl ?_
              simp only [Act.put, List.setIfInBounds_toArray, List.set_cons_zero, List.set_cons_succ]
              refine wpAnyH_yield 2 33 (.int .i64 (O.length : Int)) rfl rfl (by kernel_rfl) (by kernel_rfl) (by kernel_rfl) (fun _ _ _ h => h) (by kernel_rfl) (fun W hW => by go_simp) (by assumption) rfl rfl ?_
              simp only [Act.put, List.setIfInBounds_toArray, List.set_cons_zero, List.set_cons_succ]
              refine wpAnyH_yield 3 34 (.bool true) rfl rfl (by kernel_rfl) (by kernel_rfl) (by kernel_rfl) (fun _ _ _ h => h) (by kernel_rfl) (fun W hW => by go_simp) (by assumption) rfl rfl ?_
              simp only [Act.put, List.setIfInBounds_toArray, List.set_cons_zero, List.set_cons_succ]
              refine wpAnyH_yield 4 35 (.bool true) rfl rfl (by kernel_rfl) (by kernel_rfl) (by kernel_rfl) (fun _ _ _ h => h) (by kernel_rfl) (fun W hW => by kernel_rfl) (by assumption) rfl rfl ?_
              simp only [Act.put, List.setIfInBounds_toArray, List.set_cons_zero, List.set_cons_succ]
              refine wpAnyH_yield 5 36 (.slice (some ⟨gb, ob, none⟩) O.length c) rfl rfl (by kernel_rfl) (by kernel_rfl) (by kernel_rfl) (fun _ _ _ h => h) (by kernel_rfl) (fun W hW => by kernel_rfl) (by assumption) rfl rfl ?_
              simp only [Act.put, List.setIfInBounds_toArray, List.set_cons_zero, List.set_cons_succ]
              refine wpAnyH_yield 6 37 (.int .i64 (j : Int)) rfl rfl (by kernel_rfl) (by kernel_rfl) (by kernel_rfl) (fun _ _ _ h => h) (by kernel_rfl) (fun W hW => by kernel_rfl) (by assumption) rfl rfl ?_
              simp only [Act.put, List.setIfInBounds_toArray, List.set_cons_zero, List.set_cons_succ]
              refine wpAnyH_yield 7 38 (.pointer (some ⟨gb, ob + j, none⟩)) rfl rfl (by kernel_rfl) (by kernel_rfl) (by kernel_rfl) (fun _ _ _ h => h) (by kernel_rfl) (fun W hW => by go_simp) (by assumption) rfl rfl ?_
              simp only [Act.put, List.setIfInBounds_toArray, List.set_cons_zero, List.set_cons_succ]
              refine wpAnyH_yield 8 39 (.string y) rfl rfl (by kernel_rfl) (by kernel_rfl) (by kernel_rfl) (fun _ _ _ h => h) (by kernel_rfl) (fun W hW => by have c0 := KB.out W hW; go_simp) (by assumption) rfl rfl ?_
              simp only [Act.put, List.setIfInBounds_toArray, List.set_cons_zero, List.set_cons_succ]
              refine wpAnyH_yield 9 40 (.slice (some ⟨ga, oa, none⟩) n ac) rfl rfl (by kernel_rfl) (by kernel_rfl) (by kernel_rfl) (fun _ _ _ h => h) (by kernel_rfl) (fun W hW => by kernel_rfl) (by assumption) rfl rfl ?_
              simp only [Act.put, List.setIfInBounds_toArray, List.set_cons_zero, List.set_cons_succ]
              refine wpAnyH_yield 10 41 (.int .i64 (i : Int)) rfl rfl (by kernel_rfl) (by kernel_rfl) (by kernel_rfl) (fun _ _ _ h => h) (by kernel_rfl) (fun W hW => by kernel_rfl) (by assumption) rfl rfl ?_
              simp only [Act.put, List.setIfInBounds_toArray, List.set_cons_zero, List.set_cons_succ]
              refine wpAnyH_yield 11 42 (.pointer (some ⟨ga, oa + i * 9, none⟩)) rfl rfl (by kernel_rfl) (by kernel_rfl) (by kernel_rfl) (fun _ _ _ h => h) (by kernel_rfl) (fun W hW => by go_simp) (by assumption) rfl rfl ?_
              simp only [Act.put, List.setIfInBounds_toArray, List.set_cons_zero, List.set_cons_succ]
              refine wpAnyH_yield 12 43 (.pointer (some ⟨ga, oa + i * 9, none⟩)) rfl rfl (by kernel_rfl) (by kernel_rfl) (by kernel_rfl) (fun _ _ _ h => h) (by kernel_rfl) (fun W hW => by go_simp) (by assumption) rfl rfl ?_
              simp only [Act.put, List.setIfInBounds_toArray, List.set_cons_zero, List.set_cons_succ]
              refine wpAnyH_yield 13 44 (.string y) rfl rfl (by kernel_rfl) (by kernel_rfl) (by kernel_rfl) (fun _ _ _ h => h) (by kernel_rfl) (fun W hW => by have c0 := KA.out W hW; go_simp) (by assumption) rfl rfl ?_
              simp only [Act.put, List.setIfInBounds_toArray, List.set_cons_zero, List.set_cons_succ]
              refine wpAnyH_yield 14 45 (.bool true) rfl rfl (by kernel_rfl) (by kernel_rfl) (by kernel_rfl) (fun _ _ _ h => h) (by kernel_rfl) (fun W hW => by go_simp) (by assumption) rfl rfl ?_
              simp only [Act.put, List.setIfInBounds_toArray, List.set_cons_zero, List.set_cons_succ]
              refine wpAnyH_yield 15 46 (.bool true) rfl rfl (by kernel_rfl) (by kernel_rfl) (by kernel_rfl) (fun _ _ _ h => h) (by kernel_rfl) (fun W hW => by kernel_rfl) (by assumption) rfl rfl ?_
              simp only [Act.put, List.setIfInBounds_toArray, List.set_cons_zero, List.set_cons_succ]
              refine wpAnyH_done (by kernel_rfl) ?_ _
              have HOW := hide (Rc.Own.calm HO.out hT1)
              have HTW := hide (HT.out.tr hT1)
              clear hT1 H1 HO HT KA KB HY hs hll
              go_wp2_with fail
              go_roundw
              case rel => exact ⟨i + 1, _, c, by go_num, by omega, by rw [EQ.out], by rw [EQ.out]; exact HOW.out, HTW.out⟩
              case measure => simp [intOf]; omega
            · have EP : Hid (putK O key = O.take j ++ [key] ++ O.drop j) := hide (by unfold putK; rw [if_neg (by rw [E0.out, HY.out]; exact fun h => hyk h.2), E0.out])
              have hkk : Hid ((y.toList == key.toList) = false) := hide (by rw [ba_beq, decide_eq_false hyk])
              go_wp2_with fail
              refine wp_region_held (S := Calm w1) (by kernel_rfl) ?_
              have hT1 : Calm w1 { w2 with drawn := w2.drawn + 1 } := H1.out.drew
              refine wpAnyH_yield 0 31 (.int .i64 (j : Int)) rfl rfl (by kernel_rfl) (by kernel_rfl) (by kernel_rfl) (fun _ _ _ h => h) (by kernel_rfl) (fun W hW => by kernel_rfl) (by assumption) rfl rfl ?_
              simp only [Act.put, List.setIfInBounds_toArray, List.set_cons_zero, List.set_cons_succ]
              refine wpAnyH_yield 1 32 (.slice (some ⟨gb, ob, none⟩) O.length c) rfl rfl (by kernel_rfl) (by kernel_rfl) (by kernel_rfl) (fun _ _ _ h => h) (by kernel_rfl) (fun W hW => by kernel_rfl) (by assumption) rfl rfl ?_
              simp only [Act.put, List.setIfInBounds_toArray, List.set_cons_zero, List.set_cons_succ]
              refine wpAnyH_yield 2 33 (.int .i64 (O.length : Int)) rfl rfl (by kernel_rfl) (by kernel_rfl) (by kernel_rfl) (fun _ _ _ h => h) (by kernel_rfl) (fun W hW => by go_simp) (by assumption) rfl rfl ?_
              simp only [Act.put, List.setIfInBounds_toArray, List.set_cons_zero, List.set_cons_succ]
              refine wpAnyH_yield 3 34 (.bool true) rfl rfl (by kernel_rfl) (by kernel_rfl) (by kernel_rfl) (fun _ _ _ h => h) (by kernel_rfl) (fun W hW => by go_simp) (by assumption) rfl rfl ?_
              simp only [Act.put, List.setIfInBounds_toArray, List.set_cons_zero, List.set_cons_succ]
              refine wpAnyH_yield 4 35 (.bool true) rfl rfl (by kernel_rfl) (by kernel_rfl) (by kernel_rfl) (fun _ _ _ h => h) (by kernel_rfl) (fun W hW => by kernel_rfl) (by assumption) rfl rfl ?_
              simp only [Act.put, List.setIfInBounds_toArray, List.set_cons_zero, List.set_cons_succ]
              refine wpAnyH_yield 5 36 (.slice (some ⟨gb, ob, none⟩) O.length c) rfl rfl (by kernel_rfl) (by kernel_rfl) (by kernel_rfl) (fun _ _ _ h => h) (by kernel_rfl) (fun W hW => by kernel_rfl) (by assumption) rfl rfl ?_
              simp only [Act.put, List.setIfInBounds_toArray, List.set_cons_zero, List.set_cons_succ]
              refine wpAnyH_yield 6 37 (.int .i64 (j : Int)) rfl rfl (by kernel_rfl) (by kernel_rfl) (by kernel_rfl) (fun _ _ _ h => h) (by kernel_rfl) (fun W hW => by kernel_rfl) (by assumption) rfl rfl ?_
              simp only [Act.put, List.setIfInBounds_toArray, List.set_cons_zero, List.set_cons_succ]
              refine wpAnyH_yield 7 38 (.pointer (some ⟨gb, ob + j, none⟩)) rfl rfl (by kernel_rfl) (by kernel_rfl) (by kernel_rfl) (fun _ _ _ h => h) (by kernel_rfl) (fun W hW => by go_simp) (by assumption) rfl rfl ?_
              simp only [Act.put, List.setIfInBounds_toArray, List.set_cons_zero, List.set_cons_succ]
              refine wpAnyH_yield 8 39 (.string y) rfl rfl (by kernel_rfl) (by kernel_rfl) (by kernel_rfl) (fun _ _ _ h => h) (by kernel_rfl) (fun W hW => by have c0 := KB.out W hW; go_simp) (by assumption) rfl rfl ?_
              simp only [Act.put, List.setIfInBounds_toArray, List.set_cons_zero, List.set_cons_succ]
              refine wpAnyH_yield 9 40 (.slice (some ⟨ga, oa, none⟩) n ac) rfl rfl (by kernel_rfl) (by kernel_rfl) (by kernel_rfl) (fun _ _ _ h => h) (by kernel_rfl) (fun W hW => by kernel_rfl) (by assumption) rfl rfl ?_
              simp only [Act.put, List.setIfInBounds_toArray, List.set_cons_zero, List.set_cons_succ]
              refine wpAnyH_yield 10 41 (.int .i64 (i : Int)) rfl rfl (by kernel_rfl) (by kernel_rfl) (by kernel_rfl) (fun _ _ _ h => h) (by kernel_rfl) (fun W hW => by kernel_rfl) (by assumption) rfl rfl ?_
              simp only [Act.put, List.setIfInBounds_toArray, List.set_cons_zero, List.set_cons_succ]
              refine wpAnyH_yield 11 42 (.pointer (some ⟨ga, oa + i * 9, none⟩)) rfl rfl (by kernel_rfl) (by kernel_rfl) (by kernel_rfl) (fun _ _ _ h => h) (by kernel_rfl) (fun W hW => by go_simp) (by assumption) rfl rfl ?_
              simp only [Act.put, List.setIfInBounds_toArray, List.set_cons_zero, List.set_cons_succ]
              refine wpAnyH_yield 12 43 (.pointer (some ⟨ga, oa + i * 9, none⟩)) rfl rfl (by kernel_rfl) (by kernel_rfl) (by kernel_rfl) (fun _ _ _ h => h) (by kernel_rfl) (fun W hW => by go_simp) (by assumption) rfl rfl ?_
              simp only [Act.put, List.setIfInBounds_toArray, List.set_cons_zero, List.set_cons_succ]
              refine wpAnyH_yield 13 44 (.string key) rfl rfl (by kernel_rfl) (by kernel_rfl) (by kernel_rfl) (fun _ _ _ h => h) (by kernel_rfl) (fun W hW => by have c0 := KA.out W hW; go_simp) (by assumption) rfl rfl ?_
              simp only [Act.put, List.setIfInBounds_toArray, List.set_cons_zero, List.set_cons_succ]
              refine wpAnyH_yield 14 45 (.bool false) rfl rfl (by kernel_rfl) (by kernel_rfl) (by kernel_rfl) (fun _ _ _ h => h) (by kernel_rfl) (fun W hW => by have hk2 := hkk.out; go_simp) (by assumption) rfl rfl ?_
              simp only [Act.put, List.setIfInBounds_toArray, List.set_cons_zero, List.set_cons_succ]
              refine wpAnyH_yield 15 46 (.bool false) rfl rfl (by kernel_rfl) (by kernel_rfl) (by kernel_rfl) (fun _ _ _ h => h) (by kernel_rfl) (fun W hW => by kernel_rfl) (by assumption) rfl rfl ?_
              simp only [Act.put, List.setIfInBounds_toArray, List.set_cons_zero, List.set_cons_succ]
              refine wpAnyH_done (by kernel_rfl) ?_ _
              clear H1 KB HY hkk
              have e1 : Hid (o (i + 1) = O.take j ++ [key] ++ O.drop j) := hide (by rw [hs.out, EP.out])
              have e2 : Hid ((o (i + 1)).length = O.length + 1) := hide (by rw [e1.out]; simp only [List.length_append, List.length_take, List.length_drop, List.length_cons, List.length_nil]; omega)
              generalize ({ w2 with drawn := w2.drawn + 1 } : World) = w3 at *
              obtain ⟨so1, sc1, so2, sc2, a1, p1, w4, a2, p2, w5, a3, p3, w6, hs1, hs2, hr1, hr2, hr3, ow, C3, C5⟩ := st_put key (Rc.Own.calm HO.out hT1) j hj (by have := hll.out; omega)
              have cK := KA.out w4 (hT1.tr C3)
              have HOW := hide (Rc.Own.base ow (HT.out.tr hT1).size)
              have HTW := hide ((HT.out.tr hT1).tr C5)
              clear ow C3 C5 hT1 HO HT hll hs HL EP
              go_wp2_with (at_builtin; first | refine Rc.wpList_appR rfl (.tmp 47) (.tmp 50) 58 58 rfl _ _ _ rfl rfl hr1 ?_ | refine Rc.wpList_appR rfl (.tmp 52) (.tmp 58) 58 58 rfl _ _ _ rfl rfl hr2 ?_ | refine Rc.wpList_appR rfl (.tmp 60) (.tmp 63) 58 58 rfl _ _ _ rfl rfl hr3 ?_)
              go_roundw
              case rel => exact ⟨i + 1, a3, p3, by go_num, by omega, by rw [e2.out], by rw [e2.out, e1.out]; exact HOW.out, HTW.out⟩
              case measure => simp [intOf]; omega
        · have hjz : ¬ (j : Int) < (O.length : Int) := by omega
          have E0 := hide (HL.out j hj hA (fun h => absurd h hjl))
          have EP : Hid (putK O key = O.take j ++ [key] ++ O.drop j) := hide (by unfold putK; rw [if_neg (by rw [E0.out]; exact fun h => hjl h.1), E0.out])
          have HQ := hide TQ
          clear TQ hA SO
          go_wp2_with fail
          refine wp_region_held (S := Calm w1) (by kernel_rfl) ?_
          have hT0 : Calm w1 { wr with drawn := wr.drawn + 1 } := HQ.out.drew
          refine wpAnyH_yield 0 13 (.int .i64 (j : Int)) rfl rfl (by kernel_rfl) (by kernel_rfl) (by kernel_rfl) (fun _ _ _ h => h) (by kernel_rfl) (fun W hW => by kernel_rfl) (by assumption) rfl rfl ?_
          simp only [Act.put, List.setIfInBounds_toArray, List.set_cons_zero, List.set_cons_succ]
          refine wpAnyH_yield 1 14 (.slice a O.length c) rfl rfl (by kernel_rfl) (by kernel_rfl) (by kernel_rfl) (fun _ _ _ h => h) (by kernel_rfl) (fun W hW => by kernel_rfl) (by assumption) rfl rfl ?_
          simp only [Act.put, List.setIfInBounds_toArray, List.set_cons_zero, List.set_cons_succ]
          refine wpAnyH_yield 2 15 (.int .i64 (O.length : Int)) rfl rfl (by kernel_rfl) (by kernel_rfl) (by kernel_rfl) (fun _ _ _ h => h) (by kernel_rfl) (fun W hW => by go_simp) (by assumption) rfl rfl ?_
          simp only [Act.put, List.setIfInBounds_toArray, List.set_cons_zero, List.set_cons_succ]
          refine wpAnyH_yield 3 16 (.bool false) rfl rfl (by kernel_rfl) (by kernel_rfl) (by kernel_rfl) (fun _ _ _ h => h) (by kernel_rfl) (fun W hW => by go_simp) (by assumption) rfl rfl ?_
          simp only [Act.put, List.setIfInBounds_toArray, List.set_cons_zero, List.set_cons_succ]
          refine wpAnyH_yield 4 17 (.bool false) rfl rfl (by kernel_rfl) (by kernel_rfl) (by kernel_rfl) (fun _ _ _ h => h) (by kernel_rfl) (fun W hW => by kernel_rfl) (by assumption) rfl rfl ?_
          simp only [Act.put, List.setIfInBounds_toArray, List.set_cons_zero, List.set_cons_succ]
          refine wpAnyH_skip 5 18 rfl rfl (by kernel_rfl) (by kernel_rfl) (by kernel_rfl) (fun _ _ _ h => h) (by kernel_rfl) (by assumption) rfl rfl ?_
          simp only [Act.put, List.setIfInBounds_toArray, List.set_cons_zero, List.set_cons_succ]
          refine wpAnyH_skip 6 19 rfl rfl (by kernel_rfl) (by kernel_rfl) (by kernel_rfl) (fun _ _ _ h => h) (by kernel_rfl) (by assumption) rfl rfl ?_
          simp only [Act.put, List.setIfInBounds_toArray, List.set_cons_zero, List.set_cons_succ]
          refine wpAnyH_skip 7 20 rfl rfl (by kernel_rfl) (by kernel_rfl) (by kernel_rfl) (fun _ _ _ h => h) (by kernel_rfl) (by assumption) rfl rfl ?_
          simp only [Act.put, List.setIfInBounds_toArray, List.set_cons_zero, List.set_cons_succ]
          refine wpAnyH_skip 8 21 rfl rfl (by kernel_rfl) (by kernel_rfl) (by kernel_rfl) (fun _ _ _ h => h) (by kernel_rfl) (by assumption) rfl rfl ?_
          simp only [Act.put, List.setIfInBounds_toArray, List.set_cons_zero, List.set_cons_succ]
          refine wpAnyH_skip 9 22 rfl rfl (by kernel_rfl) (by kernel_rfl) (by kernel_rfl) (fun _ _ _ h => h) (by kernel_rfl) (by assumption) rfl rfl ?_
          simp only [Act.put, List.setIfInBounds_toArray, List.set_cons_zero, List.set_cons_succ]
          refine wpAnyH_skip 10 23 rfl rfl (by kernel_rfl) (by kernel_rfl) (by kernel_rfl) (fun _ _ _ h => h) (by kernel_rfl) (by assumption) rfl rfl ?_
          simp only [Act.put, List.setIfInBounds_toArray, List.set_cons_zero, List.set_cons_succ]
          refine wpAnyH_skip 11 24 rfl rfl (by kernel_rfl) (by kernel_rfl) (by kernel_rfl) (fun _ _ _ h => h) (by kernel_rfl) (by assumption) rfl rfl ?_
          simp only [Act.put, List.setIfInBounds_toArray, List.set_cons_zero, List.set_cons_succ]
          refine wpAnyH_skip 12 25 rfl rfl (by kernel_rfl) (by kernel_rfl) (by kernel_rfl) (fun _ _ _ h => h) (by kernel_rfl) (by assumption) rfl rfl ?_
          simp only [Act.put, List.setIfInBounds_toArray, List.set_cons_zero, List.set_cons_succ]
          refine wpAnyH_skip 13 26 rfl rfl (by kernel_rfl) (by kernel_rfl) (by kernel_rfl) (fun _ _ _ h => h) (by kernel_rfl) (by assumption) rfl rfl ?_
          simp only [Act.put, List.setIfInBounds_toArray, List.set_cons_zero, List.set_cons_succ]
          refine wpAnyH_skip 14 27 rfl rfl (by kernel_rfl) (by kernel_rfl) (by kernel_rfl) (fun _ _ _ h => h) (by kernel_rfl) (by assumption) rfl rfl ?_
          simp only [Act.put, List.setIfInBounds_toArray, List.set_cons_zero, List.set_cons_succ]
          refine wpAnyH_yield 15 28 (.bool false) rfl rfl (by kernel_rfl) (by kernel_rfl) (by kernel_rfl) (fun _ _ _ h => h) (by kernel_rfl) (fun W hW => by kernel_rfl) (by assumption) rfl rfl ?_
          simp only [Act.put, List.setIfInBounds_toArray, List.set_cons_zero, List.set_cons_succ]
          refine wpAnyH_done (by kernel_rfl) ?_ _
          have H1 := hide hT0
          clear hT0 HQ
          generalize ({ wr with drawn := wr.drawn + 1 } : World) = w2 at *
          go_wp2_with fail
          refine wp_region_held (S := Calm w1) (by kernel_rfl) ?_
          have hT1 : Calm w1 { w2 with drawn := w2.drawn + 1 } := H1.out.drew
          refine wpAnyH_yield 0 31 (.int .i64 (j : Int)) rfl rfl (by kernel_rfl) (by kernel_rfl) (by kernel_rfl) (fun _ _ _ h => h) (by kernel_rfl) (fun W hW => by kernel_rfl) (by assumption) rfl rfl ?_
          simp only [Act.put, List.setIfInBounds_toArray, List.set_cons_zero, List.set_cons_succ]
          refine wpAnyH_yield 1 32 (.slice a O.length c) rfl rfl (by kernel_rfl) (by kernel_rfl) (by kernel_rfl) (fun _ _ _ h => h) (by kernel_rfl) (fun W hW => by kernel_rfl) (by assumption) rfl rfl ?_
          simp only [Act.put, List.setIfInBounds_toArray, List.set_cons_zero, List.set_cons_succ]
          refine wpAnyH_yield 2 33 (.int .i64 (O.length : Int)) rfl rfl (by kernel_rfl) (by kernel_rfl) (by kernel_rfl) (fun _ _ _ h => h) (by kernel_rfl) (fun W hW => by go_simp) (by assumption) rfl rfl ?_
          simp only [Act.put, List.setIfInBounds_toArray, List.set_cons_zero, List.set_cons_succ]
          refine wpAnyH_yield 3 34 (.bool false) rfl rfl (by kernel_rfl) (by kernel_rfl) (by kernel_rfl) (fun _ _ _ h => h) (by kernel_rfl) (fun W hW => by go_simp) (by assumption) rfl rfl ?_
          simp only [Act.put, List.setIfInBounds_toArray, List.set_cons_zero, List.set_cons_succ]
          refine wpAnyH_yield 4 35 (.bool false) rfl rfl (by kernel_rfl) (by kernel_rfl) (by kernel_rfl) (fun _ _ _ h => h) (by kernel_rfl) (fun W hW => by kernel_rfl) (by assumption) rfl rfl ?_
          simp only [Act.put, List.setIfInBounds_toArray, List.set_cons_zero, List.set_cons_succ]
          refine wpAnyH_skip 5 36 rfl rfl (by kernel_rfl) (by kernel_rfl) (by kernel_rfl) (fun _ _ _ h => h) (by kernel_rfl) (by assumption) rfl rfl ?_
          simp only [Act.put, List.setIfInBounds_toArray, List.set_cons_zero, List.set_cons_succ]
          refine wpAnyH_skip 6 37 rfl rfl (by kernel_rfl) (by kernel_rfl) (by kernel_rfl) (fun _ _ _ h => h) (by kernel_rfl) (by assumption) rfl rfl ?_
          simp only [Act.put, List.setIfInBounds_toArray, List.set_cons_zero, List.set_cons_succ]
          refine wpAnyH_skip 7 38 rfl rfl (by kernel_rfl) (by kernel_rfl) (by kernel_rfl) (fun _ _ _ h => h) (by kernel_rfl) (by assumption) rfl rfl ?_
          simp only [Act.put, List.setIfInBounds_toArray, List.set_cons_zero, List.set_cons_succ]
          refine wpAnyH_skip 8 39 rfl rfl (by kernel_rfl) (by kernel_rfl) (by kernel_rfl) (fun _ _ _ h => h) (by kernel_rfl) (by assumption) rfl rfl ?_
          simp only [Act.put, List.setIfInBounds_toArray, List.set_cons_zero, List.set_cons_succ]
          refine wpAnyH_skip 9 40 rfl rfl (by kernel_rfl) (by kernel_rfl) (by kernel_rfl) (fun _ _ _ h => h) (by kernel_rfl) (by assumption) rfl rfl ?_
          simp only [Act.put, List.setIfInBounds_toArray, List.set_cons_zero, List.set_cons_succ]
          refine wpAnyH_skip 10 41 rfl rfl (by kernel_rfl) (by kernel_rfl) (by kernel_rfl) (fun _ _ _ h => h) (by kernel_rfl) (by assumption) rfl rfl ?_
          simp only [Act.put, List.setIfInBounds_toArray, List.set_cons_zero, List.set_cons_succ]
          refine wpAnyH_skip 11 42 rfl rfl (by kernel_rfl) (by kernel_rfl) (by kernel_rfl) (fun _ _ _ h => h) (by kernel_rfl) (by assumption) rfl rfl ?_
          simp only [Act.put, List.setIfInBounds_toArray, List.set_cons_zero, List.set_cons_succ]
          refine wpAnyH_skip 12 43 rfl rfl (by kernel_rfl) (by kernel_rfl) (by kernel_rfl) (fun _ _ _ h => h) (by kernel_rfl) (by assumption) rfl rfl ?_
          simp only [Act.put, List.setIfInBounds_toArray, List.set_cons_zero, List.set_cons_succ]
          refine wpAnyH_skip 13 44 rfl rfl (by kernel_rfl) (by kernel_rfl) (by kernel_rfl) (fun _ _ _ h => h) (by kernel_rfl) (by assumption) rfl rfl ?_
          simp only [Act.put, List.setIfInBounds_toArray, List.set_cons_zero, List.set_cons_succ]
          refine wpAnyH_skip 14 45 rfl rfl (by kernel_rfl) (by kernel_rfl) (by kernel_rfl) (fun _ _ _ h => h) (by kernel_rfl) (by assumption) rfl rfl ?_
          simp only [Act.put, List.setIfInBounds_toArray, List.set_cons_zero, List.set_cons_succ]
          refine wpAnyH_yield 15 46 (.bool false) rfl rfl (by kernel_rfl) (by kernel_rfl) (by kernel_rfl) (fun _ _ _ h => h) (by kernel_rfl) (fun W hW => by kernel_rfl) (by assumption) rfl rfl ?_
          simp only [Act.put, List.setIfInBounds_toArray, List.set_cons_zero, List.set_cons_succ]
          refine wpAnyH_done (by kernel_rfl) ?_ _
          clear H1
          have e1 : Hid (o (i + 1) = O.take j ++ [key] ++ O.drop j) := hide (by rw [hs.out, EP.out])
          have e2 : Hid ((o (i + 1)).length = O.length + 1) := hide (by rw [e1.out]; simp only [List.length_append, List.length_take, List.length_drop, List.length_cons, List.length_nil]; omega)
          generalize ({ w2 with drawn := w2.drawn + 1 } : World) = w3 at *
          obtain ⟨so1, sc1, so2, sc2, a1, p1, w4, a2, p2, w5, a3, p3, w6, hs1, hs2, hr1, hr2, hr3, ow, C3, C5⟩ := st_put key (Rc.Own.calm HO.out hT1) j hj (by have := hll.out; omega)
          have cK := KA.out w4 (hT1.tr C3)
          have HOW := hide (Rc.Own.base ow (HT.out.tr hT1).size)
          have HTW := hide ((HT.out.tr hT1).tr C5)
          clear ow C3 C5 hT1 HO HT hll hs HL EP
          go_wp2_with (at_builtin; first | refine Rc.wpList_appR rfl (.tmp 47) (.tmp 50) 58 58 rfl _ _ _ rfl rfl hr1 ?_ | refine Rc.wpList_appR rfl (.tmp 52) (.tmp 58) 58 58 rfl _ _ _ rfl rfl hr2 ?_ | refine Rc.wpList_appR rfl (.tmp 60) (.tmp 63) 58 58 rfl _ _ _ rfl rfl hr3 ?_)
          go_roundw
          case rel => exact ⟨i + 1, a3, p3, by go_num, by omega, by rw [e2.out], by rw [e2.out, e1.out]; exact HOW.out, HTW.out⟩
          case measure => simp [intOf]; omega
    · have hltz : ¬ (i : Int) < (n : Int) := by omega
      obtain rfl : i = n := by omega
      have HO := hide OW
      have HT := hide TE
      have hz := OE.out
      clear SA OS OL OW TE O0
      go_wp2_with fail
      go_ret
      exact ⟨a, c, by rw [← hz]; rfl, by rw [← hz]; exact HO.out, HT.out⟩

end Go.Proofs.YtamfcmmhmfhhkaaGreatDoor

namespace Go.Proofs.YtamfcmmhmfhhkaaGreatDoor
open Go.RowKit

theorem infoKp : (Tryz.prog.info? 32).map (fun i => (i.zero, i.size, i.bytes)) = some (some (.agg (kpc kp0)), 2, 40) := by kernel_rfl
theorem kp_app1 {w : World} {base : Nat} {ao : Option Addr} {cap : Nat} {A : List Kp} (x : Kp) (h : encG.Own 32 w base (.slice ao A.length cap) A) (hs : base ≤ w.heap.size) (hn : A.length ≤ 1000000000000) :
    ∃ a2 p2 w4, (Builtin.append_ #[25, 25] 25 #[.slice ao A.length cap, .slice (some ⟨w.heap.size, 0, none⟩) 1 1]).run Tryz.prog (w.alloc (.cells (kpc x) 32)) = .ok (.slice a2 (A.length + 1) p2) w4 ∧
      encG.Own 32 w4 base (.slice a2 (A ++ [x]).length p2) (A ++ [x]) ∧ Touch (fun d => (Value.slice ao A.length cap).ownBlock = some d) w w4 := by
  obtain ⟨i0, hi, hz, hsz, hby⟩ := Rc.info_parts infoKp
  have own := Rc.Own.calm h ((Touch.refl (fun _ => False) w).alloc (.cells (kpc x) 32))
  have hs1 := al_size w (.cells (kpc x) 32)
  obtain ⟨a2, p2, w4, hr, ow, t2, -⟩ := Rc.Own.appw (E := encG) (ty := 25) Tryz.underlying25 hi hz hsz hby rfl own (some ⟨w.heap.size, 0, none⟩) 1 [x] (Rc.Mem.new w [x] 32) (fun h => (nomatch h)) (by simp; unfold maxLen; omega) (by simp; omega) (by omega) (by omega)
  have e3 : (A ++ [x]).length = A.length + 1 := by simp
  refine ⟨a2, p2, w4, by rw [← e3]; exact hr, ow, ?_⟩
  exact Touch.trans (((Touch.refl (fun _ => False) w).alloc _).mono fun _ _ h => h.elim) t2 fun _ _ h => h

/-- A row of panes is none of keys. -/
theorem own_notP {w : World} {b b' : Nat} {v v' : Value} {L : List Pn} {P : List Kp} (h : encP.Own 40 w b v L) (h' : encG.Own 32 w b' v' P) {g : Nat} (hg : v.ownBlock = some g) : ¬ v'.ownBlock = some g := fun hv => by
  obtain ⟨-, cur, hc⟩ := Rc.own_block h hg
  obtain ⟨-, cur', hc'⟩ := Rc.own_block h' hv
  rw [hc] at hc'
  injection hc' with hc'
  injection hc' with _ e
  cases e
theorem KpIn.touch {W W' : World} {base b' : Nat} {L : List Pn} {K : List ByteArray} {P Q : List Kp} {v : Value} (h : KpIn W base L K P) (ho : encG.Own 32 W b' v Q) (ht : Touch (fun d => v.ownBlock = some d) W W') : KpIn W' base L K P := fun j hj => by
  obtain ⟨h1, h2, h3⟩ := h j hj
  exact ⟨h1, h2, Rc.Own.touch h3 ht fun g hg => own_notP h3 ho hg⟩
end Go.Proofs.YtamfcmmhmfhhkaaGreatDoor

namespace Go.Proofs.YtamfcmmhmfhhkaaGreatDoor
open Go.RowKit

set_option maxRecDepth 100000 in
set_option maxHeartbeats 4000000 in
theorem rKeys_any (L : List Pn) (ao : Option Addr) (ac : Nat) (w : World) (ha : encP.Mem w ao L) (hl : L.length ≤ 1000000000) : Calls Tryz.prog 10 #[.slice ao L.length ac] w fun e w' => ∃ a c P, e = .returned (.slice a (keysP L).length c) ∧ P.length = (keysP L).length ∧ encG.Own 32 w' w.heap.size (.slice a (keysP L).length c) P ∧ KpIn w' w.heap.size L (keysP L) P ∧ Calm w w' := by
  have CK := hide (rkeys_any L ao ac w ha hl)
  have CO : Hid (∀ key W, Calm w W → Calls Tryz.prog 15 #[.slice ao L.length ac, .string key] W fun e w' => RetP W e w' (ofP L key)) := hide fun key W hW => rof_any L key ao ac W (Rc.Mem.calm ha hW) (by omega)
  have hKl : (keysP L).length ≤ 1000000000 := by have := keysP_len L L.length (Nat.le_refl _); rw [List.take_length] at this; omega
  unfold RetP at CO
  clear ha
  generalize hK : keysP L = K at *
  clear hK
  go_enter Tryz.func10, Tryz.ntmps10
  go_wp2_with fail
  refine CK.out.mono ?_
  rintro e w1 ⟨ka, kc, rfl, OK, T1⟩
  have HK := hide OK
  have HT1 := hide T1
  have SK : Hid (∀ j, j < K.length → ∃ g off, ka = some ⟨g, off, none⟩ ∧ ∀ W, Calm w1 W → W.cell? ⟨g, off + j, none⟩ = some (.string (K.getD j ⟨#[]⟩))) := hide fun j hj => st_W (Rc.Own.mem OK).2.1 j hj
  clear CK OK T1
  generalize hn : L.length = n at *
  generalize hm : K.length = m at *
  go_wp2_with fail
  go_loopw [3, 5] (fun s3 s5 wr => ∃ (i : Nat) (a : Option Addr) (c : Nat) (P : List Kp), s5 = .int .i64 (i : Int) ∧ i ≤ m ∧ s3 = .slice a i c ∧ P.length = i ∧ encG.Own 32 wr w1.heap.size (.slice a i c) P ∧ KpIn wr w1.heap.size L K P ∧ Calm w1 wr) (fun _ s5 _ => m - (intOf s5).toNat)
  case atStart => exact ⟨0, none, 0, [], rfl, by omega, rfl, rfl, Rc.Own.nil _ _ _, fun j hj => absurd hj (by simp), Touch.refl _ _⟩
  case round =>
    obtain ⟨i, a, c, P, rfl, hi, rfl, hP, OE, IE, TE⟩ := hrel
    by_cases hlt : i < m
    · have hltz : (i : Int) < (m : Int) := by omega
      obtain ⟨kb, ko, rfl, ck⟩ := SK.out i hlt
      have TS : Hid (∀ W, Touch (fun d => (Value.slice a i c).ownBlock = some d) wr W → Calm w1 W) := hide fun W hW => Rc.Own.fresh (w0 := w1) OE hW (fun _ h => h) TE (Nat.le_refl _)
      have KK : Hid (∀ W, Touch (fun d => (Value.slice a i c).ownBlock = some d) wr W → W.cell? ⟨kb, ko + i, none⟩ = some (.string (K.getD i ⟨#[]⟩))) := hide fun W hW => ck W (TS.out W hW)
      have HP : Hid (∀ (W : World) (o : Option Addr) (c1 : Nat), KpIn W w1.heap.size L K P → encP.Own 40 W w1.heap.size (.slice o (ofP L (K.getD i ⟨#[]⟩)).length c1) (ofP L (K.getD i ⟨#[]⟩)) → KpIn W w1.heap.size L K (P ++ [(⟨K.getD i ⟨#[]⟩, o, (ofP L (K.getD i ⟨#[]⟩)).length, c1⟩ : Kp)])) := hide fun W o c1 h1 h2 => by
        subst hP
        exact KpIn.push h1 h2
      have C1 := hide (fun W hW => CO.out (K.getD i ⟨#[]⟩) W hW)
      generalize K.getD i ⟨#[]⟩ = key at *
      generalize hZ : ofP L key = Z at *
      have HOE := hide OE
      have HIE := hide IE
      have HTE := hide TE
      have Hp := hide hP
      clear OE IE TE hP ck CO hZ
      go_wp2_with fail
      refine wp_region_z 14 (Touch (fun d => (Value.slice a i c).ownBlock = some d) wr) (by kernel_rfl) ?_
      have hT0 : Touch (fun d => (Value.slice a i c).ownBlock = some d) wr { wr with drawn := wr.drawn + 1 } := (Touch.refl _ wr).drew
      refine wpAnyZ_yield 0 14 (.slice a i c) [14] rfl rfl (by kernel_rfl) (by kernel_rfl) (by kernel_rfl) (by kernel_rfl) (by kernel_rfl) (fun _ _ _ h => h) (by kernel_rfl) (fun W hW => by kernel_rfl) (by assumption) rfl rfl ?_
      simp only [Act.put, List.setIfInBounds_toArray, List.set_cons_zero, List.set_cons_succ]
      refine wpAnyZ_yield 1 15 (.slice (some ⟨kb, ko, none⟩) m kc) [14] rfl rfl (by kernel_rfl) (by kernel_rfl) (by kernel_rfl) (by kernel_rfl) (by kernel_rfl) (fun _ _ _ h => h) (by kernel_rfl) (fun W hW => by kernel_rfl) (by assumption) rfl rfl ?_
      simp only [Act.put, List.setIfInBounds_toArray, List.set_cons_zero, List.set_cons_succ]
      refine wpAnyZ_yield 2 16 (.int .i64 (i : Int)) [14] rfl rfl (by kernel_rfl) (by kernel_rfl) (by kernel_rfl) (by kernel_rfl) (by kernel_rfl) (fun _ _ _ h => h) (by kernel_rfl) (fun W hW => by kernel_rfl) (by assumption) rfl rfl ?_
      simp only [Act.put, List.setIfInBounds_toArray, List.set_cons_zero, List.set_cons_succ]
      refine wpAnyZ_yield 3 17 (.pointer (some ⟨kb, ko + i, none⟩)) [14] rfl rfl (by kernel_rfl) (by kernel_rfl) (by kernel_rfl) (by kernel_rfl) (by kernel_rfl) (fun _ _ _ h => h) (by kernel_rfl) (fun W hW => by go_simp) (by assumption) rfl rfl ?_
      simp only [Act.put, List.setIfInBounds_toArray, List.set_cons_zero, List.set_cons_succ]
      refine wpAnyZ_yield 4 18 (.string key) [14] rfl rfl (by kernel_rfl) (by kernel_rfl) (by kernel_rfl) (by kernel_rfl) (by kernel_rfl) (fun _ _ _ h => h) (by kernel_rfl) (fun W hW => by have q := KK.out W hW; go_simp) (by assumption) rfl rfl ?_
      simp only [Act.put, List.setIfInBounds_toArray, List.set_cons_zero, List.set_cons_succ]
      refine wpAnyZ_yield 5 19 (.slice ao n ac) [14] rfl rfl (by kernel_rfl) (by kernel_rfl) (by kernel_rfl) (by kernel_rfl) (by kernel_rfl) (fun _ _ _ h => h) (by kernel_rfl) (fun W hW => by kernel_rfl) (by assumption) rfl rfl ?_
      simp only [Act.put, List.setIfInBounds_toArray, List.set_cons_zero, List.set_cons_succ]
      refine wpAnyZ_yield 6 20 (.slice (some ⟨kb, ko, none⟩) m kc) [14] rfl rfl (by kernel_rfl) (by kernel_rfl) (by kernel_rfl) (by kernel_rfl) (by kernel_rfl) (fun _ _ _ h => h) (by kernel_rfl) (fun W hW => by kernel_rfl) (by assumption) rfl rfl ?_
      simp only [Act.put, List.setIfInBounds_toArray, List.set_cons_zero, List.set_cons_succ]
      refine wpAnyZ_yield 7 21 (.int .i64 (i : Int)) [14] rfl rfl (by kernel_rfl) (by kernel_rfl) (by kernel_rfl) (by kernel_rfl) (by kernel_rfl) (fun _ _ _ h => h) (by kernel_rfl) (fun W hW => by kernel_rfl) (by assumption) rfl rfl ?_
      simp only [Act.put, List.setIfInBounds_toArray, List.set_cons_zero, List.set_cons_succ]
      refine wpAnyZ_yield 8 22 (.pointer (some ⟨kb, ko + i, none⟩)) [14] rfl rfl (by kernel_rfl) (by kernel_rfl) (by kernel_rfl) (by kernel_rfl) (by kernel_rfl) (fun _ _ _ h => h) (by kernel_rfl) (fun W hW => by go_simp) (by assumption) rfl rfl ?_
      simp only [Act.put, List.setIfInBounds_toArray, List.set_cons_zero, List.set_cons_succ]
      refine wpAnyZ_yield 9 23 (.string key) [14] rfl rfl (by kernel_rfl) (by kernel_rfl) (by kernel_rfl) (by kernel_rfl) (by kernel_rfl) (fun _ _ _ h => h) (by kernel_rfl) (fun W hW => by have q := KK.out W hW; go_simp) (by assumption) rfl rfl ?_
      simp only [Act.put, List.setIfInBounds_toArray, List.set_cons_zero, List.set_cons_succ]
      refine wpAnyZ_enter 10 24 15 #[.slice ao n ac, .string key] rfl rfl (by decide) (by kernel_rfl) (by kernel_rfl) (by kernel_rfl) ?_
      refine (C1.out _ (HT1.out.tr (TS.out _ hT0))).mono ?_
      rintro r w5 ⟨oa, oc, rfl, OZ, T5⟩
      have TW : Calm wr w5 := ((Touch.refl (fun _ => False) wr).drew).tr T5
      have h5 : Touch (fun d => (Value.slice a i c).ownBlock = some d) wr w5 := TW.mono fun _ _ h => h.elim
      refine ⟨_, rfl, h5, ?_⟩
      simp only [Act.put, List.setIfInBounds_toArray, List.set_cons_zero, List.set_cons_succ]
      refine wpAnyZ_yield 11 25 (.agg #[.string key, .slice oa Z.length oc]) [14] rfl rfl (by kernel_rfl) (by kernel_rfl) (by kernel_rfl) (by kernel_rfl) (by kernel_rfl) (fun _ _ _ h => h) (by kernel_rfl) (fun W hW => by go_simp) (by assumption) rfl rfl ?_
      simp only [Act.put, List.setIfInBounds_toArray, List.set_cons_zero, List.set_cons_succ]
      have O5 := Rc.Own.calm HOE.out TW
      have hp := Hp.out
      have hsz1 := HTE.out.size
      have hszw : wr.heap.size ≤ w5.heap.size := TW.size
      obtain ⟨a2, p2, w6, hr, ow, t2⟩ := kp_app1 ⟨key, oa, Z.length, oc⟩ (by rw [hp]; exact O5) (by omega) (by rw [hp]; omega)
      have OZ1 : encP.Own 40 w5 w1.heap.size (.slice oa Z.length oc) Z := Rc.Own.base OZ (by show w1.heap.size ≤ wr.heap.size; omega)
      have I6 : KpIn w6 w1.heap.size L K (P ++ [(⟨key, oa, Z.length, oc⟩ : Kp)]) := KpIn.touch (HP.out w5 oa oc (KpIn.calm HIE.out TW) OZ1) O5 (by rw [hp] at t2; exact t2)
      rw [hp] at hr t2
      have h6 : Touch (fun d => (Value.slice a i c).ownBlock = some d) wr w6 := h5.trans t2 (fun _ _ h => h)
      refine wpAnyZ_value 12 26 (.slice (some ⟨w5.heap.size, 0, none⟩) 1 1) (w' := w5.alloc (.cells (kpc ⟨key, oa, Z.length, oc⟩) 32)) rfl rfl (by decide) (by kernel_rfl) (by kernel_rfl) (by go_simp) (h5.alloc _) ?_
      simp only [Act.put, List.setIfInBounds_toArray, List.set_cons_zero, List.set_cons_succ]
      refine wpAnyZ_value 13 27 (.slice a2 (i + 1) p2) (w' := w6) rfl rfl (by decide) (by kernel_rfl) (by kernel_rfl) (exec_apk (.tmp 14) (.tmp 26) 25 25 rfl _ _ _ rfl rfl hr) h6 ?_
      simp only [Act.put, List.setIfInBounds_toArray, List.set_cons_zero, List.set_cons_succ]
      refine wpAnyZ_end rfl (by kernel_rfl) (by kernel_rfl) (by kernel_rfl) ?_
      have e1 : (P ++ [(⟨key, oa, Z.length, oc⟩ : Kp)]).length = i + 1 := by rw [List.length_append, hp]; rfl
      rw [e1] at ow
      have HOW := hide ow
      have HI6 := hide I6
      have HTW := hide (TS.out _ h6)
      have E1 := hide e1
      clear hT0 T5 TW h5 O5 hr ow t2 h6 e1 C1 KK HOE HIE HTE Hp HP OZ OZ1 I6 TS
      unfold Oper.wp
      go_simp
      go_wp2_with fail
      go_roundw
      case rel => exact ⟨i + 1, a2, p2, _, by go_num, by omega, rfl, E1.out, HOW.out, HI6.out, HTW.out⟩
      case measure => simp [intOf]; omega
    · have hltz : ¬ (i : Int) < (m : Int) := by omega
      obtain rfl : i = m := by omega
      have HO := hide (Rc.Own.base OE HT1.out.size)
      have HI : Hid (KpIn wr w.heap.size L K P) := hide fun j hj => by
        obtain ⟨h1, h2, h3⟩ := IE j hj
        exact ⟨h1, h2, Rc.Own.base h3 HT1.out.size⟩
      have HT := hide (HT1.out.tr TE)
      have Hp := hide hP
      clear OE IE TE SK CO HK
      go_wp2_with fail
      go_ret
      exact ⟨a, c, rfl, P, Hp.out, HO.out, HI.out, HT.out⟩

end Go.Proofs.YtamfcmmhmfhhkaaGreatDoor

namespace Go.Proofs.YtamfcmmhmfhhkaaGreatDoor
open Go.RowKit

set_option maxRecDepth 100000 in
set_option maxHeartbeats 4000000 in
theorem sameKeys_any (A B : List Kp) (r : Nat → List Pn) (ao bo : Option Addr) (ac bc : Nat) (w : World) (ha : encG.Mem w ao A) (hb : encG.Mem w bo B) (hl : B.length = A.length) (hn : A.length ≤ 1000000000000)
    (hA : ∀ j, j < A.length → (A.getD j kp0).k = (B.getD j kp0).k ∧ (A.getD j kp0).n = (r j).length ∧ (B.getD j kp0).n = (r j).length ∧ encP.Mem w (A.getD j kp0).o (r j) ∧ encP.Mem w (B.getD j kp0).o (r j) ∧ (r j).length ≤ 1000000000000) :
    Calls Tryz.prog 13 #[.slice ao A.length ac, .slice bo A.length bc] w fun e w' => e = .returned (.bool true) ∧ Calm w w' := by
  have SX : Hid (∀ j, j < A.length → ∃ (g off g' off' : Nat) (key : ByteArray) (o1 : Option Addr) (c1 : Nat) (o2 : Option Addr) (c2 n : Nat), ao = some ⟨g, off, none⟩ ∧ bo = some ⟨g', off', none⟩ ∧ (∀ W, Calm w W → (W.cell? ⟨g, off + j * 2, none⟩ = some (.string key) ∧ W.cell? ⟨g, off + j * 2 + 1, none⟩ = some (.slice o1 n c1)) ∧ W.cell? ⟨g', off' + j * 2, none⟩ = some (.string key) ∧ W.cell? ⟨g', off' + j * 2 + 1, none⟩ = some (.slice o2 n c2)) ∧ ∀ W, Calm w W → Calls Tryz.prog 14 #[.slice o1 n c1, .slice o2 n c2] W fun e w' => e = .returned (.bool true) ∧ Calm W w') := hide fun j hj => by
    obtain ⟨h1, h2, h3, h4, h5, h6⟩ := hA j hj
    obtain ⟨g, off, e1, k1⟩ := kp_W ha j hj
    obtain ⟨g', off', e2, k2⟩ := kp_W hb j (by omega)
    rw [h2] at k1
    rw [h3, ← h1] at k2
    refine ⟨g, off, g', off', _, _, _, _, _, _, e1, e2, fun W hW => ⟨k1 W hW, k2 W hW⟩, fun W hW => ?_⟩
    have := sameP_any (r j) (r j) _ _ (A.getD j kp0).c (B.getD j kp0).c W (Rc.Mem.calm h4 hW) (Rc.Mem.calm h5 hW) (by omega) (by omega)
    rwa [decide_eq_true rfl] at this
  clear ha hb hA hl
  generalize A.length = m at *
  go_enter Tryz.func13, Tryz.ntmps13
  go_wp2_with fail
  go_loopw [5] (fun s5 wr => ∃ i : Nat, s5 = .int .i64 (i : Int) ∧ i ≤ m ∧ Calm w wr) (fun s5 _ => m - (intOf s5).toNat)
  case atStart => exact ⟨0, rfl, by omega, Touch.refl _ _⟩
  case round =>
    obtain ⟨i, rfl, hi, hC⟩ := hrel
    by_cases hlt : i < m
    · have hltz : (i : Int) < (m : Int) := by omega
      obtain ⟨g, off, g', off', key, o1, c1, o2, c2, n, rfl, rfl, hK, hS⟩ := SX.out i hlt
      have KK := hide hK
      have KS := hide hS
      have HC := hide hC
      clear SX hK hS hC
      go_wp2_with fail
      refine wp_region_held (S := Calm w) (by kernel_rfl) ?_
      have hT0 : Calm w { wr with drawn := wr.drawn + 1 } := HC.out.drew
      refine wpAnyH_yield 0 18 (.slice (some ⟨g, off, none⟩) m ac) rfl rfl (by kernel_rfl) (by kernel_rfl) (by kernel_rfl) (fun _ _ _ h => h) (by kernel_rfl) (fun W hW => by kernel_rfl) (by assumption) rfl rfl ?_
      simp only [Act.put, List.setIfInBounds_toArray, List.set_cons_zero, List.set_cons_succ]
      refine wpAnyH_yield 1 19 (.int .i64 (i : Int)) rfl rfl (by kernel_rfl) (by kernel_rfl) (by kernel_rfl) (fun _ _ _ h => h) (by kernel_rfl) (fun W hW => by kernel_rfl) (by assumption) rfl rfl ?_
      simp only [Act.put, List.setIfInBounds_toArray, List.set_cons_zero, List.set_cons_succ]
      refine wpAnyH_yield 2 20 (.pointer (some ⟨g, off + i * 2, none⟩)) rfl rfl (by kernel_rfl) (by kernel_rfl) (by kernel_rfl) (fun _ _ _ h => h) (by kernel_rfl) (fun W hW => by go_simp) (by assumption) rfl rfl ?_
      simp only [Act.put, List.setIfInBounds_toArray, List.set_cons_zero, List.set_cons_succ]
      refine wpAnyH_yield 3 21 (.pointer (some ⟨g, off + i * 2 + 1, none⟩)) rfl rfl (by kernel_rfl) (by kernel_rfl) (by kernel_rfl) (fun _ _ _ h => h) (by kernel_rfl) (fun W hW => by go_simp) (by assumption) rfl rfl ?_
      simp only [Act.put, List.setIfInBounds_toArray, List.set_cons_zero, List.set_cons_succ]
      refine wpAnyH_yield 4 22 (.slice o1 n c1) rfl rfl (by kernel_rfl) (by kernel_rfl) (by kernel_rfl) (fun _ _ _ h => h) (by kernel_rfl) (fun W hW => by obtain ⟨⟨-, q⟩, -⟩ := KK.out W hW; go_simp) (by assumption) rfl rfl ?_
      simp only [Act.put, List.setIfInBounds_toArray, List.set_cons_zero, List.set_cons_succ]
      refine wpAnyH_yield 5 23 (.slice (some ⟨g', off', none⟩) m bc) rfl rfl (by kernel_rfl) (by kernel_rfl) (by kernel_rfl) (fun _ _ _ h => h) (by kernel_rfl) (fun W hW => by kernel_rfl) (by assumption) rfl rfl ?_
      simp only [Act.put, List.setIfInBounds_toArray, List.set_cons_zero, List.set_cons_succ]
      refine wpAnyH_yield 6 24 (.int .i64 (i : Int)) rfl rfl (by kernel_rfl) (by kernel_rfl) (by kernel_rfl) (fun _ _ _ h => h) (by kernel_rfl) (fun W hW => by kernel_rfl) (by assumption) rfl rfl ?_
      simp only [Act.put, List.setIfInBounds_toArray, List.set_cons_zero, List.set_cons_succ]
      refine wpAnyH_yield 7 25 (.pointer (some ⟨g', off' + i * 2, none⟩)) rfl rfl (by kernel_rfl) (by kernel_rfl) (by kernel_rfl) (fun _ _ _ h => h) (by kernel_rfl) (fun W hW => by go_simp) (by assumption) rfl rfl ?_
      simp only [Act.put, List.setIfInBounds_toArray, List.set_cons_zero, List.set_cons_succ]
      refine wpAnyH_yield 8 26 (.pointer (some ⟨g', off' + i * 2 + 1, none⟩)) rfl rfl (by kernel_rfl) (by kernel_rfl) (by kernel_rfl) (fun _ _ _ h => h) (by kernel_rfl) (fun W hW => by go_simp) (by assumption) rfl rfl ?_
      simp only [Act.put, List.setIfInBounds_toArray, List.set_cons_zero, List.set_cons_succ]
      refine wpAnyH_yield 9 27 (.slice o2 n c2) rfl rfl (by kernel_rfl) (by kernel_rfl) (by kernel_rfl) (fun _ _ _ h => h) (by kernel_rfl) (fun W hW => by obtain ⟨-, -, q⟩ := KK.out W hW; go_simp) (by assumption) rfl rfl ?_
      simp only [Act.put, List.setIfInBounds_toArray, List.set_cons_zero, List.set_cons_succ]
      refine wpAnyH_enter 10 28 14 #[.slice o1 n c1, .slice o2 n c2] rfl rfl (by kernel_rfl) (by kernel_rfl) (by kernel_rfl) ?_
      refine (KS.out _ hT0).mono ?_
      rintro r w5 ⟨rfl, T5⟩
      have h5 : Calm w w5 := hT0.tr T5
      refine ⟨_, rfl, h5, ?_⟩
      simp only [Act.put, List.setIfInBounds_toArray, List.set_cons_zero, List.set_cons_succ]
      refine wpAnyH_yield 11 6 (.bool true) rfl rfl (by kernel_rfl) (by kernel_rfl) (by kernel_rfl) (fun _ _ _ h => h) (by kernel_rfl) (fun W hW => by kernel_rfl) (by assumption) rfl rfl ?_
      simp only [Act.put, List.setIfInBounds_toArray, List.set_cons_zero, List.set_cons_succ]
      refine wpAnyH_done (by kernel_rfl) ?_ _
      have H5 := hide h5
      clear hT0 T5 h5 HC
      go_wp2_with fail
      refine wp_region_held (S := Calm w) (by kernel_rfl) ?_
      have hT1 : Calm w { w5 with drawn := w5.drawn + 1 } := H5.out.drew
      refine wpAnyH_yield 0 29 (.slice (some ⟨g, off, none⟩) m ac) rfl rfl (by kernel_rfl) (by kernel_rfl) (by kernel_rfl) (fun _ _ _ h => h) (by kernel_rfl) (fun W hW => by kernel_rfl) (by assumption) rfl rfl ?_
      simp only [Act.put, List.setIfInBounds_toArray, List.set_cons_zero, List.set_cons_succ]
      refine wpAnyH_yield 1 30 (.int .i64 (i : Int)) rfl rfl (by kernel_rfl) (by kernel_rfl) (by kernel_rfl) (fun _ _ _ h => h) (by kernel_rfl) (fun W hW => by kernel_rfl) (by assumption) rfl rfl ?_
      simp only [Act.put, List.setIfInBounds_toArray, List.set_cons_zero, List.set_cons_succ]
      refine wpAnyH_yield 2 31 (.pointer (some ⟨g, off + i * 2, none⟩)) rfl rfl (by kernel_rfl) (by kernel_rfl) (by kernel_rfl) (fun _ _ _ h => h) (by kernel_rfl) (fun W hW => by go_simp) (by assumption) rfl rfl ?_
      simp only [Act.put, List.setIfInBounds_toArray, List.set_cons_zero, List.set_cons_succ]
      refine wpAnyH_yield 3 32 (.pointer (some ⟨g, off + i * 2, none⟩)) rfl rfl (by kernel_rfl) (by kernel_rfl) (by kernel_rfl) (fun _ _ _ h => h) (by kernel_rfl) (fun W hW => by go_simp) (by assumption) rfl rfl ?_
      simp only [Act.put, List.setIfInBounds_toArray, List.set_cons_zero, List.set_cons_succ]
      refine wpAnyH_yield 4 33 (.string key) rfl rfl (by kernel_rfl) (by kernel_rfl) (by kernel_rfl) (fun _ _ _ h => h) (by kernel_rfl) (fun W hW => by obtain ⟨⟨q, -⟩, -⟩ := KK.out W hW; go_simp) (by assumption) rfl rfl ?_
      simp only [Act.put, List.setIfInBounds_toArray, List.set_cons_zero, List.set_cons_succ]
      refine wpAnyH_yield 5 34 (.slice (some ⟨g', off', none⟩) m bc) rfl rfl (by kernel_rfl) (by kernel_rfl) (by kernel_rfl) (fun _ _ _ h => h) (by kernel_rfl) (fun W hW => by kernel_rfl) (by assumption) rfl rfl ?_
      simp only [Act.put, List.setIfInBounds_toArray, List.set_cons_zero, List.set_cons_succ]
      refine wpAnyH_yield 6 35 (.int .i64 (i : Int)) rfl rfl (by kernel_rfl) (by kernel_rfl) (by kernel_rfl) (fun _ _ _ h => h) (by kernel_rfl) (fun W hW => by kernel_rfl) (by assumption) rfl rfl ?_
      simp only [Act.put, List.setIfInBounds_toArray, List.set_cons_zero, List.set_cons_succ]
      refine wpAnyH_yield 7 36 (.pointer (some ⟨g', off' + i * 2, none⟩)) rfl rfl (by kernel_rfl) (by kernel_rfl) (by kernel_rfl) (fun _ _ _ h => h) (by kernel_rfl) (fun W hW => by go_simp) (by assumption) rfl rfl ?_
      simp only [Act.put, List.setIfInBounds_toArray, List.set_cons_zero, List.set_cons_succ]
      refine wpAnyH_yield 8 37 (.pointer (some ⟨g', off' + i * 2, none⟩)) rfl rfl (by kernel_rfl) (by kernel_rfl) (by kernel_rfl) (fun _ _ _ h => h) (by kernel_rfl) (fun W hW => by go_simp) (by assumption) rfl rfl ?_
      simp only [Act.put, List.setIfInBounds_toArray, List.set_cons_zero, List.set_cons_succ]
      refine wpAnyH_yield 9 38 (.string key) rfl rfl (by kernel_rfl) (by kernel_rfl) (by kernel_rfl) (fun _ _ _ h => h) (by kernel_rfl) (fun W hW => by obtain ⟨-, q, -⟩ := KK.out W hW; go_simp) (by assumption) rfl rfl ?_
      simp only [Act.put, List.setIfInBounds_toArray, List.set_cons_zero, List.set_cons_succ]
      refine wpAnyH_yield 10 39 (.bool false) rfl rfl (by kernel_rfl) (by kernel_rfl) (by kernel_rfl) (fun _ _ _ h => h) (by kernel_rfl) (fun W hW => by go_simp) (by assumption) rfl rfl ?_
      simp only [Act.put, List.setIfInBounds_toArray, List.set_cons_zero, List.set_cons_succ]
      refine wpAnyH_yield 11 40 (.bool false) rfl rfl (by kernel_rfl) (by kernel_rfl) (by kernel_rfl) (fun _ _ _ h => h) (by kernel_rfl) (fun W hW => by kernel_rfl) (by assumption) rfl rfl ?_
      simp only [Act.put, List.setIfInBounds_toArray, List.set_cons_zero, List.set_cons_succ]
      refine wpAnyH_yield 12 41 (.bool true) rfl rfl (by kernel_rfl) (by kernel_rfl) (by kernel_rfl) (fun _ _ _ h => h) (by kernel_rfl) (fun W hW => by kernel_rfl) (by assumption) rfl rfl ?_
      simp only [Act.put, List.setIfInBounds_toArray, List.set_cons_zero, List.set_cons_succ]
      refine wpAnyH_yield 13 42 (.bool false) rfl rfl (by kernel_rfl) (by kernel_rfl) (by kernel_rfl) (fun _ _ _ h => h) (by kernel_rfl) (fun W hW => by go_simp) (by assumption) rfl rfl ?_
      simp only [Act.put, List.setIfInBounds_toArray, List.set_cons_zero, List.set_cons_succ]
      refine wpAnyH_yield 14 43 (.bool false) rfl rfl (by kernel_rfl) (by kernel_rfl) (by kernel_rfl) (fun _ _ _ h => h) (by kernel_rfl) (fun W hW => by kernel_rfl) (by assumption) rfl rfl ?_
      simp only [Act.put, List.setIfInBounds_toArray, List.set_cons_zero, List.set_cons_succ]
      refine wpAnyH_done (by kernel_rfl) ?_ _
      have H6 := hide hT1
      clear hT1 H5 KK KS
      go_wp2_with fail
      go_roundw
      case rel => exact ⟨i + 1, by go_num, by omega, H6.out⟩
      case measure => simp [intOf]; omega
    · have hltz : ¬ (i : Int) < (m : Int) := by omega
      obtain rfl : i = m := by omega
      have HC := hide hC
      clear SX hC
      go_wp2_with fail
      go_ret
      exact ⟨rfl, HC.out⟩

end Go.Proofs.YtamfcmmhmfhhkaaGreatDoor
