/- The document's Back. -/
import Derived.Test.YtegiinnhknfjjaaIRTake
namespace Go.Proofs.Ytegiinnhknfjjaa.IM
open Go.RowKit

/-- How many are not behind a key. -/
def upto (which key : Int) (L : List (Int × Int)) : Nat := lead which key L + if thereB which key L = true then 1 else 0

theorem upto_le (which key : Int) (L : List (Int × Int)) : upto which key L ≤ L.length := by
  unfold upto
  split
  · rename_i h; exact there_lt h
  · exact lead_le which key L

theorem back_step {L : List (Int × Int)} {i n : Nat} (hi : i < n) (hn : n ≤ L.length) : ((L.take n).drop i).reverse = ((L.take n).drop (i + 1)).reverse ++ [L[i]] := by
  have h1 : i < (L.take n).length := by rw [List.length_take]; omega
  rw [List.drop_eq_getElem_cons h1, List.reverse_cons, List.getElem_take]

/-- A list that is laid anew. -/
def RetOwn (w : World) (L : List (Int × Int)) (e : Ending) (w' : World) : Prop := ∃ ao cap, e = .returned (.slice ao L.length cap) ∧ OwnP w' w.heap.size (.slice ao L.length cap) L ∧ Calm w w'

set_option maxRecDepth 100000 in
set_option maxHeartbeats 2000000 in
theorem rback_own (r : Nat) (which key : Int) (L : List (Int × Int)) (ao : Option Addr) (cap : Nat) (w : World) (h : Rf w r which L ao cap) (hb : L.length + 1 ≤ 8796093022208) :
    Calls Try.prog 19 #[.pointer (some ⟨r, 0, none⟩), .int .i64 key] w (RetOwn w (L.take (upto which key L)).reverse) := by
  have PL := hide (rplace_any r which key L ao cap w h)
  have HR := hide h
  have HO := hide h.own
  have HUL := hide (upto_le which key L)
  have HB := hide hb
  have HUP : Hid (upto which key L = lead which key L + if thereB which key L = true then 1 else 0) := hide rfl
  clear h hb
  generalize hup : upto which key L = u at *
  clear hup
  cases hth : thereB which key L with
  | false =>
    rw [hth] at PL HUP
    have hu : lead which key L = u := by have := HUP.out; simp at this; exact this.symm
    rw [hu] at PL
    clear hth hu HUP
    go_enter Try.func19, Try.ntmps19
    go_wp2_with fail
    refine PL.out.mono ?_
    rintro e w2 ⟨rfl, t2⟩
    have T2 := hide t2
    clear t2
    go_wp2_with fail
    go_loopw [5, 7] (fun i j wr => ∃ (k : Nat) (ao' : Option Addr) (cap' : Nat), i = .int .i64 (k : Int) ∧ j = .slice ao' ((L.take u).drop k).reverse.length cap' ∧ k ≤ u ∧ OwnP wr w.heap.size (.slice ao' ((L.take u).drop k).reverse.length cap') ((L.take u).drop k).reverse ∧ Calm w wr) (fun i _ _ => (intOf i).toNat)
    case atStart =>
      have e : ((L.take u).drop u).reverse = [] := by rw [List.drop_of_length_le (by rw [List.length_take]; omega)]; rfl
      exact ⟨u, none, 0, rfl, by rw [e]; rfl, Nat.le_refl _, by rw [e]; exact World.ownsRow_nil _ _ _ _, T2.out⟩
    case round =>
      obtain ⟨k, ao', cap', rfl, rfl, hk, own, tr⟩ := hrel
      have TR := hide tr
      cases k with
      | zero =>
        have OWN := hide own
        clear own tr hk
        generalize hM : ((L.take u).drop 0).reverse = M at *
        have HM := hide hM
        clear hM
        have hz : ¬ (0 : Int) < ((0 : Nat) : Int) := by omega
        go_wp2_with fail
        go_ret
        have e : (L.take u).reverse = M := by rw [← HM.out, List.drop_zero]
        rw [e]
        exact ⟨ao', cap', rfl, OWN.out, TR.out⟩
      | succ i =>
        have hiu : i < u := hk
        have hul := HUL.out
        have hil : i < L.length := by omega
        obtain ⟨b, off, rfl, p0, p1⟩ := (HR.out.prs.calm tr) i hil
        obtain ⟨c0, c1⟩ := cells2 (tr.at HO.out)
        have HST := hide (back_step hiu hul)
        have hpos : (0 : Int) < ((i + 1 : Nat) : Int) := by omega
        have hsub : wrap64 (((i + 1 : Nat) : Int) - 1) = (i : Int) := by have := HB.out; unfold wrap64; omega
        have hin : (i : Int) < (L.length : Int) := by omega
        have HML : Hid (((L.take u).drop (i + 1)).reverse.length + 1 ≤ 8796093022208) := hide (by have := HB.out; simp; omega)
        have HIU := hide hiu
        generalize hxi : L[i] = x at *
        obtain ⟨x1, x2⟩ := x
        simp only at p0 p1
        have PO := hide (prs_one wr x1 x2)
        have TA := hide ((Touch.refl (fun _ => False) wr).alloc (.cells #[.int .i64 x1, .int .i64 x2] 57))
        have OW2 := hide (own.touch TA.out (fun _ _ h => h))
        have HSZ := hide (Nat.le_trans tr.size TA.out.size)
        have HBX : Hid (((L.take u).drop (i + 1)).reverse.length + [(x1, x2)].length ≤ 8796093022208) := hide HML.out
        clear own tr hk hiu hul hxi hil
        generalize hci : ((i + 1 : Nat) : Int) = ci at *
        have HCI := hide hci
        clear hci
        generalize ((L.take u).drop (i + 1)).reverse = M at *
        generalize hln : M.length = ml at *
        have HLN := hide hln
        clear hln
        go_wp2_with (at_builtin; refine wpList_app rfl (.tmp 21) (.tmp 29) rfl w.heap.size _ M rfl (by first | exact OW2.out | (have := OW2.out; simpa using this)) (some ⟨wr.heap.size, 0, none⟩) 1 1 [(x1, x2)] rfl rfl PO.out (fun h => (nomatch h)) (by rw [HLN.out]; exact HBX.out) HSZ.out ?ny)
        case ny =>
          intro ao3 c3 w3 own3 t3
          have T3 := hide (show Calm w w3 from (TR.out.tr TA.out).trans t3 (fun g hg hs => by have := (own_block OW2.out hs).1; omega))
          have OW3 : Hid (OwnP w3 w.heap.size (.slice ao3 (M.length + 1) c3) (M ++ [(x1, x2)])) := hide (by simpa using own3)
          clear own3 t3
          go_wp2_with fail
          go_roundw
          case rel => exact ⟨i, ao3, c3, rfl, by rw [HST.out, List.length_append]; rfl, Nat.le_of_lt HIU.out, by rw [HST.out, List.length_append]; exact OW3.out, T3.out⟩
          case measure => rw [← HCI.out]; simp [intOf]
  | true =>
    rw [hth] at PL HUP
    have hu : lead which key L + 1 = u := by have := HUP.out; simp at this; exact this.symm
    have hwr : wrap64 (((lead which key L : Nat) : Int) + 1) = (u : Int) := by rw [wrap_n (n := lead which key L) (m := L.length) (by have := HUL.out; omega) (by have := HB.out; unfold maxLen; omega), hu]
    clear hth HUP hu
    generalize lead which key L = k at *
    go_enter Try.func19, Try.ntmps19
    go_wp2_with fail
    refine PL.out.mono ?_
    rintro e w2 ⟨rfl, t2⟩
    have T2 := hide t2
    clear t2
    go_wp2_with fail
    have HWR := hide hwr
    clear hwr
    go_loopw [5, 7] (fun i j wr => ∃ (k : Nat) (ao' : Option Addr) (cap' : Nat), i = .int .i64 (k : Int) ∧ j = .slice ao' ((L.take u).drop k).reverse.length cap' ∧ k ≤ u ∧ OwnP wr w.heap.size (.slice ao' ((L.take u).drop k).reverse.length cap') ((L.take u).drop k).reverse ∧ Calm w wr) (fun i _ _ => (intOf i).toNat)
    case atStart =>
      have e : ((L.take u).drop u).reverse = [] := by rw [List.drop_of_length_le (by rw [List.length_take]; omega)]; rfl
      exact ⟨u, none, 0, by rw [HWR.out], by rw [e]; rfl, Nat.le_refl _, by rw [e]; exact World.ownsRow_nil _ _ _ _, T2.out⟩
    case round =>
      obtain ⟨k, ao', cap', rfl, rfl, hk, own, tr⟩ := hrel
      have TR := hide tr
      cases k with
      | zero =>
        have OWN := hide own
        clear own tr hk
        generalize hM : ((L.take u).drop 0).reverse = M at *
        have HM := hide hM
        clear hM
        have hz : ¬ (0 : Int) < ((0 : Nat) : Int) := by omega
        go_wp2_with fail
        go_ret
        have e : (L.take u).reverse = M := by rw [← HM.out, List.drop_zero]
        rw [e]
        exact ⟨ao', cap', rfl, OWN.out, TR.out⟩
      | succ i =>
        have hiu : i < u := hk
        have hul := HUL.out
        have hil : i < L.length := by omega
        obtain ⟨b, off, rfl, p0, p1⟩ := (HR.out.prs.calm tr) i hil
        obtain ⟨c0, c1⟩ := cells2 (tr.at HO.out)
        have HST := hide (back_step hiu hul)
        have hpos : (0 : Int) < ((i + 1 : Nat) : Int) := by omega
        have hsub : wrap64 (((i + 1 : Nat) : Int) - 1) = (i : Int) := by have := HB.out; unfold wrap64; omega
        have hin : (i : Int) < (L.length : Int) := by omega
        have HML : Hid (((L.take u).drop (i + 1)).reverse.length + 1 ≤ 8796093022208) := hide (by have := HB.out; simp; omega)
        have HIU := hide hiu
        generalize hxi : L[i] = x at *
        obtain ⟨x1, x2⟩ := x
        simp only at p0 p1
        have PO := hide (prs_one wr x1 x2)
        have TA := hide ((Touch.refl (fun _ => False) wr).alloc (.cells #[.int .i64 x1, .int .i64 x2] 57))
        have OW2 := hide (own.touch TA.out (fun _ _ h => h))
        have HSZ := hide (Nat.le_trans tr.size TA.out.size)
        have HBX : Hid (((L.take u).drop (i + 1)).reverse.length + [(x1, x2)].length ≤ 8796093022208) := hide HML.out
        clear own tr hk hiu hul hxi hil
        generalize hci : ((i + 1 : Nat) : Int) = ci at *
        have HCI := hide hci
        clear hci
        generalize ((L.take u).drop (i + 1)).reverse = M at *
        generalize hln : M.length = ml at *
        have HLN := hide hln
        clear hln
        go_wp2_with (at_builtin; refine wpList_app rfl (.tmp 21) (.tmp 29) rfl w.heap.size _ M rfl (by first | exact OW2.out | (have := OW2.out; simpa using this)) (some ⟨wr.heap.size, 0, none⟩) 1 1 [(x1, x2)] rfl rfl PO.out (fun h => (nomatch h)) (by rw [HLN.out]; exact HBX.out) HSZ.out ?ny)
        case ny =>
          intro ao3 c3 w3 own3 t3
          have T3 := hide (show Calm w w3 from (TR.out.tr TA.out).trans t3 (fun g hg hs => by have := (own_block OW2.out hs).1; omega))
          have OW3 : Hid (OwnP w3 w.heap.size (.slice ao3 (M.length + 1) c3) (M ++ [(x1, x2)])) := hide (by simpa using own3)
          clear own3 t3
          go_wp2_with fail
          go_roundw
          case rel => exact ⟨i, ao3, c3, rfl, by rw [HST.out, List.length_append]; rfl, Nat.le_of_lt HIU.out, by rw [HST.out, List.length_append]; exact OW3.out, T3.out⟩
          case measure => rw [← HCI.out]; simp [intOf]

theorem rback_any (r : Nat) (which key : Int) (L : List (Int × Int)) (ao : Option Addr) (cap : Nat) (w : World) (h : Rf w r which L ao cap) (hb : L.length + 1 ≤ 8796093022208) :
    Calls Try.prog 19 #[.pointer (some ⟨r, 0, none⟩), .int .i64 key] w (RetPrs w (L.take (upto which key L)).reverse) :=
  (rback_own r which key L ao cap w h hb).mono fun _ _ ⟨a, c, he, ho, ht⟩ => ⟨a, c, he, ho.prs.2.1, ht⟩

end Go.Proofs.Ytegiinnhknfjjaa.IM
