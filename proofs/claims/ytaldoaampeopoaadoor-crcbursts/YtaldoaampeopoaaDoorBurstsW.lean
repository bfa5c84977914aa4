/- The walk of CrcBursts. -/
import Derived.Test.YtaldoaampeopoaaDoorLaid
import Derived.Test.YtaldoaampeopoaaDoorLend
import Derived.Test.YtaldoaampeopoaaDoorBstAll
namespace Go.Proofs.YtaldoaampeopoaaDoor
open Go.ChangeShapes Go.WideShapes Go.ChangeAt Go.RowKit Crcx

theorem Lent.ok {w : World} {g c : Nat} {xs : List Int} (h : Lent w g c xs) (h8 : In8 xs) (hl : xs.length ≤ 140737488351232) : Txt.Ok w ⟨some ⟨g, 0, none⟩, c, xs⟩ := ⟨h.seg, h8, show xs.length ≤ 281474976710656 by omega⟩

set_option maxRecDepth 100000 in
set_option maxHeartbeats 2000000 in
theorem bursts_walk (a b : Txt) (w : World) (ht : Tab w) (ha : a.Ok w) (hb : b.Ok w) (la : a.xs.length ≤ 140737488351232) (lb : b.xs.length ≤ 140737488351232) :
    Calls Tryd.prog 7 #[a.val, b.val] w fun e w' => e = .returned (.bool true) ∧ Touch (fun _ => False) w w' := by
  obtain ⟨ao, ac, xa⟩ := a
  obtain ⟨bo, bc, xb⟩ := b
  simp only [Txt.val]
  simp only at la lb
  have h8 : In8 xa := ha.in8
  have h8' : In8 xb := hb.in8
  have HLA := hide la
  have HLB := hide lb
  obtain ⟨LA, hLA⟩ : ∃ n, xa.length = n := ⟨_, rfl⟩
  obtain ⟨LB, hLB⟩ : ∃ n, xb.length = n := ⟨_, rfl⟩
  have L1 := hide (fun W (o : Txt.Ok W ⟨ao, ac, xa⟩) => lend_any ao xa ac W o.seg HLA.out)
  have L2 := hide (fun W (o : Txt.Ok W ⟨bo, bc, xb⟩) => lend_any bo xb bc W o.seg HLB.out)
  have PB := hide (fun W g1 c1 g2 c2 (x : Lent W g1 c1 xa) (y : Lent W g2 c2 xb) => burst_all (some ⟨g1, 0, none⟩) (some ⟨g2, 0, none⟩) xa xb c1 c2 W x.seg y.seg h8 h8' HLA.out)
  have RB := hide (fun W (x : Txt.Ok W ⟨ao, ac, xa⟩) (y : Txt.Ok W ⟨bo, bc, xb⟩) => rburst_all ao bo xa xb ac bc W x.seg y.seg h8 h8' HLA.out)
  have K1 := hide (fun W g1 c1 (x : Lent W g1 c1 xa) (y : Txt.Ok W ⟨ao, ac, xa⟩) => kept_any g1 c1 ao xa ac W x y.seg HLA.out)
  have K2 := hide (fun W g1 c1 (x : Lent W g1 c1 xb) (y : Txt.Ok W ⟨bo, bc, xb⟩) => kept_any g1 c1 bo xb bc W x y.seg HLB.out)
  have S1 := hide (fun W h g1 c1 (x : Lent W g1 c1 xa) => sum_row W h [⟨some ⟨g1, 0, none⟩, c1, xa⟩] (fun t ht => by simp at ht; subst ht; exact x.ok h8 HLA.out) (by simp) 1 rfl _ (congrArg (fun l => more 0 (nats l)) (show alls [⟨some ⟨g1, 0, none⟩, c1, xa⟩] = xa by simp [alls])) #[.slice (some ⟨g1, 0, none⟩) xa.length c1] rfl)
  have S2 := hide (fun W h g1 c1 (x : Lent W g1 c1 xb) => sum_row W h [⟨some ⟨g1, 0, none⟩, c1, xb⟩] (fun t ht => by simp at ht; subst ht; exact x.ok h8' HLB.out) (by simp) 1 rfl _ (congrArg (fun l => more 0 (nats l)) (show alls [⟨some ⟨g1, 0, none⟩, c1, xb⟩] = xb by simp [alls])) #[.slice (some ⟨g1, 0, none⟩) xb.length c1] rfl)
  rw [hLA] at L1 PB RB K1 S1
  rw [hLB] at L2 PB RB K2 S2
  rw [hLA, hLB]
  have BL := hide (fun m n ok (h : BQ xa xb m n ok) => h.le HLA.out)
  have DI := hide (fun m n (h : BQ xa xb m n true) hmn => h.differ h8 h8' hmn)
  generalize more 0 (nats xa) = SA at *
  generalize more 0 (nats xb) = SB at *
  clear la lb hLA hLB HLA HLB h8 h8'
  go_enter Tryd.func7, Tryd.ntmps7
  go_wp2_with fail
  refine (L1.out _ ha).mono ?_
  rintro e w1 ⟨g1, c1, rfl, hg1, hl1, t1⟩
  have ha1 := ha.touch t1
  have hb1 := hb.touch t1
  go_wp2_with fail
  refine (L2.out _ hb1).mono ?_
  rintro e w2 ⟨g2, c2, rfl, hg2, hl2, t2⟩
  have ha2 := ha1.touch t2
  have hb2 := hb1.touch t2
  have hl12 := hl1.touch t2 (fun h => h)
  have T2 := t1.trans t2 (fun _ _ h => h)
  clear L1 L2 t1 t2 ha1 hb1 hl1 hg1 hg2 ha hb
  go_wp2_with fail
  refine (PB.out _ g1 c1 g2 c2 hl12 hl2).mono ?_
  rintro e w3 ⟨⟨m, n, ok, rfl, q1⟩, t3⟩
  have ha3 := ha2.touch t3
  have hb3 := hb2.touch t3
  have k1 := hl12.touch t3 (fun h => h)
  have k2 := hl2.touch t3 (fun h => h)
  have T3 := T2.trans t3 (fun _ _ h => h)
  clear PB t3 T2 ha2 hb2 hl12 hl2
  go_wp2_with fail
  refine (RB.out _ ha3 hb3).mono ?_
  rintro e w' ⟨⟨m', n', ok', rfl, q2⟩, rfl⟩
  obtain ⟨rfl, rfl, rfl⟩ := q1.unique q2
  have ht3 := ht.touch T3 (fun h => h)
  have Q := hide q1
  obtain ⟨hm, hn⟩ := BL.out m n ok q1
  clear q1 q2 RB
  cases ok with
  | false =>
    clear DI S1 S2 Q
    go_wp2_with fail
    refine (K1.out _ g1 c1 k1 ha3).mono ?_
    rintro e w' ⟨rfl, rfl⟩
    go_wp2_with fail
    refine (K2.out _ g2 c2 k2 hb3).mono ?_
    rintro e w' ⟨rfl, rfl⟩
    go_wp2_with fail
    refine (works_any _ ht3).mono ?_
    rintro e w4 ⟨rfl, t4⟩
    go_wp2_with fail
    go_ret
    exact ⟨rfl, T3.trans t4 (fun _ _ h => h)⟩
  | true =>
    by_cases hmn : n < m + 32
    · have hne : ¬ (SA : Int) = (SB : Int) := fun e => DI.out m n Q.out hmn (by omega)
      have hlt : ¬ (32 : Int) ≤ (n : Int) - (m : Int) := by omega
      clear DI Q
      go_wp2_with fail
      refine (K1.out _ g1 c1 k1 ha3).mono ?_
      rintro e w' ⟨rfl, rfl⟩
      go_wp2_with fail
      refine (K2.out _ g2 c2 k2 hb3).mono ?_
      rintro e w' ⟨rfl, rfl⟩
      go_wp2_with fail
      refine (S1.out _ ht3 g1 c1 k1).mono ?_
      rintro e w4 ⟨rfl, ht4, t4⟩
      have k24 := k2.touch t4 (fun h => h)
      go_wp2_with fail
      refine (S2.out _ ht4 g2 c2 k24).mono ?_
      rintro e w5 ⟨rfl, ht5, t5⟩
      go_wp2_with fail
      refine (works_any _ ht5).mono ?_
      rintro e w6 ⟨rfl, t6⟩
      go_wp2_with fail
      go_ret
      exact ⟨congrArg (fun b => Ending.returned (Value.bool b)) (show (decide ((32 : Int) ≤ (n : Int) - (m : Int)) || ((SA : Int) != (SB : Int))) = true by rw [Bool.or_eq_true]; right; exact bne_iff_ne.2 hne), ((T3.trans t4 (fun _ _ h => h)).trans t5 (fun _ _ h => h)).trans t6 (fun _ _ h => h)⟩
    · have hlt : (32 : Int) ≤ (n : Int) - (m : Int) := by omega
      clear DI Q S1 S2
      go_wp2_with fail
      refine (K1.out _ g1 c1 k1 ha3).mono ?_
      rintro e w' ⟨rfl, rfl⟩
      go_wp2_with fail
      refine (K2.out _ g2 c2 k2 hb3).mono ?_
      rintro e w' ⟨rfl, rfl⟩
      go_wp2_with fail
      refine (works_any _ ht3).mono ?_
      rintro e w4 ⟨rfl, t4⟩
      go_wp2_with fail
      go_ret
      exact ⟨rfl, T3.trans t4 (fun _ _ h => h)⟩

end Go.Proofs.YtaldoaampeopoaaDoor
