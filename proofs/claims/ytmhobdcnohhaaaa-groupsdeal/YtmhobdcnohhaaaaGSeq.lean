/- The program's Stretches: what it hands over. -/
import Derived.Test.YtmhobdcnohhaaaaGRange
namespace Go.Proofs.Ytmhobdcnohhaaaa
open Go.RowKit
attribute [local go_sem] Oper.semAt_some

set_option maxRecDepth 100000 in
theorem stretches_any (p g : Int) (w : World) : Calls Try.prog 20 #[.int .i64 p, .int .i64 g] w fun e w' => e = .returned (.func (.func 34) #[] #[.pointer (some ⟨w.heap.size, 0, none⟩), .pointer (some ⟨w.heap.size + 1, 0, none⟩)]) ∧ w' = (w.alloc (.cells #[.int .i64 p] 3)).alloc (.cells #[.int .i64 g] 3) := by
  go_enter Try.func20, Try.ntmps20
  go_wp2_with fail
  go_ret
  exact ⟨by simp, rfl⟩

/-- How many stretches are told. -/
def many (p g : Int) : Nat := if mayW p g = true then p.toNat else 0

/-- What is handed over. -/
def handed (p g : Int) (k : Nat) : Array Value := #[.int .i64 (k : Int), .agg #[.int .i64 (st p.toNat g.toNat k : Nat), .int .i64 (st p.toNat g.toNat (k + 1) : Nat)]]

def Holds (B C : Nat) (p g : Int) (_ : Nat) (W : World) : Prop := W.cell? ⟨B, 0, none⟩ = some (.int .i64 p) ∧ W.cell? ⟨C, 0, none⟩ = some (.int .i64 g)

set_option maxRecDepth 100000 in
set_option maxHeartbeats 2000000 in
theorem stretches1_any (B C : Nat) (p g : Int) :
    Seq Try.prog 34 #[.pointer (some ⟨B, 0, none⟩), .pointer (some ⟨C, 0, none⟩)] (handed p g) (many p g) (fun k x _ _ => x = k) (Holds B C p g) := by
  intro n l J Jx W hT hJt hY h0
  have M := hide (mays_any p g)
  obtain ⟨cb, cc⟩ := hT 0 W h0
  cases hm : mayW p g with
  | false =>
    have hk : many p g = 0 := by unfold many; simp [hm]
    rw [hk]
    refine callsIn_of_wp Try.func34 rfl trivial ?_ rfl
    simp only [Try.ntmps34, List.size_toArray, List.length_cons, List.length_nil, Nat.reduceAdd, Nat.reduceSub, Array.replicate_succ, Array.replicate_zero, List.push_toArray, List.append_toArray, List.nil_append, List.cons_append]
    have H0 := hide h0
    clear hT hJt hY hk h0
    gi_wp2
    refine ⟨trivial, fun h => (nomatch h), (callsIn_wide.2 (M.out _)).mono ?_⟩
    rintro e w1 ⟨rfl, rfl⟩
    gi_wp2
    refine bodyPost_ret (results_none rfl _ _ _) rfl ?_
    exact ⟨⟨_, rfl⟩, .inl H0.out⟩
  | true =>
    obtain ⟨P, G, rfl, rfl, may⟩ := may_of hm
    have hk : many P G = P := by unfold many; simp [hm]
    have HT := hide hT
    have HJT := hide hJt
    have HY := hide hY
    have HP := hide (show P ≤ 32768 from Nat.le_trans may.p2 may.g2)
    rw [hk] at *
    have HM := hide may
    clear hT hJt hY hk
    refine callsIn_of_wp Try.func34 rfl trivial ?_ rfl
    simp only [Try.ntmps34, List.size_toArray, List.length_cons, List.length_nil, Nat.reduceAdd, Nat.reduceSub, Array.replicate_succ, Array.replicate_zero, List.push_toArray, List.append_toArray, List.nil_append, List.cons_append]
    gi_wp2
    refine ⟨trivial, fun h => (nomatch h), (callsIn_wide.2 (M.out _)).mono ?_⟩
    rintro e w1 ⟨rfl, rfl⟩
    gi_wp2
    clear cb cc
    gi_loopw [10] (fun i wr => ∃ k : Nat, k ≤ P ∧ i = .int .i64 (k : Int) ∧ J k wr) (fun i _ => P - (intOf i).toNat)
    case atStart => exact ⟨0, Nat.zero_le _, rfl, h0⟩
    case round =>
      obtain ⟨k, hk, rfl, hJ⟩ := hrel
      obtain ⟨cb, cc⟩ := HT.out k wr hJ
      by_cases hlt : k < P
      · have hlt' : (k : Int) < (P : Int) := by omega
        have ST := hide (stretch_any P G k HM.out hlt)
        have HYK := hide (fun (W1 : World) (h : Touch (fun _ => False) wr W1) => HY.out k k wr W1 hJ (HJT.out k _ _ hJ h) hlt rfl)
        have SW := hide (succ_wrap (k := k) (by have := HP.out; omega))
        simp only [handed, Int.toNat_natCast] at HYK
        generalize st P G k = x at *
        generalize st P G (k + 1) = y at *
        gi_wp2
        refine ⟨trivial, fun h => (nomatch h), (callsIn_wide.2 (ST.out _)).mono ?_⟩
        rintro e w1 ⟨rfl, t1⟩
        obtain ⟨fn, tmps, assign, body, hy, hR⟩ := HYK.out _ t1
        clear HYK ST t1
        gi_wp2
        refine ⟨fun h => (nomatch h), hR.mono ?_⟩
        rintro e W3 (⟨rfl, hJ3⟩ | ⟨rfl, hJx3⟩)
        · gi_wp2
          go_roundw
          case rel => exact ⟨k + 1, hlt, by rw [SW.out], hJ3⟩
          case measure => rw [SW.out]; simp [intOf]; omega
        · gi_wp2
          refine bodyPost_ret (results_none rfl _ _ _) rfl ?_
          exact ⟨⟨_, rfl⟩, .inr ⟨k + 1, hlt, hJx3⟩⟩
      · have e : k = P := by omega
        subst e
        have HJ := hide hJ
        clear hJ
        gi_wp2
        go_end0
        exact ⟨⟨_, rfl⟩, .inl HJ.out⟩

end Go.Proofs.Ytmhobdcnohhaaaa
