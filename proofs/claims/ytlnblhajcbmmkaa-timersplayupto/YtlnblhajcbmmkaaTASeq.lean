/- The program's going over all timers, as an iterator. -/
import Derived.Test.YtlnblhajcbmmkaaTAll
namespace Go.Proofs.Ytlnblhajcbmmkaa
open Go.RowKit

/-- What a going over begins with. -/
def AllA (Bx q : Nat) (L : List Tm) (W : World) : Prop :=
  W.heap[Bx]? = some (.cells #[.pointer (some ⟨q, 0, none⟩)] 25 (0, 0)) ∧ ∃ F V, Tq W q F V ∧ ∀ x, x ∈ V ↔ x ∈ L

theorem succ_k {k m : Nat} (h : k < m) (hm : m < 3518437208790) : wrap64 ((k : Int) + 1) = ((k + 1 : Nat) : Int) := by
  unfold wrap64; omega

set_option maxRecDepth 100000 in
set_option maxHeartbeats 2000000 in
theorem all_seq (ND : TypeId) (Bx q : Nat) (L : List Tm) (hL : Srt L) (hlen : L.length < 3518437208790) :
    Seq Try.prog 35 ND 30 #[.pointer (some ⟨Bx, 0, none⟩)] encT L.length (fun k x => L[k]? = some x) (AllA Bx q L) := by
  rintro n l S J Jx W ⟨hbx, F, V, tq, hm⟩ hS hJ hY h0
  have hVL : V.length = L.length := Nat.le_antisymm (sub_len tq.nd.nodup fun x hx => (hm x).1 hx) (sub_len hL.nodup fun x hx => (hm x).2 hx)
  have IT := hide (isThere_any q F V W tq)
  have GD : Hid (∀ t ∈ L, Good t) := hide fun t ht => tq.good t ((hm t).2 ht)
  have ND' := hide tq.nd
  obtain ⟨ao, cap, mb, f, qm, -⟩ := tq.ex
  obtain ⟨c0, c1⟩ := qm.cells
  have CL := hide (tclone_any ao cap V W qm.row.rl.1 (by omega))
  obtain ⟨m, hmm⟩ : ∃ m, m = L.length := ⟨_, rfl⟩
  have HM := hide hmm
  rw [hVL, ← hmm] at c0 CL
  have HVM : Hid (V.length = m) := hide (hVL.trans hmm.symm)
  have HLEN : Hid (m < 3518437208790) := hide (by omega)
  have HMB := hide hm
  have HL := hide hL
  have HS := hide hS
  have HJ := hide hJ
  have HY := hide hY
  have H0 := hide h0
  have cb := (one_cell hbx).1
  rw [← hmm] at HY ⊢
  clear hVL hmm hm hL hS hJ hY h0 hlen qm tq hbx
  show CallsIn Fence.wide n Try.prog 30 #[.func (.yield l) #[] #[], .pointer (some ⟨Bx, 0, none⟩)] W _
  refine callsIn_of_wp Try.func30 rfl trivial ?_ rfl
  simp only [Try.ntmps30, List.size_toArray, List.length_cons, List.length_nil, Nat.reduceAdd, Nat.reduceSub, Array.replicate_succ, Array.replicate_zero, List.push_toArray, List.append_toArray, List.nil_append, List.cons_append]
  gi_wp2
  refine ⟨trivial, fun h => (nomatch h), (callsIn_wide.2 IT.out).mono ?_⟩
  rintro e w1 ⟨rfl, hq⟩
  subst hq
  clear IT
  gi_wp2
  refine ⟨trivial, fun h => (nomatch h), (callsIn_wide.2 CL.out).mono ?_⟩
  rintro e w2 ⟨ao2, cap2, rfl, ow2, t2⟩
  have SO := hide (tsort_any (R := V) (cap := cap2) (ao := ao2) (w := w2) (base := w1.heap.size) (by rw [HVM.out]; exact ow2) ND'.out (by have := HVM.out; have := HLEN.out; omega))
  rw [HVM.out] at SO
  have P2 := hide (OwnT.prs ow2).2.2.1
  have T2 := hide t2
  clear ow2 t2 CL c0 c1 cb
  gi_wp2
  refine ⟨trivial, fun h => (nomatch h), (callsIn_wide.2 SO.out).mono ?_⟩
  rintro e w3 ⟨rfl, R', s1, s2, s3, s4, s5⟩
  have eR : R' = L := sorted_ext s1 HL.out (fun x => (s2 x).trans (HMB.out x))
  subst eR
  have HT := hide s4
  have SL : Hid (Sly 35 w1.heap.size w1 w3) := hide ((Sly.of_calm T2.out).trans s5 (fun g hg ⟨a, ha, hb⟩ => by
    obtain ⟨_, _, hc, cs, hd⟩ := P2.out a ha
    omega))
  clear s1 s2 s3 s4 s5 SO
  gi_wp2
  gi_loopw [18] (fun i wr => ∃ k : Nat, k ≤ m ∧ i = .int .i64 (k : Int) ∧ J k wr ∧ Tms wr ao2 R') (fun i _ => m - (intOf i).toNat)
  case atStart => exact ⟨0, Nat.zero_le _, rfl, HJ.out _ _ _ H0.out SL.out, HT.out⟩
  case round =>
    obtain ⟨k, hk, rfl, hJk, ht⟩ := hrel
    by_cases hlt : k < m
    · have hlt' : (k : Int) < (m : Int) := by omega
      have hkL : k < R'.length := by rw [← HM.out]; exact hlt
      have HTK := hide ht
      obtain ⟨b, off, rfl, d0, d1, d2, d3⟩ := ht k hkL
      have hL9 : R'[k]? = some R'[k] := List.getElem?_eq_getElem hkL
      have HYK := hide (fun (W1 : World) (h : Calm wr W1) => HY.out k R'[k] W1 (HJ.out _ _ _ hJk (Sly.of_calm h)) hlt hL9)
      have GK := hide (GD.out _ (List.getElem_mem hkL))
      have SW := hide (succ_k hlt HLEN.out)
      have HB : Hid (w1.heap.size ≤ b) := hide (P2.out _ rfl).2.2.1
      have HSZ : Hid (∀ g, S g → g < w1.heap.size) := hide fun g hg => (HS.out g hg).1
      simp only [encT] at HYK
      generalize R'[k] = x at *
      have HA : Hid (Calm wr (wr.alloc (.cells #[.int .i64 x.at_, .string x.key, .int .i64 x.start, .int .i64 x.stop] 35))) := hide ((Touch.refl _ _).alloc _)
      have AP := hide (apart_any x (wr.alloc (.cells #[.int .i64 x.at_, .string x.key, .int .i64 x.start, .int .i64 x.stop] 35)) GK.out)
      clear ht hJk hL9 hkL
      gi_wp2
      refine ⟨trivial, fun h => (nomatch h), (callsIn_wide.2 AP.out).mono ?_⟩
      rintro e w4 ⟨rfl, t4⟩
      have T4 := hide (HA.out.tr t4)
      obtain ⟨fn, tmps, assign, body, hy, hR⟩ := HYK.out _ T4.out
      have HR := hide (hR.mono (R' := fun e W' => ∃ r : Bool, e = .returned (.bool r) ∧ Touch S w4 W' ∧ ((r = true ∧ J (k + 1) W') ∨ (r = false ∧ Jx (k + 1) W'))) (fun e W' h => by
        rcases h with ⟨h1, ⟨h2, h3⟩ | ⟨h2, h3⟩⟩
        · exact ⟨true, h2, h1, .inl ⟨rfl, h3⟩⟩
        · exact ⟨false, h2, h1, .inr ⟨rfl, h3⟩⟩))
      clear HYK AP t4 hR d0 d1 d2 d3
      gi_wp2
      refine ⟨fun h => (nomatch h), HR.out.mono ?_⟩
      rintro e W3 ⟨r, rfl, t3, ⟨rfl, hJ3⟩ | ⟨rfl, hJx3⟩⟩
      · have NX := hide (Tms.touch (HTK.out.calm T4.out) t3 (fun a ha _ hs => by
          injection ha with ha
          subst ha
          have h1 := HSZ.out _ hs
          have h2 := HB.out
          simp only at h1
          omega))
        have HJ3 := hide hJ3
        clear hy HR t3 hJ3
        gi_wp2
        go_roundw
        case rel => exact ⟨k + 1, hlt, by rw [SW.out], HJ3.out, NX.out⟩
        case measure => rw [SW.out]; simp [intOf]; omega
      · have HX := hide hJx3
        clear hy HR t3 hJx3
        gi_wp2
        refine bodyPost_ret (results_none rfl _ _ _) rfl ?_
        exact ⟨⟨_, rfl⟩, .inr ⟨k + 1, hlt, HX.out⟩⟩
    · have e : k = m := by omega
      subst e
      have HJ9 := hide hJk
      clear hJk ht
      gi_wp2
      go_end0
      exact ⟨⟨_, rfl⟩, .inl HJ9.out⟩

end Go.Proofs.Ytlnblhajcbmmkaa
