/- For every text of bytes and every script of questions (of together at most 1048576 values) the Go law WireReads returns true and leaves its arguments and all memory that was there as it was: wire's reader answers each question, and stands behind it, as the document's. -/
import Derived.Test.YthhajlbnnffgnaaRows
import Derived.Test.YthhajlbnnffgnaaAsk4
import Derived.ProofKit
import Derived.OpenShut
import Derived.JoinedCond
import Derived.Deep.SlicePairs
namespace Go.Proofs.Ythhajlbnnffgnaa
open Go.ChangeShapes Go.WideShapes Go.ChangeAt Go.RowKit

set_option maxRecDepth 100000 in
set_option maxHeartbeats 400000 in
theorem left_true (g c : Nat) (ao : Option Addr) (bs : List Int) (cap : Nat) (w : World) (hm : Row w 5 .u8 (.slice (some ⟨g, 0, none⟩) (bs.length + 2) c) (bs ++ [165, 166])) (hs : Seg w .u8 ao bs) (h8 : In8 bs) (hb : bs.length ≤ 1048576) :
    Calls Try.prog 17 #[.slice (some ⟨g, 0, none⟩) bs.length c, .slice ao bs.length cap] w fun e w' => e = .returned (.bool true) ∧ w' = w := by
  have hcap : bs.length + 2 ≤ c := by
    rcases hm.form with ⟨hv, _⟩ | ⟨g', cap', cur, hv, _, hc, _⟩
    · cases hv
    · injection hv with _ _ h3; rw [h3]; simpa using hc
  have hsl : ∀ W, (Instr.slice 25 (.slice (some ⟨g, 0, none⟩) bs.length c) none (some (.int .i64 ((bs.length : Int) + 2))) none).run Try.prog W = .ok (.slice (some ⟨g, 0, none⟩) (bs.length + 2) c) W := by
    intro W
    obtain ⟨i0, hi, hz0, hz1, hz2⟩ := info_parts Try.info5
    have he : Try.prog.elem 25 = 5 := by kernel_rfl
    rw [run_slice_h W 25 (some ⟨g, 0, none⟩) bs.length c (by rw [he]; exact Try.underlying25) .i64 ((bs.length : Int) + 2) (by omega) (by omega), he]
    have e : ((bs.length : Int) + 2).toNat = bs.length + 2 := by omega
    simp only [sizeOf, typeInfo, e]
    simp [hi, hz1, sliced, Addr.add_lit]
  have k1 : w.cell? ⟨g, bs.length, none⟩ = some (.int .u8 165) := by
    have := hm.cell bs.length (by simp)
    rw [this]; simp
  have k2 : w.cell? ⟨g, bs.length + 1, none⟩ = some (.int .u8 166) := by
    have := hm.cell (bs.length + 1) (by simp)
    rw [this]; simp [List.getElem_append_right]
  have SM := hide (same_any (some ⟨g, 0, none⟩) ao bs bs c cap w (Seg.of_row hm).prefix hs h8 h8)
  clear hm hs h8
  go_enter Try.func17, Try.ntmps17
  go_wp2_with fail
  refine SM.out.mono ?_
  rintro r w1 ⟨b, rfl, hbb, hq⟩
  obtain rfl := hq.symm
  obtain rfl : b = true := hbb.2 (by first | rfl | trivial)
  clear hbb
  go_wp2
  go_ret
  exact ⟨rfl, rfl⟩

theorem both_drewN {w : World} {rb db : Nat} {ra ao : Option Addr} {rc cap : Nat} {bs : List Int} {p : Nat} (h : Both w rb db ra ao rc cap bs p) (n : Nat) : Both (w.drewN n) rb db ra ao rc cap bs p := ⟨h.rd.drewN n, h.rr.drewN n⟩
theorem both_drew {w : World} {rb db : Nat} {ra ao : Option Addr} {rc cap : Nat} {bs : List Int} {p : Nat} (h : Both w rb db ra ao rc cap bs p) : Both w.drew rb db ra ao rc cap bs p := h.none ((Touch.refl _ _).drew)

/-- A script of questions in memory. -/
structure SegA (w : World) (so : Option Addr) (len : Nat) (K N : Nat → Int) : Prop where
  addr : 0 < len → ∃ b off, so = some ⟨b, off, none⟩
  cell : ∀ b off, so = some ⟨b, off, none⟩ → ∀ i, i < len → w.cell? ⟨b, off + i * 2, none⟩ = some (.int .i64 (K i)) ∧ w.cell? ⟨b, off + i * 2 + 1, none⟩ = some (.int .i64 (N i))
  top : ∀ i, i < len → N i ≤ 9223372036854775807

set_option maxRecDepth 100000 in
set_option maxHeartbeats 1000000 in
theorem reads_walk (ao so : Option Addr) (bs : List Int) (cap len scap : Nat) (K N : Nat → Int) (w : World) (hs : Seg w .u8 ao bs) (h8 : In8 bs) (hb : bs.length ≤ 1048576) (hc : bs.length ≤ cap) (hsa : SegA w so len K N) (hl : len ≤ 1048576) :
    Calls Try.prog 4 #[.slice ao bs.length cap, .slice so len scap] w fun e w' => e = .returned (.bool true) ∧ Below w.heap.size w w' := by
  go_enter Try.func4, Try.ntmps4
  go_wp2_with fail
  refine (lent_any ao bs cap w hs (by omega)).mono ?_
  rintro r w1 ⟨g1, c1, rfl, hg1, hr1, ht1⟩
  go_wp2_with fail
  refine (newReader_any (some ⟨g1, 0, none⟩) bs c1 w1 (Seg.of_row hr1).prefix (by omega)).mono ?_
  rintro r w2 ⟨rb, rc, rfl, hrb, hrd2, ht2⟩
  have hs2 := (hs.touch ht1 (fun _ _ h => h)).touch ht2 (fun _ _ h => h)
  have hr2 := hr1.touch ht2 (fun _ _ h => h)
  have hrl2 := hrd2.lt
  have hg12 : g1 < w1.heap.size := hr1.lt rfl
  have B3 : Both (w2.alloc (.cells #[.slice ao bs.length cap, .int .i64 0] 48)) rb w2.heap.size (some ⟨w1.heap.size, 0, none⟩) ao rc cap bs 0 :=
    ⟨hrd2.touch ((Touch.refl (fun _ => False) _).alloc _) (fun h => h) (fun _ _ h => h), ⟨heap_alloc_new w2 _, hs2.alloc _, hc, Nat.zero_le _⟩⟩
  have T3 : Touch (fun _ => False) w (w2.alloc (.cells #[.slice ao bs.length cap, .int .i64 0] 48)) := (ht1.trans ht2 (fun _ _ h => h)).alloc _
  have hr3 := hr2.alloc (.cells #[.slice ao bs.length cap, .int .i64 0] 48)
  have hs3 := hs2.alloc (.cells #[.slice ao bs.length cap, .int .i64 0] 48)
  go_wp2_with fail
  refine (left_true g1 c1 ao bs cap _ hr3 hs3 h8 hb).mono ?_
  rintro r w' ⟨rfl, hq⟩
  obtain rfl := hq.symm
  obtain ⟨db, hdb⟩ : ∃ db, w2.heap.size = db := ⟨_, rfl⟩
  obtain ⟨w3, hw3⟩ : ∃ w3, w2.alloc (.cells #[.slice ao bs.length cap, .int .i64 0] 48) = w3 := ⟨_, rfl⟩
  rw [hw3, hdb] at B3
  rw [hw3] at T3 hr3
  rw [hw3, hdb]
  have HR := hide hr3
  have HB := hide B3
  have HT := hide T3
  have F0 := hide (show w.heap.size ≤ g1 ∧ w.heap.size ≤ w1.heap.size ∧ w.heap.size ≤ rb ∧ w.heap.size ≤ db from ⟨hg1, ht1.size, by have := ht1.size; omega, by have := ht1.size; have := ht2.size; omega⟩)
  have F1 := hide (show g1 ≠ w1.heap.size ∧ g1 ≠ rb ∧ g1 ≠ db from ⟨by omega, by omega, by omega⟩)
  obtain ⟨gr, hgr⟩ : ∃ gr, w1.heap.size = gr := ⟨_, rfl⟩
  rw [hgr] at HB F0 F1
  clear hr1 ht1 hrd2 ht2 hs2 hr2 hr3 hs3 B3 T3 hw3 hdb hq hg12 hrl2 hrb hg1 hgr
  go_wp2_with fail
  go_loopw [8] (fun i wr => ∃ (k : Nat) (zs : List Int), k ≤ bs.length ∧ i = .int .i64 k ∧ zs.length = bs.length + 2 ∧ Row wr 5 .u8 (.slice (some ⟨g1, 0, none⟩) (bs.length + 2) c1) zs ∧ Touch (fun j => j = g1) w3 wr) (fun i _ => bs.length - (intOf i).toNat)
  case atStart => exact ⟨0, bs ++ [165, 166], Nat.zero_le _, rfl, by simp, HR.out, Touch.refl _ _⟩
  case round =>
    obtain ⟨k, zs, hk, rfl, hzl, hrowZ, htZ⟩ := hrel
    by_cases hlt : k < bs.length
    · have k1 := hrowZ.cell k (by omega)
      have k2 := hrowZ.frozen k
      have RS := hide (hrowZ.set k 99)
      have TS := hide (Touch.setCell (p := ⟨g1, k, none⟩) (u := .int .u8 99) htZ (fun _ => rfl))
      obtain ⟨zk, hzk⟩ : ∃ zk, zs[k]'(by omega) = zk := ⟨_, rfl⟩
      rw [hzk] at k1
      have HZ := hide hzl
      clear hrowZ hzk hzl htZ
      go_wp2
      go_roundw
      case rel => exact ⟨k + 1, zs.set k 99, by omega, by go_num, by rw [List.length_set]; exact HZ.out, RS.out, TS.out⟩
      case measure => simp [intOf]; omega
    · have HB2 := hide (show Both wr rb db (some ⟨gr, 0, none⟩) ao rc cap bs 0 from ⟨HB.out.rd.touch htZ (fun e => F1.out.2.1 (Eq.symm e)) (fun j hj e => F1.out.1 (by simp [Value.ownBlock] at hj; omega)), HB.out.rr.touch htZ (fun e => F1.out.2.2 (Eq.symm e)) (fun a ha hne e => by have := seg_lt hs a ha hne; have := F0.out.1; omega)⟩)
      have HT2 := hide (HT.out.trans htZ (fun j hj e => by have := F0.out.1; omega))
      clear hrowZ htZ HB HT HR
      go_wp2_with fail
      go_loopw [9] (fun i ws => ∃ (k q : Nat), k ≤ len ∧ i = .int .i64 k ∧ Both ws rb db (some ⟨gr, 0, none⟩) ao rc cap bs q ∧ Touch (fun _ => False) w ws) (fun i _ => len - (intOf i).toNat)
      case atStart => exact ⟨0, 0, Nat.zero_le _, rfl, HB2.out, HT2.out⟩
      case round =>
        obtain ⟨k, q, hk2, rfl, hbo, hto⟩ := hrel
        by_cases hlt2 : k < len
        · obtain ⟨b, off, rfl⟩ := hsa.addr (by omega)
          obtain ⟨s1, s2⟩ := hsa.cell b off rfl k hlt2
          have htopk := hide (hsa.top k hlt2)
          have l1 := lt_of_cell s1
          have l2 := lt_of_cell s2
          have s1' := (hto.cell (p := ⟨b, off + k * 2, none⟩) l1 (fun h => h)).trans s1
          have s2' := (hto.cell (p := ⟨b, off + k * 2 + 1, none⟩) l2 (fun h => h)).trans s2
          obtain ⟨kk, hkk⟩ : ∃ kk, K k = kk := ⟨_, rfl⟩
          obtain ⟨nn, hnn⟩ : ∃ nn, N k = nn := ⟨_, rfl⟩
          rw [hkk] at s1'
          rw [hnn] at s2' htopk
          have AK := hide (fun W (g : Both W rb db (some ⟨gr, 0, none⟩) ao rc cap bs q) => ask_any rb db (some ⟨gr, 0, none⟩) ao rc cap bs q kk nn W g h8 hb htopk.out)
          have PK := hide (fun W q (g : Both W rb db (some ⟨gr, 0, none⟩) ao rc cap bs q) => place_any rb (some ⟨gr, 0, none⟩) rc bs q W g.rd)
          have LK := hide (fun W q (g : Both W rb db (some ⟨gr, 0, none⟩) ao rc cap bs q) => left_any rb (some ⟨gr, 0, none⟩) rc bs q W g.rd (by omega))
          have RK := hide (fun W q (g : Both W rb db (some ⟨gr, 0, none⟩) ao rc cap bs q) => refLeft_any db ao cap bs q W g.rr hb)
          have HTO := hide hto
          have HLT := hide hlt2
          clear s1 s2 l1 l2 hkk hnn hto HB2 HT2 htopk
          go_wp2_with fail
          go_region_with (first | (go_at_call 18; refine (AK.out _ (both_drew hbo)).mono ?_; rintro r w5 ⟨rfl, ⟨q2, hb5⟩, ht5⟩; have d1 := (cell_two hb5.rr.cell).2.1) | (go_at_call 19; refine (PK.out _ q2 (by first | exact hb5 | exact both_drewN hb5 _)).mono ?_; rintro r w' ⟨rfl, hq⟩; obtain rfl := hq.symm) | (go_at_call 20; refine (LK.out _ q2 (by first | exact hb5 | exact both_drewN hb5 _)).mono ?_; rintro r w' ⟨rfl, nL, rfl⟩) | (go_at_call 21; refine (RK.out _ q2 (by first | exact hb5 | exact both_drewN hb5 _)).mono ?_; rintro r w' ⟨rfl, nR, rfl⟩))
          all_goals go_wp2_with fail
          all_goals go_roundw
          all_goals first
            | (case rel =>
                have T5 : Touch (fun _ => False) w w5 := (HTO.out.drew).trans ht5 (fun j hj e => by have := F0.out; omega)
                exact ⟨k + 1, q2, by have := HLT.out; omega, by go_num, by first | exact hb5 | exact both_drewN hb5 _ | exact both_drewN (both_drewN hb5 _) _, by first | exact T5 | exact T5.drewN _ | exact (T5.drewN _).drewN _⟩)
            | (case measure => have := HLT.out; simp [intOf]; omega)
        · have HTO := hide hto
          clear hto hbo HB2 HT2
          go_wp2_with fail
          refine (known_any _).mono ?_
          rintro r w6 ⟨rfl, ht6⟩
          go_wp2_with fail
          go_ret
          exact ⟨rfl, (HTO.out.trans ht6 (fun _ _ h => h)).below (fun _ _ h => h)⟩

end Go.Proofs.Ythhajlbnnffgnaa
