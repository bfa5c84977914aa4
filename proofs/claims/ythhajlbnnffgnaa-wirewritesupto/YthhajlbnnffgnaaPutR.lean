/- Walks: puts of a list. -/
import Derived.Test.YthhajlbnnffgnaaPutB
namespace Go.Proofs.Ythhajlbnnffgnaa
open Go.RowKit

set_option maxRecDepth 100000 in
set_option maxHeartbeats 1000000 in
theorem put_falls (pb : Nat) (v : Value) (bs : List Int) (X : Nat) (s : ByteArray) (bo lo : Option Addr) (L : List Int) (bn bc lc : Nat) (w : World) (h : Wr w pb v bs) (hs : Seg w .i64 lo L) (hL : L.length ≤ 1048576) (hup : ¬ Up L) :
    Calls Try.prog 10 #[.pointer (some ⟨pb, 0, none⟩), putVal 6 X s bo bn bc lo L.length lc] w (PutEnd w pb v bs []) := by
  have hne : v.ownBlock ≠ some w.heap.size := fun e => Nat.lt_irrefl _ (h.row.lt e)
  have hpl := h.lt
  unfold putVal
  go_enter Try.func10, Try.ntmps10
  go_wp2_with fail
  have hw0 := h.alloc (.cells #[.int .i64 6, .int .u64 X, .string s, .slice bo bn bc, .slice lo L.length lc] 36)
  have hs0 := hs.alloc (.cells #[.int .i64 6, .int .u64 X, .string s, .slice bo bn bc, .slice lo L.length lc] 36)
  have c0 : (w.alloc (.cells #[.int .i64 6, .int .u64 X, .string s, .slice bo bn bc, .slice lo L.length lc] 36)).cell? ⟨w.heap.size, 4, none⟩ = some (.slice lo L.length lc) := by simp
  refine (lentList_any lo L lc _ hs0 hL).mono ?_
  rintro r w1 ⟨g1, c1, rfl, hg1, hr1, ht1⟩
  have hw1 := hw0.touch ht1 (fun h => h) (fun _ _ h => h)
  have hs1 := hs0.touch ht1 (fun _ _ h => h)
  have e1 := (ht1.cell (p := ⟨w.heap.size, 4, none⟩) (by simp) (fun h => h)).trans c0
  have hg12 : g1 < w1.heap.size := hr1.lt rfl
  have hg0 : w.heap.size < g1 := by simp at hg1; omega
  have T1 := ((Touch.refl (fun _ => False) w).alloc (.cells #[.int .i64 6, .int .u64 X, .string s, .slice bo bn bc, .slice lo L.length lc] 36)).trans ht1 (fun _ _ h => h)
  have BY := hide (wRising_no pb v bs (some ⟨g1, 0, none⟩) L c1 w1 (Seg.of_row hr1).prefix (by omega) hup hw1)
  have HR1 := hide hr1
  have HS1 := hide hs1
  have HT1 := hide T1
  clear hw0 hs0 c0 ht1 hw1 hr1 hs1 hg1 T1
  go_wp2_with fail
  refine BY.out.mono ?_
  rintro r w2 ⟨rfl, hw2, ht2⟩
  have hr2 := HR1.out.touch ht2 (fun _ _ h => h)
  have hs2 := HS1.out.touch ht2 (fun _ _ h => h)
  have e2 := (ht2.cell (p := ⟨w.heap.size, 4, none⟩) (lt_of_cell e1) (fun h => h)).trans e1
  have LT := hide (fun n => leftList_true g1 c1 lo L lc (w2.drewN n) (hr2.stays fun _ _ => rfl) (hs2.drewN n) hL)
  have RI := hide (refRises_any lo L lc w2 hs2 (by omega))
  have HW2 := hide hw2
  have HT2 := hide (HT1.out.trans ht2 (fun _ _ h => h))
  have HUP := hide hup
  clear hw2 ht2 hr2 hs2 BY HR1 HS1 e1 hup
  go_wp2_with fail
  refine (num_any _ _).mono ?_
  rintro r w' ⟨rfl, rfl⟩
  go_wp2_with fail
  refine RI.out.mono ?_
  rintro r w3 ⟨b, rfl, hbb, n, rfl⟩
  obtain rfl : b = false := by cases b; rfl; exact absurd (hbb.1 rfl) HUP.out
  clear hbb
  have e3 : (w2.drewN n).cell? ⟨w.heap.size, 4, none⟩ = some (.slice lo L.length lc) := e2
  go_wp2_with fail
  refine (LT.out n).mono ?_
  rintro r w4 ⟨rfl, m, rfl⟩
  go_wp2_with fail
  go_ret2
  exact PutEnd.mk (Row.nil _ _ _) (by rw [List.append_nil]; exact HW2.out.drewN _) ⟨(HT2.out.drewN _).mono (fun _ _ k => k.elim), .inl rfl⟩

set_option maxRecDepth 100000 in
set_option maxHeartbeats 1000000 in
theorem put_rises (pb : Nat) (v : Value) (bs : List Int) (X : Nat) (s : ByteArray) (bo lo : Option Addr) (L : List Int) (bn bc lc : Nat) (w : World) (h : Wr w pb v bs) (hs : Seg w .i64 lo L) (hL : L.length ≤ 1048576) (h64 : In64 L) (hup : Up L) (hb : bs.length + 10 * L.length ≤ 140737487000000) (hap : Apart pb v lo L) :
    Calls Try.prog 10 #[.pointer (some ⟨pb, 0, none⟩), putVal 6 X s bo bn bc lo L.length lc] w (PutEnd w pb v bs (risb L)) := by
  have hne : v.ownBlock ≠ some w.heap.size := fun e => Nat.lt_irrefl _ (h.row.lt e)
  have hpl := h.lt
  unfold putVal
  go_enter Try.func10, Try.ntmps10
  go_wp2_with fail
  have hw0 := h.alloc (.cells #[.int .i64 6, .int .u64 X, .string s, .slice bo bn bc, .slice lo L.length lc] 36)
  have hs0 := hs.alloc (.cells #[.int .i64 6, .int .u64 X, .string s, .slice bo bn bc, .slice lo L.length lc] 36)
  have c0 : (w.alloc (.cells #[.int .i64 6, .int .u64 X, .string s, .slice bo bn bc, .slice lo L.length lc] 36)).cell? ⟨w.heap.size, 4, none⟩ = some (.slice lo L.length lc) := by simp
  refine (lentList_any lo L lc _ hs0 hL).mono ?_
  rintro r w1 ⟨g1, c1, rfl, hg1, hr1, ht1⟩
  have hw1 := hw0.touch ht1 (fun h => h) (fun _ _ h => h)
  have hs1 := hs0.touch ht1 (fun _ _ h => h)
  have e1 := (ht1.cell (p := ⟨w.heap.size, 4, none⟩) (by simp) (fun h => h)).trans c0
  have hg12 : g1 < w1.heap.size := hr1.lt rfl
  have hg0 : w.heap.size < g1 := by simp at hg1; omega
  have T1 := ((Touch.refl (fun _ => False) w).alloc (.cells #[.int .i64 6, .int .u64 X, .string s, .slice bo bn bc, .slice lo L.length lc] 36)).trans ht1 (fun _ _ h => h)
  have BY := hide (wRising_yes pb v bs (some ⟨g1, 0, none⟩) L c1 w1 (Seg.of_row hr1).prefix hb h64 hup (fun a ha e => by injection ha with ha; subst ha; have := h.row.lt e; simp at this; omega) hw1)
  have HR1 := hide hr1
  have HS1 := hide hs1
  have HT1 := hide T1
  have H64 := hide h64
  clear hw0 hs0 c0 ht1 hw1 hr1 hs1 hg1 T1 hb h64
  go_wp2_with fail
  refine BY.out.mono ?_
  rintro r w2 ⟨rfl, v2, hw2, ho2⟩
  have hr2 := HR1.out.touch ho2.touch (fun g hg e => by
    simp [Value.ownBlock] at hg
    rcases e with e | e
    · omega
    · have := h.row.lt e; omega)
  have hs2 := HS1.out.wrote ho2 hap
  have e2 := (ho2.touch.cell (p := ⟨w.heap.size, 4, none⟩) (lt_of_cell e1) (fun e => by
    rcases e with e | e
    · simp at e; omega
    · exact hne e)).trans e1
  have HW2 := hide hw2
  have HO2 := hide ho2
  have LT := hide (fun n => leftList_true g1 c1 lo L lc (w2.drewN n) (hr2.stays fun _ _ => rfl) (hs2.drewN n) hL)
  have RI := hide (refRises_any lo L lc w2 hs2 (by omega))
  have HR2 := hide hr2
  have HS2 := hide hs2
  have HUP := hide hup
  clear hw2 ho2 hr2 hs2 BY HR1 HS1 e1 hup
  go_wp2_with fail
  refine (num_any _ _).mono ?_
  rintro r w' ⟨rfl, rfl⟩
  go_wp2_with fail
  refine RI.out.mono ?_
  rintro r w3 ⟨b, rfl, hbb, n, rfl⟩
  obtain rfl : b = true := hbb.2 HUP.out
  clear hbb RI
  have e3 : (w2.drewN n).cell? ⟨w.heap.size, 4, none⟩ = some (.slice lo L.length lc) := e2
  go_wp2_with fail
  refine (LT.out n).mono ?_
  rintro r w4 ⟨rfl, m, rfl⟩
  clear LT
  obtain ⟨w5, hw5⟩ : ∃ w5, (w2.drewN n).drewN m = w5 := ⟨_, rfl⟩
  have e5 : w5.cell? ⟨w.heap.size, 4, none⟩ = some (.slice lo L.length lc) := by rw [← hw5]; exact e2
  have HR5 : Hid (Row w5 2 .i64 (.slice (some ⟨g1, 0, none⟩) (L.length + 1) c1) (L ++ [771])) := by rw [← hw5]; exact hide (HR2.out.stays fun _ _ => rfl)
  have HS5 : Hid (Seg w5 .i64 lo L) := by rw [← hw5]; exact hide ((HS2.out.drewN n).drewN m)
  have HW5 : Hid (Wr w5 pb v2 (bs ++ risb L)) := by rw [← hw5]; exact hide ((HW2.out.drewN n).drewN m)
  have HO5 : Hid (Wrote w1 pb v w5 v2) := by rw [← hw5]; exact hide ⟨(HO2.out.touch.drewN n).drewN m, HO2.out.fresh⟩
  rw [hw5]
  clear hw5 e2 e3 HR2 HS2 HW2 HO2
  go_wp2_with fail
  go_loopw [12] (fun i wr => ∃ (k : Nat) (zs : List Int), k ≤ L.length ∧ i = .int .i64 k ∧ zs.length = L.length + 1 ∧ Row wr 2 .i64 (.slice (some ⟨g1, 0, none⟩) (L.length + 1) c1) zs ∧ Touch (fun j => j = g1) w5 wr) (fun i _ => L.length - (intOf i).toNat)
  case atStart => exact ⟨0, L ++ [771], Nat.zero_le _, rfl, by simp, HR5.out, Touch.refl _ _⟩
  case round =>
    obtain ⟨k, zs, hk, rfl, hzl, hrowZ, htZ⟩ := hrel
    by_cases hlt : k < L.length
    · have k1 := hrowZ.cell k (by omega)
      have k2 := hrowZ.frozen k
      have RS := hide (hrowZ.set k 99)
      have TS := hide (Touch.setCell (p := ⟨g1, k, none⟩) (u := .int .i64 99) htZ (fun _ => rfl))
      obtain ⟨zk, hzk⟩ : ∃ zk, zs[k]'(by omega) = zk := ⟨_, rfl⟩
      rw [hzk] at k1
      have HZ := hide hzl
      clear hrowZ hzk hzl htZ e5
      go_wp2
      go_roundw
      case rel => exact ⟨k + 1, zs.set k 99, by omega, by go_num, by rw [List.length_set]; exact HZ.out, RS.out, TS.out⟩
      case measure => simp [intOf]; omega
    · have e6 := (htZ.cell (p := ⟨w.heap.size, 4, none⟩) (lt_of_cell e5) (fun e => by simp at e; omega)).trans e5
      obtain ⟨f1, f2⟩ := wrote_fill h HT1.out HO5.out HW5.out htZ (Nat.le_of_lt hg0) hg12
      have hs6 := HS5.out.touch1 htZ (fun a ha hne e => by have := seg_lt hs a ha hne; omega)
      have RR := hide (refRising_w lo L lc wr hs6 hL H64.out HUP.out)
      have F1 := hide f1
      have F2 := hide f2
      clear hrowZ htZ HR5 e5 f1 f2 hs6
      go_wp2_with fail
      refine RR.out.mono ?_
      rintro r w7 ⟨a7, n7, c7, rfl, hr7, hg7⟩
      go_wp2_with fail
      go_ret2
      exact PutEnd.mk hr7 (F1.out.touch (nil_touch hg7) (fun h => h) (fun _ _ h => h)) ⟨F2.out.touch.trans (nil_touch hg7) (fun _ _ h => h.elim), F2.out.fresh⟩

end Go.Proofs.Ythhajlbnnffgnaa
