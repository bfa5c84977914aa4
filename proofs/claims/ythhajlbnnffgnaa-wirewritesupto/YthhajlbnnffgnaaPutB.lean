/- Walks: puts of bytes. -/
import Derived.Test.YthhajlbnnffgnaaPuts
namespace Go.Proofs.Ythhajlbnnffgnaa
open Go.RowKit

/-- Memory that is handed in lies apart from the writer's. -/
def Apart (pb : Nat) (v : Value) (ao : Option Addr) (xs : List Int) : Prop := ∀ a, ao = some a → xs ≠ [] → a.block ≠ pb ∧ v.ownBlock ≠ some a.block

theorem Seg.wrote {w w' : World} {pb : Nat} {v v' : Value} {k : IntKind} {ao : Option Addr} {xs : List Int} (hs : Seg w k ao xs) (ho : Wrote w pb v w' v') (ha : Apart pb v ao xs) : Seg w' k ao xs :=
  hs.touch1 ho.touch (fun a e hne hS => by rcases hS with hS | hS; exact (ha a e hne).1 hS; exact (ha a e hne).2 hS)

theorem wrote_fill {w w1 w2 w3 : World} {pb g : Nat} {v v2 : Value} {bs cs : List Int} (h : Wr w pb v bs) (ht : Touch (fun _ => False) w w1) (ho : Wrote w1 pb v w2 v2) (hw : Wr w2 pb v2 cs) (hz : Touch (fun j => j = g) w2 w3) (h0 : w.heap.size ≤ g) (h1 : g < w1.heap.size) : Wr w3 pb v2 cs ∧ Wrote w pb v w3 v2 := by
  refine ⟨hw.touch hz (fun e => by have := h.lt; omega) (fun j hj e => ?_), (Wrote.of_touch ht ho).touch.trans hz (fun j hj e => by omega), ?_⟩
  · rcases ho.fresh with e2 | ⟨n, e2, hn⟩
    · rw [e2] at hj; have := h.row.lt hj; omega
    · rw [e2] at hj; injection hj with hj; omega
  · exact (Wrote.of_touch ht ho).fresh

set_option maxRecDepth 100000 in
set_option maxHeartbeats 1000000 in
theorem put_bytes (pb : Nat) (v : Value) (bs : List Int) (X : Nat) (s : ByteArray) (bo lo : Option Addr) (B : List Int) (bc ln lc : Nat) (w : World) (h : Wr w pb v bs) (hs : Seg w .u8 bo B) (h8 : In8 B) (hB : B.length ≤ 1048576) (hb : bs.length ≤ 140737487000000) (hap : Apart pb v bo B) :
    Calls Try.prog 10 #[.pointer (some ⟨pb, 0, none⟩), putVal 1 X s bo B.length bc lo ln lc] w (PutEnd w pb v bs B) := by
  have hne : v.ownBlock ≠ some w.heap.size := fun e => Nat.lt_irrefl _ (h.row.lt e)
  have hpl := h.lt
  unfold putVal
  go_enter Try.func10, Try.ntmps10
  go_wp2_with fail
  have hw0 := h.alloc (.cells #[.int .i64 1, .int .u64 X, .string s, .slice bo B.length bc, .slice lo ln lc] 36)
  have hs0 := hs.alloc (.cells #[.int .i64 1, .int .u64 X, .string s, .slice bo B.length bc, .slice lo ln lc] 36)
  have c0 : (w.alloc (.cells #[.int .i64 1, .int .u64 X, .string s, .slice bo B.length bc, .slice lo ln lc] 36)).cell? ⟨w.heap.size, 3, none⟩ = some (.slice bo B.length bc) := by simp
  refine (lent_any bo B bc _ hs0 (by omega)).mono ?_
  rintro r w1 ⟨g1, c1, rfl, hg1, hr1, ht1⟩
  have hw1 := hw0.touch ht1 (fun h => h) (fun _ _ h => h)
  have hs1 := hs0.touch ht1 (fun _ _ h => h)
  have e1 := (ht1.cell (p := ⟨w.heap.size, 3, none⟩) (by simp) (fun h => h)).trans c0
  have hg12 : g1 < w1.heap.size := hr1.lt rfl
  have hg0 : w.heap.size < g1 := by simp at hg1; omega
  have T1 := ((Touch.refl (fun _ => False) w).alloc _).trans ht1 (fun _ _ h => h)
  have BY := hide (wByte_any pb v bs (some ⟨g1, 0, none⟩) B c1 w1 (Seg.of_row hr1).prefix (by omega) hw1)
  have HR1 := hide hr1
  have HS1 := hide hs1
  have HT1 := hide T1
  clear hw0 hs0 c0 ht1 hw1 hr1 hs1 hg1 T1
  go_wp2_with fail
  refine BY.out.mono ?_
  rintro r w2 ⟨rfl, v2, hw2, ho2⟩
  have hr2 := HR1.out.touch ho2.touch (fun g hg e => by
    simp [Value.ownBlock] at hg
    rcases e with e | e
    · omega
    · have := h.row.lt e; omega)
  have hs2 := HS1.out.wrote ho2 hap
  have e2 := (ho2.touch.cell (p := ⟨w.heap.size, 3, none⟩) (lt_of_cell e1) (fun e => by
    rcases e with e | e
    · simp at e; omega
    · exact hne e)).trans e1
  have HW2 := hide hw2
  have HO2 := hide ho2
  have LT := hide (left_true g1 c1 bo B bc w2 hr2 hs2 h8 hB)
  have HR2 := hide hr2
  have HS2 := hide hs2
  clear hw2 ho2 hr2 hs2 BY HR1 HS1 e1
  go_wp2_with fail
  refine (num_any _ _).mono ?_
  rintro r w' ⟨rfl, rfl⟩
  go_wp2_with fail
  refine LT.out.mono ?_
  rintro r w' ⟨rfl, hq⟩
  obtain rfl := hq.symm
  clear hq LT
  go_wp2_with fail
  go_loopw [8] (fun i wr => ∃ (k : Nat) (zs : List Int), k ≤ B.length ∧ i = .int .i64 k ∧ zs.length = B.length + 2 ∧ Row wr 5 .u8 (.slice (some ⟨g1, 0, none⟩) (B.length + 2) c1) zs ∧ Touch (fun j => j = g1) w2 wr) (fun i _ => B.length - (intOf i).toNat)
  case atStart => exact ⟨0, B ++ [165, 166], Nat.zero_le _, rfl, by simp, HR2.out, Touch.refl _ _⟩
  case round =>
    obtain ⟨k, zs, hk, rfl, hzl, hrowZ, htZ⟩ := hrel
    by_cases hlt : k < B.length
    · have k1 := hrowZ.cell k (by omega)
      have k2 := hrowZ.frozen k
      have RS := hide (hrowZ.set k 99)
      have TS := hide (Touch.setCell (p := ⟨g1, k, none⟩) (u := .int .u8 99) htZ (fun _ => rfl))
      obtain ⟨zk, hzk⟩ : ∃ zk, zs[k]'(by omega) = zk := ⟨_, rfl⟩
      rw [hzk] at k1
      have HZ := hide hzl
      clear hrowZ hzk hzl htZ e2
      go_wp2
      go_roundw
      case rel => exact ⟨k + 1, zs.set k 99, by omega, by go_num, by rw [List.length_set]; exact HZ.out, RS.out, TS.out⟩
      case measure => simp [intOf]; omega
    · have e3 := (htZ.cell (p := ⟨w.heap.size, 3, none⟩) (lt_of_cell e2) (fun e => by simp at e; omega)).trans e2
      have HTZ := hide htZ
      clear hrowZ htZ HR2 e2
      go_wp2_with fail
      go_ret2
      obtain ⟨f1, f2⟩ := wrote_fill h HT1.out HO2.out HW2.out HTZ.out (Nat.le_of_lt hg0) hg12
      exact ⟨bo, _, bc, v2, rfl, rfl, HS2.out.touch1 HTZ.out (fun a ha hne e => by have := seg_lt hs a ha hne; omega), f1, f2⟩

end Go.Proofs.Ythhajlbnnffgnaa
