/- The verifier's three timers. -/
import Derived.Test.YtlnblhajcbmmkaaTDue
namespace Go.Proofs.Ytlnblhajcbmmkaa
open Go.RowKit

theorem sorted_ext : ∀ {A B : List Tm}, (A.Pairwise fun a b => cmpT a b < 0) → (B.Pairwise fun a b => cmpT a b < 0) → (∀ x, x ∈ A ↔ x ∈ B) → A = B
  | [], [], _, _, _ => rfl
  | [], b :: B, _, _, h => absurd ((h b).2 (by simp)) (by simp)
  | a :: A, [], _, _, h => absurd ((h a).1 (by simp)) (by simp)
  | a :: A, b :: B, ha, hb, h => by
    rw [List.pairwise_cons] at ha hb
    have e : a = b := by
      rcases List.mem_cons.1 ((h a).1 (by simp)) with e | h1
      · exact e
      · rcases List.mem_cons.1 ((h b).2 (by simp)) with e | h2
        · exact e.symm
        · have g1 := hb.1 a h1
          have g2 := ha.1 b h2
          have := cmpT_ord.anti a b
          omega
    subst e
    have irr : ∀ x, cmpT x x = 0 := fun x => cmpT_eq.2 rfl
    rw [sorted_ext ha.2 hb.2 (fun x => by
      constructor
      · intro hx
        rcases List.mem_cons.1 ((h x).1 (List.mem_cons_of_mem _ hx)) with e | h1
        · have := ha.1 x hx; rw [e, irr] at this; omega
        · exact h1
      · intro hx
        rcases List.mem_cons.1 ((h x).2 (List.mem_cons_of_mem _ hx)) with e | h1
        · have := hb.1 x hx; rw [e, irr] at this; omega
        · exact h1)]

def tB : Tm := ⟨5, { data := #[98] }, 0, 0⟩
def tA : Tm := ⟨5, { data := #[97] }, 0, 0⟩
def tZ : Tm := ⟨3, { data := #[122] }, 0, 0⟩

theorem good3 : ∀ t ∈ [tB, tA, tZ], Good t := fun t ht => by
  simp only [List.mem_cons, List.not_mem_nil, or_false] at ht
  rcases ht with rfl | rfl | rfl <;> exact ⟨by decide, by decide, by decide, by decide⟩

theorem sort3 : [tZ, tA, tB].Pairwise fun a b => cmpT a b < 0 := by decide +kernel

theorem tms3 (w : World) : Tms (w.alloc (.cells #[.int .i64 5, .string { data := #[98] }, .int .i64 0, .int .i64 0, .int .i64 5, .string { data := #[97] }, .int .i64 0, .int .i64 0, .int .i64 3, .string { data := #[122] }, .int .i64 0, .int .i64 0] 35)) (some ⟨w.heap.size, 0, none⟩) [tB, tA, tZ] := fun j hj => by
  have h := heap_alloc_last w (.cells #[.int .i64 5, .string { data := #[98] }, .int .i64 0, .int .i64 0, .int .i64 5, .string { data := #[97] }, .int .i64 0, .int .i64 0, .int .i64 3, .string { data := #[122] }, .int .i64 0, .int .i64 0] 35)
  refine ⟨w.heap.size, 0, rfl, ?_⟩
  generalize w.alloc (.cells #[.int .i64 5, .string { data := #[98] }, .int .i64 0, .int .i64 0, .int .i64 5, .string { data := #[97] }, .int .i64 0, .int .i64 0, .int .i64 3, .string { data := #[122] }, .int .i64 0, .int .i64 0] 35) = W at *
  generalize w.heap.size = A at *
  have hj3 : j < 3 := by simpa using hj
  rcases (show j = 0 ∨ j = 1 ∨ j = 2 by omega) with rfl | rfl | rfl <;> simp [World.cell?, h, tB, tA, tZ]

set_option maxRecDepth 100000 in
set_option maxHeartbeats 1000000 in
theorem known_any (w : World) : Calls Try.prog 15 #[] w fun e w' => e = .returned (.bool true) ∧ Calm w w' := by
  have NW := hide (new_any (some ⟨w.heap.size, 0, none⟩) 3 [tB, tA, tZ] _ (tms3 w) good3 (by decide))
  have T0 : Hid (Calm w (w.alloc (.cells #[.int .i64 5, .string { data := #[98] }, .int .i64 0, .int .i64 0, .int .i64 5, .string { data := #[97] }, .int .i64 0, .int .i64 0, .int .i64 3, .string { data := #[122] }, .int .i64 0, .int .i64 0] 35))) := hide ((Touch.refl _ _).alloc _)
  go_enter Try.func15, Try.ntmps15
  go_wp2_with fail
  refine NW.out.mono ?_
  rintro e w1 ⟨q, F, V, rfl, tq, hm, hf, t1⟩
  have hVl : V.length < 3518437208790 := by
    have := sub_len (A := V) (B := [tB, tA, tZ]) tq.nd.nodup (fun x hx => (hm x).1 hx)
    simp at this; omega
  have DU := hide (due_any q F V 5 w1 tq hVl)
  have HM := hide hm
  have HF := hide hf
  have T1 := hide (T0.out.tr t1)
  have HS1 := hide t1.size
  clear tq hm hf t1 hVl NW
  go_wp2_with fail
  refine DU.out.mono ?_
  rintro e w2 ⟨D, V1, ao, cap, rfl, ow, tq1, srt, md, m1, t2⟩
  have eD : D = [tZ, tA, tB] := sorted_ext srt sort3 (fun x => by
    rw [md, HM.out]
    simp only [List.mem_cons, List.not_mem_nil, or_false]
    constructor
    · rintro ⟨h, -⟩
      rcases h with h | h | h
      · exact .inr (.inr h)
      · exact .inr (.inl h)
      · exact .inl h
    · intro h
      rcases h with h | h | h
      · exact ⟨.inr (.inr h), by rw [h]; decide⟩
      · exact ⟨.inr (.inl h), by rw [h]; decide⟩
      · exact ⟨.inl h, by rw [h]; decide⟩)
  have eV : V1 = [] := List.eq_nil_iff_forall_not_mem.2 (fun x hx => by
    obtain ⟨h1, h2⟩ := (m1 x).1 hx
    have h3 := (HM.out x).1 h1
    simp only [List.mem_cons, List.not_mem_nil, or_false] at h3
    rcases h3 with h | h | h <;> (rw [h] at h2; revert h2; decide))
  subst eD eV
  have LN := hide (len_any q F [] w2 tq1)
  simp only [List.length_nil] at LN
  have T2 : Hid (Calm w w2) := hide (T1.out.trans t2 (fun g hg h => by have := HF.out g h; have := T0.out.size; omega))
  obtain ⟨-, pr, -⟩ := OwnT.prs ow
  obtain ⟨b, off, e1, -, c0, -⟩ := pr 0 (by simp)
  obtain ⟨b1, off1, e2, -, c1, -⟩ := pr 1 (by simp)
  obtain ⟨b2, off2, e3, -, c2, -⟩ := pr 2 (by simp)
  subst e1
  injection e2 with e2
  injection e2 with e2 e2'
  subst e2 e2'
  injection e3 with e3
  injection e3 with e3 e3'
  subst e3 e3'
  simp only [List.getElem_cons_zero, List.getElem_cons_succ, Nat.zero_mul, Nat.add_zero, Nat.one_mul, List.length_cons, List.length_nil, tZ, tA, tB] at c0 c1 c2 ⊢
  clear ow tq1 srt md m1 t2 pr
  go_wp2_with fail
  refine LN.out.mono ?_
  rintro e w' ⟨rfl, hq⟩
  subst hq
  go_wp2_with fail
  go_ret
  exact ⟨by simp, T2.out⟩

end Go.Proofs.Ytlnblhajcbmmkaa
