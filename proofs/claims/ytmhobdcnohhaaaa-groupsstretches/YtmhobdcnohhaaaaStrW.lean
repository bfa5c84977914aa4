/- The walk of GroupsStretches. -/
import Derived.Test.YtmhobdcnohhaaaaStrP
namespace Go.Proofs.Ytmhobdcnohhaaaa
open Go.RowKit
attribute [local go_sem] Oper.semAt_some

/-- What holds at a turn's begin. -/
def StrI (w : World) (B3 B4 B5 B6 B8 S1 S2 : Nat) (p g leave : Int) : Act → World → Prop := fun a W' => ∃ (t T low : Nat) (Ds : List Nat) (us : Nat → Value), t ≤ 2 ∧ Ds.length = t ∧ a = { tmps := #[.int .i64 p, .int .i64 g, .int .i64 leave, .pointer (some ⟨B3, 0, none⟩), .pointer (some ⟨B4, 0, none⟩), .pointer (some ⟨B5, 0, none⟩), .pointer (some ⟨B6, 0, none⟩), .func (.func 34) #[] #[.pointer (some ⟨S1, 0, none⟩), .pointer (some ⟨S2, 0, none⟩)], .pointer (some ⟨B8, 0, none⟩), .pointer (some ⟨T, 0, none⟩), us 10, us 11, us 12, us 13, us 14, us 15, us 16, us 17, us 18, us 19, us 20, us 21, us 22, us 23, us 24, us 25, us 26, us 27, us 28, us 29, us 30, us 31, us 32, us 33, us 34, us 35, us 36, us 37, us 38, us 39, us 40, us 41, us 42, us 43, us 44, us 45, us 46, us 47, us 48, us 49, us 50, us 51, us 52, us 53, us 54, us 55, us 56, us 57, us 58, us 59, us 60, us 61, us 62, us 63, us 64, us 65, us 66, us 67, us 68, us 69, us 70, us 71, us 72, us 73, us 74, us 75, us 76, us 77, us 78, us 79, us 80, us 81, us 82, us 83, us 84, us 85, us 86, us 87, us 88, us 89, us 90, us 91, us 92, us 93, us 94, us 95, us 96, us 97, us 98, us 99, us 100, us 101, us 102, us 103, us 104, us 105, us 106, us 107, us 108, us 109, us 110, us 111, us 112, us 113, us 114, us 115, us 116, us 117, us 118, us 119, us 120, us 121, us 122, us 123, us 124, us 125, us 126, us 127, us 128, us 129, us 130, us 131, us 132], defers := Ds.map mark } ∧ So w low B3 B4 B5 B6 B8 T S1 S2 p g leave t Ds W'

theorem StrI.intro {w : World} {B3 B4 B5 B6 B8 S1 S2 : Nat} {p g leave : Int} {a : Act} {W' : World} (t T low : Nat) (Ds : List Nat) (h : t ≤ 2) (hl : Ds.length = t) (hd : a.defers = Ds.map mark)
    (h0 : a.tmps = #[.int .i64 p, .int .i64 g, .int .i64 leave, .pointer (some ⟨B3, 0, none⟩), .pointer (some ⟨B4, 0, none⟩), .pointer (some ⟨B5, 0, none⟩), .pointer (some ⟨B6, 0, none⟩), .func (.func 34) #[] #[.pointer (some ⟨S1, 0, none⟩), .pointer (some ⟨S2, 0, none⟩)], .pointer (some ⟨B8, 0, none⟩), .pointer (some ⟨T, 0, none⟩), a.tmps.getD 10 undef, a.tmps.getD 11 undef, a.tmps.getD 12 undef, a.tmps.getD 13 undef, a.tmps.getD 14 undef, a.tmps.getD 15 undef, a.tmps.getD 16 undef, a.tmps.getD 17 undef, a.tmps.getD 18 undef, a.tmps.getD 19 undef, a.tmps.getD 20 undef, a.tmps.getD 21 undef, a.tmps.getD 22 undef, a.tmps.getD 23 undef, a.tmps.getD 24 undef, a.tmps.getD 25 undef, a.tmps.getD 26 undef, a.tmps.getD 27 undef, a.tmps.getD 28 undef, a.tmps.getD 29 undef, a.tmps.getD 30 undef, a.tmps.getD 31 undef, a.tmps.getD 32 undef, a.tmps.getD 33 undef, a.tmps.getD 34 undef, a.tmps.getD 35 undef, a.tmps.getD 36 undef, a.tmps.getD 37 undef, a.tmps.getD 38 undef, a.tmps.getD 39 undef, a.tmps.getD 40 undef, a.tmps.getD 41 undef, a.tmps.getD 42 undef, a.tmps.getD 43 undef, a.tmps.getD 44 undef, a.tmps.getD 45 undef, a.tmps.getD 46 undef, a.tmps.getD 47 undef, a.tmps.getD 48 undef, a.tmps.getD 49 undef, a.tmps.getD 50 undef, a.tmps.getD 51 undef, a.tmps.getD 52 undef, a.tmps.getD 53 undef, a.tmps.getD 54 undef, a.tmps.getD 55 undef, a.tmps.getD 56 undef, a.tmps.getD 57 undef, a.tmps.getD 58 undef, a.tmps.getD 59 undef, a.tmps.getD 60 undef, a.tmps.getD 61 undef, a.tmps.getD 62 undef, a.tmps.getD 63 undef, a.tmps.getD 64 undef, a.tmps.getD 65 undef, a.tmps.getD 66 undef, a.tmps.getD 67 undef, a.tmps.getD 68 undef, a.tmps.getD 69 undef, a.tmps.getD 70 undef, a.tmps.getD 71 undef, a.tmps.getD 72 undef, a.tmps.getD 73 undef, a.tmps.getD 74 undef, a.tmps.getD 75 undef, a.tmps.getD 76 undef, a.tmps.getD 77 undef, a.tmps.getD 78 undef, a.tmps.getD 79 undef, a.tmps.getD 80 undef, a.tmps.getD 81 undef, a.tmps.getD 82 undef, a.tmps.getD 83 undef, a.tmps.getD 84 undef, a.tmps.getD 85 undef, a.tmps.getD 86 undef, a.tmps.getD 87 undef, a.tmps.getD 88 undef, a.tmps.getD 89 undef, a.tmps.getD 90 undef, a.tmps.getD 91 undef, a.tmps.getD 92 undef, a.tmps.getD 93 undef, a.tmps.getD 94 undef, a.tmps.getD 95 undef, a.tmps.getD 96 undef, a.tmps.getD 97 undef, a.tmps.getD 98 undef, a.tmps.getD 99 undef, a.tmps.getD 100 undef, a.tmps.getD 101 undef, a.tmps.getD 102 undef, a.tmps.getD 103 undef, a.tmps.getD 104 undef, a.tmps.getD 105 undef, a.tmps.getD 106 undef, a.tmps.getD 107 undef, a.tmps.getD 108 undef, a.tmps.getD 109 undef, a.tmps.getD 110 undef, a.tmps.getD 111 undef, a.tmps.getD 112 undef, a.tmps.getD 113 undef, a.tmps.getD 114 undef, a.tmps.getD 115 undef, a.tmps.getD 116 undef, a.tmps.getD 117 undef, a.tmps.getD 118 undef, a.tmps.getD 119 undef, a.tmps.getD 120 undef, a.tmps.getD 121 undef, a.tmps.getD 122 undef, a.tmps.getD 123 undef, a.tmps.getD 124 undef, a.tmps.getD 125 undef, a.tmps.getD 126 undef, a.tmps.getD 127 undef, a.tmps.getD 128 undef, a.tmps.getD 129 undef, a.tmps.getD 130 undef, a.tmps.getD 131 undef, a.tmps.getD 132 undef]) (so : So w low B3 B4 B5 B6 B8 T S1 S2 p g leave t Ds W') : StrI w B3 B4 B5 B6 B8 S1 S2 p g leave a W' :=
  ⟨t, T, low, Ds, fun i => a.tmps.getD i undef, h, hl, by
    cases a with
    | mk tm df =>
      simp only at hd h0 ⊢
      rw [← h0, hd], so⟩

set_option maxRecDepth 100000 in
set_option maxHeartbeats 4000000 in
theorem stretches_no (p g leave : Int) (hm : mayW p g = false) (w : World) : Calls Try.prog 4 #[.int .i64 p, .int .i64 g, .int .i64 leave] w fun e w' => e = .returned (.bool true) ∧ Touch (fun _ => False) w w' := by
  have M := hide (rmays_any p g)
  have hmany : many p g = 0 := by unfold many; simp [hm]
  refine (callsIn_wide (n := 3)).1 (callsIn_of_wp_marks Try.func4 rfl trivial ?_ rfl)
  simp only [Try.ntmps4, List.size_toArray, List.length_cons, List.length_nil, Nat.reduceAdd, Nat.reduceSub, Array.replicate_succ, Array.replicate_zero, List.push_toArray, List.append_toArray, List.nil_append, List.cons_append]
  have FN := func_not_nil
  gi_wp2
  refine ⟨trivial, (callsIn_wide.2 (stretches_any _ _ _)).mono ?_⟩
  rintro e w1 ⟨rfl, rfl⟩
  gi_wp2
  refine ⟨trivial, (callsIn_wide.2 (M.out _)).mono ?_⟩
  rintro e w1 ⟨rfl, rfl⟩
  gi_wp2
  obtain ⟨low0, elow⟩ : ∃ low, low = w.heap.size + 1 + 1 + 1 + 1 + 1 + 1 + 1 + 1 := ⟨_, rfl⟩
  obtain ⟨T0, eT⟩ : ∃ T, T = w.heap.size + 1 + 1 + 1 + 1 + 1 + 1 + 1 := ⟨_, rfl⟩
  obtain ⟨B8, e8⟩ : ∃ B8, B8 = w.heap.size + 1 + 1 + 1 + 1 + 1 + 1 := ⟨_, rfl⟩
  obtain ⟨S2, f2⟩ : ∃ S2, S2 = w.heap.size + 1 + 1 + 1 + 1 + 1 := ⟨_, rfl⟩
  obtain ⟨S1, f1⟩ : ∃ S1, S1 = w.heap.size + 1 + 1 + 1 + 1 := ⟨_, rfl⟩
  obtain ⟨B6, e6⟩ : ∃ B6, B6 = w.heap.size + 1 + 1 + 1 := ⟨_, rfl⟩
  obtain ⟨B5, e5⟩ : ∃ B5, B5 = w.heap.size + 1 + 1 := ⟨_, rfl⟩
  obtain ⟨B4, e4⟩ : ∃ B4, B4 = w.heap.size + 1 := ⟨_, rfl⟩
  obtain ⟨B3, e3⟩ : ∃ B3, B3 = w.heap.size := ⟨_, rfl⟩
  obtain ⟨W1, eW1⟩ : ∃ W1, W1 = (((((((w.alloc (.cells #[.int .i64 p] 3)).alloc (.cells #[.int .i64 g] 3)).alloc (.cells #[.int .i64 leave] 3)).alloc (.cells #[.bool false] 4)).alloc (.cells #[.int .i64 p] 3)).alloc (.cells #[.int .i64 g] 3)).alloc (.cells #[.int .i64 0] 3)).alloc (.cells #[.int .i64 0] 3) := ⟨_, rfl⟩
  have hsz : W1.heap.size = low0 := by rw [eW1, elow]; simp
  have SO : So w low0 B3 B4 B5 B6 B8 T0 S1 S2 p g leave 0 [] W1 := by
    have nw : ∀ (V : World) (o : Obj) (n : Nat), n = V.heap.size → (V.alloc o).heap[n]? = some o := fun V o n e => by rw [e]; exact World.alloc_heap_new V o
    have kp : ∀ (V : World) (o o' : Obj) (n : Nat), V.heap[n]? = some o → (V.alloc o').heap[n]? = some o := fun V o o' n h => (Below.heap_alloc V o' n (lt_of_heap h)).trans h
    refine ⟨by rw [eW1]; exact ((((((((Touch.refl _ _).alloc _).alloc _).alloc _).alloc _).alloc _).alloc _).alloc _).alloc _, ?_, ?_, ?_, ?_, ?_, ?_, ?_, ?_, fun _ h => (nomatch h), List.nodup_nil, ⟨by omega, by omega, by omega⟩, ⟨by omega, by omega, by omega, by omega, by omega, by omega, by omega, by omega⟩, by rw [hsz]; exact Nat.le_refl _⟩
    · rw [eW1]; exact kp _ _ _ _ (kp _ _ _ _ (kp _ _ _ _ (kp _ _ _ _ (kp _ _ _ _ (kp _ _ _ _ (kp _ _ _ _ (nw _ _ _ e3)))))))
    · rw [eW1]; exact kp _ _ _ _ (kp _ _ _ _ (kp _ _ _ _ (kp _ _ _ _ (kp _ _ _ _ (kp _ _ _ _ (nw _ _ _ (by rw [e4]; simp)))))))
    · rw [eW1]; exact kp _ _ _ _ (kp _ _ _ _ (kp _ _ _ _ (kp _ _ _ _ (kp _ _ _ _ (nw _ _ _ (by rw [e5]; simp))))))
    · rw [eW1]; exact kp _ _ _ _ (kp _ _ _ _ (kp _ _ _ _ (kp _ _ _ _ (nw _ _ _ (by rw [e6]; simp)))))
    · rw [hmany, eW1]; exact kp _ _ _ _ (nw _ _ _ (by rw [e8]; simp))
    · rw [eW1]; exact nw _ _ _ (by rw [eT]; simp)
    · rw [eW1]; exact kp _ _ _ _ (kp _ _ _ _ (kp _ _ _ _ (nw _ _ _ (by rw [f1]; simp))))
    · rw [eW1]; exact kp _ _ _ _ (kp _ _ _ _ (nw _ _ _ (by rw [f2]; simp)))
  rw [← eT, ← e8, ← f2, ← f1, ← e6, ← e5, ← e4, ← e3, ← eW1]
  have HSEQ := hide (stretches1_any S1 S2 p g)
  have HSO := hide SO
  clear e3 e4 e5 e6 e8 eT f1 f2 elow eW1 SO FN
  refine wpIn_loop (StrI w B3 B4 B5 B6 B8 S1 S2 p g leave) (fun a _ => 3 - a.defers.length) (StrI.intro 0 T0 low0 [] (by omega) rfl rfl rfl HSO.out) ?_
  rintro a W' ⟨t, T, low, Ds, us, ht, hDs, rfl, so⟩
  by_cases h2 : t < 2
  · obtain ⟨ct, _⟩ := one_cell so.bt
    have hti : (t : Int) < 2 := by omega
    have HS := hide so
    clear so
    gi_wp2
    obtain ⟨top, etop⟩ : ∃ top, top = W'.heap.size + 1 + 1 := ⟨_, rfl⟩
    obtain ⟨A, eA⟩ : ∃ A, A = W'.heap.size + 1 := ⟨_, rfl⟩
    obtain ⟨N, eN⟩ : ∃ N, N = W'.heap.size := ⟨_, rfl⟩
    obtain ⟨W2, eW2⟩ : ∃ W2, W2 = (W'.alloc (.cells #[.int .i64 0] 3)).alloc (.cells #[.int .i64 0] 3) := ⟨_, rfl⟩
    have hsz2 : W2.heap.size = top := by rw [eW2, etop]; simp
    have SK : Sk w low top B3 B4 B5 B6 B8 T S1 S2 N A p g leave t Ds 0 (st p.toNat g.toNat 0) W2 := by
      have nw : ∀ (V : World) (o : Obj) (n : Nat), n = V.heap.size → (V.alloc o).heap[n]? = some o := fun V o n e => by rw [e]; exact World.alloc_heap_new V o
      have kp : ∀ (V : World) (o o' : Obj) (n : Nat), V.heap[n]? = some o → (V.alloc o').heap[n]? = some o := fun V o o' n h => (Below.heap_alloc V o' n (lt_of_heap h)).trans h
      have zl := HS.out.sz
      rw [st_zero]
      refine ⟨HS.out.turn (S := fun _ => False) (by rw [eW2]; exact ((Touch.refl (fun _ => False) W').alloc _).alloc _) (fun _ h => h.elim), ?_, ?_, ⟨by omega, by omega, by omega⟩, by omega⟩
      · rw [eW2]; exact kp _ _ _ _ (nw _ _ _ eN)
      · rw [eW2]; exact nw _ _ _ (by rw [eA]; simp)
    rw [← eA, ← eN, ← eW2]
    have HSK := hide SK
    clear eA eN etop eW2 SK HS ct
    refine wpIn_range (gf := 34) (lb := #[.pointer (some ⟨S1, 0, none⟩), .pointer (some ⟨S2, 0, none⟩)]) rfl (enters_of Try.func34 (by kernel_rfl) rfl) HSEQ.out (fun _ => rfl)
      (fun k W => Sk w low top B3 B4 B5 B6 B8 T S1 S2 N A p g leave t Ds k (st p.toNat g.toNat k) W ∧ (t = 0 → leave ≤ 0 ∨ (k : Int) < leave))
      (fun c k W => c = .exit 2 ∧ t = 0 ∧ 0 < k ∧ (k : Int) = leave ∧ Sk w low top B3 B4 B5 B6 B8 T S1 S2 N A p g leave t Ds k (st p.toNat g.toNat k) W)
      (fun k x a' W => x = k ∧ ∃ Bx : Nat, W.heap[Bx]? = some (.cells #[.int .i64 (st p.toNat g.toNat k : Nat), .int .i64 (st p.toNat g.toNat (k + 1) : Nat)] 45 (0, 0)) ∧ top ≤ Bx ∧ a' = { tmps := #[.int .i64 p, .int .i64 g, .int .i64 leave, .pointer (some ⟨B3, 0, none⟩), .pointer (some ⟨B4, 0, none⟩), .pointer (some ⟨B5, 0, none⟩), .pointer (some ⟨B6, 0, none⟩), .func (.func 34) #[] #[.pointer (some ⟨S1, 0, none⟩), .pointer (some ⟨S2, 0, none⟩)], .pointer (some ⟨B8, 0, none⟩), .pointer (some ⟨T, 0, none⟩), .pointer (some ⟨N, 0, none⟩), .pointer (some ⟨A, 0, none⟩), .int .i64 (k : Int), .pointer (some ⟨Bx, 0, none⟩), us 14, us 15, us 16, us 17, us 18, us 19, us 20, us 21, us 22, us 23, us 24, us 25, .int .i64 (t : Int), .bool true, us 28, us 29, .func (.func 34) #[] #[.pointer (some ⟨S1, 0, none⟩), .pointer (some ⟨S2, 0, none⟩)], .int .i64 (k : Int), .agg #[.int .i64 (st p.toNat g.toNat k : Nat), .int .i64 (st p.toNat g.toNat (k + 1) : Nat)], us 33, us 34, us 35, us 36, us 37, us 38, us 39, us 40, us 41, us 42, us 43, us 44, us 45, us 46, us 47, us 48, us 49, us 50, us 51, us 52, us 53, us 54, us 55, us 56, us 57, us 58, us 59, us 60, us 61, us 62, us 63, us 64, us 65, us 66, us 67, us 68, us 69, us 70, us 71, us 72, us 73, us 74, us 75, us 76, us 77, us 78, us 79, us 80, us 81, us 82, us 83, us 84, us 85, us 86, us 87, us 88, us 89, us 90, us 91, us 92, us 93, us 94, us 95, us 96, us 97, us 98, us 99, us 100, us 101, us 102, us 103, us 104, us 105, us 106, us 107, us 108, us 109, us 110, us 111, us 112, us 113, us 114, us 115, us 116, us 117, us 118, us 119, us 120, us 121, us 122, us 123, us 124, us 125, us 126, us 127, us 128, us 129, us 130, us 131, us 132], defers := [] })
      (fun k W h => ⟨(one_cell h.1.so.s1).1, (one_cell h.1.so.s2).1⟩) (fun k W W' h ht => ⟨h.1.turn ht (fun _ h => h.elim), h.2⟩) (fun k => ?ip) (fun c k => ?xp) (fun k x a' => ?ap) ⟨HSK.out, fun _ => ?z0⟩ ?assign ?body ?done ?stop
    case z0 =>
      by_cases h : leave ≤ 0
      · exact .inl h
      · exact .inr (by omega)
    case ip =>
      rw [hsz2]
      rintro W l o o' ⟨h, hl⟩ h1 h2 h3
      exact ⟨Sk.bides W l o o' h h1 h2 h3, hl⟩
    case xp =>
      rw [hsz2]
      rintro W l o o' ⟨q1, q2, q3, q4, h⟩ h1 h2 h3
      exact ⟨q1, q2, q3, q4, Sk.bides W l o o' h h1 h2 h3⟩
    case ap =>
      rw [hsz2]
      rintro W l o o' ⟨hx, Bx, h1, h2, h3⟩ hl ho hc
      refine ⟨hx, Bx, (touch_put W l o').heap h1 (fun e => ?_), h2, h3⟩
      subst e
      rw [h1] at ho; injection ho with ho; rw [← ho] at hc; cases hc
    case assign =>
      rintro l k x W0 W K h0 hi hkm
      rw [hmany] at hkm
      exact absurd hkm (Nat.not_lt_zero _)
    case body =>
      rintro l k x a' W hi hkm
      rw [hmany] at hkm
      exact absurd hkm (Nat.not_lt_zero _)
    case done =>
      rintro D W hD ⟨hi, hlv⟩ hd
      rw [hsz2] at hD
      have HG : Hid (0 < many p g → ((st p.toNat g.toNat (many p g) : Nat) : Int) = g) := hide (fun h => by rw [hmany] at h; exact absurd h (Nat.lt_irrefl _))
      obtain ⟨c4, _⟩ := one_cell hi.so.b4
      obtain ⟨c5, _⟩ := one_cell hi.so.b5
      obtain ⟨c8, _⟩ := one_cell hi.so.b8
      obtain ⟨ct, _⟩ := one_cell hi.so.bt
      obtain ⟨cn, _⟩ := one_cell hi.bn
      obtain ⟨ca, _⟩ := one_cell hi.ba
      have HNX := hide (hi.next hD hd)
      clear HSEQ HSO HSK hmany
      generalize st p.toNat g.toNat (many p g) = xx at *
      generalize many p g = mm at *
      have HDs := hide hDs
      have HT : Hid (t = 0 ∨ t = 1) := hide (by omega)
      clear hi hd hDs hti ht
      rcases HT.out with rfl | rfl
      · by_cases hle : leave ≤ 0
        · have hlg : ¬ (0 : Int) < leave := by omega
          clear hlv
          rcases Nat.eq_zero_or_pos mm with hm0 | hmp
          · subst hm0
            gi_wp2
            exact ⟨StrI.intro 1 _ _ (D :: Ds) (by omega) (by rw [List.length_cons, HDs.out]) rfl rfl HNX.out, by have := HDs.out; omega⟩
          · have hmi : (0 : Int) < (mm : Int) := by omega
            have hE : ((xx : Int) == g) = true := by rw [beq_iff_eq]; exact HG.out hmp
            clear HG
            gi_wp2
            exact ⟨StrI.intro 1 _ _ (D :: Ds) (by omega) (by rw [List.length_cons, HDs.out]) rfl rfl HNX.out, by have := HDs.out; omega⟩
        · have hlg : (0 : Int) < leave := by omega
          have hml : (mm : Int) < leave := by rcases hlv rfl with h | h <;> omega
          clear hlv
          gi_wp2
          exact ⟨StrI.intro 1 _ _ (D :: Ds) (by omega) (by rw [List.length_cons, HDs.out]) rfl rfl HNX.out, by have := HDs.out; omega⟩
      · clear hlv
        rcases Nat.eq_zero_or_pos mm with hm0 | hmp
        · subst hm0
          gi_wp2
          exact ⟨StrI.intro 2 _ _ (D :: Ds) (by omega) (by rw [List.length_cons, HDs.out]) rfl rfl HNX.out, by have := HDs.out; omega⟩
        · have hmi : (0 : Int) < (mm : Int) := by omega
          have hE : ((xx : Int) == g) = true := by rw [beq_iff_eq]; exact HG.out hmp
          clear HG
          gi_wp2
          exact ⟨StrI.intro 2 _ _ (D :: Ds) (by omega) (by rw [List.length_cons, HDs.out]) rfl rfl HNX.out, by have := HDs.out; omega⟩
    case stop =>
      rintro D c k W hD hkm ⟨rfl, ht0, hk0, hkl, hi⟩ hd
      rw [hsz2] at hD
      subst ht0
      obtain ⟨c5, _⟩ := one_cell hi.so.b5
      obtain ⟨c8, _⟩ := one_cell hi.so.b8
      obtain ⟨ct, _⟩ := one_cell hi.so.bt
      obtain ⟨cn, _⟩ := one_cell hi.bn
      have HNX := hide (hi.next hD hd)
      clear HSEQ HSO HSK hmany hi
      generalize many p g = mm at *
      have HDs := hide hDs
      have hlg : (0 : Int) < leave := by omega
      have hml : ¬ (mm : Int) < leave := by omega
      have hE : ((k : Int) == leave) = true := by rw [beq_iff_eq]; exact hkl
      clear hE hd hDs hti ht
      gi_wp2
      exact ⟨StrI.intro 1 _ _ (D :: Ds) (by omega) (by rw [List.length_cons, HDs.out]) rfl rfl HNX.out, by have := HDs.out; omega⟩
  · have e2 : t = 2 := by omega
    subst e2
    obtain ⟨ct, _⟩ := one_cell so.bt
    have HS := hide so
    clear so
    gi_wp2
    refine ⟨trivial, (callsIn_wide.2 (known_any _)).mono ?_⟩
    rintro e w5 ⟨rfl, t5⟩
    have S5 := HS.out.turn t5 (fun _ h => h.elim)
    have t6 : Touch (fun g => g = B6) w5 (w5.setCell ⟨B6, 0, none⟩ (.bool true)) := (Touch.refl (fun g => g = B6) w5).setCell (p := ⟨B6, 0, none⟩) (fun _ => rfl) _
    obtain ⟨c6, f6⟩ := one_cell S5.b6
    have H6 := hide (set_one (.bool true) S5.b6)
    have HT6 := hide (S5.touch.trans t6 (fun g hg e => by have := S5.lo; omega))
    have HM6 : Hid (∀ D ∈ Ds, w.heap.size ≤ D ∧ (w5.setCell ⟨B6, 0, none⟩ (.bool true)).heap[D]? = some (.deferred (some []))) := hide (fun D hD => ⟨(S5.mks D hD).1, t6.heap (S5.mks D hD).2.2 (fun e => by
      have h := (S5.mks D hD).2.2
      subst e
      rw [S5.b6] at h; cases h)⟩)
    have HND := hide S5.nd
    clear S5 t5 t6 HS ct
    gi_wp2
    refine leaves_marks Ds _ (fun D hD => (HM6.out D hD).2) HND.out (fun W2 tw => ?_)
    have r6 := (one_cell (tw.heap H6.out (fun hm => by have h := (HM6.out _ hm).2; rw [H6.out] at h; cases h))).1
    exact ⟨.bool true, by simp [results, Try.results4, go_sem, r6], rfl, HT6.out.trans tw (fun g hg hm => by have := (HM6.out _ hm).1; omega)⟩

end Go.Proofs.Ytmhobdcnohhaaaa
