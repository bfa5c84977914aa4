/- StorePlays, walked. -/
import Derived.Test.YtegiinnhknfjjaaIPl
import Derived.Test.YtegiinnhknfjjaaIWorks
namespace Go.Proofs.Ytegiinnhknfjjaa.IM
open Go.RowKit
attribute [local go_sem] Oper.semAt_some

theorem cellsAll {w : World} {b : Nat} {u v x y z a : Value} {t : TypeId} (h : w.heap[b]? = some (.cells #[u, v, x, y, z, a] t (0, 0))) :
    w.cell? ⟨b, 0, none⟩ = some u ∧ w.cell? ⟨b, 1, none⟩ = some v ∧ w.cell? ⟨b, 2, none⟩ = some x ∧ w.cell? ⟨b, 3, none⟩ = some y ∧ w.cell? ⟨b, 4, none⟩ = some z ∧ w.cell? ⟨b, 5, none⟩ = some a := by simp [World.cell?, h]

/-- One call of a script. -/
structure Op6 where
  kind : Int
  on : Int
  to_ : Int
  key : Int
  value : Int
  n : Int

/-- A script. -/
structure SegO (W : World) (ao : Option Addr) (l : List Op6) : Prop where
  addr : 0 < l.length → ∃ b off, ao = some ⟨b, off, none⟩
  cell : ∀ b off, ao = some ⟨b, off, none⟩ → ∀ i (h : i < l.length), W.cell? ⟨b, off + i * 6, none⟩ = some (.int .i64 l[i].kind) ∧ W.cell? ⟨b, off + i * 6 + 1, none⟩ = some (.int .i64 l[i].on) ∧ W.cell? ⟨b, off + i * 6 + 2, none⟩ = some (.int .i64 l[i].to_) ∧ W.cell? ⟨b, off + i * 6 + 3, none⟩ = some (.int .i64 l[i].key) ∧ W.cell? ⟨b, off + i * 6 + 4, none⟩ = some (.int .i64 l[i].value) ∧ W.cell? ⟨b, off + i * 6 + 5, none⟩ = some (.int .i64 l[i].n)
  ok : ∀ o ∈ l, o.n < 9223372036854775808

theorem SegO.calm {W W' : World} {ao : Option Addr} {l : List Op6} (h : SegO W ao l) (ht : Calm W W') : SegO W' ao l := by
  refine ⟨h.addr, fun b off e i hi => ?_, h.ok⟩
  obtain ⟨h0, h1, h2, h3, h4, h5⟩ := h.cell b off e i hi
  have g : ∀ {j : Nat} {v : Value}, W.cell? ⟨b, j, none⟩ = some v → W'.cell? ⟨b, j, none⟩ = some v := fun {j v} h => (ht.cell (p := ⟨b, j, none⟩) (lt_of_cell h) (fun h => h)).trans h
  exact ⟨g h0, g h1, g h2, g h3, g h4, g h5⟩

theorem wrap_up {n m : Nat} (h : n < m) (hm : m < 9223372036854775808) : wrap64 ((n : Int) + 1) = ((n + 1 : Nat) : Int) := by unfold wrap64; omega

theorem third (x : Int) : ∃ n : Nat, n < 3 ∧ (wrap64 (x.tmod 3 + 3)).tmod 3 = (n : Int) := by
  have h1 : x.tmod 3 < 3 := Int.tmod_lt_of_pos x (by decide)
  have h2 : -3 < x.tmod 3 := by
    have := Int.tmod_lt_of_pos (-x) (show (0 : Int) < 3 by decide)
    rw [Int.neg_tmod] at this
    omega
  have e1 : wrap64 (x.tmod 3 + 3) = x.tmod 3 + 3 := by unfold wrap64; omega
  rw [e1, Int.tmod_eq_emod_of_nonneg (by omega)]
  exact ⟨((x.tmod 3 + 3) % 3).toNat, by omega, by omega⟩

/-- A new map of the document's. -/
theorem rf_new (W : World) (which : Int) : ∃ ao cap, Rf (W.alloc (.cells #[.int .i64 which, .slice none 0 0] 30)) W.heap.size which [] ao cap :=
  ⟨none, 0, heap_alloc_last W _, Prs.nil _ none, fun _ h => (nomatch h), fun _ => rfl, Nat.le_refl _, Nat.zero_le _⟩

theorem th0 (w : World) (which : Int) : Th w ((w.alloc (.cells #[.pointer none, .pointer none, .pointer none] 24)).alloc (.cells #[.pointer none, .pointer none, .pointer none] 26)) w.heap.size (w.heap.size + 1) which (fun _ => 0) (fun _ => 0) (fun _ => 0) (fun _ => []) 0 0 := by
  refine ⟨((Touch.refl _ _).alloc _).alloc _, ⟨fun _ => .pointer none, ?_, fun i hi => (nomatch hi)⟩, ⟨fun _ => .pointer none, ?_, fun i hi => (nomatch hi)⟩, fun i hi => (nomatch hi), fun i hi => (nomatch hi), fun i j hi => (nomatch hi), Nat.le_refl _, Nat.le_succ _, fun i hi => (nomatch hi)⟩
  · exact (Below.heap_alloc _ _ _ (by simp)).trans (heap_alloc_last w _)
  · have := heap_alloc_last (w.alloc (.cells #[.pointer none, .pointer none, .pointer none] 24)) (.cells #[.pointer none, .pointer none, .pointer none] 26)
    simpa [Arr] using this

set_option maxRecDepth 100000 in
set_option maxHeartbeats 4000000 in
theorem plays_walk (which : Int) (ao : Option Addr) (cap : Nat) (ops : List Op6) (w : World) (hs : SegO w ao ops) (hb : ops.length < 8796093022200) : Calls Try.prog 3 #[.int .i64 which, .slice ao ops.length cap] w fun e w' => e = .returned (.bool true) ∧ Calm w w' := by
  have HS := hide hs
  obtain ⟨N, hN⟩ : ∃ N, ops.length = N := ⟨_, rfl⟩
  have HN := hide hN
  rw [hN] at hb ⊢
  have HB := hide hb
  clear hs hb hN
  go_enter Try.func3, Try.ntmps3
  go_wp2_with fail
  generalize (wrap64 (which.tmod 5 + 5)).tmod 5 = q at *
  have TH0 := hide (th0 w q)
  generalize hOB : w.heap.size = OB at *
  have HOB := hide hOB
  clear hOB
  go_loopw [7] (fun i wr => ∃ (k : Nat) (mm bb rr : Nat → Nat) (XX : Nat → List (Int × Int)), i = .int .i64 (k : Int) ∧ k ≤ 3 ∧ Th w wr OB (OB + 1) q mm bb rr XX k 0) (fun i _ => 3 - (intOf i).toNat)
  case atStart => exact ⟨0, _, _, _, _, rfl, by omega, TH0.out⟩
  case round =>
    obtain ⟨k, mm, bb, rr, XX, rfl, hk, th⟩ := hrel
    by_cases hlt : k < 3
    · have hlt' : (k : Int) < 3 := by omega
      have TP := hide th
      clear th TH0
      go_wp2_with fail
      refine (made_any q _).mono ?_
      rintro e w1 ⟨m, B, rfl, mt1, ho1, sm, sB, t1⟩
      obtain ⟨⟨v5, q0⟩, q1, -, -⟩ := (TP.out.turn t1).froz hlt
      have TM := hide (TP.out.put (n := k) (k' := k + 1) hlt (fun i hi hne => by omega) mt1 ho1 sm t1 (rf_new (w1.setCell ⟨OB, k, none⟩ (.pointer (some ⟨m, 0, none⟩))) q) (Nat.le_refl _) ((Touch.refl _ _).alloc _) List.Pairwise.nil (Nat.zero_le _))
      have ez : (w1.setCell ⟨OB, k, none⟩ (.pointer (some ⟨m, 0, none⟩))).heap.size = w1.heap.size := by simp
      rw [ez] at TM
      have SE : Hid (∃ f, Arr (w1.setCell ⟨OB, k, none⟩ (.pointer (some ⟨m, 0, none⟩))) OB 24 f ∧ f k = .pointer (some ⟨m, 0, none⟩)) := hide (by
        obtain ⟨f5, h5, _⟩ := (TP.out.turn t1).a5
        exact ⟨_, h5.set hlt _, upd_same _ _ _⟩)
      have S6 : Hid (∃ f, Arr ((w1.setCell ⟨OB, k, none⟩ (.pointer (some ⟨m, 0, none⟩))).alloc (.cells #[.int .i64 q, .slice none 0 0] 30)) (OB + 1) 26 f) := hide (by
        obtain ⟨f6, h6, _⟩ := (TP.out.turn t1).a6
        obtain ⟨f5, h5, _⟩ := (TP.out.turn t1).a5
        have tA : Touch (fun g => g = OB) w1 ((w1.setCell ⟨OB, k, none⟩ (.pointer (some ⟨m, 0, none⟩))).alloc (.cells #[.int .i64 q, .slice none 0 0] 30)) := ((Touch.refl (fun g => g = OB) w1).setCell (p := ⟨OB, k, none⟩) (fun _ => rfl) _).alloc _
        exact ⟨f6, h6.touch tA (fun e => tags h6 h5 (by decide) e)⟩)
      obtain ⟨f5, a5, e5⟩ := SE.out
      obtain ⟨f6, a6⟩ := S6.out
      obtain ⟨q2, -⟩ := a5.cell hlt
      rw [e5] at q2
      obtain ⟨q3, q4⟩ := a6.cell hlt
      clear mt1 ho1 sm sB t1 TP a5 a6 e5 SE S6 ez
      go_wp2_with fail
      go_roundw
      case rel => exact ⟨k + 1, _, _, _, _, by simp, hlt, TM.out⟩
      case measure => simp [intOf]; omega
    · have e : k = 3 := by omega
      subst e
      have TH := hide th
      clear th hk hlt TH0
      go_wp2_with fail
      generalize ((3 : Nat) : Int) = x7
      go_loopw [8, 9, 10, 11] (fun i _ _ _ wr => ∃ (k : Nat) (mm bb rr : Nat → Nat) (XX : Nat → List (Int × Int)), i = .int .i64 (k : Int) ∧ k ≤ N ∧ Th w wr OB (OB + 1) q mm bb rr XX 3 k) (fun i _ _ _ _ => N - (intOf i).toNat)
      case atStart => exact ⟨0, _, _, _, _, rfl, Nat.zero_le _, TH.out⟩
      case round =>
        clear TH
        obtain ⟨k, mm, bb, rr, XX, rfl, hk, th⟩ := hrel
        by_cases hlt : k < N
        · have hlt' : (k : Int) < (N : Int) := by omega
          have so := HS.out.calm th.calm
          have hkl : k < ops.length := by have := HN.out; omega
          obtain ⟨b1, o1, rfl⟩ := so.addr (by omega)
          obtain ⟨p0, p1, p2, p3, p4, p5⟩ := so.cell b1 o1 rfl k hkl
          have HV := hide (so.ok _ (List.getElem_mem hkl))
          obtain ⟨n, hn3, hn⟩ := third ops[k].on
          obtain ⟨t, ht3, ht⟩ := third ops[k].to_
          have hni : (n : Int) < 3 := by omega
          have hti : (t : Int) < 3 := by omega
          have SW := hide (wrap_up (n := k) (m := N) hlt (by have := HB.out; omega))
          generalize ops[k] = op at *
          obtain ⟨kind, fon, fto, key, value, leave⟩ := op
          simp only at p0 p1 p2 p3 p4 p5 hn ht HV
          have TH1 := hide (th.turn ((Touch.refl (fun _ => False) wr).alloc (.cells #[.int .i64 kind, .int .i64 fon, .int .i64 fto, .int .i64 key, .int .i64 value, .int .i64 leave] 32)))
          have H91 := hide (heap_alloc_last wr (.cells #[.int .i64 kind, .int .i64 fon, .int .i64 fto, .int .i64 key, .int .i64 value, .int .i64 leave] 32))
          clear so hkl
          by_cases hkd : kind = 10
          · subst hkd
            obtain ⟨⟨c0, -⟩, ⟨c1, -⟩⟩ := TH1.out.cell ht3 ht3
            have CP := hide (copy_any _ _ (mm t) _ (XX t) (TH1.out.bt t ht3).mt)
            clear th
            go_wp2_with fail
            generalize hOP : wr.heap.size = OP at *
            clear hOP p0 p1 p2 p3 p4 p5 c0 c1
            generalize wr.alloc (.cells #[.int .i64 10, .int .i64 fon, .int .i64 fto, .int .i64 key, .int .i64 value, .int .i64 leave] 32) = V1 at *
            refine CP.out.mono ?_
            rintro e w2 ⟨m', rfl, mt2, sm, t2⟩
            obtain ⟨⟨v5, q0⟩, q1, -, -⟩ := (TH1.out.turn t2).froz hn3
            have T2A : Hid (Touch (fun g => g = OB) V1 (w2.setCell ⟨OB, n, none⟩ (.pointer (some ⟨m', 0, none⟩)))) := hide ((show Touch (fun g => g = OB) V1 w2 from t2.mono (fun _ _ h => h.elim)).setCell (p := ⟨OB, n, none⟩) (fun _ => rfl) _)
            have BTA : Hid (Bt (w2.setCell ⟨OB, n, none⟩ (.pointer (some ⟨m', 0, none⟩))) (mm t) (bb t) (rr t) q (XX t)) := hide (by
              obtain ⟨f5, h5, _⟩ := TH1.out.a5
              obtain ⟨p1, p2, p3, p4⟩ := TH1.out.apart ht3
              exact (TH1.out.bt t ht3).touch T2A.out (fun e => p1 e.symm) (fun e => tags h5 (TH1.out.bt t ht3).ord (by decide) e.symm) (fun e => p2 e.symm) (fun g cs ty fr e hg => by subst e; exact ⟨fun et => by subst et; exact tags h5 hg (by decide) rfl, fun et => by subst et; exact tags h5 hg (by decide) rfl⟩))
            have A6A : Hid (∃ f, Arr (w2.setCell ⟨OB, n, none⟩ (.pointer (some ⟨m', 0, none⟩))) (OB + 1) 26 f ∧ f t = .pointer (some ⟨rr t, 0, none⟩)) := hide (by
              obtain ⟨f5, h5, _⟩ := TH1.out.a5
              obtain ⟨f6, h6, g6⟩ := TH1.out.a6
              exact ⟨f6, h6.touch T2A.out (fun e => tags h6 h5 (by decide) e), g6 t ht3⟩)
            have PT := hide (fun (W3 : World) (r' : Nat) hr sr t3 => TH1.out.put (n := n) (k' := 3) hn3 (fun i hi _ => hi) mt2 (t2.at (TH1.out.bt t ht3).ord) sm t2 (W3 := W3) (r' := r') hr sr t3 (TH1.out.bt t ht3).up (TH1.out.len t ht3))
            have H9A : Hid ((w2.setCell ⟨OB, n, none⟩ (.pointer (some ⟨m', 0, none⟩))).heap[OP]? = some (.cells #[.int .i64 10, .int .i64 fon, .int .i64 fto, .int .i64 key, .int .i64 value, .int .i64 leave] 32 (0, 0))) := hide (T2A.out.heap H91.out (fun e => by
              obtain ⟨f5, h5, _⟩ := TH1.out.a5
              exact tags H91.out h5 (by decide) e))
            have LT := hide (TH1.out.len t ht3)
            obtain ⟨f6, a6, e6⟩ := A6A.out
            obtain ⟨q3, -⟩ := a6.cell ht3
            rw [e6] at q3
            clear mt2 sm t2 CP T2A H91 a6 e6
            go_wp2_with fail
            generalize w2.setCell ⟨OB, n, none⟩ (.pointer (some ⟨m', 0, none⟩)) = w3 at *
            clear q0 q1 q3
            obtain ⟨ao3, cap3, rf3⟩ := BTA.out.rf
            refine (rcopy_any (rr t) q (XX t) ao3 cap3 _ rf3 (by have := LT.out; have := HB.out; omega)).mono ?_
            rintro e w4 ⟨r', ao4, cap4, rfl, rf4, sr, t4⟩
            have TH4 := hide (PT.out w4 r' ⟨ao4, cap4, rf4⟩ sr t4)
            obtain ⟨f6, a6, e6⟩ := A6A.out
            obtain ⟨q3, q4⟩ := (a6.touch t4 (fun h => h)).cell hn3
            have H9B : Hid ((w4.setCell ⟨OB + 1, n, none⟩ (.pointer (some ⟨r', 0, none⟩))).heap[OP]? = some (.cells #[.int .i64 10, .int .i64 fon, .int .i64 fto, .int .i64 key, .int .i64 value, .int .i64 leave] 32 (0, 0))) := hide (by
              have h9 := t4.at H9A.out
              have tA : Touch (fun g => g = OB + 1) w4 (w4.setCell ⟨OB + 1, n, none⟩ (.pointer (some ⟨r', 0, none⟩))) := (Touch.refl (fun g => g = OB + 1) w4).setCell (p := ⟨OB + 1, n, none⟩) (fun _ => rfl) _
              exact tA.heap h9 (fun e => tags h9 (a6.touch t4 (fun h => h)) (by decide) e))
            clear rf3 rf4 sr t4 a6 e6 PT BTA A6A H9A TH1 LT
            go_wp2_with fail
            generalize w4.setCell ⟨OB + 1, n, none⟩ (.pointer (some ⟨r', 0, none⟩)) = V at *
            have H9 := hide H9B.out
            clear H9B q3 q4
            obtain ⟨mm0, bb0, rr0, XX0, TH⟩ : ∃ mm bb rr XX, Hid (Th w V OB (OB + 1) q mm bb rr XX 3 k) := ⟨_, _, _, _, TH4⟩
            clear TH4
            have BTn := hide (TH.out.bt n hn3)
            have LBn := hide (TH.out.len n hn3)
            have CE : Hid (∀ W, Touch (fun g => g = mm0 n ∨ g = rr0 n) V W → W.cell? ⟨OB, n, none⟩ = some (.pointer (some ⟨mm0 n, 0, none⟩)) ∧ W.cell? ⟨OB + 1, n, none⟩ = some (.pointer (some ⟨rr0 n, 0, none⟩))) := hide (fun W h => by
              obtain ⟨⟨c0, _⟩, ⟨c1, _⟩⟩ := TH.out.cell hn3 hn3
              obtain ⟨p1, p2, p3, p4⟩ := TH.out.apart hn3
              exact ⟨(h.cell (p := ⟨OB, n, none⟩) (lt_of_cell c0) (fun e => e.elim p1 p2)).trans c0, (h.cell (p := ⟨OB + 1, n, none⟩) (lt_of_cell c1) (fun e => e.elim p3 p4)).trans c1⟩)
            have C9 : Hid (∀ W, Touch (fun g => g = mm0 n ∨ g = rr0 n) V W → W.heap[OP]? = some (.cells #[.int .i64 10, .int .i64 fon, .int .i64 fto, .int .i64 key, .int .i64 value, .int .i64 leave] 32 (0, 0))) := hide (fun W h => h.heap H9.out (fun e => by
              obtain ⟨ro, hM, _⟩ := BTn.out.mt
              obtain ⟨ao, cap, hf⟩ := BTn.out.rf
              rcases e with e | e
              · exact tags H9.out hM (by decide) e
              · exact tags H9.out hf.own (by decide) e))
            refine wp_region_held (S := Touch (fun g => g = mm0 n ∨ g = rr0 n) V) (by kernel_rfl) ?_
            have hT0 : Touch (fun g => g = mm0 n ∨ g = rr0 n) V { V with drawn := V.drawn + 1 } := (Touch.refl (fun g => g = mm0 n ∨ g = rr0 n) V).drew
            have hC0 : Calm V { V with drawn := V.drawn + 1 } := (Touch.refl (fun _ => False) V).drew
            refine wpAnyH_yield 0 69 (.int .i64 (n : Int)) rfl rfl (by kernel_rfl) (by kernel_rfl) (by kernel_rfl) (fun _ _ _ h => h) (by kernel_rfl) (fun W hW => by kernel_rfl) (by assumption) rfl rfl ?_
            simp only [Act.put, List.setIfInBounds_toArray, List.set_cons_zero, List.set_cons_succ]
            refine wpAnyH_yield 1 70 (.pointer (some ⟨OB, n, none⟩)) rfl rfl (by kernel_rfl) (by kernel_rfl) (by kernel_rfl) (fun _ _ _ h => h) (by kernel_rfl) (fun W hW => by go_simp) (by assumption) rfl rfl ?_
            simp only [Act.put, List.setIfInBounds_toArray, List.set_cons_zero, List.set_cons_succ]
            refine wpAnyH_yield 2 71 (.pointer (some ⟨mm0 n, 0, none⟩)) rfl rfl (by kernel_rfl) (by kernel_rfl) (by kernel_rfl) (fun _ _ _ h => h) (by kernel_rfl) (fun W hW => by obtain ⟨c0, -⟩ := CE.out W hW; go_simp) (by assumption) rfl rfl ?_
            simp only [Act.put, List.setIfInBounds_toArray, List.set_cons_zero, List.set_cons_succ]
            refine wpAnyH_yield 3 72 (.bool false) rfl rfl (by kernel_rfl) (by kernel_rfl) (by kernel_rfl) (fun _ _ _ h => h) (by kernel_rfl) (fun W hW => by go_simp) (by assumption) rfl rfl ?_
            simp only [Act.put, List.setIfInBounds_toArray, List.set_cons_zero, List.set_cons_succ]
            refine wpAnyH_yield 4 73 (.bool false) rfl rfl (by kernel_rfl) (by kernel_rfl) (by kernel_rfl) (fun _ _ _ h => h) (by kernel_rfl) (fun W hW => by kernel_rfl) (by assumption) rfl rfl ?_
            simp only [Act.put, List.setIfInBounds_toArray, List.set_cons_zero, List.set_cons_succ]
            refine wpAnyH_yield 5 74 (.int .i64 (n : Int)) rfl rfl (by kernel_rfl) (by kernel_rfl) (by kernel_rfl) (fun _ _ _ h => h) (by kernel_rfl) (fun W hW => by kernel_rfl) (by assumption) rfl rfl ?_
            simp only [Act.put, List.setIfInBounds_toArray, List.set_cons_zero, List.set_cons_succ]
            refine wpAnyH_yield 6 75 (.pointer (some ⟨OB, n, none⟩)) rfl rfl (by kernel_rfl) (by kernel_rfl) (by kernel_rfl) (fun _ _ _ h => h) (by kernel_rfl) (fun W hW => by go_simp) (by assumption) rfl rfl ?_
            simp only [Act.put, List.setIfInBounds_toArray, List.set_cons_zero, List.set_cons_succ]
            refine wpAnyH_yield 7 76 (.pointer (some ⟨mm0 n, 0, none⟩)) rfl rfl (by kernel_rfl) (by kernel_rfl) (by kernel_rfl) (fun _ _ _ h => h) (by kernel_rfl) (fun W hW => by obtain ⟨c0, -⟩ := CE.out W hW; go_simp) (by assumption) rfl rfl ?_
            simp only [Act.put, List.setIfInBounds_toArray, List.set_cons_zero, List.set_cons_succ]
            refine wpAnyH_yield 8 77 (.int .i64 (n : Int)) rfl rfl (by kernel_rfl) (by kernel_rfl) (by kernel_rfl) (fun _ _ _ h => h) (by kernel_rfl) (fun W hW => by kernel_rfl) (by assumption) rfl rfl ?_
            simp only [Act.put, List.setIfInBounds_toArray, List.set_cons_zero, List.set_cons_succ]
            refine wpAnyH_yield 9 78 (.pointer (some ⟨OB + 1, n, none⟩)) rfl rfl (by kernel_rfl) (by kernel_rfl) (by kernel_rfl) (fun _ _ _ h => h) (by kernel_rfl) (fun W hW => by go_simp) (by assumption) rfl rfl ?_
            simp only [Act.put, List.setIfInBounds_toArray, List.set_cons_zero, List.set_cons_succ]
            refine wpAnyH_yield 10 79 (.pointer (some ⟨rr0 n, 0, none⟩)) rfl rfl (by kernel_rfl) (by kernel_rfl) (by kernel_rfl) (fun _ _ _ h => h) (by kernel_rfl) (fun W hW => by obtain ⟨-, c0⟩ := CE.out W hW; go_simp) (by assumption) rfl rfl ?_
            simp only [Act.put, List.setIfInBounds_toArray, List.set_cons_zero, List.set_cons_succ]
            refine wpAnyH_yield 11 80 (opv 10 fon fto key value leave) rfl rfl (by kernel_rfl) (by kernel_rfl) (by kernel_rfl) (fun _ _ _ h => h) (by kernel_rfl) (fun W hW => by obtain ⟨c0, c1, c2, c3, c4, c5⟩ := cellsAll (C9.out W hW); go_simp) (by assumption) rfl rfl ?_
            simp only [Act.put, List.setIfInBounds_toArray, List.set_cons_zero, List.set_cons_succ]
            refine wpAnyH_enter 12 81 9 #[.pointer (some ⟨mm0 n, 0, none⟩), .pointer (some ⟨rr0 n, 0, none⟩), opv 10 fon fto key value leave] rfl rfl (by kernel_rfl) (by kernel_rfl) (by kernel_rfl) ?_
            refine (step_any (mm0 n) (bb0 n) (rr0 n) q 10 fon fto key value leave (XX0 n) _ (BTn.out.calm hC0) (by have := LBn.out; have := HB.out; omega) HV.out).mono ?_
            rintro e x1 ⟨X', rfl, bt1, hl1, t1⟩
            have hT1 : Touch (fun g => g = mm0 n ∨ g = rr0 n) V x1 := hT0.trans t1 (fun _ _ h => h)
            refine ⟨_, rfl, hT1, ?_⟩
            simp only [Act.put, List.setIfInBounds_toArray, List.set_cons_zero, List.set_cons_succ]
            refine wpAnyH_yield 13 82 (.bool false) rfl rfl (by kernel_rfl) (by kernel_rfl) (by kernel_rfl) (fun _ _ _ h => h) (by kernel_rfl) (fun W hW => by kernel_rfl) (by assumption) rfl rfl ?_
            simp only [Act.put, List.setIfInBounds_toArray, List.set_cons_zero, List.set_cons_succ]
            refine wpAnyH_yield 14 83 (.bool false) rfl rfl (by kernel_rfl) (by kernel_rfl) (by kernel_rfl) (fun _ _ _ h => h) (by kernel_rfl) (fun W hW => by kernel_rfl) (by assumption) rfl rfl ?_
            simp only [Act.put, List.setIfInBounds_toArray, List.set_cons_zero, List.set_cons_succ]
            refine wpAnyH_yield 15 84 (.bool false) rfl rfl (by kernel_rfl) (by kernel_rfl) (by kernel_rfl) (fun _ _ _ h => h) (by kernel_rfl) (fun W hW => by kernel_rfl) (by assumption) rfl rfl ?_
            simp only [Act.put, List.setIfInBounds_toArray, List.set_cons_zero, List.set_cons_succ]
            refine wpAnyH_yield 16 85 (.int .i64 (n : Int)) rfl rfl (by kernel_rfl) (by kernel_rfl) (by kernel_rfl) (fun _ _ _ h => h) (by kernel_rfl) (fun W hW => by kernel_rfl) (by assumption) rfl rfl ?_
            simp only [Act.put, List.setIfInBounds_toArray, List.set_cons_zero, List.set_cons_succ]
            refine wpAnyH_yield 17 86 (.pointer (some ⟨OB, n, none⟩)) rfl rfl (by kernel_rfl) (by kernel_rfl) (by kernel_rfl) (fun _ _ _ h => h) (by kernel_rfl) (fun W hW => by go_simp) (by assumption) rfl rfl ?_
            simp only [Act.put, List.setIfInBounds_toArray, List.set_cons_zero, List.set_cons_succ]
            refine wpAnyH_yield 18 87 (.pointer (some ⟨mm0 n, 0, none⟩)) rfl rfl (by kernel_rfl) (by kernel_rfl) (by kernel_rfl) (fun _ _ _ h => h) (by kernel_rfl) (fun W hW => by obtain ⟨c0, -⟩ := CE.out W hW; go_simp) (by assumption) rfl rfl ?_
            simp only [Act.put, List.setIfInBounds_toArray, List.set_cons_zero, List.set_cons_succ]
            refine wpAnyH_yield 19 88 (.int .i64 (n : Int)) rfl rfl (by kernel_rfl) (by kernel_rfl) (by kernel_rfl) (fun _ _ _ h => h) (by kernel_rfl) (fun W hW => by kernel_rfl) (by assumption) rfl rfl ?_
            simp only [Act.put, List.setIfInBounds_toArray, List.set_cons_zero, List.set_cons_succ]
            refine wpAnyH_yield 20 89 (.pointer (some ⟨OB + 1, n, none⟩)) rfl rfl (by kernel_rfl) (by kernel_rfl) (by kernel_rfl) (fun _ _ _ h => h) (by kernel_rfl) (fun W hW => by go_simp) (by assumption) rfl rfl ?_
            simp only [Act.put, List.setIfInBounds_toArray, List.set_cons_zero, List.set_cons_succ]
            refine wpAnyH_yield 21 90 (.pointer (some ⟨rr0 n, 0, none⟩)) rfl rfl (by kernel_rfl) (by kernel_rfl) (by kernel_rfl) (fun _ _ _ h => h) (by kernel_rfl) (fun W hW => by obtain ⟨-, c0⟩ := CE.out W hW; go_simp) (by assumption) rfl rfl ?_
            simp only [Act.put, List.setIfInBounds_toArray, List.set_cons_zero, List.set_cons_succ]
            refine wpAnyH_enter 22 91 10 #[.pointer (some ⟨mm0 n, 0, none⟩), .pointer (some ⟨rr0 n, 0, none⟩)] rfl rfl (by kernel_rfl) (by kernel_rfl) (by kernel_rfl) ?_
            refine (whole_any (mm0 n) (bb0 n) (rr0 n) q X' _ bt1 (by have := LBn.out; have := HB.out; omega)).mono ?_
            rintro e x2 ⟨rfl, t2⟩
            have hT2 : Touch (fun g => g = mm0 n ∨ g = rr0 n) V x2 := hT1.trans t2 (fun _ _ h => h.elim)
            refine ⟨_, rfl, hT2, ?_⟩
            simp only [Act.put, List.setIfInBounds_toArray, List.set_cons_zero, List.set_cons_succ]
            refine wpAnyH_yield 23 92 (.bool false) rfl rfl (by kernel_rfl) (by kernel_rfl) (by kernel_rfl) (fun _ _ _ h => h) (by kernel_rfl) (fun W hW => by kernel_rfl) (by assumption) rfl rfl ?_
            simp only [Act.put, List.setIfInBounds_toArray, List.set_cons_zero, List.set_cons_succ]
            refine wpAnyH_yield 24 93 (.bool false) rfl rfl (by kernel_rfl) (by kernel_rfl) (by kernel_rfl) (fun _ _ _ h => h) (by kernel_rfl) (fun W hW => by kernel_rfl) (by assumption) rfl rfl ?_
            simp only [Act.put, List.setIfInBounds_toArray, List.set_cons_zero, List.set_cons_succ]
            refine wpAnyH_done (by kernel_rfl) ?_ _
            have TH2 := hide (TH.out.step hn3 (bt1.calm t2) hl1 hT2)
            clear hT0 hT1 hT2 hC0 bt1 t1 t2 hl1 CE C9 BTn LBn TH H9
            go_wp2_with fail
            go_roundw
            case rel => exact ⟨k + 1, mm0, bb0, rr0, _, by rw [SW.out], hlt, TH2.out⟩
            case measure => rw [SW.out]; simp [intOf]; omega
          · clear th
            go_wp2_with fail
            generalize wr.heap.size = OP at *
            have H9 := hide H91.out
            have TH := hide TH1.out
            clear H91 TH1 p0 p1 p2 p3 p4 p5
            generalize wr.alloc (.cells #[.int .i64 kind, .int .i64 fon, .int .i64 fto, .int .i64 key, .int .i64 value, .int .i64 leave] 32) = V at *
            have BTn := hide (TH.out.bt n hn3)
            have LBn := hide (TH.out.len n hn3)
            have CE : Hid (∀ W, Touch (fun g => g = mm n ∨ g = rr n) V W → W.cell? ⟨OB, n, none⟩ = some (.pointer (some ⟨mm n, 0, none⟩)) ∧ W.cell? ⟨OB + 1, n, none⟩ = some (.pointer (some ⟨rr n, 0, none⟩))) := hide (fun W h => by
              obtain ⟨⟨c0, _⟩, ⟨c1, _⟩⟩ := TH.out.cell hn3 hn3
              obtain ⟨p1, p2, p3, p4⟩ := TH.out.apart hn3
              exact ⟨(h.cell (p := ⟨OB, n, none⟩) (lt_of_cell c0) (fun e => e.elim p1 p2)).trans c0, (h.cell (p := ⟨OB + 1, n, none⟩) (lt_of_cell c1) (fun e => e.elim p3 p4)).trans c1⟩)
            have C9 : Hid (∀ W, Touch (fun g => g = mm n ∨ g = rr n) V W → W.heap[OP]? = some (.cells #[.int .i64 kind, .int .i64 fon, .int .i64 fto, .int .i64 key, .int .i64 value, .int .i64 leave] 32 (0, 0))) := hide (fun W h => h.heap H9.out (fun e => by
              obtain ⟨ro, hM, _⟩ := BTn.out.mt
              obtain ⟨ao, cap, hf⟩ := BTn.out.rf
              rcases e with e | e
              · exact tags H9.out hM (by decide) e
              · exact tags H9.out hf.own (by decide) e))
            refine wp_region_held (S := Touch (fun g => g = mm n ∨ g = rr n) V) (by kernel_rfl) ?_
            have hT0 : Touch (fun g => g = mm n ∨ g = rr n) V { V with drawn := V.drawn + 1 } := (Touch.refl (fun g => g = mm n ∨ g = rr n) V).drew
            have hC0 : Calm V { V with drawn := V.drawn + 1 } := (Touch.refl (fun _ => False) V).drew
            refine wpAnyH_yield 0 69 (.int .i64 (n : Int)) rfl rfl (by kernel_rfl) (by kernel_rfl) (by kernel_rfl) (fun _ _ _ h => h) (by kernel_rfl) (fun W hW => by kernel_rfl) (by assumption) rfl rfl ?_
            simp only [Act.put, List.setIfInBounds_toArray, List.set_cons_zero, List.set_cons_succ]
            refine wpAnyH_yield 1 70 (.pointer (some ⟨OB, n, none⟩)) rfl rfl (by kernel_rfl) (by kernel_rfl) (by kernel_rfl) (fun _ _ _ h => h) (by kernel_rfl) (fun W hW => by go_simp) (by assumption) rfl rfl ?_
            simp only [Act.put, List.setIfInBounds_toArray, List.set_cons_zero, List.set_cons_succ]
            refine wpAnyH_yield 2 71 (.pointer (some ⟨mm n, 0, none⟩)) rfl rfl (by kernel_rfl) (by kernel_rfl) (by kernel_rfl) (fun _ _ _ h => h) (by kernel_rfl) (fun W hW => by obtain ⟨c0, -⟩ := CE.out W hW; go_simp) (by assumption) rfl rfl ?_
            simp only [Act.put, List.setIfInBounds_toArray, List.set_cons_zero, List.set_cons_succ]
            refine wpAnyH_yield 3 72 (.bool false) rfl rfl (by kernel_rfl) (by kernel_rfl) (by kernel_rfl) (fun _ _ _ h => h) (by kernel_rfl) (fun W hW => by go_simp) (by assumption) rfl rfl ?_
            simp only [Act.put, List.setIfInBounds_toArray, List.set_cons_zero, List.set_cons_succ]
            refine wpAnyH_yield 4 73 (.bool false) rfl rfl (by kernel_rfl) (by kernel_rfl) (by kernel_rfl) (fun _ _ _ h => h) (by kernel_rfl) (fun W hW => by kernel_rfl) (by assumption) rfl rfl ?_
            simp only [Act.put, List.setIfInBounds_toArray, List.set_cons_zero, List.set_cons_succ]
            refine wpAnyH_yield 5 74 (.int .i64 (n : Int)) rfl rfl (by kernel_rfl) (by kernel_rfl) (by kernel_rfl) (fun _ _ _ h => h) (by kernel_rfl) (fun W hW => by kernel_rfl) (by assumption) rfl rfl ?_
            simp only [Act.put, List.setIfInBounds_toArray, List.set_cons_zero, List.set_cons_succ]
            refine wpAnyH_yield 6 75 (.pointer (some ⟨OB, n, none⟩)) rfl rfl (by kernel_rfl) (by kernel_rfl) (by kernel_rfl) (fun _ _ _ h => h) (by kernel_rfl) (fun W hW => by go_simp) (by assumption) rfl rfl ?_
            simp only [Act.put, List.setIfInBounds_toArray, List.set_cons_zero, List.set_cons_succ]
            refine wpAnyH_yield 7 76 (.pointer (some ⟨mm n, 0, none⟩)) rfl rfl (by kernel_rfl) (by kernel_rfl) (by kernel_rfl) (fun _ _ _ h => h) (by kernel_rfl) (fun W hW => by obtain ⟨c0, -⟩ := CE.out W hW; go_simp) (by assumption) rfl rfl ?_
            simp only [Act.put, List.setIfInBounds_toArray, List.set_cons_zero, List.set_cons_succ]
            refine wpAnyH_yield 8 77 (.int .i64 (n : Int)) rfl rfl (by kernel_rfl) (by kernel_rfl) (by kernel_rfl) (fun _ _ _ h => h) (by kernel_rfl) (fun W hW => by kernel_rfl) (by assumption) rfl rfl ?_
            simp only [Act.put, List.setIfInBounds_toArray, List.set_cons_zero, List.set_cons_succ]
            refine wpAnyH_yield 9 78 (.pointer (some ⟨OB + 1, n, none⟩)) rfl rfl (by kernel_rfl) (by kernel_rfl) (by kernel_rfl) (fun _ _ _ h => h) (by kernel_rfl) (fun W hW => by go_simp) (by assumption) rfl rfl ?_
            simp only [Act.put, List.setIfInBounds_toArray, List.set_cons_zero, List.set_cons_succ]
            refine wpAnyH_yield 10 79 (.pointer (some ⟨rr n, 0, none⟩)) rfl rfl (by kernel_rfl) (by kernel_rfl) (by kernel_rfl) (fun _ _ _ h => h) (by kernel_rfl) (fun W hW => by obtain ⟨-, c0⟩ := CE.out W hW; go_simp) (by assumption) rfl rfl ?_
            simp only [Act.put, List.setIfInBounds_toArray, List.set_cons_zero, List.set_cons_succ]
            refine wpAnyH_yield 11 80 (opv kind fon fto key value leave) rfl rfl (by kernel_rfl) (by kernel_rfl) (by kernel_rfl) (fun _ _ _ h => h) (by kernel_rfl) (fun W hW => by obtain ⟨c0, c1, c2, c3, c4, c5⟩ := cellsAll (C9.out W hW); go_simp) (by assumption) rfl rfl ?_
            simp only [Act.put, List.setIfInBounds_toArray, List.set_cons_zero, List.set_cons_succ]
            refine wpAnyH_enter 12 81 9 #[.pointer (some ⟨mm n, 0, none⟩), .pointer (some ⟨rr n, 0, none⟩), opv kind fon fto key value leave] rfl rfl (by kernel_rfl) (by kernel_rfl) (by kernel_rfl) ?_
            refine (step_any (mm n) (bb n) (rr n) q kind fon fto key value leave (XX n) _ (BTn.out.calm hC0) (by have := LBn.out; have := HB.out; omega) HV.out).mono ?_
            rintro e x1 ⟨X', rfl, bt1, hl1, t1⟩
            have hT1 : Touch (fun g => g = mm n ∨ g = rr n) V x1 := hT0.trans t1 (fun _ _ h => h)
            refine ⟨_, rfl, hT1, ?_⟩
            simp only [Act.put, List.setIfInBounds_toArray, List.set_cons_zero, List.set_cons_succ]
            refine wpAnyH_yield 13 82 (.bool false) rfl rfl (by kernel_rfl) (by kernel_rfl) (by kernel_rfl) (fun _ _ _ h => h) (by kernel_rfl) (fun W hW => by kernel_rfl) (by assumption) rfl rfl ?_
            simp only [Act.put, List.setIfInBounds_toArray, List.set_cons_zero, List.set_cons_succ]
            refine wpAnyH_yield 14 83 (.bool false) rfl rfl (by kernel_rfl) (by kernel_rfl) (by kernel_rfl) (fun _ _ _ h => h) (by kernel_rfl) (fun W hW => by kernel_rfl) (by assumption) rfl rfl ?_
            simp only [Act.put, List.setIfInBounds_toArray, List.set_cons_zero, List.set_cons_succ]
            refine wpAnyH_yield 15 84 (.bool false) rfl rfl (by kernel_rfl) (by kernel_rfl) (by kernel_rfl) (fun _ _ _ h => h) (by kernel_rfl) (fun W hW => by kernel_rfl) (by assumption) rfl rfl ?_
            simp only [Act.put, List.setIfInBounds_toArray, List.set_cons_zero, List.set_cons_succ]
            refine wpAnyH_yield 16 85 (.int .i64 (n : Int)) rfl rfl (by kernel_rfl) (by kernel_rfl) (by kernel_rfl) (fun _ _ _ h => h) (by kernel_rfl) (fun W hW => by kernel_rfl) (by assumption) rfl rfl ?_
            simp only [Act.put, List.setIfInBounds_toArray, List.set_cons_zero, List.set_cons_succ]
            refine wpAnyH_yield 17 86 (.pointer (some ⟨OB, n, none⟩)) rfl rfl (by kernel_rfl) (by kernel_rfl) (by kernel_rfl) (fun _ _ _ h => h) (by kernel_rfl) (fun W hW => by go_simp) (by assumption) rfl rfl ?_
            simp only [Act.put, List.setIfInBounds_toArray, List.set_cons_zero, List.set_cons_succ]
            refine wpAnyH_yield 18 87 (.pointer (some ⟨mm n, 0, none⟩)) rfl rfl (by kernel_rfl) (by kernel_rfl) (by kernel_rfl) (fun _ _ _ h => h) (by kernel_rfl) (fun W hW => by obtain ⟨c0, -⟩ := CE.out W hW; go_simp) (by assumption) rfl rfl ?_
            simp only [Act.put, List.setIfInBounds_toArray, List.set_cons_zero, List.set_cons_succ]
            refine wpAnyH_yield 19 88 (.int .i64 (n : Int)) rfl rfl (by kernel_rfl) (by kernel_rfl) (by kernel_rfl) (fun _ _ _ h => h) (by kernel_rfl) (fun W hW => by kernel_rfl) (by assumption) rfl rfl ?_
            simp only [Act.put, List.setIfInBounds_toArray, List.set_cons_zero, List.set_cons_succ]
            refine wpAnyH_yield 20 89 (.pointer (some ⟨OB + 1, n, none⟩)) rfl rfl (by kernel_rfl) (by kernel_rfl) (by kernel_rfl) (fun _ _ _ h => h) (by kernel_rfl) (fun W hW => by go_simp) (by assumption) rfl rfl ?_
            simp only [Act.put, List.setIfInBounds_toArray, List.set_cons_zero, List.set_cons_succ]
            refine wpAnyH_yield 21 90 (.pointer (some ⟨rr n, 0, none⟩)) rfl rfl (by kernel_rfl) (by kernel_rfl) (by kernel_rfl) (fun _ _ _ h => h) (by kernel_rfl) (fun W hW => by obtain ⟨-, c0⟩ := CE.out W hW; go_simp) (by assumption) rfl rfl ?_
            simp only [Act.put, List.setIfInBounds_toArray, List.set_cons_zero, List.set_cons_succ]
            refine wpAnyH_enter 22 91 10 #[.pointer (some ⟨mm n, 0, none⟩), .pointer (some ⟨rr n, 0, none⟩)] rfl rfl (by kernel_rfl) (by kernel_rfl) (by kernel_rfl) ?_
            refine (whole_any (mm n) (bb n) (rr n) q X' _ bt1 (by have := LBn.out; have := HB.out; omega)).mono ?_
            rintro e x2 ⟨rfl, t2⟩
            have hT2 : Touch (fun g => g = mm n ∨ g = rr n) V x2 := hT1.trans t2 (fun _ _ h => h.elim)
            refine ⟨_, rfl, hT2, ?_⟩
            simp only [Act.put, List.setIfInBounds_toArray, List.set_cons_zero, List.set_cons_succ]
            refine wpAnyH_yield 23 92 (.bool false) rfl rfl (by kernel_rfl) (by kernel_rfl) (by kernel_rfl) (fun _ _ _ h => h) (by kernel_rfl) (fun W hW => by kernel_rfl) (by assumption) rfl rfl ?_
            simp only [Act.put, List.setIfInBounds_toArray, List.set_cons_zero, List.set_cons_succ]
            refine wpAnyH_yield 24 93 (.bool false) rfl rfl (by kernel_rfl) (by kernel_rfl) (by kernel_rfl) (fun _ _ _ h => h) (by kernel_rfl) (fun W hW => by kernel_rfl) (by assumption) rfl rfl ?_
            simp only [Act.put, List.setIfInBounds_toArray, List.set_cons_zero, List.set_cons_succ]
            refine wpAnyH_done (by kernel_rfl) ?_ _
            have TH2 := hide (TH.out.step hn3 (bt1.calm t2) hl1 hT2)
            clear hT0 hT1 hT2 hC0 bt1 t1 t2 hl1 CE C9 BTn LBn TH H9
            go_wp2_with fail
            go_roundw
            case rel => exact ⟨k + 1, mm, bb, rr, _, by rw [SW.out], hlt, TH2.out⟩
            case measure => rw [SW.out]; simp [intOf]; omega
        · have TH := hide th
          have hge : ¬ ((k : Int) < (N : Int)) := by omega
          clear th hlt
          go_wp2_with fail
          clear hge
          go_loopw [12] (fun i wr => ∃ j : Nat, i = .int .i64 (j : Int) ∧ j ≤ 3 ∧ Th w wr OB (OB + 1) q mm bb rr XX 3 k) (fun i _ => 3 - (intOf i).toNat)
          case atStart => exact ⟨0, rfl, Nat.zero_le _, TH.out⟩
          case round =>
            rename World => V
            clear TH
            obtain ⟨j, rfl, hj, th⟩ := hrel
            have TH := hide th
            clear th
            by_cases hj3 : j < 3
            · have hji : (j : Int) < 3 := by omega
              have BTn := hide (TH.out.bt j hj3)
              have LBn := hide (TH.out.len j hj3)
              have CE : Hid (∀ W, Calm V W → W.cell? ⟨OB, j, none⟩ = some (.pointer (some ⟨mm j, 0, none⟩)) ∧ W.cell? ⟨OB + 1, j, none⟩ = some (.pointer (some ⟨rr j, 0, none⟩))) := hide (fun W h => by
                obtain ⟨⟨c0, _⟩, ⟨c1, _⟩⟩ := (TH.out.turn h).cell hj3 hj3
                exact ⟨c0, c1⟩)
              go_wp2_with fail
              refine wp_region_held (S := Calm V) (by kernel_rfl) ?_
              have hT0 : Calm V { V with drawn := V.drawn + 1 } := (Touch.refl (fun _ => False) V).drew
              refine wpAnyH_yield 0 98 (.int .i64 (j : Int)) rfl rfl (by kernel_rfl) (by kernel_rfl) (by kernel_rfl) (fun _ _ _ h => h) (by kernel_rfl) (fun W hW => by kernel_rfl) (by assumption) rfl rfl ?_
              simp only [Act.put, List.setIfInBounds_toArray, List.set_cons_zero, List.set_cons_succ]
              refine wpAnyH_yield 1 99 (.pointer (some ⟨OB, j, none⟩)) rfl rfl (by kernel_rfl) (by kernel_rfl) (by kernel_rfl) (fun _ _ _ h => h) (by kernel_rfl) (fun W hW => by go_simp) (by assumption) rfl rfl ?_
              simp only [Act.put, List.setIfInBounds_toArray, List.set_cons_zero, List.set_cons_succ]
              refine wpAnyH_yield 2 100 (.pointer (some ⟨mm j, 0, none⟩)) rfl rfl (by kernel_rfl) (by kernel_rfl) (by kernel_rfl) (fun _ _ _ h => h) (by kernel_rfl) (fun W hW => by obtain ⟨c0, -⟩ := CE.out W hW; go_simp) (by assumption) rfl rfl ?_
              simp only [Act.put, List.setIfInBounds_toArray, List.set_cons_zero, List.set_cons_succ]
              refine wpAnyH_yield 3 101 (.int .i64 (j : Int)) rfl rfl (by kernel_rfl) (by kernel_rfl) (by kernel_rfl) (fun _ _ _ h => h) (by kernel_rfl) (fun W hW => by kernel_rfl) (by assumption) rfl rfl ?_
              simp only [Act.put, List.setIfInBounds_toArray, List.set_cons_zero, List.set_cons_succ]
              refine wpAnyH_yield 4 102 (.pointer (some ⟨OB + 1, j, none⟩)) rfl rfl (by kernel_rfl) (by kernel_rfl) (by kernel_rfl) (fun _ _ _ h => h) (by kernel_rfl) (fun W hW => by go_simp) (by assumption) rfl rfl ?_
              simp only [Act.put, List.setIfInBounds_toArray, List.set_cons_zero, List.set_cons_succ]
              refine wpAnyH_yield 5 103 (.pointer (some ⟨rr j, 0, none⟩)) rfl rfl (by kernel_rfl) (by kernel_rfl) (by kernel_rfl) (fun _ _ _ h => h) (by kernel_rfl) (fun W hW => by obtain ⟨-, c0⟩ := CE.out W hW; go_simp) (by assumption) rfl rfl ?_
              simp only [Act.put, List.setIfInBounds_toArray, List.set_cons_zero, List.set_cons_succ]
              refine wpAnyH_enter 6 104 10 #[.pointer (some ⟨mm j, 0, none⟩), .pointer (some ⟨rr j, 0, none⟩)] rfl rfl (by kernel_rfl) (by kernel_rfl) (by kernel_rfl) ?_
              refine (whole_any (mm j) (bb j) (rr j) q (XX j) _ (BTn.out.calm hT0) (by have := LBn.out; have := HB.out; omega)).mono ?_
              rintro e x2 ⟨rfl, t2⟩
              have hT2 : Calm V x2 := hT0.tr t2
              refine ⟨_, rfl, hT2, ?_⟩
              simp only [Act.put, List.setIfInBounds_toArray, List.set_cons_zero, List.set_cons_succ]
              refine wpAnyH_yield 7 105 (.bool false) rfl rfl (by kernel_rfl) (by kernel_rfl) (by kernel_rfl) (fun _ _ _ h => h) (by kernel_rfl) (fun W hW => by kernel_rfl) (by assumption) rfl rfl ?_
              simp only [Act.put, List.setIfInBounds_toArray, List.set_cons_zero, List.set_cons_succ]
              refine wpAnyH_done (by kernel_rfl) ?_ _
              have TH2 := hide (TH.out.turn hT2)
              clear hT0 hT2 t2 CE BTn LBn TH
              go_wp2_with fail
              go_roundw
              case rel => exact ⟨j + 1, by simp, hj3, TH2.out⟩
              case measure => simp [intOf]; omega
            · have T0 := hide TH.out.calm
              have e : j = 3 := by omega
              subst e
              clear TH hj hj3
              go_wp2_with fail
              refine (nothing_any none _ (.inl rfl)).mono ?_
              rintro e y1 ⟨rfl, t1⟩
              have T1 := hide (T0.out.tr t1)
              have T2 := hide (T1.out.alloc (.cells #[.nilFunc, .pointer none] 41))
              have NO : Hid (No (y1.alloc (.cells #[.nilFunc, .pointer none] 41)) (some ⟨y1.heap.size, 0, none⟩)) := hide (.inr ⟨_, rfl, heap_alloc_last y1 _⟩)
              clear t1 T0 T1
              go_wp2_with fail
              refine (nothing_any _ _ NO.out).mono ?_
              rintro e y2 ⟨rfl, t2⟩
              have T3 := hide (T2.out.tr t2)
              clear t2 T2 NO
              go_wp2_with fail
              refine (works_any _).mono ?_
              rintro e y3 ⟨rfl, t3⟩
              have T4 := hide (T3.out.tr t3)
              clear t3 T3
              go_wp2_with fail
              go_ret
              exact ⟨rfl, T4.out⟩

end Go.Proofs.Ytegiinnhknfjjaa.IM
