/- RoutePlays: the law. -/
import Derived.Test.YtapnjofplilefaaGreatX3
import Derived.Test.YtapnjofplilefaaGreatCJ0
namespace Go.Proofs.YtapnjofplilefaaGreat
open Go.RowKit

set_option maxRecDepth 100000 in
set_option maxHeartbeats 8000000 in
theorem plays15_yes (c : Cf) (p g : Nat) (N : List St15) (no : Option Addr) (nc : Nat) (w : World) (hne : newE c (p : Int) = 0) (hS : Sit c p g (List.replicate c.so.toNat minT)) (hN : encS15.Sl w no nc N) (each : ∀ x ∈ N, encI.Sl w x.mo x.mc x.M ∧ x.ke.size < 9223372036854775808) (hsum : (N.map fun x => x.M.length).sum ≤ 1048576) (hl : N.length ≤ 1048576) : Calls Tryz.prog 3 #[cfv c, .int .i64 (p : Int), .slice no N.length nc] w fun e w' => e = .returned (.bool true) ∧ Calm w w' := by
  have hjob : jobB c = true := by
    rcases newE_cases c p with ⟨e, -⟩ | ⟨e, -⟩ | ⟨-, h1, -, -⟩
    · rw [e] at hne; cases hne
    · rw [e] at hne; cases hne
    · exact h1
  have CY := hide (fun W => router_all.new_yes c p W hne)
  have CX := hide (fun W => rnewZ_yes c p W hne)
  have KN := hide (fun W => known15_any router_all W)
  have A0 := hide (al_old (al_new w (.cells (cfc c) 24)) (.cells #[.pointer none, .pointer none, .pointer none, .pointer none, .slice none 0 0, .slice none 0 0] 34))
  have B0 := al_new (w.alloc (.cells (cfc c) 24)) (.cells #[.pointer none, .pointer none, .pointer none, .pointer none, .slice none 0 0, .slice none 0 0] 34)
  rw [al_size] at B0
  have T0 := hide (((Touch.refl (fun _ => False) w).alloc (.cells (cfc c) 24)).alloc (.cells #[.pointer none, .pointer none, .pointer none, .pointer none, .slice none 0 0, .slice none 0 0] 34))
  have BEG : Hid (∃ th, Beg c p g (w.heap.size + 1) (w.heap.size + 1) 0 th ((w.alloc (.cells (cfc c) 24)).alloc (.cells #[.pointer none, .pointer none, .pointer none, .pointer none, .slice none 0 0, .slice none 0 0] 34))) := hide ⟨fun _ => ⟨true, 0, [], 0⟩, B0, Tb.none (fun d hd => by
    have hd : d = w.heap.size + 1 := hd
    have := lt_of_heap B0
    omega), fun j hj => absurd hj (by omega), Nat.le_refl _⟩
  have NX : Hid (∀ i th W W3 q r G F, Beg c p g (w.heap.size + 1) (w.heap.size + 1) i th W → i < 2 → Calm W W3 → Pr W3 q G c p (List.replicate c.so.toNat minT) 0 → Rr W3 r F c p (List.replicate c.so.toNat minT) 0 → (∀ d, G d → W.heap.size ≤ d) → (∀ d, F d → W.heap.size ≤ d) → (∀ d, G d → ¬ F d) → ∃ th', Beg c p g (w.heap.size + 1) (w.heap.size + 1) (i + 1) th' ((W3.setCell ⟨w.heap.size + 1, i, none⟩ (cp q)).setCell ⟨w.heap.size + 1, 2 + i, none⟩ (cp r))) := hide fun i th W W3 q r G F hB hi ht hp hr h1 h2 h3 => hB.next hi hjob hS.gr hS.may ht hp hr h1 h2 h3
  have HNN := hide hN
  have HEA := hide each
  have HSU := hide hsum
  clear hne B0 hN each hsum hS hjob
  obtain ⟨n, hn⟩ : ∃ n, n = N.length := ⟨_, rfl⟩
  rw [← hn] at hl ⊢
  have HN := hide hn.symm
  clear hn
  generalize List.replicate c.so.toNat minT = L0 at *
  go_enter Tryz.func3, Tryz.ntmps3
  go_wp2_with fail
  generalize (w.alloc (.cells (cfc c) 24)).alloc (.cells #[.pointer none, .pointer none, .pointer none, .pointer none, .slice none 0 0, .slice none 0 0] 34) = w1 at *
  generalize hD : w.heap.size = D at *
  have HD := hide hD
  clear hD
  go_loopw [8, 9, 10, 11, 12] (fun s8 s9 s10 s11 s12 wr => ∃ i : Nat, s8 = .int .i64 (i : Int) ∧ i ≤ 2 ∧ Hid (∃ th, Beg c p g (D + 1) (D + 1) i th wr) ∧ Hid (wr.heap[D]? = some (.cells (cfc c) 24 (0, 0)) ∧ Touch (fun d => d = D + 1) w1 wr)) (fun s8 _ _ _ _ _ => 2 - (intOf s8).toNat)
  case atStart => exact ⟨0, rfl, by omega, BEG, hide ⟨A0.out, Touch.refl _ _⟩⟩
  case round =>
    obtain ⟨i, rfl, hi, HB, HT⟩ := hrel
    clear BEG A0
    by_cases hlt : i < 2
    · have hltz : (i : Int) < 2 := by omega
      have zw : IntKind.i64.wrap ((i : Int) + 1) = ((i + 1 : Nat) : Int) := by rw [IntKind.wrap_i64]; omega
      obtain ⟨⟨c0, c1, c2, c3, c4, c5, c6⟩, c7, c8, c9⟩ := cf_cells HT.out.1
      go_wp2_with fail
      refine (CY.out wr).mono ?_
      rintro e w2 ⟨q, rfl, P2, t2⟩
      have A2 := hide (t2.at HT.out.1)
      have P2 := hide P2
      have T2 := hide t2
      clear c0 c1 c2 c3 c4 c5 c6 c7 c8 c9 t2 CY
      obtain ⟨⟨c0, c1, c2, c3, c4, c5, c6⟩, c7, c8, c9⟩ := cf_cells A2.out
      go_wp2_with fail
      refine (CX.out w2).mono ?_
      rintro e w3 ⟨r, rfl, hr9, R3, t3⟩
      have A3 := hide (t3.at A2.out)
      obtain ⟨th, hbeg⟩ := HB.out
      have ownB : w3.heap[D + 1]? = some (.cells (begC i th) 34 (0, 0)) := (T2.out.tr t3).at hbeg.own
      have sz2 := T2.out.size
      have P3 : Pr w3 q (fun d => wr.heap.size ≤ d ∧ d < w2.heap.size) c p L0 0 := P2.out.calm t3
      have BN : Hid (∀ W, Calm w3 W → ∃ th', Beg c p g (D + 1) (D + 1) (i + 1) th' ((W.setCell ⟨D + 1, i, none⟩ (cp q)).setCell ⟨D + 1, 2 + i, none⟩ (cp r))) := hide fun W hW => NX.out i th wr W q r _ _ hbeg hlt ((T2.out.tr t3).tr hW) (P3.calm hW) (R3.calm hW) (fun d (hd : wr.heap.size ≤ d ∧ d < w2.heap.size) => hd.1) (fun d (hd : w2.heap.size ≤ d ∧ d < w3.heap.size) => by omega) (fun d (hd : wr.heap.size ≤ d ∧ d < w2.heap.size) (h9 : w2.heap.size ≤ d ∧ d < w3.heap.size) => by omega)
      have OB := hide ownB
      have T3 := hide (HT.out.2.trans ((T2.out.tr t3).mono (S' := fun d => d = D + 1) fun _ _ h => h.elim) fun _ _ h => h)
      clear c0 c1 c2 c3 c4 c5 c6 c7 c8 c9 t3 A2 P2 T2 CX R3 P3 ownB sz2 hr9 hbeg NX HB HT
      go_wp2_with fail
      refine wp_region_held (S := Touch (fun d => d = D + 1) w3) (by kernel_rfl) ?_
      have cT0 : Calm w3 { w3 with drawn := w3.drawn + 1 } := (Touch.refl _ w3).drew
      have hT0 : Touch (fun d => d = D + 1) w3 { w3 with drawn := w3.drawn + 1 } := (Touch.refl _ w3).drew
      refine wpAnyH_yield 0 49 (cp (D + 1)) rfl rfl (by kernel_rfl) (by kernel_rfl) (by kernel_rfl) (fun _ _ _ h => h) (by kernel_rfl) (fun W hW => by kernel_rfl) (by assumption) rfl rfl ?_
      simp only [Act.put, List.setIfInBounds_toArray, List.set_cons_zero, List.set_cons_succ]
      refine wpAnyH_yield 1 50 (.int .i64 (i : Int)) rfl rfl (by kernel_rfl) (by kernel_rfl) (by kernel_rfl) (fun _ _ _ h => h) (by kernel_rfl) (fun W hW => by kernel_rfl) (by assumption) rfl rfl ?_
      simp only [Act.put, List.setIfInBounds_toArray, List.set_cons_zero, List.set_cons_succ]
      refine wpAnyH_yield 2 51 (cp (D + 1)) rfl rfl (by kernel_rfl) (by kernel_rfl) (by kernel_rfl) (fun _ _ _ h => h) (by kernel_rfl) (fun W hW => by kernel_rfl) (by assumption) rfl rfl ?_
      simp only [Act.put, List.setIfInBounds_toArray, List.set_cons_zero, List.set_cons_succ]
      refine wpAnyH_yield 3 52 (.int .i64 (i : Int)) rfl rfl (by kernel_rfl) (by kernel_rfl) (by kernel_rfl) (fun _ _ _ h => h) (by kernel_rfl) (fun W hW => by kernel_rfl) (by assumption) rfl rfl ?_
      simp only [Act.put, List.setIfInBounds_toArray, List.set_cons_zero, List.set_cons_succ]
      refine wpAnyH_yield 4 53 (cp q) rfl rfl (by kernel_rfl) (by kernel_rfl) (by kernel_rfl) (fun _ _ _ h => h) (by kernel_rfl) (fun W hW => by kernel_rfl) (by assumption) rfl rfl ?_
      simp only [Act.put, List.setIfInBounds_toArray, List.set_cons_zero, List.set_cons_succ]
      refine wpAnyH_yield 5 54 (cp r) rfl rfl (by kernel_rfl) (by kernel_rfl) (by kernel_rfl) (fun _ _ _ h => h) (by kernel_rfl) (fun W hW => by kernel_rfl) (by assumption) rfl rfl ?_
      simp only [Act.put, List.setIfInBounds_toArray, List.set_cons_zero, List.set_cons_succ]
      refine wpAnyH_yield 6 55 (cp (D + 1)) rfl rfl (by kernel_rfl) (by kernel_rfl) (by kernel_rfl) (fun _ _ _ h => h) (by kernel_rfl) (fun W hW => by go_simp) (by assumption) rfl rfl ?_
      simp only [Act.put, List.setIfInBounds_toArray, List.set_cons_zero, List.set_cons_succ]
      refine wpAnyH_yield 7 56 (.pointer (some ⟨D + 1, 0, none⟩)) rfl rfl (by kernel_rfl) (by kernel_rfl) (by kernel_rfl) (fun _ _ _ h => h) (by kernel_rfl) (fun W hW => by go_simp) (by assumption) rfl rfl ?_
      simp only [Act.put, List.setIfInBounds_toArray, List.set_cons_zero, List.set_cons_succ]
      refine wpAnyH_yield 8 57 (.pointer (some ⟨D + 1, i, none⟩)) rfl rfl (by kernel_rfl) (by kernel_rfl) (by kernel_rfl) (fun _ _ _ h => h) (by kernel_rfl) (fun W hW => by go_simp) (by assumption) rfl rfl ?_
      simp only [Act.put, List.setIfInBounds_toArray, List.set_cons_zero, List.set_cons_succ]
      refine wpAnyH_yield 10 58 (cp (D + 1)) rfl rfl (by kernel_rfl) (by kernel_rfl) (by kernel_rfl) (fun _ _ _ h => h) (by kernel_rfl) (fun W hW => by go_simp) (by assumption) rfl rfl ?_
      simp only [Act.put, List.setIfInBounds_toArray, List.set_cons_zero, List.set_cons_succ]
      refine wpAnyH_yield 11 59 (.pointer (some ⟨D + 1, 2, none⟩)) rfl rfl (by kernel_rfl) (by kernel_rfl) (by kernel_rfl) (fun _ _ _ h => h) (by kernel_rfl) (fun W hW => by go_simp) (by assumption) rfl rfl ?_
      simp only [Act.put, List.setIfInBounds_toArray, List.set_cons_zero, List.set_cons_succ]
      generalize hw3 : ({ w3 with drawn := w3.drawn + 1 } : World) = wD at *
      have OBD := cT0.at OB.out
      obtain ⟨⟨b0, b1, b2, b3⟩, bf⟩ := beg_cell OBD
      have bi : ∃ u, wD.cell? ⟨D + 1, i, none⟩ = some u := by
        rcases (show i = 0 ∨ i = 1 by omega) with rfl | rfl
        · exact ⟨_, b0⟩
        · exact ⟨_, b1⟩
      have bj : ∃ u, (wD.setCell ⟨D + 1, i, none⟩ (cp q)).cell? ⟨D + 1, 2 + i, none⟩ = some u := by
        have := heap_setCell_row (i := i) OBD (cp q)
        rcases (show i = 0 ∨ i = 1 by omega) with rfl | rfl <;> simp [World.cell?, this]
      have bjf : (wD.setCell ⟨D + 1, i, none⟩ (cp q)).frozen? ⟨D + 1, 2 + i, none⟩ = false := by
        have := heap_setCell_row (i := i) OBD (cp q)
        simp [World.frozen?, this]
      obtain ⟨ui, bi⟩ := bi
      obtain ⟨uj, bj⟩ := bj
      have bfi := bf i
      have h9 := hT0.setCell (p := ⟨D + 1, i, none⟩) (fun _ => rfl) (cp q)
      have h10 := h9.setCell (p := ⟨D + 1, 2 + i, none⟩) (fun _ => rfl) (cp r)
      refine wpAnyH_do 9 (wD.setCell ⟨D + 1, i, none⟩ (cp q)) rfl (by kernel_rfl) (by kernel_rfl) (fun K hK => by unfold Oper.wp; go_simp; exact hK) h9 ?_
      clear bi bfi
      refine wpAnyH_yield 12 60 (.pointer (some ⟨D + 1, 2 + i, none⟩)) rfl rfl (by kernel_rfl) (by kernel_rfl) (by kernel_rfl) (fun _ _ _ h => h) (by kernel_rfl) (fun W hW => by go_simp) (by assumption) rfl rfl ?_
      simp only [Act.put, List.setIfInBounds_toArray, List.set_cons_zero, List.set_cons_succ]
      refine wpAnyH_do 13 ((wD.setCell ⟨D + 1, i, none⟩ (cp q)).setCell ⟨D + 1, 2 + i, none⟩ (cp r)) rfl (by kernel_rfl) (by kernel_rfl) (fun K hK => by unfold Oper.wp; go_simp; exact hK) h10 ?_
      refine wpAnyH_done (by kernel_rfl) ?_ _
      have BF := hide (BN.out wD cT0)
      have AF := hide (h10.heap A3.out (fun e => by have e : D = D + 1 := e; omega))
      have TF := hide (T3.out.trans h10 fun _ _ h => h)
      clear bj bjf b0 b1 b2 b3 bf OBD h9 h10 cT0 hT0 hw3 BN A3 T3 OB
      generalize (wD.setCell ⟨D + 1, i, none⟩ (cp q)).setCell ⟨D + 1, 2 + i, none⟩ (cp r) = w5 at *
      go_wp2_with fail
      go_roundw
      case rel => exact ⟨i + 1, by first | rfl | go_num, by omega, BF, hide ⟨AF.out, TF.out⟩⟩
      case measure => simp [intOf]; omega
    · have hltz : ¬ (i : Int) < 2 := by omega
      obtain rfl : i = 2 := by omega
      obtain ⟨th, hbeg⟩ := HB.out
      obtain ⟨th0, wl0⟩ := hbeg.done
      have WL0 := hide wl0
      have T1 := hide (HT.out.2)
      clear hbeg wl0 HB HT CY CX NX th
      go_wp2_with fail
      obtain ⟨wa, hwa⟩ : ∃ x, x = wr := ⟨_, rfl⟩
      subst hwa
      go_loopw [13, 14] (fun s13 s14 wx => ∃ i : Nat, s13 = .int .i64 (i : Int) ∧ i ≤ n ∧ Hid (∃ (th : Nat → Th) (m : Nat) (oo : Option Addr) (oc : Nat) (wo : Option Addr) (wc : Nat), m ≤ 10 ∧ Wl c p g (D + 1) (D + 1) th m (tot N i) oo oc wo wc wx) ∧ Hid (Touch (fun d => D + 1 ≤ d) w1 wx)) (fun s13 _ _ => n - (intOf s13).toNat)
      case atStart => exact ⟨0, rfl, by omega, hide ⟨th0, 0, _, _, _, _, by omega, WL0.out⟩, hide (T1.out.mono fun d _ e => by have e : d = D + 1 := e; omega)⟩
      case round =>
        obtain ⟨i, rfl, hi9, HWL, HTX⟩ := hrel
        clear WL0 T1
        by_cases hlt9 : i < n
        · have hltz : (i : Int) < (n : Int) := by omega
          have zl : ¬ (n : Int) ≤ (i : Int) := by omega
          have zw : IntKind.i64.wrap ((i : Int) + 1) = ((i + 1 : Nat) : Int) := by rw [IntKind.wrap_i64]; omega
          have TWX : Touch (fun d => D + 1 ≤ d) w wr := (T0.out.mono fun _ _ h => h.elim).trans HTX.out fun _ _ h => h
          have nW : ∀ a : Addr, a.block < w.heap.size → ¬ (D + 1 ≤ a.block) := fun a h => by have := HD.out; omega
          obtain ⟨gs, off, rfl, cs⟩ := steps_W (F := fun d => D + 1 ≤ d) HNN.out.mem (fun a ha hne => nW a (mem_lt HNN.out.mem a ha hne)) i (by have := HN.out; omega)
          obtain ⟨s0, s1, s2, s3⟩ := cs wr TWX
          have hmem : N.getD i st15 ∈ N := by
            have hi9' : i < N.length := by have := HN.out; omega
            rw [List.getD_eq_getElem?_getD, List.getElem?_eq_getElem hi9']
            exact List.getElem_mem hi9'
          obtain ⟨e1, e2⟩ := HEA.out _ hmem
          have mb := mem_lt e1.mem
          obtain ⟨th, m, oo, oc, wo, wc9, hm, hwl⟩ := HWL.out
          have tl := tot_le N (i + 1)
          have ts := tot_succ N i (by have := HN.out; omega)
          have t0 : 0 ≤ tot N i := Int.natCast_nonneg _
          have hs := HSU.out
          have ST := hide (stepZ_any hwl (N.getD i st15).kd (N.getD i st15).on (N.getD i st15).M (N.getD i st15).mo (N.getD i st15).mc (N.getD i st15).ke
            ⟨Rc.Mem.touch e1.mem TWX (fun a ha hne => nW a (mb a ha hne)), e1.nil, e1.cap⟩ (fun a ha hne => by have := mb a ha hne; have := HD.out; omega) hm e2 (by omega) (by omega))
          rw [← ts] at ST
          generalize N.getD i st15 = x at *
          clear cs TWX nW hmem e1 e2 mb hwl HWL tl ts t0 hs
          go_wp2_with fail
          refine ST.out.mono ?_
          rintro e wy ⟨rfl, ty, hwy⟩
          have HWY := hide hwy
          have HTY := hide (HTX.out.trans ty fun _ _ h => h)
          clear ST HTX ty hwy s0 s1 s2 s3
          go_wp2_with fail
          go_roundw
          case rel => exact ⟨i + 1, by first | rfl | go_num, by omega, HWY, HTY⟩
          case measure => simp [intOf]; omega
        · have hltz : ¬ (i : Int) < (n : Int) := by omega
          obtain ⟨th, m, oo, oc, wo, wc9, hm, hwl⟩ := HWL.out
          have LP0 := hide hwl.end_
          clear hwl HWL HNN HEA HSU
          go_wp2_with fail
          obtain ⟨wb, hwb⟩ : ∃ x, x = wr := ⟨_, rfl⟩
          subst hwb
          go_loopw [15] (fun s15 wy => ∃ j : Nat, s15 = .int .i64 (j : Int) ∧ j ≤ 2 ∧ Hid (∃ a1 p1 a2 p2, Lp c p g (D + 1) (D + 1) th m j (tot N i) a1 p1 a2 p2 wy) ∧ Hid (Touch (fun d => D + 1 ≤ d) w1 wy)) (fun s15 _ => 2 - (intOf s15).toNat)
          case atStart => exact ⟨0, rfl, by omega, hide ⟨_, _, _, _, LP0.out⟩, HTX⟩
          case round =>
            obtain ⟨j, rfl, hj, HLP, HTY⟩ := hrel
            clear LP0 HTX
            by_cases hj2 : j < 2
            · have hltz2 : (j : Int) < 2 := by omega
              have K0 : ¬ (j : Int) < 0 := by omega
              have zw : IntKind.i64.wrap ((j : Int) + 1) = ((j + 1 : Nat) : Int) := by rw [IntKind.wrap_i64]; omega
              obtain ⟨a1, p1, a2, p2, lp⟩ := HLP.out
              have n1 := tags_own lp.old lp.own (by decide)
              have OWX : Hid (∀ W, Touch (fun d => (Value.slice a1 (m + j) p1).ownBlock = some d) wr W → W.heap[D + 1]? = some (.cells (worldC (th 0).a (th 1).a (th 2).a (th 3).a (.slice a1 (m + j) p1) (.slice a2 (m + j) p2)) 34 (0, 0))) := hide fun W hW => hW.heap lp.own (fun hd => n1 _ hd rfl)
              have JX : Hid (∀ W, Touch (fun d => (Value.slice a1 (m + j) p1).ownBlock = some d) wr W → W.cell? ⟨D + 1, j, none⟩ = some (cp (th j).a)) := hide fun W hW => by
                obtain ⟨k0, k1, -⟩ := wl_cell (OWX.out W hW)
                rcases (show j = 0 ∨ j = 1 by omega) with rfl | rfl
                · exact k0
                · exact k1
              have OB1 : Hid (∀ d, (Value.slice a1 (m + j) p1).ownBlock = some d → D + 1 ≤ d) := hide fun d hd => (own_lt lp.old hd).1
              have OB2 : Hid (∀ d, (Value.slice a2 (m + j) p2).ownBlock = some d → D + 1 ≤ d) := hide fun d hd => (own_lt lp.was hd).1
              have HALF := hide (fun W (hW : Calm wr W) => (lp.still hW).half (by omega))
              clear n1 lp HLP
              go_wp2_with fail
              refine wp_region_z 15 (Touch (fun d => (Value.slice a1 (m + j) p1).ownBlock = some d) wr) (by kernel_rfl) ?_
              have cT0 : Calm wr { wr with drawn := wr.drawn + 1 } := (Touch.refl _ wr).drew
              have hT0 : Touch (fun d => (Value.slice a1 (m + j) p1).ownBlock = some d) wr { wr with drawn := wr.drawn + 1 } := (Touch.refl _ wr).drew
              refine wpAnyZ_yield 0 79 (cp (D + 1)) [13, 14, 15] rfl rfl (by kernel_rfl) (by kernel_rfl) (by kernel_rfl) (by kernel_rfl) (by kernel_rfl) (fun _ _ _ h => h) (by kernel_rfl) (fun W hW => by kernel_rfl) (by assumption) rfl rfl ?_
              simp only [Act.put, List.setIfInBounds_toArray, List.set_cons_zero, List.set_cons_succ]
              refine wpAnyZ_yield 1 80 (cp (D + 1)) [2, 3, 4, 12, 15] rfl rfl (by kernel_rfl) (by kernel_rfl) (by kernel_rfl) (by kernel_rfl) (by kernel_rfl) (fun _ _ _ h => h) (by kernel_rfl) (fun W hW => by kernel_rfl) (by assumption) rfl rfl ?_
              simp only [Act.put, List.setIfInBounds_toArray, List.set_cons_zero, List.set_cons_succ]
              refine wpAnyZ_yield 2 81 (cp (D + 1)) [3, 4, 12, 15] rfl rfl (by kernel_rfl) (by kernel_rfl) (by kernel_rfl) (by kernel_rfl) (by kernel_rfl) (fun _ _ _ h => h) (by kernel_rfl) (fun W hW => by go_simp) (by assumption) rfl rfl ?_
              simp only [Act.put, List.setIfInBounds_toArray, List.set_cons_zero, List.set_cons_succ]
              refine wpAnyZ_yield 3 82 (.pointer (some ⟨D + 1, 4, none⟩)) [4, 12, 15] rfl rfl (by kernel_rfl) (by kernel_rfl) (by kernel_rfl) (by kernel_rfl) (by kernel_rfl) (fun _ _ _ h => h) (by kernel_rfl) (fun W hW => by go_simp) (by assumption) rfl rfl ?_
              simp only [Act.put, List.setIfInBounds_toArray, List.set_cons_zero, List.set_cons_succ]
              refine wpAnyZ_yield 4 83 (.slice a1 (m + j) p1) [12, 15] rfl rfl (by kernel_rfl) (by kernel_rfl) (by kernel_rfl) (by kernel_rfl) (by kernel_rfl) (fun _ _ _ h => h) (by kernel_rfl) (fun W hW => by obtain ⟨k0, k1, k2, k3, k4, k5, -⟩ := wl_cell (OWX.out W hW); go_simp) (by assumption) rfl rfl ?_
              simp only [Act.put, List.setIfInBounds_toArray, List.set_cons_zero, List.set_cons_succ]
              refine wpAnyZ_yield 5 84 (cp (D + 1)) [7, 8, 9, 10, 11, 12, 15] rfl rfl (by kernel_rfl) (by kernel_rfl) (by kernel_rfl) (by kernel_rfl) (by kernel_rfl) (fun _ _ _ h => h) (by kernel_rfl) (fun W hW => by kernel_rfl) (by assumption) rfl rfl ?_
              simp only [Act.put, List.setIfInBounds_toArray, List.set_cons_zero, List.set_cons_succ]
              refine wpAnyZ_yield 6 85 (.int .i64 (j : Int)) [9, 10, 11, 12, 15] rfl rfl (by kernel_rfl) (by kernel_rfl) (by kernel_rfl) (by kernel_rfl) (by kernel_rfl) (fun _ _ _ h => h) (by kernel_rfl) (fun W hW => by kernel_rfl) (by assumption) rfl rfl ?_
              simp only [Act.put, List.setIfInBounds_toArray, List.set_cons_zero, List.set_cons_succ]
              refine wpAnyZ_yield 7 86 (cp (D + 1)) [8, 9, 10, 11, 12, 15] rfl rfl (by kernel_rfl) (by kernel_rfl) (by kernel_rfl) (by kernel_rfl) (by kernel_rfl) (fun _ _ _ h => h) (by kernel_rfl) (fun W hW => by go_simp) (by assumption) rfl rfl ?_
              simp only [Act.put, List.setIfInBounds_toArray, List.set_cons_zero, List.set_cons_succ]
              refine wpAnyZ_yield 8 87 (.pointer (some ⟨D + 1, 0, none⟩)) [9, 10, 11, 12, 15] rfl rfl (by kernel_rfl) (by kernel_rfl) (by kernel_rfl) (by kernel_rfl) (by kernel_rfl) (fun _ _ _ h => h) (by kernel_rfl) (fun W hW => by go_simp) (by assumption) rfl rfl ?_
              simp only [Act.put, List.setIfInBounds_toArray, List.set_cons_zero, List.set_cons_succ]
              refine wpAnyZ_yield 9 88 (.pointer (some ⟨D + 1, j, none⟩)) [10, 11, 12, 15] rfl rfl (by kernel_rfl) (by kernel_rfl) (by kernel_rfl) (by kernel_rfl) (by kernel_rfl) (fun _ _ _ h => h) (by kernel_rfl) (fun W hW => by go_simp) (by assumption) rfl rfl ?_
              simp only [Act.put, List.setIfInBounds_toArray, List.set_cons_zero, List.set_cons_succ]
              refine wpAnyZ_yield 10 89 (cp (th j).a) [11, 12, 15] rfl rfl (by kernel_rfl) (by kernel_rfl) (by kernel_rfl) (by kernel_rfl) (by kernel_rfl) (fun _ _ _ h => h) (by kernel_rfl) (fun W hW => by have kj := JX.out W hW; go_simp) (by assumption) rfl rfl ?_
              simp only [Act.put, List.setIfInBounds_toArray, List.set_cons_zero, List.set_cons_succ]
              generalize ({ wr with drawn := wr.drawn + 1 } : World) = wD at *
              refine wpAnyZ_value 11 90 (.slice (some ⟨wD.heap.size, 0, none⟩) 1 1) (w' := wD.alloc (.cells #[cp (th j).a] 27)) rfl rfl (by decide) (by kernel_rfl) (by kernel_rfl) (by go_simp) (hT0.alloc _) ?_
              simp only [Act.put, List.setIfInBounds_toArray, List.set_cons_zero, List.set_cons_succ]
              obtain ⟨a1', p1', w4, hr1, t1, ⟨u4, y4⟩, y4f, K5⟩ := HALF.out wD cT0
              have h4 := hT0.trans t1 fun _ _ h => h
              refine wpAnyZ_value 12 91 (.slice a1' (m + j + 1) p1') (w' := w4) rfl rfl (by decide) (by kernel_rfl) (by kernel_rfl) (exec_apk (.tmp 83) (.tmp 90) 31 31 rfl _ _ _ rfl rfl hr1) h4 ?_
              simp only [Act.put, List.setIfInBounds_toArray, List.set_cons_zero, List.set_cons_succ]
              refine wpAnyZ_yield 13 92 (cp (D + 1)) [14, 15] rfl rfl (by kernel_rfl) (by kernel_rfl) (by kernel_rfl) (by kernel_rfl) (by kernel_rfl) (fun _ _ _ h => h) (by kernel_rfl) (fun W hW => by go_simp) (by assumption) rfl rfl ?_
              simp only [Act.put, List.setIfInBounds_toArray, List.set_cons_zero, List.set_cons_succ]
              refine wpAnyZ_yield 14 93 (.pointer (some ⟨D + 1, 4, none⟩)) [15] rfl rfl (by kernel_rfl) (by kernel_rfl) (by kernel_rfl) (by kernel_rfl) (by kernel_rfl) (fun _ _ _ h => h) (by kernel_rfl) (fun W hW => by go_simp) (by assumption) rfl rfl ?_
              simp only [Act.put, List.setIfInBounds_toArray, List.set_cons_zero, List.set_cons_succ]
              refine wpAnyZ_end rfl (by kernel_rfl) (by kernel_rfl) (by kernel_rfl) ?_
              obtain ⟨w5, e5⟩ : ∃ w5, w4.setCell ⟨D + 1, 4, none⟩ (.slice a1' (m + j + 1) p1') = w5 := ⟨_, rfl⟩
              obtain ⟨T5, own5, K6⟩ := K5 w5 e5
              have T5 := hide ((cT0.mono (S' := fun d => d = D + 1 ∨ (Value.slice a1 (m + j) p1).ownBlock = some d) fun _ _ h => h.elim).trans T5 fun _ _ h => h)
              have K6 := hide K6
              have OW5 := hide own5
              clear K5 own5 hr1 t1 h4 cT0 hT0 HALF OWX JX
              unfold Oper.wp
              go_simp
              go_wp2_with fail
              clear y4 y4f e5
              have n2 : ∀ d, (Value.slice a2 (m + j) p2).ownBlock = some d → d ≠ D + 1 := by
                obtain ⟨_, _, _, _, _, _, _, n2, _⟩ := K6.out w5 (Touch.refl _ _)
                exact n2
              have OWX : Hid (∀ W, Touch (fun d => (Value.slice a2 (m + j) p2).ownBlock = some d) w5 W → W.heap[D + 1]? = some (.cells (worldC (th 0).a (th 1).a (th 2).a (th 3).a (.slice a1' (m + j + 1) p1') (.slice a2 (m + j) p2)) 34 (0, 0))) := hide fun W hW => hW.heap OW5.out (fun hd => n2 _ hd rfl)
              have JX : Hid (∀ W, Touch (fun d => (Value.slice a2 (m + j) p2).ownBlock = some d) w5 W → W.cell? ⟨D + 1, 2 + j, none⟩ = some (cp (th (j + 2)).a)) := hide fun W hW => by
                obtain ⟨-, -, k0, k1, -⟩ := wl_cell (OWX.out W hW)
                rcases (show j = 0 ∨ j = 1 by omega) with rfl | rfl
                · exact k0
                · exact k1
              clear n2 OW5
              refine wp_region_z 15 (Touch (fun d => (Value.slice a2 (m + j) p2).ownBlock = some d) w5) (by kernel_rfl) ?_
              have cT0 : Calm w5 { w5 with drawn := w5.drawn + 1 } := (Touch.refl _ w5).drew
              have hT0 : Touch (fun d => (Value.slice a2 (m + j) p2).ownBlock = some d) w5 { w5 with drawn := w5.drawn + 1 } := (Touch.refl _ w5).drew
              refine wpAnyZ_yield 0 94 (cp (D + 1)) [13, 14, 15] rfl rfl (by kernel_rfl) (by kernel_rfl) (by kernel_rfl) (by kernel_rfl) (by kernel_rfl) (fun _ _ _ h => h) (by kernel_rfl) (fun W hW => by kernel_rfl) (by assumption) rfl rfl ?_
              simp only [Act.put, List.setIfInBounds_toArray, List.set_cons_zero, List.set_cons_succ]
              refine wpAnyZ_yield 1 95 (cp (D + 1)) [2, 3, 4, 12, 15] rfl rfl (by kernel_rfl) (by kernel_rfl) (by kernel_rfl) (by kernel_rfl) (by kernel_rfl) (fun _ _ _ h => h) (by kernel_rfl) (fun W hW => by kernel_rfl) (by assumption) rfl rfl ?_
              simp only [Act.put, List.setIfInBounds_toArray, List.set_cons_zero, List.set_cons_succ]
              refine wpAnyZ_yield 2 96 (cp (D + 1)) [3, 4, 12, 15] rfl rfl (by kernel_rfl) (by kernel_rfl) (by kernel_rfl) (by kernel_rfl) (by kernel_rfl) (fun _ _ _ h => h) (by kernel_rfl) (fun W hW => by go_simp) (by assumption) rfl rfl ?_
              simp only [Act.put, List.setIfInBounds_toArray, List.set_cons_zero, List.set_cons_succ]
              refine wpAnyZ_yield 3 97 (.pointer (some ⟨D + 1, 5, none⟩)) [4, 12, 15] rfl rfl (by kernel_rfl) (by kernel_rfl) (by kernel_rfl) (by kernel_rfl) (by kernel_rfl) (fun _ _ _ h => h) (by kernel_rfl) (fun W hW => by go_simp) (by assumption) rfl rfl ?_
              simp only [Act.put, List.setIfInBounds_toArray, List.set_cons_zero, List.set_cons_succ]
              refine wpAnyZ_yield 4 98 (.slice a2 (m + j) p2) [12, 15] rfl rfl (by kernel_rfl) (by kernel_rfl) (by kernel_rfl) (by kernel_rfl) (by kernel_rfl) (fun _ _ _ h => h) (by kernel_rfl) (fun W hW => by obtain ⟨k0, k1, k2, k3, k4, k5, -⟩ := wl_cell (OWX.out W hW); go_simp) (by assumption) rfl rfl ?_
              simp only [Act.put, List.setIfInBounds_toArray, List.set_cons_zero, List.set_cons_succ]
              refine wpAnyZ_yield 5 99 (cp (D + 1)) [7, 8, 9, 10, 11, 12, 15] rfl rfl (by kernel_rfl) (by kernel_rfl) (by kernel_rfl) (by kernel_rfl) (by kernel_rfl) (fun _ _ _ h => h) (by kernel_rfl) (fun W hW => by kernel_rfl) (by assumption) rfl rfl ?_
              simp only [Act.put, List.setIfInBounds_toArray, List.set_cons_zero, List.set_cons_succ]
              refine wpAnyZ_yield 6 100 (.int .i64 (j : Int)) [9, 10, 11, 12, 15] rfl rfl (by kernel_rfl) (by kernel_rfl) (by kernel_rfl) (by kernel_rfl) (by kernel_rfl) (fun _ _ _ h => h) (by kernel_rfl) (fun W hW => by kernel_rfl) (by assumption) rfl rfl ?_
              simp only [Act.put, List.setIfInBounds_toArray, List.set_cons_zero, List.set_cons_succ]
              refine wpAnyZ_yield 7 101 (cp (D + 1)) [8, 9, 10, 11, 12, 15] rfl rfl (by kernel_rfl) (by kernel_rfl) (by kernel_rfl) (by kernel_rfl) (by kernel_rfl) (fun _ _ _ h => h) (by kernel_rfl) (fun W hW => by go_simp) (by assumption) rfl rfl ?_
              simp only [Act.put, List.setIfInBounds_toArray, List.set_cons_zero, List.set_cons_succ]
              refine wpAnyZ_yield 8 102 (.pointer (some ⟨D + 1, 2, none⟩)) [9, 10, 11, 12, 15] rfl rfl (by kernel_rfl) (by kernel_rfl) (by kernel_rfl) (by kernel_rfl) (by kernel_rfl) (fun _ _ _ h => h) (by kernel_rfl) (fun W hW => by go_simp) (by assumption) rfl rfl ?_
              simp only [Act.put, List.setIfInBounds_toArray, List.set_cons_zero, List.set_cons_succ]
              refine wpAnyZ_yield 9 103 (.pointer (some ⟨D + 1, 2 + j, none⟩)) [10, 11, 12, 15] rfl rfl (by kernel_rfl) (by kernel_rfl) (by kernel_rfl) (by kernel_rfl) (by kernel_rfl) (fun _ _ _ h => h) (by kernel_rfl) (fun W hW => by go_simp) (by assumption) rfl rfl ?_
              simp only [Act.put, List.setIfInBounds_toArray, List.set_cons_zero, List.set_cons_succ]
              refine wpAnyZ_yield 10 104 (cp (th (j + 2)).a) [11, 12, 15] rfl rfl (by kernel_rfl) (by kernel_rfl) (by kernel_rfl) (by kernel_rfl) (by kernel_rfl) (fun _ _ _ h => h) (by kernel_rfl) (fun W hW => by have kj := JX.out W hW; go_simp) (by assumption) rfl rfl ?_
              simp only [Act.put, List.setIfInBounds_toArray, List.set_cons_zero, List.set_cons_succ]
              generalize ({ w5 with drawn := w5.drawn + 1 } : World) = wE at *
              refine wpAnyZ_value 11 105 (.slice (some ⟨wE.heap.size, 0, none⟩) 1 1) (w' := wE.alloc (.cells #[cp (th (j + 2)).a] 29)) rfl rfl (by decide) (by kernel_rfl) (by kernel_rfl) (by go_simp) (hT0.alloc _) ?_
              simp only [Act.put, List.setIfInBounds_toArray, List.set_cons_zero, List.set_cons_succ]
              obtain ⟨a2', p2', w8, hr2, t2, ⟨u5, y5⟩, y5f, -, LPN⟩ := K6.out wE cT0
              have h8 := hT0.trans t2 fun _ _ h => h
              refine wpAnyZ_value 12 106 (.slice a2' (m + j + 1) p2') (w' := w8) rfl rfl (by decide) (by kernel_rfl) (by kernel_rfl) (exec_apk (.tmp 98) (.tmp 105) 32 32 rfl _ _ _ rfl rfl hr2) h8 ?_
              simp only [Act.put, List.setIfInBounds_toArray, List.set_cons_zero, List.set_cons_succ]
              refine wpAnyZ_yield 13 107 (cp (D + 1)) [14, 15] rfl rfl (by kernel_rfl) (by kernel_rfl) (by kernel_rfl) (by kernel_rfl) (by kernel_rfl) (fun _ _ _ h => h) (by kernel_rfl) (fun W hW => by go_simp) (by assumption) rfl rfl ?_
              simp only [Act.put, List.setIfInBounds_toArray, List.set_cons_zero, List.set_cons_succ]
              refine wpAnyZ_yield 14 108 (.pointer (some ⟨D + 1, 5, none⟩)) [15] rfl rfl (by kernel_rfl) (by kernel_rfl) (by kernel_rfl) (by kernel_rfl) (by kernel_rfl) (fun _ _ _ h => h) (by kernel_rfl) (fun W hW => by go_simp) (by assumption) rfl rfl ?_
              simp only [Act.put, List.setIfInBounds_toArray, List.set_cons_zero, List.set_cons_succ]
              refine wpAnyZ_end rfl (by kernel_rfl) (by kernel_rfl) (by kernel_rfl) ?_
              have LPN := hide LPN
              have TF : Hid (Touch (fun d => D + 1 ≤ d) w1 (w8.setCell ⟨D + 1, 5, none⟩ (.slice a2' (m + j + 1) p2'))) := hide (by
                have x1 : ∀ d, (d = D + 1 ∨ (Value.slice a1 (m + j) p1).ownBlock = some d) → D + 1 ≤ d := fun d hd => by
                  rcases hd with hd | hd
                  · omega
                  · exact OB1.out d hd
                have x2 := (HTY.out.trans T5.out fun d _ hd => x1 d hd)
                have x3 := x2.trans h8 fun d _ hd => OB2.out d hd
                exact x3.setCell (p := ⟨D + 1, 5, none⟩) (fun _ => Nat.le_refl _) _)
              generalize hwF : w8.setCell ⟨D + 1, 5, none⟩ (.slice a2' (m + j + 1) p2') = wF at *
              have hwF2 := hide hwF
              clear hr2 t2 h8 cT0 hT0 OWX JX K6 T5 OB1 OB2 HTY
              unfold Oper.wp
              go_simp
              clear hwF2
              go_wp2_with fail
              go_roundw
              case rel => exact ⟨j + 1, by first | rfl | go_num, by omega, hide ⟨_, _, _, _, LPN.out⟩, TF⟩
              case measure => simp [intOf]; omega
            · have hltz2 : ¬ (j : Int) < 2 := by omega
              obtain rfl : j = 2 := by omega
              obtain ⟨a1, p1, a2, p2, lp⟩ := HLP.out
              have HC : Hid (Calm w wr) := hide (by
                have x := (T0.out.mono (S' := fun d => D + 1 ≤ d) fun _ _ h => h.elim).trans HTY.out fun _ _ h => h
                exact (Touch.refl (fun _ => False) w).trans x fun d hd hs => by have := HD.out; omega)
              obtain ⟨q0, r0, L9, s9, G9, F9, -, -, ⟨d1, rfl, -⟩, ⟨d2, rfl, -⟩⟩ := lp.see 0 (by omega)
              have SEE : Hid (∀ i, i < m + 2 → ∃ q r, (∀ W, Calm wr W → Calls Tryz.prog 8 #[cp q, rp r] W fun e w' => e = .returned (.bool true) ∧ Calm W w') ∧ ∀ W, Calm wr W → W.cell? ⟨d1, i, none⟩ = some (cp q) ∧ W.cell? ⟨d2, i, none⟩ = some (cp r)) := hide fun i hi => by
                obtain ⟨q, r, L, s, G, F, x1, x2, ⟨e1, y1, z1⟩, ⟨e2, y2, z2⟩⟩ := lp.see i hi
                injection y1 with y1
                injection y1 with y1
                injection y2 with y2
                injection y2 with y2
                subst y1 y2
                exact ⟨q, r, fun W hW => stands_any router_all (x1.calm hW) (x2.calm hW), fun W hW => ⟨(hW.cell (p := ⟨d1, i, none⟩) (cell_lt z1) (fun h => h)).trans z1, (hW.cell (p := ⟨d2, i, none⟩) (cell_lt z2) (fun h => h)).trans z2⟩⟩
              have OWX : Hid (∀ W, Calm wr W → W.heap[D + 1]? = some (.cells (worldC (th 0).a (th 1).a (th 2).a (th 3).a (.slice (some ⟨d1, 0, none⟩) (m + 2) p1) (.slice (some ⟨d2, 0, none⟩) (m + 2) p2)) 34 (0, 0))) := hide fun W hW => hW.at lp.own
              clear lp HLP HTY T0
              obtain ⟨wcc, hwcc⟩ : ∃ x, x = wr := ⟨_, rfl⟩
              subst hwcc
              go_wp2_with fail
              go_loopw [16, 17] (fun s16 s17 wy => ∃ i : Nat, s16 = .int .i64 (i : Int) ∧ i ≤ m + 2 ∧ Hid (Calm wcc wy)) (fun s16 _ _ => m + 2 - (intOf s16).toNat)
              case atStart => exact ⟨0, rfl, by omega, hide (Touch.refl _ _)⟩
              case round =>
                obtain ⟨i, rfl, hi8, HW⟩ := hrel
                obtain ⟨k0, k1, k2, k3, k4, k5, -⟩ := wl_cell (OWX.out wr HW.out)
                by_cases hlt8 : i < m + 2
                · have hltz8 : (i : Int) < ((m + 2 : Nat) : Int) := by omega
                  have zl : ¬ ((m + 2 : Nat) : Int) ≤ (i : Int) := by omega
                  have zw : IntKind.i64.wrap ((i : Int) + 1) = ((i + 1 : Nat) : Int) := by rw [IntKind.wrap_i64]; omega
                  obtain ⟨q, r, ST, SC⟩ := SEE.out i hlt8
                  have ST := hide (fun W (hW : Calm wr W) => ST W (HW.out.tr hW))
                  have SC := hide (fun W (hW : Calm wr W) => SC W (HW.out.tr hW))
                  have OWR := hide (fun W (hW : Calm wr W) => OWX.out W (HW.out.tr hW))
                  clear SEE OWX
                  generalize hm2 : m + 2 = m2 at *
                  clear hm2
                  go_wp2_with fail
                  clear k0 k1 k2 k3 k4 k5
                  refine wp_region_held (S := Calm wr) (by kernel_rfl) ?_
                  have hT0 : Calm wr { wr with drawn := wr.drawn + 1 } := (Touch.refl _ wr).drew
                  refine wpAnyH_yield 0 118 (cp (D + 1)) rfl rfl (by kernel_rfl) (by kernel_rfl) (by kernel_rfl) (fun _ _ _ h => h) (by kernel_rfl) (fun W hW => by kernel_rfl) (by assumption) rfl rfl ?_
                  simp only [Act.put, List.setIfInBounds_toArray, List.set_cons_zero, List.set_cons_succ]
                  refine wpAnyH_yield 1 119 (cp (D + 1)) rfl rfl (by kernel_rfl) (by kernel_rfl) (by kernel_rfl) (fun _ _ _ h => h) (by kernel_rfl) (fun W hW => by go_simp) (by assumption) rfl rfl ?_
                  simp only [Act.put, List.setIfInBounds_toArray, List.set_cons_zero, List.set_cons_succ]
                  refine wpAnyH_yield 2 120 (.pointer (some ⟨D + 1, 4, none⟩)) rfl rfl (by kernel_rfl) (by kernel_rfl) (by kernel_rfl) (fun _ _ _ h => h) (by kernel_rfl) (fun W hW => by go_simp) (by assumption) rfl rfl ?_
                  simp only [Act.put, List.setIfInBounds_toArray, List.set_cons_zero, List.set_cons_succ]
                  refine wpAnyH_yield 3 121 (.slice (some ⟨d1, 0, none⟩) m2 p1) rfl rfl (by kernel_rfl) (by kernel_rfl) (by kernel_rfl) (fun _ _ _ h => h) (by kernel_rfl) (fun W hW => by obtain ⟨k0, k1, k2, k3, k4, k5, -⟩ := wl_cell (OWR.out W hW); go_simp) (by assumption) rfl rfl ?_
                  simp only [Act.put, List.setIfInBounds_toArray, List.set_cons_zero, List.set_cons_succ]
                  refine wpAnyH_yield 4 122 (.int .i64 (i : Int)) rfl rfl (by kernel_rfl) (by kernel_rfl) (by kernel_rfl) (fun _ _ _ h => h) (by kernel_rfl) (fun W hW => by kernel_rfl) (by assumption) rfl rfl ?_
                  simp only [Act.put, List.setIfInBounds_toArray, List.set_cons_zero, List.set_cons_succ]
                  refine wpAnyH_yield 5 123 (.pointer (some ⟨d1, i, none⟩)) rfl rfl (by kernel_rfl) (by kernel_rfl) (by kernel_rfl) (fun _ _ _ h => h) (by kernel_rfl) (fun W hW => by go_simp) (by assumption) rfl rfl ?_
                  simp only [Act.put, List.setIfInBounds_toArray, List.set_cons_zero, List.set_cons_succ]
                  refine wpAnyH_yield 6 124 (cp q) rfl rfl (by kernel_rfl) (by kernel_rfl) (by kernel_rfl) (fun _ _ _ h => h) (by kernel_rfl) (fun W hW => by obtain ⟨k0, -⟩ := SC.out W hW; go_simp) (by assumption) rfl rfl ?_
                  simp only [Act.put, List.setIfInBounds_toArray, List.set_cons_zero, List.set_cons_succ]
                  refine wpAnyH_yield 7 125 (cp (D + 1)) rfl rfl (by kernel_rfl) (by kernel_rfl) (by kernel_rfl) (fun _ _ _ h => h) (by kernel_rfl) (fun W hW => by kernel_rfl) (by assumption) rfl rfl ?_
                  simp only [Act.put, List.setIfInBounds_toArray, List.set_cons_zero, List.set_cons_succ]
                  refine wpAnyH_yield 8 126 (cp (D + 1)) rfl rfl (by kernel_rfl) (by kernel_rfl) (by kernel_rfl) (fun _ _ _ h => h) (by kernel_rfl) (fun W hW => by go_simp) (by assumption) rfl rfl ?_
                  simp only [Act.put, List.setIfInBounds_toArray, List.set_cons_zero, List.set_cons_succ]
                  refine wpAnyH_yield 9 127 (.pointer (some ⟨D + 1, 5, none⟩)) rfl rfl (by kernel_rfl) (by kernel_rfl) (by kernel_rfl) (fun _ _ _ h => h) (by kernel_rfl) (fun W hW => by go_simp) (by assumption) rfl rfl ?_
                  simp only [Act.put, List.setIfInBounds_toArray, List.set_cons_zero, List.set_cons_succ]
                  refine wpAnyH_yield 10 128 (.slice (some ⟨d2, 0, none⟩) m2 p2) rfl rfl (by kernel_rfl) (by kernel_rfl) (by kernel_rfl) (fun _ _ _ h => h) (by kernel_rfl) (fun W hW => by obtain ⟨k0, k1, k2, k3, k4, k5, -⟩ := wl_cell (OWR.out W hW); go_simp) (by assumption) rfl rfl ?_
                  simp only [Act.put, List.setIfInBounds_toArray, List.set_cons_zero, List.set_cons_succ]
                  refine wpAnyH_yield 11 129 (.int .i64 (i : Int)) rfl rfl (by kernel_rfl) (by kernel_rfl) (by kernel_rfl) (fun _ _ _ h => h) (by kernel_rfl) (fun W hW => by kernel_rfl) (by assumption) rfl rfl ?_
                  simp only [Act.put, List.setIfInBounds_toArray, List.set_cons_zero, List.set_cons_succ]
                  refine wpAnyH_yield 12 130 (.pointer (some ⟨d2, i, none⟩)) rfl rfl (by kernel_rfl) (by kernel_rfl) (by kernel_rfl) (fun _ _ _ h => h) (by kernel_rfl) (fun W hW => by go_simp) (by assumption) rfl rfl ?_
                  simp only [Act.put, List.setIfInBounds_toArray, List.set_cons_zero, List.set_cons_succ]
                  refine wpAnyH_yield 13 131 (cp r) rfl rfl (by kernel_rfl) (by kernel_rfl) (by kernel_rfl) (fun _ _ _ h => h) (by kernel_rfl) (fun W hW => by obtain ⟨-, k0⟩ := SC.out W hW; go_simp) (by assumption) rfl rfl ?_
                  simp only [Act.put, List.setIfInBounds_toArray, List.set_cons_zero, List.set_cons_succ]
                  refine wpAnyH_enter 14 132 8 #[cp q, cp r] rfl rfl (by kernel_rfl) (by kernel_rfl) (by kernel_rfl) ?_
                  refine ((ST.out _ hT0)).mono ?_
                  rintro r w4 ⟨rfl, t4⟩
                  refine ⟨_, rfl, hT0.tr t4, ?_⟩
                  simp only [Act.put, List.setIfInBounds_toArray, List.set_cons_zero, List.set_cons_succ]
                  have h4 := hT0.tr t4
                  refine wpAnyH_yield 15 17 (.bool true) rfl rfl (by kernel_rfl) (by kernel_rfl) (by kernel_rfl) (fun _ _ _ h => h) (by kernel_rfl) (fun W hW => by kernel_rfl) (by assumption) rfl rfl ?_
                  simp only [Act.put, List.setIfInBounds_toArray, List.set_cons_zero, List.set_cons_succ]
                  refine wpAnyH_done (by kernel_rfl) ?_ _
                  have HN4 := hide (HW.out.tr h4)
                  clear hT0 h4 t4 ST SC OWR HW
                  go_wp2_with fail
                  go_roundw
                  case rel => exact ⟨i + 1, by first | rfl | go_num, by omega, HN4⟩
                  case measure => simp [intOf]; omega
                · have hltz8 : ¬ (i : Int) < ((m + 2 : Nat) : Int) := by omega
                  have HC2 := hide (HC.out.tr HW.out)
                  clear SEE OWX HW HC
                  generalize hm2 : m + 2 = m2 at *
                  clear hm2
                  go_wp2_with fail
                  refine (KN.out _).mono ?_
                  rintro e w4 ⟨rfl, t4⟩
                  have HC4 := hide (HC2.out.tr t4)
                  clear t4 HC2 KN
                  go_wp2_with fail
                  go_ret
                  exact ⟨rfl, HC4.out⟩

theorem plays15_walk (c : Cf) (wk : Int) (N : List St15) (no : Option Addr) (nc : Nat) (w : World) (hN : encS15.Sl w no nc N) (each : ∀ x ∈ N, encI.Sl w x.mo x.mc x.M ∧ x.ke.size < 9223372036854775808) (hsum : (N.map fun x => x.M.length).sum ≤ 1048576) (hl : N.length ≤ 1048576) : Calls Tryz.prog 3 #[cfv c, .int .i64 wk, .slice no N.length nc] w fun e w' => e = .returned (.bool true) ∧ Calm w w' := by
  by_cases h : newE c wk = 0
  · obtain ⟨p, g, rfl, hS⟩ := Sit.new h
    exact plays15_yes c p g N no nc w h hS hN each hsum hl
  · exact plays15_no c wk N.length nc no w h

end Go.Proofs.YtapnjofplilefaaGreat
