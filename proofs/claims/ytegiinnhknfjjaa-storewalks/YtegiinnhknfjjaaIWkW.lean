/- StoreWalks, walked. -/
import Derived.Test.YtegiinnhknfjjaaIWt
import Derived.Sort.CutIn
namespace Go.Proofs.Ytegiinnhknfjjaa.IM
open Go.RowKit
attribute [local go_sem] Oper.semAt_some

set_option maxRecDepth 100000 in
set_option maxHeartbeats 4000000 in
theorem walks_any (which : Int) (ka : Option Addr) (kc : Nat) (ks : List Int) (so : Option Addr) (sc : Nat) (ops : List Op6) (w : World) (hks : SegI w ka ks) (hs : SegO w so ops) (hb : ops.length < 8796093022200) :
    Calls Try.prog 4 #[.int .i64 which, .slice ka ks.length kc, .slice so ops.length sc] w fun e w' => e = .returned (.bool true) ∧ Calm w w' := by
  have HKS := hide hks
  have HS := hide hs
  have HB := hide hb
  have TS := hide (ws_start w)
  clear hks hs hb
  obtain ⟨kn, hkn⟩ : ∃ kn, ks.length = kn := ⟨_, rfl⟩
  have HKN := hide hkn
  rw [hkn]
  clear hkn
  obtain ⟨sn, hsn⟩ : ∃ sn, ops.length = sn := ⟨_, rfl⟩
  have HSN := hide hsn
  rw [hsn]
  clear hsn
  refine (callsIn_wide (n := 3)).1 (callsIn_of_wp_marks Try.func4 rfl trivial ?_ rfl)
  simp only [Try.ntmps4, List.size_toArray, List.length_cons, List.length_nil, Nat.reduceAdd, Nat.reduceSub, Array.replicate_succ, Array.replicate_zero, List.push_toArray, List.append_toArray, List.nil_append, List.cons_append]
  gi_wp2
  refine ⟨trivial, (callsIn_wide.2 (made_any _ _)).mono ?_⟩
  rintro e w1 ⟨m, B, rfl, h1, h2, hm, hB, t1⟩
  generalize (wrap64 (which.tmod 5 + 5)).tmod 5 = q at *
  have ws0 := TS.out w1 (.slice so sn sc) q m B h1 h2 hm t1
  clear TS h1 h2 hm hB t1
  by_cases h500 : (500 : Int) < (kn : Int)
  · obtain ⟨c7, -⟩ := one_cell ws0.b7
    obtain ⟨c6, f6⟩ := one_cell ws0.b6
    have WS := hide ws0
    clear ws0
    gi_wp2
    refine ⟨trivial, (callsIn_wide.2 (works_any _)).mono ?_⟩
    rintro e w2 ⟨rfl, t2⟩
    obtain ⟨c6', f6'⟩ := one_cell (WS.out.turn t2).b6
    have T3 := hide ((WS.out.turn t2).calm.setCell (p := ⟨w.heap.size + 1, 0, none⟩) (fun h => by simp at h; omega) (.bool true))
    have C6 := hide (one_cell (set_one (.bool true) (WS.out.turn t2).b6)).1
    clear t2 WS c7 c6 f6
    gi_wp2
    obtain c6 := C6.out
    exact ⟨.bool true, by simp [results, Try.results4, go_sem, c6], rfl, T3.out⟩
  · obtain ⟨c7, -⟩ := one_cell ws0.b7
    gi_wp2
    clear c7
    obtain ⟨B5, e5⟩ : ∃ B5, B5 = w.heap.size := ⟨_, rfl⟩
    obtain ⟨B6, e6⟩ : ∃ B6, B6 = w.heap.size + 1 := ⟨_, rfl⟩
    obtain ⟨B7, e7⟩ : ∃ B7, B7 = w1.heap.size := ⟨_, rfl⟩
    obtain ⟨B8, e8⟩ : ∃ B8, B8 = w1.heap.size + 1 + 1 := ⟨_, rfl⟩
    obtain ⟨r, er⟩ : ∃ r, r = w1.heap.size + 1 := ⟨_, rfl⟩
    rw [← e8, ← er, ← e7, ← e6, ← e5] at ws0 ⊢
    generalize (((w1.alloc (.cells #[.pointer (some ⟨m, 0, none⟩)] 23)).alloc (.cells #[.int .i64 q, .slice none 0 0] 30)).alloc (.cells #[.pointer (some ⟨r, 0, none⟩)] 25)) = W0 at ws0 ⊢
    clear e5 e6 e7 e8 er
    have WS0 := hide ws0
    have H5 : Hid (kn ≤ 500) := hide (by omega)
    clear ws0 h500
    gi_loopw [9] (fun i wr => ∃ (k : Nat) (X : List (Int × Int)), i = .int .i64 (k : Int) ∧ k ≤ kn ∧ X.length ≤ k ∧ Ws w B5 B6 B7 B8 m B r q (.slice so sn sc) X wr) (fun i _ => kn - (intOf i).toNat)
    case atStart => exact ⟨0, [], rfl, Nat.zero_le _, Nat.zero_le _, WS0.out⟩
    case round =>
      clear WS0
      obtain ⟨k, X, rfl, hk, hX, ws⟩ := hrel
      by_cases hlt : k < kn
      · have hlt' : (k : Int) < (kn : Int) := by omega
        have WS := hide ws
        have HX := hide hX
        have SW := hide (wrap_up (n := k) (m := kn) hlt (by have := H5.out; omega))
        obtain ⟨kb, ko, rfl, ck⟩ := HKS.out k (by rw [HKN.out]; exact hlt)
        have LT := hide ws.bt.lt
        generalize ks[k]'(by rw [HKN.out]; exact hlt) = key at *
        have CK0 : Hid (∀ W, Calm w W → W.cell? ⟨kb, ko + k, none⟩ = some (.int .i64 key)) := hide (fun W h => (h.cell (p := ⟨kb, ko + k, none⟩) (lt_of_cell ck) (fun h => h)).trans ck)
        have HBX := hide ws.b7
        clear ws hX ck
        refine wpIn_wide.2 ?_
        go_wp2_with fail
        rename World => V
        have DE := hide (WS.out.bt.dec key)
        have HNX : Hid (¬ B7 = m) := hide (fun e => by obtain ⟨ro, hM, _⟩ := WS.out.bt.mt; exact tags WS.out.b7 hM (by decide) e)
        have CK : Hid (∀ W, Touch (fun g => g = m) V W → W.cell? ⟨kb, ko + k, none⟩ = some (.int .i64 key)) := hide (fun W h => CK0.out W (WS.out.calm.trans h (fun g hg e => by have := WS.out.new; omega)))
        refine wp_only ?_
        refine wp_region_held (S := Touch (fun g => g = m) V) (by kernel_rfl) ?_
        have hT0 : Touch (fun g => g = m) V { V with drawn := V.drawn + 1 } := (Touch.refl (fun g => g = m) V).drew
        have hC0 : Calm V { V with drawn := V.drawn + 1 } := (Touch.refl (fun _ => False) V).drew
        refine wpAnyH_yield 0 46 (.pointer (some ⟨m, 0, none⟩)) rfl rfl (by kernel_rfl) (by kernel_rfl) (by kernel_rfl) (fun _ _ _ h => h) (by kernel_rfl) (fun W hW => by have c0 := (one_cell (hW.heap HBX.out HNX.out)).1; go_simp) (by assumption) rfl rfl ?_
        simp only [Act.put, List.setIfInBounds_toArray, List.set_cons_zero, List.set_cons_succ]
        refine wpAnyH_yield 1 47 (.slice (some ⟨kb, ko, none⟩) kn kc) rfl rfl (by kernel_rfl) (by kernel_rfl) (by kernel_rfl) (fun _ _ _ h => h) (by kernel_rfl) (fun W hW => by kernel_rfl) (by assumption) rfl rfl ?_
        simp only [Act.put, List.setIfInBounds_toArray, List.set_cons_zero, List.set_cons_succ]
        refine wpAnyH_yield 2 48 (.int .i64 (k : Int)) rfl rfl (by kernel_rfl) (by kernel_rfl) (by kernel_rfl) (fun _ _ _ h => h) (by kernel_rfl) (fun W hW => by kernel_rfl) (by assumption) rfl rfl ?_
        simp only [Act.put, List.setIfInBounds_toArray, List.set_cons_zero, List.set_cons_succ]
        refine wpAnyH_yield 3 49 (.pointer (some ⟨kb, ko + k, none⟩)) rfl rfl (by kernel_rfl) (by kernel_rfl) (by kernel_rfl) (fun _ _ _ h => h) (by kernel_rfl) (fun W hW => by go_simp) (by assumption) rfl rfl ?_
        simp only [Act.put, List.setIfInBounds_toArray, List.set_cons_zero, List.set_cons_succ]
        refine wpAnyH_yield 4 50 (.int .i64 key) rfl rfl (by kernel_rfl) (by kernel_rfl) (by kernel_rfl) (fun _ _ _ h => h) (by kernel_rfl) (fun W hW => by have c0 := CK.out W hW; go_simp) (by assumption) rfl rfl ?_
        simp only [Act.put, List.setIfInBounds_toArray, List.set_cons_zero, List.set_cons_succ]
        refine wpAnyH_yield 5 51 (.int .i64 (k : Int)) rfl rfl (by kernel_rfl) (by kernel_rfl) (by kernel_rfl) (fun _ _ _ h => h) (by kernel_rfl) (fun W hW => by kernel_rfl) (by assumption) rfl rfl ?_
        simp only [Act.put, List.setIfInBounds_toArray, List.set_cons_zero, List.set_cons_succ]
        refine wpAnyH_enter 6 52 13 #[.pointer (some ⟨m, 0, none⟩), .int .i64 key, .int .i64 (k : Int)] rfl rfl (by kernel_rfl) (by kernel_rfl) (by kernel_rfl) ?_
        refine (put_any (cmpMade B q) m key (k : Int) _ X (WS.out.bt.mt.calm hC0) (hC0.at WS.out.bt.ord) DE.out ⟨by have := HX.out; have := H5.out; omega⟩).mono ?_
        rintro e w2 ⟨rfl, mt2, t2⟩
        have hT2 : Touch (fun g => g = m) V w2 := hT0.trans t2 (fun _ _ h => h)
        refine ⟨_, rfl, hT2, ?_⟩
        simp only [Act.put, List.setIfInBounds_toArray, List.set_cons_zero, List.set_cons_succ]
        refine wpAnyH_done (by kernel_rfl) ?_ _
        rw [onlyN_normal]
        have MT2 := hide mt2
        have HT2 := hide hT2
        have HO2 := hide (hT2.heap WS.out.bt.ord (fun e => LT.out.2.2.2.2.1 e.symm))
        have RF2 : Hid (∃ ao cap, Rf w2 r q X ao cap) := hide (by
          obtain ⟨ao, cap, rf⟩ := WS.out.bt.rf
          obtain ⟨ro, hM, _⟩ := WS.out.bt.mt
          exact ⟨ao, cap, rf.touch hT2 (fun e => LT.out.2.2.2.1 e.symm) (fun g cs fr e hg => by subst e; exact tags hM hg (by decide) rfl)⟩)
        have HBX2 := hide (hT2.heap WS.out.b8 (fun e => by obtain ⟨ro, hM, _⟩ := WS.out.bt.mt; exact tags WS.out.b8 hM (by decide) e))
        have HNX2 : Hid (¬ B8 = r) := hide (fun e => by obtain ⟨ao, cap, rf⟩ := WS.out.bt.rf; exact tags WS.out.b8 rf.own (by decide) e)
        clear CK hT0 hC0 mt2 t2 hT2 HBX HNX
        have CK : Hid (∀ W, Touch (fun g => g = r) w2 W → W.cell? ⟨kb, ko + k, none⟩ = some (.int .i64 key)) := hide (fun W h => CK0.out W ((WS.out.calm.trans HT2.out (fun g hg e => by have := WS.out.new; omega)).trans h (fun g hg e => by have := WS.out.new; omega)))
        generalize was (ord3 q key) X = vv at *
        generalize (it (ord3 q key) X).isSome = th at *
        go_wp2_with fail
        refine wp_only ?_
        refine wp_region_held (S := Touch (fun g => g = r) w2) (by kernel_rfl) ?_
        have hT0 : Touch (fun g => g = r) w2 { w2 with drawn := w2.drawn + 1 } := (Touch.refl (fun g => g = r) w2).drew
        have hC0 : Calm w2 { w2 with drawn := w2.drawn + 1 } := (Touch.refl (fun _ => False) w2).drew
        refine wpAnyH_yield 0 53 (.pointer (some ⟨r, 0, none⟩)) rfl rfl (by kernel_rfl) (by kernel_rfl) (by kernel_rfl) (fun _ _ _ h => h) (by kernel_rfl) (fun W hW => by have c0 := (one_cell (hW.heap HBX2.out HNX2.out)).1; go_simp) (by assumption) rfl rfl ?_
        simp only [Act.put, List.setIfInBounds_toArray, List.set_cons_zero, List.set_cons_succ]
        refine wpAnyH_yield 1 54 (.slice (some ⟨kb, ko, none⟩) kn kc) rfl rfl (by kernel_rfl) (by kernel_rfl) (by kernel_rfl) (fun _ _ _ h => h) (by kernel_rfl) (fun W hW => by kernel_rfl) (by assumption) rfl rfl ?_
        simp only [Act.put, List.setIfInBounds_toArray, List.set_cons_zero, List.set_cons_succ]
        refine wpAnyH_yield 2 55 (.int .i64 (k : Int)) rfl rfl (by kernel_rfl) (by kernel_rfl) (by kernel_rfl) (fun _ _ _ h => h) (by kernel_rfl) (fun W hW => by kernel_rfl) (by assumption) rfl rfl ?_
        simp only [Act.put, List.setIfInBounds_toArray, List.set_cons_zero, List.set_cons_succ]
        refine wpAnyH_yield 3 56 (.pointer (some ⟨kb, ko + k, none⟩)) rfl rfl (by kernel_rfl) (by kernel_rfl) (by kernel_rfl) (fun _ _ _ h => h) (by kernel_rfl) (fun W hW => by go_simp) (by assumption) rfl rfl ?_
        simp only [Act.put, List.setIfInBounds_toArray, List.set_cons_zero, List.set_cons_succ]
        refine wpAnyH_yield 4 57 (.int .i64 key) rfl rfl (by kernel_rfl) (by kernel_rfl) (by kernel_rfl) (fun _ _ _ h => h) (by kernel_rfl) (fun W hW => by have c0 := CK.out W hW; go_simp) (by assumption) rfl rfl ?_
        simp only [Act.put, List.setIfInBounds_toArray, List.set_cons_zero, List.set_cons_succ]
        refine wpAnyH_yield 5 58 (.int .i64 (k : Int)) rfl rfl (by kernel_rfl) (by kernel_rfl) (by kernel_rfl) (fun _ _ _ h => h) (by kernel_rfl) (fun W hW => by kernel_rfl) (by assumption) rfl rfl ?_
        simp only [Act.put, List.setIfInBounds_toArray, List.set_cons_zero, List.set_cons_succ]
        refine wpAnyH_enter 6 59 14 #[.pointer (some ⟨r, 0, none⟩), .int .i64 key, .int .i64 (k : Int)] rfl rfl (by kernel_rfl) (by kernel_rfl) (by kernel_rfl) ?_
        obtain ⟨ao2, cap2, rf2⟩ := RF2.out
        refine (rput_any r q key (k : Int) X ao2 cap2 _ (rf2.calm hC0) (by have := HX.out; have := H5.out; omega)).mono ?_
        rintro e w3 ⟨rfl, rf3, t3⟩
        rw [link_put DE.out] at rf3
        have hT3 : Touch (fun g => g = r) w2 w3 := hT0.trans t3 (fun _ _ h => h)
        refine ⟨_, rfl, hT3, ?_⟩
        simp only [Act.put, List.setIfInBounds_toArray, List.set_cons_zero, List.set_cons_succ]
        refine wpAnyH_done (by kernel_rfl) ?_ _
        rw [onlyN_normal]
        have WS3 : Hid (Ws w B5 B6 B7 B8 m B r q (.slice so sn sc) (lput (ord3 q key) key (k : Int) X) w3) := hide (WS.out.step ((HT2.out.mono (fun _ _ h => .inl h)).trans hT3 (fun _ _ h => .inr h)) (by
          obtain ⟨ro2, hM2, _⟩ := MT2.out
          exact ⟨MT2.out.touch hT3 (fun e => LT.out.2.2.2.1 e) (fun b cs fr e hb => by subst e; exact tags hb rf2.own (by decide) rfl), hT3.heap HO2.out (fun e => LT.out.2.2.2.2.2 e.symm), rf3, WS.out.bt.up.put (ord3_ord q) key (k : Int)⟩))
        have HLN : Hid ((lput (ord3 q key) key (k : Int) X).length ≤ k + 1) := hide (by have := (lput_len (k := key) (v := (k : Int)) DE.out).1; have := HX.out; omega)
        clear hT0 hC0 rf3 t3 hT3 rf2 CK MT2 HT2 HO2 RF2 HBX2 HNX2 WS
        generalize valAt q key X = vv2 at *
        generalize thereB q key X = th2 at *
        go_wp2_with fail
        go_roundw
        case rel => exact ⟨k + 1, _, by simp, hlt, HLN.out, WS3.out⟩
        case measure => simp [intOf]; omega
      · have e : k = kn := by omega
        subst e
        have WS := hide ws
        have HX := hide hX
        clear ws hX hk hlt
        gi_upto_if 62 with fail
        gi_cut [10] from 63 (fun v wc => ∃ fr : Int, v = .int .i64 fr ∧ X.length ≤ k ∧ Ws w B5 B6 B7 B8 m B r q (.slice so sn sc) X wc)
        case first =>
          by_cases h0 : 0 < k
          · have h0' : (0 : Int) < (k : Int) := by omega
            obtain ⟨kb, ko, rfl, ck⟩ := HKS.out (k / 2) (by rw [HKN.out]; omega)
            have c0 : wr.cell? ⟨kb, ko + k / 2, none⟩ = some (.int .i64 (ks[k / 2]'(by rw [HKN.out]; omega))) := (WS.out.calm.cell (p := ⟨kb, ko + k / 2, none⟩) (lt_of_cell ck) (fun h => h)).trans ck
            have hq : ((k : Int)).tdiv 2 = ((k / 2 : Nat) : Int) := by rw [Int.tdiv_eq_ediv_of_nonneg (by omega)]; omega
            have hq2 : ((k / 2 : Nat) : Int) < (k : Int) := by omega
            generalize ks[k / 2]'(by rw [HKN.out]; omega) = fr at *
            clear ck
            gi_wp2
            gi_meet
            case rel => exact ⟨fr, rfl, HX.out, WS.out⟩
          · have e : k = 0 := by omega
            subst e
            gi_wp2
            gi_meet
            case rel => exact ⟨0, rfl, HX.out, WS.out⟩
        case rest =>
          clear WS HX
          obtain ⟨fr, rfl, hX, ws⟩ := hcut
          have WS := hide ws
          have HX : Hid (X.length ≤ 500) := hide (by have := H5.out; omega)
          clear ws hX
          gi_upto_region 14 with fail
          rename World => V
          gi_cut [11] from 69 (fun v wx => ∃ (A : Nat) (l1 l2 l3 : Array Value), v = .pointer (some ⟨A, 0, none⟩) ∧ Ws w B5 B6 B7 B8 m B r q (.slice so sn sc) X wx ∧ w.heap.size ≤ A ∧ wx.heap[A]? = some (.cells #[.func (.func 66) #[] l1, .func (.func 66) #[] l2, .func (.func 66) #[] l3] 54 (0, 0)) ∧ Wl wx (.func (.func 66) #[] l1) (some ⟨m, 0, none⟩) .all ∧ Wl wx (.func (.func 66) #[] l2) (some ⟨m, 0, none⟩) (.fwd fr) ∧ Wl wx (.func (.func 66) #[] l3) (some ⟨m, 0, none⟩) (.back fr))
          case first =>
            rename_i J9 K9 hJ9 hK9
            have HBX := hide WS.out.b7
            refine wpIn_wide.2 ?_
            refine wp_only ?_
            refine wp_region_held (S := Calm V) (by kernel_rfl) ?_
            have hT0 : Calm V { V with drawn := V.drawn + 1 } := (Touch.refl (fun _ => False) V).drew
            obtain ⟨y0, hy0⟩ : ∃ y, y = { V with drawn := V.drawn + 1 } := ⟨_, rfl⟩
            rw [← hy0] at hT0 ⊢
            clear hy0
            refine wpAnyH_yield 0 69 (.pointer (some ⟨m, 0, none⟩)) rfl rfl (by kernel_rfl) (by kernel_rfl) (by kernel_rfl) (fun _ _ _ h => h) (by kernel_rfl) (fun W hW => by have c0 := (one_cell (hW.at HBX.out)).1; go_simp) (by assumption) rfl rfl ?_
            simp only [Act.put, List.setIfInBounds_toArray, List.set_cons_zero, List.set_cons_succ]
            refine wpAnyH_yield 2 71 (.pointer (some ⟨m, 0, none⟩)) rfl rfl (by kernel_rfl) (by kernel_rfl) (by kernel_rfl) (fun _ _ _ h => h) (by kernel_rfl) (fun W hW => by have c0 := (one_cell (hW.at HBX.out)).1; go_simp) (by assumption) rfl rfl ?_
            simp only [Act.put, List.setIfInBounds_toArray, List.set_cons_zero, List.set_cons_succ]
            refine wpAnyH_yield 3 72 (.int .i64 fr) rfl rfl (by kernel_rfl) (by kernel_rfl) (by kernel_rfl) (fun _ _ _ h => h) (by kernel_rfl) (fun W hW => by kernel_rfl) (by assumption) rfl rfl ?_
            simp only [Act.put, List.setIfInBounds_toArray, List.set_cons_zero, List.set_cons_succ]
            refine wpAnyH_yield 5 74 (.pointer (some ⟨m, 0, none⟩)) rfl rfl (by kernel_rfl) (by kernel_rfl) (by kernel_rfl) (fun _ _ _ h => h) (by kernel_rfl) (fun W hW => by have c0 := (one_cell (hW.at HBX.out)).1; go_simp) (by assumption) rfl rfl ?_
            simp only [Act.put, List.setIfInBounds_toArray, List.set_cons_zero, List.set_cons_succ]
            refine wpAnyH_yield 6 75 (.int .i64 fr) rfl rfl (by kernel_rfl) (by kernel_rfl) (by kernel_rfl) (fun _ _ _ h => h) (by kernel_rfl) (fun W hW => by kernel_rfl) (by assumption) rfl rfl ?_
            simp only [Act.put, List.setIfInBounds_toArray, List.set_cons_zero, List.set_cons_succ]
            refine wpAnyH_two 1 9 (by kernel_rfl) ?_ ?_
            · refine wpOp_enter 1 70 15 #[.pointer (some ⟨m, 0, none⟩)] rfl rfl (by kernel_rfl) (by kernel_rfl) ?_
              refine (all_any _ _).mono ?_
              rintro e y1 ⟨fv, rfl, wl1, t1⟩
              obtain ⟨l1, rfl⟩ := wl1.shape
              have hT1 : Calm V y1 := hT0.tr t1
              refine ⟨_, rfl, hT1, ?_⟩
              simp only [Act.put, List.setIfInBounds_toArray, List.set_cons_zero, List.set_cons_succ]
              refine wpAnyH_two 4 9 (by kernel_rfl) ?_ ?_
              · refine wpOp_enter 4 73 16 #[.pointer (some ⟨m, 0, none⟩), .int .i64 fr] rfl rfl (by kernel_rfl) (by kernel_rfl) ?_
                refine (from_any _ _ _).mono ?_
                rintro e y2 ⟨fv, rfl, wl2, t2⟩
                obtain ⟨l2, rfl⟩ := wl2.shape
                have hT2 : Calm V y2 := hT1.tr t2
                replace wl1 := wl1.calm t2
                refine ⟨_, rfl, hT2, ?_⟩
                simp only [Act.put, List.setIfInBounds_toArray, List.set_cons_zero, List.set_cons_succ]
                refine wpAnyH_two 7 9 (by kernel_rfl) ?_ ?_
                · refine wpOp_enter 7 76 17 #[.pointer (some ⟨m, 0, none⟩), .int .i64 fr] rfl rfl (by kernel_rfl) (by kernel_rfl) ?_
                  refine (back_any _ _ _).mono ?_
                  rintro e y3 ⟨fv, rfl, wl3, t3⟩
                  obtain ⟨l3, rfl⟩ := wl3.shape
                  have hT3 : Calm V y3 := hT2.tr t3
                  replace wl1 := wl1.calm t3
                  replace wl2 := wl2.calm t3
                  refine ⟨_, rfl, hT3, ?_⟩
                  simp only [Act.put, List.setIfInBounds_toArray, List.set_cons_zero, List.set_cons_succ]
                  refine wpAnyH_yield 8 77 (.agg #[.func (.func 66) #[] l1, .func (.func 66) #[] l2, .func (.func 66) #[] l3]) rfl rfl (by kernel_rfl) (by kernel_rfl) (by kernel_rfl) (fun _ _ _ h => h) (by kernel_rfl) (fun W hW => by go_simp) (by assumption) rfl rfl ?_
                  simp only [Act.put, List.setIfInBounds_toArray, List.set_cons_zero, List.set_cons_succ]
                  refine wpAnyH_value 9 11 (.pointer (some ⟨y3.heap.size, 0, none⟩)) (w' := y3.alloc (.cells #[.nilFunc, .nilFunc, .nilFunc] 54)) rfl rfl (by kernel_rfl) (by kernel_rfl) (by go_simp) (hT3.alloc _) ?_
                  have hT3a : Calm V (y3.alloc (.cells #[.nilFunc, .nilFunc, .nilFunc] 54)) := hT3.alloc _
                  have hB3 : (y3.alloc (.cells #[.nilFunc, .nilFunc, .nilFunc] 54)).heap[y3.heap.size]? = some (.cells #[.nilFunc, .nilFunc, .nilFunc] 54 (0, 0)) := heap_alloc_last _ _
                  simp only [Act.put, List.setIfInBounds_toArray, List.set_cons_zero, List.set_cons_succ]
                  have hZ : V.heap.size ≤ y3.heap.size := hT3.size
                  replace wl1 := wl1.calm ((Touch.refl (fun _ => False) y3).alloc (.cells #[.nilFunc, .nilFunc, .nilFunc] 54))
                  replace wl2 := wl2.calm ((Touch.refl (fun _ => False) y3).alloc (.cells #[.nilFunc, .nilFunc, .nilFunc] 54))
                  replace wl3 := wl3.calm ((Touch.refl (fun _ => False) y3).alloc (.cells #[.nilFunc, .nilFunc, .nilFunc] 54))
                  generalize y3.heap.size = A at *
                  generalize y3.alloc (.cells #[.nilFunc, .nilFunc, .nilFunc] 54) = y3a at *
                  have tR : Touch (fun g => g = A) y3a (y3a.setRow A #[.func (.func 66) #[] l1, .func (.func 66) #[] l2, .func (.func 66) #[] l3]) := ⟨rfl, rfl, rfl, by simp, fun j _ hj => setRow_other y3a _ j _ hj⟩
                  have hR : Calm V (y3a.setRow A #[.func (.func 66) #[] l1, .func (.func 66) #[] l2, .func (.func 66) #[] l3]) := hT3a.trans tR (fun g hg e => by omega)
                  have hAR := setRow_heap y3a A _ #[.func (.func 66) #[] l1, .func (.func 66) #[] l2, .func (.func 66) #[] l3] _ _ hB3
                  have hk : ∀ g cs t fr, g = A → y3a.heap[g]? = some (.cells cs t fr) → t ≠ 23 ∧ t ≠ 3 ∧ t ≠ 88 := fun g cs t fr e hg => by
                    subst e
                    exact ⟨fun e => by subst e; exact tags hB3 hg (by decide) rfl, fun e => by subst e; exact tags hB3 hg (by decide) rfl, fun e => by subst e; exact tags hB3 hg (by decide) rfl⟩
                  refine wpAnyH_row 10 rfl rfl 54 (.tmp 11) (.tmp 77) rfl (by kernel_rfl) (by kernel_rfl) A #[.func (.func 66) #[] l1, .func (.func 66) #[] l2, .func (.func 66) #[] l3] rfl rfl _ _ hB3 (by kernel_rfl) rfl (by simp [Value.oneCell']) hR ?_
                  refine wpAnyH_done (by kernel_rfl) ?_ _
                  rw [onlyN_normal]
                  have RES : Hid (Ws w B5 B6 B7 B8 m B r q (.slice so sn sc) X (y3a.setRow A #[.func (.func 66) #[] l1, .func (.func 66) #[] l2, .func (.func 66) #[] l3]) ∧ w.heap.size ≤ A ∧ (y3a.setRow A #[.func (.func 66) #[] l1, .func (.func 66) #[] l2, .func (.func 66) #[] l3]).heap[A]? = some (.cells #[.func (.func 66) #[] l1, .func (.func 66) #[] l2, .func (.func 66) #[] l3] 54 (0, 0)) ∧ Wl (y3a.setRow A #[.func (.func 66) #[] l1, .func (.func 66) #[] l2, .func (.func 66) #[] l3]) (.func (.func 66) #[] l1) (some ⟨m, 0, none⟩) .all ∧ Wl (y3a.setRow A #[.func (.func 66) #[] l1, .func (.func 66) #[] l2, .func (.func 66) #[] l3]) (.func (.func 66) #[] l2) (some ⟨m, 0, none⟩) (.fwd fr) ∧ Wl (y3a.setRow A #[.func (.func 66) #[] l1, .func (.func 66) #[] l2, .func (.func 66) #[] l3]) (.func (.func 66) #[] l3) (some ⟨m, 0, none⟩) (.back fr)) :=
                    hide ⟨WS.out.turn hR, Nat.le_trans WS.out.calm.size hZ, hAR, wl1.touch tR hk, wl2.touch tR hk, wl3.touch tR hk⟩
                  refine hK9 _ _ (Met.intro (hJ9 _ _ ?_))
                  (repeat apply Exists.intro)
                  refine ⟨?rel, rfl⟩
                  case rel => exact ⟨A, l1, l2, l3, rfl, RES.out⟩
                · refine wpOp_value 9 11 (.pointer (some ⟨y2.heap.size, 0, none⟩)) (w' := y2.alloc (.cells #[.nilFunc, .nilFunc, .nilFunc] 54)) rfl rfl (by kernel_rfl) (by go_simp) ?_
                  have hT2a : Calm V (y2.alloc (.cells #[.nilFunc, .nilFunc, .nilFunc] 54)) := hT2.alloc _
                  have hB2 : (y2.alloc (.cells #[.nilFunc, .nilFunc, .nilFunc] 54)).heap[y2.heap.size]? = some (.cells #[.nilFunc, .nilFunc, .nilFunc] 54 (0, 0)) := heap_alloc_last _ _
                  refine ⟨hT2a, ?_⟩
                  simp only [Act.put, List.setIfInBounds_toArray, List.set_cons_zero, List.set_cons_succ]
                  have hZ : V.heap.size ≤ y2.heap.size := hT2.size
                  replace wl1 := wl1.calm ((Touch.refl (fun _ => False) y2).alloc (.cells #[.nilFunc, .nilFunc, .nilFunc] 54))
                  replace wl2 := wl2.calm ((Touch.refl (fun _ => False) y2).alloc (.cells #[.nilFunc, .nilFunc, .nilFunc] 54))
                  generalize y2.heap.size = A at *
                  generalize y2.alloc (.cells #[.nilFunc, .nilFunc, .nilFunc] 54) = y2a at *
                  refine wpAnyH_enter 7 76 17 #[.pointer (some ⟨m, 0, none⟩), .int .i64 fr] rfl rfl (by kernel_rfl) (by kernel_rfl) (by kernel_rfl) ?_
                  refine (back_any _ _ _).mono ?_
                  rintro e y3 ⟨fv, rfl, wl3, t3⟩
                  obtain ⟨l3, rfl⟩ := wl3.shape
                  have hT3 : Calm V y3 := hT2a.tr t3
                  replace wl1 := wl1.calm t3
                  replace wl2 := wl2.calm t3
                  have hA3 := t3.at hB2
                  refine ⟨_, rfl, hT3, ?_⟩
                  simp only [Act.put, List.setIfInBounds_toArray, List.set_cons_zero, List.set_cons_succ]
                  refine wpAnyH_yield 8 77 (.agg #[.func (.func 66) #[] l1, .func (.func 66) #[] l2, .func (.func 66) #[] l3]) rfl rfl (by kernel_rfl) (by kernel_rfl) (by kernel_rfl) (fun _ _ _ h => h) (by kernel_rfl) (fun W hW => by go_simp) (by assumption) rfl rfl ?_
                  simp only [Act.put, List.setIfInBounds_toArray, List.set_cons_zero, List.set_cons_succ]
                  have tR : Touch (fun g => g = A) y3 (y3.setRow A #[.func (.func 66) #[] l1, .func (.func 66) #[] l2, .func (.func 66) #[] l3]) := ⟨rfl, rfl, rfl, by simp, fun j _ hj => setRow_other y3 _ j _ hj⟩
                  have hR : Calm V (y3.setRow A #[.func (.func 66) #[] l1, .func (.func 66) #[] l2, .func (.func 66) #[] l3]) := hT3.trans tR (fun g hg e => by omega)
                  have hAR := setRow_heap y3 A _ #[.func (.func 66) #[] l1, .func (.func 66) #[] l2, .func (.func 66) #[] l3] _ _ hA3
                  have hk : ∀ g cs t fr, g = A → y3.heap[g]? = some (.cells cs t fr) → t ≠ 23 ∧ t ≠ 3 ∧ t ≠ 88 := fun g cs t fr e hg => by
                    subst e
                    exact ⟨fun e => by subst e; exact tags hA3 hg (by decide) rfl, fun e => by subst e; exact tags hA3 hg (by decide) rfl, fun e => by subst e; exact tags hA3 hg (by decide) rfl⟩
                  refine wpAnyH_row 10 rfl rfl 54 (.tmp 11) (.tmp 77) rfl (by kernel_rfl) (by kernel_rfl) A #[.func (.func 66) #[] l1, .func (.func 66) #[] l2, .func (.func 66) #[] l3] rfl rfl _ _ hA3 (by kernel_rfl) rfl (by simp [Value.oneCell']) hR ?_
                  refine wpAnyH_done (by kernel_rfl) ?_ _
                  rw [onlyN_normal]
                  have RES : Hid (Ws w B5 B6 B7 B8 m B r q (.slice so sn sc) X (y3.setRow A #[.func (.func 66) #[] l1, .func (.func 66) #[] l2, .func (.func 66) #[] l3]) ∧ w.heap.size ≤ A ∧ (y3.setRow A #[.func (.func 66) #[] l1, .func (.func 66) #[] l2, .func (.func 66) #[] l3]).heap[A]? = some (.cells #[.func (.func 66) #[] l1, .func (.func 66) #[] l2, .func (.func 66) #[] l3] 54 (0, 0)) ∧ Wl (y3.setRow A #[.func (.func 66) #[] l1, .func (.func 66) #[] l2, .func (.func 66) #[] l3]) (.func (.func 66) #[] l1) (some ⟨m, 0, none⟩) .all ∧ Wl (y3.setRow A #[.func (.func 66) #[] l1, .func (.func 66) #[] l2, .func (.func 66) #[] l3]) (.func (.func 66) #[] l2) (some ⟨m, 0, none⟩) (.fwd fr) ∧ Wl (y3.setRow A #[.func (.func 66) #[] l1, .func (.func 66) #[] l2, .func (.func 66) #[] l3]) (.func (.func 66) #[] l3) (some ⟨m, 0, none⟩) (.back fr)) :=
                    hide ⟨WS.out.turn hR, Nat.le_trans WS.out.calm.size hZ, hAR, wl1.touch tR hk, wl2.touch tR hk, wl3.touch tR hk⟩
                  refine hK9 _ _ (Met.intro (hJ9 _ _ ?_))
                  (repeat apply Exists.intro)
                  refine ⟨?rel, rfl⟩
                  case rel => exact ⟨A, l1, l2, l3, rfl, RES.out⟩
              · refine wpOp_value 9 11 (.pointer (some ⟨y1.heap.size, 0, none⟩)) (w' := y1.alloc (.cells #[.nilFunc, .nilFunc, .nilFunc] 54)) rfl rfl (by kernel_rfl) (by go_simp) ?_
                have hT1a : Calm V (y1.alloc (.cells #[.nilFunc, .nilFunc, .nilFunc] 54)) := hT1.alloc _
                have hB1 : (y1.alloc (.cells #[.nilFunc, .nilFunc, .nilFunc] 54)).heap[y1.heap.size]? = some (.cells #[.nilFunc, .nilFunc, .nilFunc] 54 (0, 0)) := heap_alloc_last _ _
                refine ⟨hT1a, ?_⟩
                simp only [Act.put, List.setIfInBounds_toArray, List.set_cons_zero, List.set_cons_succ]
                have hZ : V.heap.size ≤ y1.heap.size := hT1.size
                replace wl1 := wl1.calm ((Touch.refl (fun _ => False) y1).alloc (.cells #[.nilFunc, .nilFunc, .nilFunc] 54))
                generalize y1.heap.size = A at *
                generalize y1.alloc (.cells #[.nilFunc, .nilFunc, .nilFunc] 54) = y1a at *
                refine wpAnyH_enter 4 73 16 #[.pointer (some ⟨m, 0, none⟩), .int .i64 fr] rfl rfl (by kernel_rfl) (by kernel_rfl) (by kernel_rfl) ?_
                refine (from_any _ _ _).mono ?_
                rintro e y2 ⟨fv, rfl, wl2, t2⟩
                obtain ⟨l2, rfl⟩ := wl2.shape
                have hT2 : Calm V y2 := hT1a.tr t2
                replace wl1 := wl1.calm t2
                have hA2 := t2.at hB1
                refine ⟨_, rfl, hT2, ?_⟩
                simp only [Act.put, List.setIfInBounds_toArray, List.set_cons_zero, List.set_cons_succ]
                refine wpAnyH_enter 7 76 17 #[.pointer (some ⟨m, 0, none⟩), .int .i64 fr] rfl rfl (by kernel_rfl) (by kernel_rfl) (by kernel_rfl) ?_
                refine (back_any _ _ _).mono ?_
                rintro e y3 ⟨fv, rfl, wl3, t3⟩
                obtain ⟨l3, rfl⟩ := wl3.shape
                have hT3 : Calm V y3 := hT2.tr t3
                replace wl1 := wl1.calm t3
                replace wl2 := wl2.calm t3
                have hA3 := t3.at hA2
                refine ⟨_, rfl, hT3, ?_⟩
                simp only [Act.put, List.setIfInBounds_toArray, List.set_cons_zero, List.set_cons_succ]
                refine wpAnyH_yield 8 77 (.agg #[.func (.func 66) #[] l1, .func (.func 66) #[] l2, .func (.func 66) #[] l3]) rfl rfl (by kernel_rfl) (by kernel_rfl) (by kernel_rfl) (fun _ _ _ h => h) (by kernel_rfl) (fun W hW => by go_simp) (by assumption) rfl rfl ?_
                simp only [Act.put, List.setIfInBounds_toArray, List.set_cons_zero, List.set_cons_succ]
                have tR : Touch (fun g => g = A) y3 (y3.setRow A #[.func (.func 66) #[] l1, .func (.func 66) #[] l2, .func (.func 66) #[] l3]) := ⟨rfl, rfl, rfl, by simp, fun j _ hj => setRow_other y3 _ j _ hj⟩
                have hR : Calm V (y3.setRow A #[.func (.func 66) #[] l1, .func (.func 66) #[] l2, .func (.func 66) #[] l3]) := hT3.trans tR (fun g hg e => by omega)
                have hAR := setRow_heap y3 A _ #[.func (.func 66) #[] l1, .func (.func 66) #[] l2, .func (.func 66) #[] l3] _ _ hA3
                have hk : ∀ g cs t fr, g = A → y3.heap[g]? = some (.cells cs t fr) → t ≠ 23 ∧ t ≠ 3 ∧ t ≠ 88 := fun g cs t fr e hg => by
                  subst e
                  exact ⟨fun e => by subst e; exact tags hA3 hg (by decide) rfl, fun e => by subst e; exact tags hA3 hg (by decide) rfl, fun e => by subst e; exact tags hA3 hg (by decide) rfl⟩
                refine wpAnyH_row 10 rfl rfl 54 (.tmp 11) (.tmp 77) rfl (by kernel_rfl) (by kernel_rfl) A #[.func (.func 66) #[] l1, .func (.func 66) #[] l2, .func (.func 66) #[] l3] rfl rfl _ _ hA3 (by kernel_rfl) rfl (by simp [Value.oneCell']) hR ?_
                refine wpAnyH_done (by kernel_rfl) ?_ _
                rw [onlyN_normal]
                have RES : Hid (Ws w B5 B6 B7 B8 m B r q (.slice so sn sc) X (y3.setRow A #[.func (.func 66) #[] l1, .func (.func 66) #[] l2, .func (.func 66) #[] l3]) ∧ w.heap.size ≤ A ∧ (y3.setRow A #[.func (.func 66) #[] l1, .func (.func 66) #[] l2, .func (.func 66) #[] l3]).heap[A]? = some (.cells #[.func (.func 66) #[] l1, .func (.func 66) #[] l2, .func (.func 66) #[] l3] 54 (0, 0)) ∧ Wl (y3.setRow A #[.func (.func 66) #[] l1, .func (.func 66) #[] l2, .func (.func 66) #[] l3]) (.func (.func 66) #[] l1) (some ⟨m, 0, none⟩) .all ∧ Wl (y3.setRow A #[.func (.func 66) #[] l1, .func (.func 66) #[] l2, .func (.func 66) #[] l3]) (.func (.func 66) #[] l2) (some ⟨m, 0, none⟩) (.fwd fr) ∧ Wl (y3.setRow A #[.func (.func 66) #[] l1, .func (.func 66) #[] l2, .func (.func 66) #[] l3]) (.func (.func 66) #[] l3) (some ⟨m, 0, none⟩) (.back fr)) :=
                  hide ⟨WS.out.turn hR, Nat.le_trans WS.out.calm.size hZ, hAR, wl1.touch tR hk, wl2.touch tR hk, wl3.touch tR hk⟩
                refine hK9 _ _ (Met.intro (hJ9 _ _ ?_))
                (repeat apply Exists.intro)
                refine ⟨?rel, rfl⟩
                case rel => exact ⟨A, l1, l2, l3, rfl, RES.out⟩
            · refine wpOp_value 9 11 (.pointer (some ⟨y0.heap.size, 0, none⟩)) (w' := y0.alloc (.cells #[.nilFunc, .nilFunc, .nilFunc] 54)) rfl rfl (by kernel_rfl) (by go_simp) ?_
              have hT0a : Calm V (y0.alloc (.cells #[.nilFunc, .nilFunc, .nilFunc] 54)) := hT0.alloc _
              have hB0 : (y0.alloc (.cells #[.nilFunc, .nilFunc, .nilFunc] 54)).heap[y0.heap.size]? = some (.cells #[.nilFunc, .nilFunc, .nilFunc] 54 (0, 0)) := heap_alloc_last _ _
              refine ⟨hT0a, ?_⟩
              simp only [Act.put, List.setIfInBounds_toArray, List.set_cons_zero, List.set_cons_succ]
              have hZ : V.heap.size ≤ y0.heap.size := hT0.size
              generalize y0.heap.size = A at *
              generalize y0.alloc (.cells #[.nilFunc, .nilFunc, .nilFunc] 54) = y0a at *
              refine wpAnyH_enter 1 70 15 #[.pointer (some ⟨m, 0, none⟩)] rfl rfl (by kernel_rfl) (by kernel_rfl) (by kernel_rfl) ?_
              refine (all_any _ _).mono ?_
              rintro e y1 ⟨fv, rfl, wl1, t1⟩
              obtain ⟨l1, rfl⟩ := wl1.shape
              have hT1 : Calm V y1 := hT0a.tr t1
              have hA1 := t1.at hB0
              refine ⟨_, rfl, hT1, ?_⟩
              simp only [Act.put, List.setIfInBounds_toArray, List.set_cons_zero, List.set_cons_succ]
              refine wpAnyH_enter 4 73 16 #[.pointer (some ⟨m, 0, none⟩), .int .i64 fr] rfl rfl (by kernel_rfl) (by kernel_rfl) (by kernel_rfl) ?_
              refine (from_any _ _ _).mono ?_
              rintro e y2 ⟨fv, rfl, wl2, t2⟩
              obtain ⟨l2, rfl⟩ := wl2.shape
              have hT2 : Calm V y2 := hT1.tr t2
              replace wl1 := wl1.calm t2
              have hA2 := t2.at hA1
              refine ⟨_, rfl, hT2, ?_⟩
              simp only [Act.put, List.setIfInBounds_toArray, List.set_cons_zero, List.set_cons_succ]
              refine wpAnyH_enter 7 76 17 #[.pointer (some ⟨m, 0, none⟩), .int .i64 fr] rfl rfl (by kernel_rfl) (by kernel_rfl) (by kernel_rfl) ?_
              refine (back_any _ _ _).mono ?_
              rintro e y3 ⟨fv, rfl, wl3, t3⟩
              obtain ⟨l3, rfl⟩ := wl3.shape
              have hT3 : Calm V y3 := hT2.tr t3
              replace wl1 := wl1.calm t3
              replace wl2 := wl2.calm t3
              have hA3 := t3.at hA2
              refine ⟨_, rfl, hT3, ?_⟩
              simp only [Act.put, List.setIfInBounds_toArray, List.set_cons_zero, List.set_cons_succ]
              refine wpAnyH_yield 8 77 (.agg #[.func (.func 66) #[] l1, .func (.func 66) #[] l2, .func (.func 66) #[] l3]) rfl rfl (by kernel_rfl) (by kernel_rfl) (by kernel_rfl) (fun _ _ _ h => h) (by kernel_rfl) (fun W hW => by go_simp) (by assumption) rfl rfl ?_
              simp only [Act.put, List.setIfInBounds_toArray, List.set_cons_zero, List.set_cons_succ]
              have tR : Touch (fun g => g = A) y3 (y3.setRow A #[.func (.func 66) #[] l1, .func (.func 66) #[] l2, .func (.func 66) #[] l3]) := ⟨rfl, rfl, rfl, by simp, fun j _ hj => setRow_other y3 _ j _ hj⟩
              have hR : Calm V (y3.setRow A #[.func (.func 66) #[] l1, .func (.func 66) #[] l2, .func (.func 66) #[] l3]) := hT3.trans tR (fun g hg e => by omega)
              have hAR := setRow_heap y3 A _ #[.func (.func 66) #[] l1, .func (.func 66) #[] l2, .func (.func 66) #[] l3] _ _ hA3
              have hk : ∀ g cs t fr, g = A → y3.heap[g]? = some (.cells cs t fr) → t ≠ 23 ∧ t ≠ 3 ∧ t ≠ 88 := fun g cs t fr e hg => by
                subst e
                exact ⟨fun e => by subst e; exact tags hA3 hg (by decide) rfl, fun e => by subst e; exact tags hA3 hg (by decide) rfl, fun e => by subst e; exact tags hA3 hg (by decide) rfl⟩
              refine wpAnyH_row 10 rfl rfl 54 (.tmp 11) (.tmp 77) rfl (by kernel_rfl) (by kernel_rfl) A #[.func (.func 66) #[] l1, .func (.func 66) #[] l2, .func (.func 66) #[] l3] rfl rfl _ _ hA3 (by kernel_rfl) rfl (by simp [Value.oneCell']) hR ?_
              refine wpAnyH_done (by kernel_rfl) ?_ _
              rw [onlyN_normal]
              have RES : Hid (Ws w B5 B6 B7 B8 m B r q (.slice so sn sc) X (y3.setRow A #[.func (.func 66) #[] l1, .func (.func 66) #[] l2, .func (.func 66) #[] l3]) ∧ w.heap.size ≤ A ∧ (y3.setRow A #[.func (.func 66) #[] l1, .func (.func 66) #[] l2, .func (.func 66) #[] l3]).heap[A]? = some (.cells #[.func (.func 66) #[] l1, .func (.func 66) #[] l2, .func (.func 66) #[] l3] 54 (0, 0)) ∧ Wl (y3.setRow A #[.func (.func 66) #[] l1, .func (.func 66) #[] l2, .func (.func 66) #[] l3]) (.func (.func 66) #[] l1) (some ⟨m, 0, none⟩) .all ∧ Wl (y3.setRow A #[.func (.func 66) #[] l1, .func (.func 66) #[] l2, .func (.func 66) #[] l3]) (.func (.func 66) #[] l2) (some ⟨m, 0, none⟩) (.fwd fr) ∧ Wl (y3.setRow A #[.func (.func 66) #[] l1, .func (.func 66) #[] l2, .func (.func 66) #[] l3]) (.func (.func 66) #[] l3) (some ⟨m, 0, none⟩) (.back fr)) :=
                hide ⟨WS.out.turn hR, Nat.le_trans WS.out.calm.size hZ, hAR, wl1.touch tR hk, wl2.touch tR hk, wl3.touch tR hk⟩
              refine hK9 _ _ (Met.intro (hJ9 _ _ ?_))
              (repeat apply Exists.intro)
              refine ⟨?rel, rfl⟩
              case rel => exact ⟨A, l1, l2, l3, rfl, RES.out⟩
          case rest =>
            clear WS
            obtain ⟨A, l1, l2, l3, rfl, ws, hAw, hA, wl1, wl2, wl3⟩ := hcut
            obtain ⟨wz, rfl⟩ : ∃ wz, wz = wc := ⟨_, rfl⟩
            have HW1 := hide wl1
            have HW2 := hide wl2
            have HW3 := hide wl3
            have HAW := hide hAw
            gi_wp2
            obtain ⟨B12, e12⟩ : ∃ B12, B12 = wz.heap.size := ⟨_, rfl⟩
            obtain ⟨W1, eW1⟩ : ∃ W1, W1 = wz.alloc (.cells #[.int .i64 0] 3) := ⟨_, rfl⟩
            have tA : Calm wz W1 := by rw [eW1]; exact (Touch.refl _ _).alloc _
            have TN0 : Hid (Tn w wz B5 B6 B7 B8 m B r A B12 q (.slice so sn sc) #[.func (.func 66) #[] l1, .func (.func 66) #[] l2, .func (.func 66) #[] l3] X 0 [] W1) := hide ⟨ws.turn tA, tA.at hA, by rw [eW1, e12]; exact World.alloc_heap_new _ _, tA.mono (fun _ _ h => h.elim), fun _ h => (nomatch h), ⟨by rw [e12]; exact ws.calm.size, by rw [e12]; exact Nat.le_refl _, by have := ws.bt.lt; omega⟩, ⟨fun _ h => (nomatch h), List.nodup_nil⟩⟩
            rw [← e12, ← eW1]
            have BTC := hide ws.bt
            clear ws hA wl1 wl2 wl3 hAw tA eW1 e12
            refine wpIn_loop (fun a' W' => ∃ (j : Nat) (Y : List (Int × Int)) (t : Nat) (Ds : List Nat) (f : Nat → Value), (j ≤ 6 ∧ Y.length ≤ bd j ∧ t ≤ bd j ∧ Tn w wz B5 B6 B7 B8 m B r A B12 q (.slice so sn sc) #[.func (.func 66) #[] l1, .func (.func 66) #[] l2, .func (.func 66) #[] l3] Y t Ds W') ∧ a' = { tmps := #[.int .i64 q, .slice ka k kc, .slice so sn sc, undef, undef, .pointer (some ⟨B5, 0, none⟩), .pointer (some ⟨B6, 0, none⟩), .pointer (some ⟨B7, 0, none⟩), .pointer (some ⟨B8, 0, none⟩), .int .i64 (k : Int), .int .i64 fr, .pointer (some ⟨A, 0, none⟩), .pointer (some ⟨B12, 0, none⟩), .int .i64 (j : Int), f 14, f 15, f 16, f 17, f 18, f 19, f 20, f 21, f 22, f 23, f 24, f 25, f 26, f 27, f 28, f 29, f 30, f 31, f 32, f 33, f 34, f 35, f 36, f 37, f 38, f 39, f 40, f 41, f 42, f 43, f 44, f 45, f 46, f 47, f 48, f 49, f 50, f 51, f 52, f 53, f 54, f 55, f 56, f 57, f 58, f 59, f 60, f 61, f 62, f 63, f 64, f 65, f 66, f 67, f 68, f 69, f 70, f 71, f 72, f 73, f 74, f 75, f 76, f 77, f 78, f 79, f 80, f 81, f 82, f 83, f 84, f 85, f 86, f 87, f 88, f 89, f 90, f 91, f 92, f 93, f 94, f 95, f 96, f 97, f 98, f 99, f 100, f 101, f 102, f 103, f 104, f 105, f 106, f 107, f 108, f 109, f 110, f 111, f 112, f 113, f 114, f 115, f 116, f 117, f 118, f 119, f 120, f 121, f 122, f 123, f 124, f 125, f 126, f 127, f 128, f 129, f 130, f 131, f 132, f 133, f 134, f 135, f 136, f 137, f 138, f 139, f 140, f 141, f 142, f 143, f 144, f 145, f 146, f 147, f 148, f 149, f 150, f 151, f 152, f 153, f 154, f 155, f 156, f 157, f 158, f 159, f 160, f 161, f 162, f 163, f 164, f 165, f 166, f 167, f 168], defers := Ds.map mark }) (fun a' _ => 6 - (intOf (a'.tmps.getD 13 undef)).toNat) ?h0 ?round
            case h0 =>
              exact ⟨0, X, 0, [], fun i => Array.getD #[undef, undef, undef, undef, undef, undef, undef, undef, undef, undef, undef, undef, undef, undef, _, _, _, _, _, _, _, _, _, _, _, _, _, _, _, _, _, _, _, _, _, _, _, _, _, _, _, _, _, _, _, _, _, _, _, _, _, _, _, _, _, _, _, _, _, _, _, _, _, _, _, _, _, _, _, _, _, _, _, _, _, _, _, _, _, _, _, _, _, _, _, _, _, _, _, _, _, _, _, _, _, _, _, _, _, _, _, _, _, _, _, _, _, _, _, _, _, _, _, _, _, _, _, _, _, _, _, _, _, _, _, _, _, _, _, _, _, _, _, _, _, _, _, _, _, _, _, _, _, _, _, _, _, _, _, _, _, _, _, _, _, _, _, _, _, _, _, _, _, _, _, _, _, _, _] i undef, ⟨by omega, HX.out, Nat.zero_le _, TN0.out⟩, rfl⟩
            case round =>
              rintro a' V ⟨j, Y, t, Ds, f, ⟨hj, hY, ht, tn⟩, rfl⟩
              clear TN0 HX
              by_cases hj6 : j < 6
              · obtain ⟨i3, hi3, hm3⟩ : ∃ i3 : Nat, i3 < 3 ∧ ((j : Nat) : Int).tmod 3 = (i3 : Int) := ⟨j % 3, Nat.mod_lt _ (by decide), by rw [Int.tmod_eq_emod_of_nonneg (by omega)]; omega⟩
                obtain ⟨lb, hcA, hwl⟩ : ∃ lb, V.cell? ⟨A, i3, none⟩ = some (.func (.func 66) #[] lb) ∧ Wl wz (.func (.func 66) #[] lb) (some ⟨m, 0, none⟩) (kd3 fr i3) := by
                  rcases (show i3 = 0 ∨ i3 = 1 ∨ i3 = 2 by omega) with rfl | rfl | rfl
                  · exact ⟨l1, by simp [World.cell?, tn.a], HW1.out⟩
                  · exact ⟨l2, by simp [World.cell?, tn.a], HW2.out⟩
                  · exact ⟨l3, by simp [World.cell?, tn.a], HW3.out⟩
                have TNH := hide tn
                have HWL := hide hwl
                have HY := hide hY
                have HT := hide ht
                have HJ := hide hj6
                have hx := seq_not_nil lb V
                have hjl : (j : Int) < 6 := by omega
                have hil : (i3 : Int) < 3 := by omega
                clear tn hwl hY ht hj hj6 HW1 HW2 HW3
                gi_upto_region 22 with fail
                clear hx hcA
                gi_cut [15] from 88 (fun v wx => ∃ (B15 : Nat) (ao : Option Addr) (cap : Nat), v = .pointer (some ⟨B15, 0, none⟩) ∧ Tn w wz B5 B6 B7 B8 m B r A B12 q (.slice so sn sc) #[.func (.func 66) #[] l1, .func (.func 66) #[] l2, .func (.func 66) #[] l3] Y t Ds wx ∧ wx.heap[B15]? = some (.cells #[.slice ao Y.length cap] 28 (0, 0)) ∧ OwnP wx w.heap.size (.slice ao Y.length cap) Y ∧ V.heap.size ≤ B15)
                case first =>
                  refine wpIn_wide.2 ?_
                  obtain ⟨ao, cap, rf⟩ := TNH.out.ws.bt.rf
                  have tA : Calm V (V.alloc (.cells #[] 57)) := (Touch.refl _ _).alloc _
                  have O0 : Hid (OwnP (V.alloc (.cells #[] 57)) w.heap.size (.slice (some ⟨V.heap.size, 0, none⟩) 0 0) []) := hide (own_base (own_empty V) TNH.out.ws.calm.size)
                  have c8 := (one_cell (tA.at TNH.out.ws.b8)).1
                  obtain ⟨c0, c1⟩ := cells2 (tA.at rf.own)
                  have PR := hide (rf.prs.calm tA)
                  have NI := hide rf.nil
                  have TA := hide tA
                  have HBY : Hid (([] : List (Int × Int)).length + Y.length ≤ 8796093022208) := hide (by have := HY.out; have := bd_le (k := j) (by have := HJ.out; omega); simp; omega)
                  have HSZ := hide (Nat.le_trans TNH.out.ws.calm.size tA.size)
                  clear rf tA
                  go_wp2_with (at_builtin; refine wpList_app rfl (.tmp 88) (.tmp 92) rfl w.heap.size _ [] rfl O0.out ao Y.length cap Y rfl rfl PR.out NI.out HBY.out HSZ.out ?ny)
                  case ny =>
                    intro ao3 c3 w3 own3 t3
                    have T3 := hide (show Calm V w3 from TA.out.trans t3 (fun g hg hs => by have := (own_block (own_empty V) hs).1; omega))
                    clear c8 c0 c1
                    go_wp2_with fail
                    have tB : Calm w3 (w3.alloc (.cells #[.slice ao3 Y.length c3] 28)) := (Touch.refl _ _).alloc _
                    have RES : Hid (Tn w wz B5 B6 B7 B8 m B r A B12 q (.slice so sn sc) #[.func (.func 66) #[] l1, .func (.func 66) #[] l2, .func (.func 66) #[] l3] Y t Ds (w3.alloc (.cells #[.slice ao3 Y.length c3] 28)) ∧ (w3.alloc (.cells #[.slice ao3 Y.length c3] 28)).heap[w3.heap.size]? = some (.cells #[.slice ao3 Y.length c3] 28 (0, 0)) ∧ OwnP (w3.alloc (.cells #[.slice ao3 Y.length c3] 28)) w.heap.size (.slice ao3 Y.length c3) Y ∧ V.heap.size ≤ w3.heap.size) :=
                      hide ⟨TNH.out.calm (T3.out.tr tB), World.alloc_heap_new _ _, OwnP.touch own3 tB (fun _ _ h => h), T3.out.size⟩
                    gi_meet
                    case rel => exact ⟨_, ao3, c3, rfl, RES.out⟩
                case rest =>
                  have TNV := hide TNH.out
                  clear TNH
                  obtain ⟨B15, ao, cap, rfl, tn, hb15, own, hlo⟩ := hcut
                  have TNH := hide tn
                  have HB15 := hide hb15
                  have OWN := hide own
                  have HL15 : Hid (w.heap.size ≤ B15 ∧ wz.heap.size ≤ B15) := hide ⟨Nat.le_trans TNV.out.ws.calm.size hlo, Nat.le_trans TNV.out.since.size hlo⟩
                  have HDC : Hid (Dec (ord3 q fr) Y) := hide (tn.ws.bt.dec fr)
                  have HBY : Hid (Y.length + 1 ≤ 8796093022208) := hide (by have := HY.out; have := bd_le (k := j) (by have := HJ.out; omega); omega)
                  clear tn hb15 own
                  gi_upto_if 96 with fail
                  gi_cut [] from 97 (fun wx => ∃ (ao : Option Addr) (cap : Nat), Tn w wz B5 B6 B7 B8 m B r A B12 q (.slice so sn sc) #[.func (.func 66) #[] l1, .func (.func 66) #[] l2, .func (.func 66) #[] l3] Y t Ds wx ∧ wx.heap[B15]? = some (.cells #[.slice ao (if i3 = 1 then (Kd.list (ord3 q) (.fwd fr) Y) else Y).length cap] 28 (0, 0)) ∧ OwnP wx w.heap.size (.slice ao (if i3 = 1 then (Kd.list (ord3 q) (.fwd fr) Y) else Y).length cap) (if i3 = 1 then (Kd.list (ord3 q) (.fwd fr) Y) else Y))
                  case first =>
                    by_cases h1 : i3 = 1
                    · subst h1
                      refine wpIn_wide.2 ?_
                      obtain ⟨ao0, cap0, rf⟩ := TNH.out.ws.bt.rf
                      have tA : Calm wc (wc.alloc (.cells #[] 57)) := (Touch.refl _ _).alloc _
                      have O0 : Hid (OwnP (wc.alloc (.cells #[] 57)) w.heap.size (.slice (some ⟨wc.heap.size, 0, none⟩) 0 0) []) := hide (own_base (own_empty wc) TNH.out.ws.calm.size)
                      have OE := hide (own_empty wc)
                      have c8 := (one_cell (tA.at TNH.out.ws.b8)).1
                      have FR := hide (rfrom_nil r q fr Y ao0 cap0 _ (rf.calm tA))
                      have TA := hide tA
                      clear rf tA
                      go_wp2_with fail
                      refine FR.out.mono ?_
                      rintro e w2 ⟨ao2, cap2, rfl, pr2, ni2, t2⟩
                      rw [link_from HDC.out] at pr2 ⊢
                      have PR := hide pr2
                      have NI := hide ni2
                      have O2 := hide (OwnP.touch O0.out t2 (fun _ _ h => h))
                      have OE2 := hide (own_touch OE.out t2 (fun _ _ h => h))
                      have T2 := hide (TA.out.tr t2)
                      have HSZ := hide (Nat.le_trans TNH.out.ws.calm.size T2.out.size)
                      have HBF : Hid (([] : List (Int × Int)).length + (Kd.list (ord3 q) (.fwd fr) Y).length ≤ 8796093022208) := hide (by have := walk_low (c := ord3 q) (X := Y) (.fwd fr); have := HBY.out; simp; omega)
                      clear pr2 ni2 t2 c8 FR O0 TA OE
                      generalize hfw : (Kd.list (ord3 q) (.fwd fr) Y) = M at *
                      clear hfw
                      go_wp2_with (at_builtin; refine wpList_app rfl (.tmp 97) (.tmp 100) rfl w.heap.size _ [] rfl O2.out ao2 M.length cap2 M rfl rfl PR.out NI.out HBF.out HSZ.out ?ny)
                      case ny =>
                        intro ao3 c3 w3 own3 t3
                        have T3 := hide (show Calm wc w3 from T2.out.trans t3 (fun g hg hs => by have := (own_block OE2.out hs).1; omega))
                        have OW3 : Hid (OwnP w3 w.heap.size (.slice ao3 M.length c3) M) := hide own3
                        clear own3 t3
                        obtain ⟨c15, f15⟩ := one_cell (T3.out.at HB15.out)
                        go_wp2_with fail
                        have tS : Touch (fun g => g = B15) w3 (w3.setCell ⟨B15, 0, none⟩ (.slice ao3 M.length c3)) := (Touch.refl (fun g => g = B15) w3).setCell (p := ⟨B15, 0, none⟩) (fun _ => rfl) _
                        have h15 := T3.out.at HB15.out
                        have RES : Hid (∃ (ao : Option Addr) (cap : Nat), Tn w wz B5 B6 B7 B8 m B r A B12 q (.slice so sn sc) #[.func (.func 66) #[] l1, .func (.func 66) #[] l2, .func (.func 66) #[] l3] Y t Ds (w3.setCell ⟨B15, 0, none⟩ (.slice ao3 M.length c3)) ∧ (w3.setCell ⟨B15, 0, none⟩ (.slice ao3 M.length c3)).heap[B15]? = some (.cells #[.slice ao M.length cap] 28 (0, 0)) ∧ OwnP (w3.setCell ⟨B15, 0, none⟩ (.slice ao3 M.length c3)) w.heap.size (.slice ao M.length cap) M) := hide ⟨ao3, c3, (TNH.out.calm T3.out).kind tS (fun g e => by
                            subst e
                            exact ⟨HL15.out.1, HL15.out.2, fun e => tags h15 (T3.out.at TNH.out.ws.bt.ord) (by decide) e, fun e => tags h15 (T3.out.at TNH.out.b12) (by decide) e, fun hD => by have h1 := T3.out.at (TNH.out.ds _ hD); rw [h15] at h1; cases h1⟩) (fun g cs t fr e hg => by subst e; rw [h15] at hg; injection hg with hg; injection hg with _ hg; exact .inr (.inl hg.symm)), set_one _ h15, OwnP.touch OW3.out tS (fun g hg e => by obtain ⟨_, cur, hc⟩ := own_block OW3.out hg; exact tags hc h15 (by decide) e)⟩
                        gi_meet
                        case rel => first | rw [if_pos rfl]; exact RES.out | rw [if_pos trivial]; exact RES.out
                    · have hb : ((i3 : Int) == 1) = false := by rw [beq_eq_false_iff_ne]; omega
                      gi_wp2
                      gi_meet
                      case rel => rw [if_neg h1]; exact ⟨ao, cap, TNH.out, HB15.out, OWN.out⟩
                  case rest =>
                    clear TNH HB15 OWN
                    obtain ⟨ao, cap, tn, hb15, own⟩ := hcut
                    have TNH := hide tn
                    have HB15 := hide hb15
                    have OWN := hide own
                    clear tn hb15 own
                    gi_upto_if 104 with fail
                    gi_cut [] from 105 (fun wx => ∃ (ao : Option Addr) (cap : Nat), Tn w wz B5 B6 B7 B8 m B r A B12 q (.slice so sn sc) #[.func (.func 66) #[] l1, .func (.func 66) #[] l2, .func (.func 66) #[] l3] Y t Ds wx ∧ wx.heap[B15]? = some (.cells #[.slice ao (Kd.list (ord3 q) (kd3 fr i3) Y).length cap] 28 (0, 0)) ∧ OwnP wx w.heap.size (.slice ao (Kd.list (ord3 q) (kd3 fr i3) Y).length cap) (Kd.list (ord3 q) (kd3 fr i3) Y))
                    case first =>
                      by_cases h1 : i3 = 2
                      · subst h1
                        refine wpIn_wide.2 ?_
                        obtain ⟨ao0, cap0, rf⟩ := TNH.out.ws.bt.rf
                        have c8 := (one_cell TNH.out.ws.b8).1
                        have BK := hide (rback_own r q fr Y ao0 cap0 _ rf HBY.out)
                        clear rf
                        go_wp2_with fail
                        refine BK.out.mono ?_
                        rintro e w3 ⟨ao3, c3, rfl, own3, t3⟩
                        rw [link_back HDC.out] at own3 ⊢
                        have T3 := hide t3
                        have OW3 := hide (own_base own3 TNH.out.ws.calm.size)
                        clear own3 t3 c8 BK
                        generalize hfw : (Kd.list (ord3 q) (.back fr) Y) = M at *
                        have HFW := hide hfw
                        clear hfw
                        obtain ⟨c15, f15⟩ := one_cell (T3.out.at HB15.out)
                        go_wp2_with fail
                        have tS : Touch (fun g => g = B15) w3 (w3.setCell ⟨B15, 0, none⟩ (.slice ao3 M.length c3)) := (Touch.refl (fun g => g = B15) w3).setCell (p := ⟨B15, 0, none⟩) (fun _ => rfl) _
                        have h15 := T3.out.at HB15.out
                        have RES : Hid (∃ (ao : Option Addr) (cap : Nat), Tn w wz B5 B6 B7 B8 m B r A B12 q (.slice so sn sc) #[.func (.func 66) #[] l1, .func (.func 66) #[] l2, .func (.func 66) #[] l3] Y t Ds (w3.setCell ⟨B15, 0, none⟩ (.slice ao3 M.length c3)) ∧ (w3.setCell ⟨B15, 0, none⟩ (.slice ao3 M.length c3)).heap[B15]? = some (.cells #[.slice ao M.length cap] 28 (0, 0)) ∧ OwnP (w3.setCell ⟨B15, 0, none⟩ (.slice ao3 M.length c3)) w.heap.size (.slice ao M.length cap) M) := hide ⟨ao3, c3, (TNH.out.calm T3.out).kind tS (fun g e => by
                            subst e
                            exact ⟨HL15.out.1, HL15.out.2, fun e => tags h15 (T3.out.at TNH.out.ws.bt.ord) (by decide) e, fun e => tags h15 (T3.out.at TNH.out.b12) (by decide) e, fun hD => by have h1 := T3.out.at (TNH.out.ds _ hD); rw [h15] at h1; cases h1⟩) (fun g cs t fr e hg => by subst e; rw [h15] at hg; injection hg with hg; injection hg with _ hg; exact .inr (.inl hg.symm)), set_one _ h15, OwnP.touch OW3.out tS (fun g hg e => by obtain ⟨_, cur, hc⟩ := own_block OW3.out hg; exact tags hc h15 (by decide) e)⟩
                        gi_meet
                        case rel =>
                          have e : (Kd.list (ord3 q) (kd3 fr 2) Y) = M := HFW.out
                          rw [e]
                          exact RES.out
                      · have hb : ((i3 : Int) == 2) = false := by rw [beq_eq_false_iff_ne]; omega
                        have hL : (if i3 = 1 then (Kd.list (ord3 q) (.fwd fr) Y) else Y) = (Kd.list (ord3 q) (kd3 fr i3) Y) := by
                          rcases (show i3 = 0 ∨ i3 = 1 by omega) with rfl | rfl
                          · rw [if_neg (by omega)]; exact (list_all _ _).symm
                          · rw [if_pos rfl]; rfl
                        have HL := hide hL
                        clear hL
                        gi_wp2
                        gi_meet
                        case rel => rw [← HL.out]; exact ⟨ao, cap, TNH.out, HB15.out, OWN.out⟩
                    case rest =>
                      clear TNH HB15 OWN
                      obtain ⟨ao, cap, tn, hb15, own⟩ := hcut
                      have TNH := hide tn
                      have HB15 := hide hb15
                      have OWN := hide own
                      clear tn hb15 own
                      gi_upto_region 27 with fail
                      gi_cut [16] from 78 (fun v wx => ∃ B16 : Nat, v = .pointer (some ⟨B16, 0, none⟩) ∧ Rn w wz B5 B6 B7 B8 m B r A B12 q (.slice so sn sc) #[.func (.func 66) #[] l1, .func (.func 66) #[] l2, .func (.func 66) #[] l3] B15 B16 ao cap (Kd.list (ord3 q) (kd3 fr i3) Y) Ds Y t 0 wx)
                      case first =>
                        gi_wp2
                        gi_meet
                        case rel =>
                          have tA : Calm wc (wc.alloc (.cells #[.int .i64 0] 3)) := (Touch.refl _ _).alloc _
                          obtain ⟨-, pr, rw_, -⟩ := OWN.out.prs
                          exact ⟨_, rfl, TNH.out.calm tA, tA.at HB15.out, World.alloc_heap_new _ _, pr.calm tA, fun a ha _ => by obtain ⟨_, _, cs, hc⟩ := rw_ a ha; exact ⟨cs, _, tA.at hc⟩, TNH.out.ws.calm.size, TNH.out.since.size, by have := TNH.out.ws.bt.lt; omega, by have := lt_of_heap TNH.out.b12; omega⟩
                      case rest =>
                        clear TNH HB15 OWN
                        obtain ⟨B16, rfl, rn⟩ := hcut
                        have HRN := hide rn
                        have SQ := hide (Wl.seq (cmpMade B q) m (kd3 fr i3) lb Y (fun key => rn.tn.ws.bt.dec key) ⟨by have := HBY.out; omega⟩)
                        have HTOP : Hid (w.heap.size ≤ wc.heap.size ∧ wz.heap.size ≤ wc.heap.size ∧ B < wc.heap.size ∧ B12 < wc.heap.size ∧ B15 < wc.heap.size ∧ B16 < wc.heap.size ∧ ∀ D ∈ Ds, D < wc.heap.size) := hide ⟨rn.tn.ws.calm.size, rn.tn.since.size, lt_of_heap rn.tn.ws.bt.ord, lt_of_heap rn.tn.b12, lt_of_heap rn.b15, lt_of_heap rn.b16, fun D hD => lt_of_heap (rn.tn.ds D hD)⟩
                        have HWT : Hid (∀ W, Calm wc W → Wl W (.func (.func 66) #[] lb) (some ⟨m, 0, none⟩) (kd3 fr i3) ∧ Mt W m 31 #[.pointer (some ⟨B, 0, none⟩)] Y ∧ W.heap[B]? = some (.cells #[.int .i64 q] 3 (0, 0))) := hide (fun W h => ⟨HWL.out.touch (HRN.out.tn.calm h).since (fun g cs t fr e hg => by
                          obtain ⟨ro, hM, _⟩ := BTC.out.mt
                          obtain ⟨ao9, cap9, hf⟩ := BTC.out.rf
                          rcases e with e | e
                          · subst e; rw [hM] at hg; injection hg with hg; injection hg with _ hg; subst hg; decide
                          · subst e; rw [hf.own] at hg; injection hg with hg; injection hg with _ hg; subst hg; decide), (HRN.out.tn.calm h).ws.bt.mt, (HRN.out.tn.calm h).ws.bt.ord⟩)
                        clear rn
                        gi_wp2
                        refine wpIn_range (gf := 66) (lb := lb) rfl (enters_of Try.func66 (by kernel_rfl) rfl) SQ.out (fun _ => rfl)
                          (fun g => g = m ∨ g = r ∨ g = B12 ∨ g = B16) ?hs (fun W h => HWT.out W h)
                          (fun k W => ∃ X' : List (Int × Int), X'.length ≤ Y.length + k ∧ Rn w wz B5 B6 B7 B8 m B r A B12 q (.slice so sn sc) #[.func (.func 66) #[] l1, .func (.func 66) #[] l2, .func (.func 66) #[] l3] B15 B16 ao cap (Kd.list (ord3 q) (kd3 fr i3) Y) Ds X' (t + k) k W)
                          (fun _ _ _ => False)
                          (fun _ x a' _ => a' = { tmps := #[.int .i64 q, .slice ka k kc, .slice so sn sc, undef, undef, .pointer (some ⟨B5, 0, none⟩), .pointer (some ⟨B6, 0, none⟩), .pointer (some ⟨B7, 0, none⟩), .pointer (some ⟨B8, 0, none⟩), .int .i64 (k : Int), .int .i64 fr, .pointer (some ⟨A, 0, none⟩), .pointer (some ⟨B12, 0, none⟩), .int .i64 (j : Int), .func (.func 66) #[] lb, .pointer (some ⟨B15, 0, none⟩), .pointer (some ⟨B16, 0, none⟩), .int .i64 x.1, .int .i64 x.2, f 19, f 20, f 21, f 22, f 23, f 24, f 25, f 26, f 27, f 28, f 29, f 30, f 31, f 32, f 33, f 34, f 35, f 36, f 37, f 38, f 39, f 40, f 41, f 42, f 43, f 44, f 45, f 46, f 47, f 48, f 49, f 50, f 51, f 52, f 53, f 54, f 55, f 56, f 57, f 58, f 59, f 60, f 61, f 62, f 63, f 64, f 65, f 66, f 67, f 68, f 69, f 70, f 71, f 72, f 73, f 74, f 75, f 76, f 77, u78, u79, u80, u81, u82, u83, u84, u85, u86, u87, u88, u89, u90, u91, u92, u93, u94, u95, u96, u97, u98, u99, u100, u101, u102, u103, u104, u105, u106, u107, .func (.func 66) #[] lb, .int .i64 x.1, .int .i64 x.2, u111, u112, u113, u114, u115, u116, u117, u118, u119, u120, u121, u122, u123, u124, u125, u126, u127, u128, u129, u130, u131, u132, u133, u134, u135, u136, u137, u138, u139, u140, u141, u142, u143, u144, u145, u146, u147, u148, u149, u150, u151, u152, u153, u154, u155, u156, u157, u158, u159, u160, u161, u162, u163, u164, u165, u166, u167, u168], defers := [] })
                          (fun k W W' h ht => by
                            obtain ⟨X', hl, h⟩ := h
                            refine ⟨X', hl, h.kind ht (fun g hg => ?_) (fun g cs t fr e hg => ?_)⟩
                            · obtain ⟨t1, t2, t3, t4, t5, t6, t7⟩ := HTOP.out
                              have := hg.1
                              exact ⟨by omega, by omega, by omega, by omega, fun hD => by have := t7 g hD; omega, by omega, by omega⟩
                            · obtain ⟨_, cs', fr', h'⟩ := e
                              rw [h'] at hg; injection hg with hg; injection hg with _ hg; exact .inr (.inr hg.symm))
                          (fun k W l o o' h h1 h2 h3 => by
                            obtain ⟨X', hl, h⟩ := h
                            refine ⟨X', hl, h.kind (touch_put W l o') (fun g hg => ?_) (fun g cs t fr e hg => ?_)⟩
                            · obtain ⟨t1, t2, t3, t4, t5, t6, t7⟩ := HTOP.out
                              exact ⟨by omega, by omega, by omega, by omega, fun hD => by have := t7 g hD; omega, by omega, by omega⟩
                            · subst e; rw [h2] at hg; injection hg with hg; subst hg; cases h3)
                          (fun c k W l o o' h => h.elim) (fun k x a' => fun _ _ _ _ h _ _ _ => h) ⟨Y, Nat.le_refl _, HRN.out⟩ ?assign ?body ?done ?stop
                        case hs =>
                          rintro g (rfl | rfl | rfl | rfl)
                          · obtain ⟨ro, hM, _⟩ := HRN.out.tn.ws.bt.mt
                            exact ⟨lt_of_heap hM, fun cs fr he => tags he hM (by decide) rfl⟩
                          · obtain ⟨ao9, cap9, hf⟩ := HRN.out.tn.ws.bt.rf
                            exact ⟨lt_of_heap hf.own, fun cs fr he => tags he hf.own (by decide) rfl⟩
                          · exact ⟨lt_of_heap HRN.out.tn.b12, fun cs fr he => tags he HRN.out.tn.b12 (by decide) rfl⟩
                          · exact ⟨lt_of_heap HRN.out.b16, fun cs fr he => tags he HRN.out.b16 (by decide) rfl⟩
                        case assign =>
                          rintro l kk x W K hi hkm hx hK
                          have HK := hide hK
                          have HI := hide hi
                          clear hK hi
                          simp only [encs]
                          gi_wp2
                          exact HK.out _ _ (KeepsOthers.refl _) (Touch.refl _ _) HI.out rfl
                        case body =>
                          rintro l kk x a' W ⟨X', hX', hi⟩ hkm hx rfl
                          obtain ⟨b, off, rfl, p0, p1⟩ := hi.prs kk hkm
                          have hxe : (Kd.list (ord3 q) (kd3 fr i3) Y)[kk] = x := by rw [List.getElem?_eq_getElem hkm] at hx; injection hx
                          rw [hxe] at p0 p1
                          obtain ⟨x1, x2⟩ := x
                          obtain ⟨c15, -⟩ := one_cell hi.b15
                          obtain ⟨c16, f16⟩ := one_cell hi.b16
                          have hlow := walk_low (c := ord3 q) (X := Y) (kd3 fr i3)
                          have hbj := bd_le (k := j) (by have := HJ.out; omega)
                          have hkn : kk < (Kd.list (ord3 q) (kd3 fr i3) Y).length := hkm
                          clear hxe hx hkm SQ HTOP HWT HRN
                          generalize (Kd.list (ord3 q) (kd3 fr i3) Y).length = ln at *
                          have hki : (kk : Int) < (ln : Int) := by omega
                          have hd : decide ((ln : Int) ≤ (kk : Int)) = false := decide_eq_false (Int.not_le.2 hki)
                          have HKK : Hid (t + kk + 1 < 100000 ∧ X'.length + 1 ≤ 8796093022208) := hide (by have := HY.out; have := HT.out; omega)
                          have hk2 : wrap64 ((kk : Int) + 1) = ((kk + 1 : Nat) : Int) := wrap_up (n := kk) (m := 40000) (by have := HY.out; omega) (by omega)
                          obtain ⟨rn1, t1⟩ := hi.count (kk + 1)
                          have RN1 := hide rn1
                          have HT1 : Hid (Touch (fun g => g = m ∨ g = r ∨ g = B12 ∨ g = B16) W (W.setCell ⟨B16, 0, none⟩ (.int .i64 ((kk + 1 : Nat) : Int)))) := hide (t1.mono (fun _ _ h => .inr (.inr (.inr h))))
                          have HI := hide hi
                          have HXL := hide hX'
                          have HXB := hide HKK.out.2
                          clear hi rn1 t1 hX' hlow hbj hkn
                          gi_upto_region 34 with fail
                          have ek : (kk : Int) + 1 = ((kk + 1 : Nat) : Int) := by omega
                          clear hk2 hd hki p0 p1 c15 c16 f16 hjl hil hm3
                          rw [ek]
                          clear ek
                          obtain ⟨tk, etk⟩ : ∃ tk, tk = t + kk := ⟨_, rfl⟩
                          rw [← etk] at RN1 HKK
                          have HTK := hide etk
                          have HTB := hide HKK.out.1
                          have HSC : Hid (∀ g, (g = m ∨ g = r ∨ g = B12 ∨ g = B16) → ∃ c t f, W.heap[g]? = some (.cells c t f)) := hide (fun g hg => by
                            rcases hg with rfl | rfl | rfl | rfl
                            · obtain ⟨ro, hM, _⟩ := HI.out.tn.ws.bt.mt
                              exact ⟨_, _, _, hM⟩
                            · obtain ⟨ao9, cap9, hf⟩ := HI.out.tn.ws.bt.rf
                              exact ⟨_, _, _, hf.own⟩
                            · exact ⟨_, _, _, HI.out.tn.b12⟩
                            · exact ⟨_, _, _, HI.out.b16⟩)
                          clear etk HKK HI
                          generalize W.setCell ⟨B16, 0, none⟩ (.int .i64 ((kk + 1 : Nat) : Int)) = W1 at *
                          by_cases hs1 : tk < sn
                          · obtain ⟨ob, oo, rfl⟩ := HS.out.addr (by rw [HSN.out]; omega)
                            have OPC0 := hide (fun W (h : Calm w W) => (HS.out.calm h).cell ob oo rfl tk (by rw [HSN.out]; exact hs1))
                            have HLV0 := hide (HS.out.ok _ (List.getElem_mem (l := ops) (n := tk) (by rw [HSN.out]; exact hs1)))
                            generalize ops[tk]'(by rw [HSN.out]; exact hs1) = o at OPC0 HLV0
                            obtain ⟨kind, fon, fto, key, value, leave⟩ := o
                            have OPC := hide OPC0.out
                            have HLV : Hid (leave < 9223372036854775808) := hide HLV0.out
                            have hsi : (tk : Int) < (sn : Int) := by omega
                            clear OPC0 HLV0 hs1
                            by_cases hk10 : kind = 10
                            · subst hk10
                              obtain ⟨c5, -⟩ := one_cell RN1.out.tn.ws.b5
                              obtain ⟨c12, -⟩ := one_cell RN1.out.tn.b12
                              obtain ⟨co, -⟩ := OPC.out W1 RN1.out.tn.ws.calm
                              have hdt : decide ((tk : Int) < (sn : Int)) = true := decide_eq_true hsi
                              refine region_quiet_round (by kernel_rfl) (by kernel_rfl) (by kernel_rfl) ?_
                              repeat (go_big_quiet_step (fail))
                              refine wpQuiet_nil ?_
                              intro _ hw'
                              obtain ⟨nq, hw''⟩ := hw'
                              subst hw''
                              have RQ := hide (RN1.out.calm (Touch.drewN (Touch.refl (fun _ => False) W1) nq))
                              have HTQ : Hid (Touch (fun g => g = m ∨ g = r ∨ g = B12 ∨ g = B16) W (W1.drewN nq)) := hide (HT1.out.trans (Touch.drewN (Touch.refl _ W1) nq) (fun _ _ h => h))
                              have HLQ : Hid (X'.length ≤ Y.length + (kk + 1)) := hide (by have := HXL.out; omega)
                              clear c5 c12 co hdt RN1 HT1
                              generalize W1.drewN nq = xq at *
                              obtain ⟨rl, tl⟩ := RQ.out.at_ (tk + 1)
                              have ek : ((tk + 1 : Nat) : Int) = (tk : Int) + 1 := by omega
                              rw [ek] at rl tl
                              have RL := hide rl
                              have TL : Hid (Touch (fun g => g = m ∨ g = r ∨ g = B12 ∨ g = B16) W (xq.setCell ⟨B12, 0, none⟩ (.int .i64 ((tk : Int) + 1)))) := hide (HTQ.out.trans (tl.mono (fun _ _ h => .inr (.inr (.inl h)))) (fun _ _ h => h))
                              obtain ⟨d12, f12⟩ := one_cell RQ.out.tn.b12
                              have hsw : wrap64 ((tk : Int) + 1) = (tk : Int) + 1 := by have := HTB.out; unfold wrap64; omega
                              clear rl tl ek
                              gi_wp2
                              refine ⟨keeps_touch TL.out (fun g hg => HSC.out g hg), TL.out, X', HLQ.out, ?_⟩
                              have e := HTK.out
                              have e2 : t + (kk + 1) = tk + 1 := by omega
                              rw [e2]
                              exact RL.out
                            · have hkb : (kind == (10 : Int)) = false := by rw [beq_eq_false_iff_ne]; exact hk10
                              have hkn : (kind != (10 : Int)) = true := by rw [bne_iff_ne]; exact hk10
                              have HB5 := hide RN1.out.tn.ws.b5
                              have HB12 := hide RN1.out.tn.b12
                              have HB7 := hide RN1.out.tn.ws.b7
                              have HB8 := hide RN1.out.tn.ws.b8
                              have HNK : Hid (∀ g cs t fr, W1.heap[g]? = some (.cells cs t fr) → t ≠ 41 → t ≠ 30 → ¬ (g = m ∨ g = r)) := hide (fun g cs t fr hg h1 h2 e => by
                                obtain ⟨ro, hM, _⟩ := RN1.out.tn.ws.bt.mt
                                obtain ⟨ao9, cap9, hf⟩ := RN1.out.tn.ws.bt.rf
                                rcases e with e | e
                                · exact tags hg hM h1 e
                                · exact tags hg hf.own h2 e)
                              have HN5 := hide (HNK.out _ _ _ _ HB5.out (by decide) (by decide))
                              have HN12 := hide (HNK.out _ _ _ _ HB12.out (by decide) (by decide))
                              have HN7 := hide (HNK.out _ _ _ _ HB7.out (by decide) (by decide))
                              have HN8 := hide (HNK.out _ _ _ _ HB8.out (by decide) (by decide))
                              have CO : Hid (∀ W, Touch (fun g => g = m ∨ g = r) W1 W → W.cell? ⟨ob, oo + tk * 6, none⟩ = some (.int .i64 kind) ∧ W.cell? ⟨ob, oo + tk * 6 + 1, none⟩ = some (.int .i64 fon) ∧ W.cell? ⟨ob, oo + tk * 6 + 2, none⟩ = some (.int .i64 fto) ∧ W.cell? ⟨ob, oo + tk * 6 + 3, none⟩ = some (.int .i64 key) ∧ W.cell? ⟨ob, oo + tk * 6 + 4, none⟩ = some (.int .i64 value) ∧ W.cell? ⟨ob, oo + tk * 6 + 5, none⟩ = some (.int .i64 leave)) := hide (fun W h => OPC.out W (RN1.out.tn.ws.calm.trans h (fun g hg e => by have := RN1.out.tn.ws.new; omega)))
                              refine region_held_round (S := Touch (fun g => g = m ∨ g = r) W1) (by kernel_rfl) (by kernel_rfl) ?_
                              have hT0 : Touch (fun g => g = m ∨ g = r) W1 { W1 with drawn := W1.drawn + 1 } := (Touch.refl (fun g => g = m ∨ g = r) W1).drew
                              have hC0 : Calm W1 { W1 with drawn := W1.drawn + 1 } := (Touch.refl (fun _ => False) W1).drew
                              refine wpAnyH_yield 0 135 (.int .i64 (tk : Int)) rfl rfl (by kernel_rfl) (by kernel_rfl) (by kernel_rfl) (fun _ _ _ h => h) (by kernel_rfl) (fun W hW => by have c0 := (one_cell (hW.heap HB12.out HN12.out)).1; go_simp) (by assumption) rfl rfl ?_
                              simp only [Act.put, List.setIfInBounds_toArray, List.set_cons_zero, List.set_cons_succ]
                              refine wpAnyH_yield 1 136 (.slice (some ⟨ob, oo, none⟩) sn sc) rfl rfl (by kernel_rfl) (by kernel_rfl) (by kernel_rfl) (fun _ _ _ h => h) (by kernel_rfl) (fun W hW => by have c0 := (one_cell (hW.heap HB5.out HN5.out)).1; go_simp) (by assumption) rfl rfl ?_
                              simp only [Act.put, List.setIfInBounds_toArray, List.set_cons_zero, List.set_cons_succ]
                              refine wpAnyH_yield 2 137 (.int .i64 sn) rfl rfl (by kernel_rfl) (by kernel_rfl) (by kernel_rfl) (fun _ _ _ h => h) (by kernel_rfl) (fun W hW => by kernel_rfl) (by assumption) rfl rfl ?_
                              simp only [Act.put, List.setIfInBounds_toArray, List.set_cons_zero, List.set_cons_succ]
                              refine wpAnyH_yield 3 138 (.bool true) rfl rfl (by kernel_rfl) (by kernel_rfl) (by kernel_rfl) (fun _ _ _ h => h) (by kernel_rfl) (fun W hW => by go_simp) (by assumption) rfl rfl ?_
                              simp only [Act.put, List.setIfInBounds_toArray, List.set_cons_zero, List.set_cons_succ]
                              refine wpAnyH_yield 4 139 (.bool true) rfl rfl (by kernel_rfl) (by kernel_rfl) (by kernel_rfl) (fun _ _ _ h => h) (by kernel_rfl) (fun W hW => by kernel_rfl) (by assumption) rfl rfl ?_
                              simp only [Act.put, List.setIfInBounds_toArray, List.set_cons_zero, List.set_cons_succ]
                              refine wpAnyH_yield 5 140 (.slice (some ⟨ob, oo, none⟩) sn sc) rfl rfl (by kernel_rfl) (by kernel_rfl) (by kernel_rfl) (fun _ _ _ h => h) (by kernel_rfl) (fun W hW => by have c0 := (one_cell (hW.heap HB5.out HN5.out)).1; go_simp) (by assumption) rfl rfl ?_
                              simp only [Act.put, List.setIfInBounds_toArray, List.set_cons_zero, List.set_cons_succ]
                              refine wpAnyH_yield 6 141 (.int .i64 (tk : Int)) rfl rfl (by kernel_rfl) (by kernel_rfl) (by kernel_rfl) (fun _ _ _ h => h) (by kernel_rfl) (fun W hW => by have c0 := (one_cell (hW.heap HB12.out HN12.out)).1; go_simp) (by assumption) rfl rfl ?_
                              simp only [Act.put, List.setIfInBounds_toArray, List.set_cons_zero, List.set_cons_succ]
                              refine wpAnyH_yield 7 142 (.pointer (some ⟨ob, oo + tk * 6, none⟩)) rfl rfl (by kernel_rfl) (by kernel_rfl) (by kernel_rfl) (fun _ _ _ h => h) (by kernel_rfl) (fun W hW => by go_simp) (by assumption) rfl rfl ?_
                              simp only [Act.put, List.setIfInBounds_toArray, List.set_cons_zero, List.set_cons_succ]
                              refine wpAnyH_yield 8 143 (.pointer (some ⟨ob, oo + tk * 6, none⟩)) rfl rfl (by kernel_rfl) (by kernel_rfl) (by kernel_rfl) (fun _ _ _ h => h) (by kernel_rfl) (fun W hW => by go_simp) (by assumption) rfl rfl ?_
                              simp only [Act.put, List.setIfInBounds_toArray, List.set_cons_zero, List.set_cons_succ]
                              refine wpAnyH_yield 9 144 (.int .i64 kind) rfl rfl (by kernel_rfl) (by kernel_rfl) (by kernel_rfl) (fun _ _ _ h => h) (by kernel_rfl) (fun W hW => by obtain ⟨c0, -⟩ := CO.out W hW; go_simp) (by assumption) rfl rfl ?_
                              simp only [Act.put, List.setIfInBounds_toArray, List.set_cons_zero, List.set_cons_succ]
                              refine wpAnyH_yield 10 145 (.bool true) rfl rfl (by kernel_rfl) (by kernel_rfl) (by kernel_rfl) (fun _ _ _ h => h) (by kernel_rfl) (fun W hW => by go_simp) (by assumption) rfl rfl ?_
                              simp only [Act.put, List.setIfInBounds_toArray, List.set_cons_zero, List.set_cons_succ]
                              refine wpAnyH_yield 11 146 (.bool true) rfl rfl (by kernel_rfl) (by kernel_rfl) (by kernel_rfl) (fun _ _ _ h => h) (by kernel_rfl) (fun W hW => by kernel_rfl) (by assumption) rfl rfl ?_
                              simp only [Act.put, List.setIfInBounds_toArray, List.set_cons_zero, List.set_cons_succ]
                              refine wpAnyH_yield 12 147 (.bool true) rfl rfl (by kernel_rfl) (by kernel_rfl) (by kernel_rfl) (fun _ _ _ h => h) (by kernel_rfl) (fun W hW => by kernel_rfl) (by assumption) rfl rfl ?_
                              simp only [Act.put, List.setIfInBounds_toArray, List.set_cons_zero, List.set_cons_succ]
                              refine wpAnyH_yield 13 148 (.pointer (some ⟨m, 0, none⟩)) rfl rfl (by kernel_rfl) (by kernel_rfl) (by kernel_rfl) (fun _ _ _ h => h) (by kernel_rfl) (fun W hW => by have c0 := (one_cell (hW.heap HB7.out HN7.out)).1; go_simp) (by assumption) rfl rfl ?_
                              simp only [Act.put, List.setIfInBounds_toArray, List.set_cons_zero, List.set_cons_succ]
                              refine wpAnyH_yield 14 149 (.pointer (some ⟨r, 0, none⟩)) rfl rfl (by kernel_rfl) (by kernel_rfl) (by kernel_rfl) (fun _ _ _ h => h) (by kernel_rfl) (fun W hW => by have c0 := (one_cell (hW.heap HB8.out HN8.out)).1; go_simp) (by assumption) rfl rfl ?_
                              simp only [Act.put, List.setIfInBounds_toArray, List.set_cons_zero, List.set_cons_succ]
                              refine wpAnyH_yield 15 150 (.slice (some ⟨ob, oo, none⟩) sn sc) rfl rfl (by kernel_rfl) (by kernel_rfl) (by kernel_rfl) (fun _ _ _ h => h) (by kernel_rfl) (fun W hW => by have c0 := (one_cell (hW.heap HB5.out HN5.out)).1; go_simp) (by assumption) rfl rfl ?_
                              simp only [Act.put, List.setIfInBounds_toArray, List.set_cons_zero, List.set_cons_succ]
                              refine wpAnyH_yield 16 151 (.int .i64 (tk : Int)) rfl rfl (by kernel_rfl) (by kernel_rfl) (by kernel_rfl) (fun _ _ _ h => h) (by kernel_rfl) (fun W hW => by have c0 := (one_cell (hW.heap HB12.out HN12.out)).1; go_simp) (by assumption) rfl rfl ?_
                              simp only [Act.put, List.setIfInBounds_toArray, List.set_cons_zero, List.set_cons_succ]
                              refine wpAnyH_yield 17 152 (.pointer (some ⟨ob, oo + tk * 6, none⟩)) rfl rfl (by kernel_rfl) (by kernel_rfl) (by kernel_rfl) (fun _ _ _ h => h) (by kernel_rfl) (fun W hW => by go_simp) (by assumption) rfl rfl ?_
                              simp only [Act.put, List.setIfInBounds_toArray, List.set_cons_zero, List.set_cons_succ]
                              refine wpAnyH_yield 18 153 (opv kind fon fto key value leave) rfl rfl (by kernel_rfl) (by kernel_rfl) (by kernel_rfl) (fun _ _ _ h => h) (by kernel_rfl) (fun W hW => by obtain ⟨c0, c1, c2, c3, c4, c5⟩ := CO.out W hW; go_simp) (by assumption) rfl rfl ?_
                              simp only [Act.put, List.setIfInBounds_toArray, List.set_cons_zero, List.set_cons_succ]
                              refine wpAnyH_enter 19 154 9 #[.pointer (some ⟨m, 0, none⟩), .pointer (some ⟨r, 0, none⟩), opv kind fon fto key value leave] rfl rfl (by kernel_rfl) (by kernel_rfl) (by kernel_rfl) ?_
                              refine (step_any m B r q kind fon fto key value leave X' _ (RN1.out.tn.ws.bt.calm hC0) HXB.out HLV.out).mono ?_
                              rintro e x1 ⟨X2, rfl, bt1, hl1, t1⟩
                              have hT1 : Touch (fun g => g = m ∨ g = r) W1 x1 := hT0.trans t1 (fun _ _ h => h)
                              refine ⟨_, rfl, hT1, ?_⟩
                              simp only [Act.put, List.setIfInBounds_toArray, List.set_cons_zero, List.set_cons_succ]
                              refine wpAnyH_yield 20 155 (.bool false) rfl rfl (by kernel_rfl) (by kernel_rfl) (by kernel_rfl) (fun _ _ _ h => h) (by kernel_rfl) (fun W hW => by kernel_rfl) (by assumption) rfl rfl ?_
                              simp only [Act.put, List.setIfInBounds_toArray, List.set_cons_zero, List.set_cons_succ]
                              refine wpAnyH_yield 21 156 (.bool false) rfl rfl (by kernel_rfl) (by kernel_rfl) (by kernel_rfl) (fun _ _ _ h => h) (by kernel_rfl) (fun W hW => by kernel_rfl) (by assumption) rfl rfl ?_
                              simp only [Act.put, List.setIfInBounds_toArray, List.set_cons_zero, List.set_cons_succ]
                              refine wpAnyH_done (by kernel_rfl) (plainly_mk ?_) _
                              have RN2 := hide (RN1.out.step hT1 bt1)
                              have HT2 : Hid (Touch (fun g => g = m ∨ g = r ∨ g = B12 ∨ g = B16) W x1) := hide (HT1.out.trans (hT1.mono (fun g _ h => h.elim .inl (fun h => .inr (.inl h)))) (fun _ _ h => h))
                              have HL2 : Hid (X2.length ≤ Y.length + (kk + 1)) := hide (by have := HXL.out; omega)
                              clear hT0 hC0 bt1 hl1 t1 hT1 CO HNK HN5 HN7 HN8 HN12 HB5 HB7 HB8 HB12 RN1 HT1
                              obtain ⟨rl, tl⟩ := RN2.out.at_ (tk + 1)
                              have ek : ((tk + 1 : Nat) : Int) = (tk : Int) + 1 := by omega
                              rw [ek] at rl tl
                              have RL := hide rl
                              have TL : Hid (Touch (fun g => g = m ∨ g = r ∨ g = B12 ∨ g = B16) W (x1.setCell ⟨B12, 0, none⟩ (.int .i64 ((tk : Int) + 1)))) := hide (HT2.out.trans (tl.mono (fun _ _ h => .inr (.inr (.inl h)))) (fun _ _ h => h))
                              obtain ⟨d12, f12⟩ := one_cell RN2.out.tn.b12
                              have hsw : wrap64 ((tk : Int) + 1) = (tk : Int) + 1 := by have := HTB.out; unfold wrap64; omega
                              clear rl tl ek
                              gi_wp2
                              refine ⟨keeps_touch TL.out (fun g hg => HSC.out g hg), TL.out, X2, HL2.out, ?_⟩
                              have e := HTK.out
                              have e2 : t + (kk + 1) = tk + 1 := by omega
                              rw [e2]
                              exact RL.out
                          · have hsi : ¬ (tk : Int) < (sn : Int) := by omega
                            obtain ⟨c5, -⟩ := one_cell RN1.out.tn.ws.b5
                            obtain ⟨c12, -⟩ := one_cell RN1.out.tn.b12
                            have hdt : decide ((tk : Int) < (sn : Int)) = false := decide_eq_false hsi
                            refine region_quiet_round (by kernel_rfl) (by kernel_rfl) (by kernel_rfl) ?_
                            repeat (go_big_quiet_step (fail))
                            refine wpQuiet_nil ?_
                            intro _ hw'
                            obtain ⟨nq, hw''⟩ := hw'
                            subst hw''
                            have RQ := hide (RN1.out.calm (Touch.drewN (Touch.refl (fun _ => False) W1) nq))
                            have HTQ : Hid (Touch (fun g => g = m ∨ g = r ∨ g = B12 ∨ g = B16) W (W1.drewN nq)) := hide (HT1.out.trans (Touch.drewN (Touch.refl _ W1) nq) (fun _ _ h => h))
                            have HLQ : Hid (X'.length ≤ Y.length + (kk + 1)) := hide (by have := HXL.out; omega)
                            clear c5 c12 hdt RN1 HT1
                            generalize W1.drewN nq = xq at *
                            obtain ⟨rl, tl⟩ := RQ.out.at_ (tk + 1)
                            have ek : ((tk + 1 : Nat) : Int) = (tk : Int) + 1 := by omega
                            rw [ek] at rl tl
                            have RL := hide rl
                            have TL : Hid (Touch (fun g => g = m ∨ g = r ∨ g = B12 ∨ g = B16) W (xq.setCell ⟨B12, 0, none⟩ (.int .i64 ((tk : Int) + 1)))) := hide (HTQ.out.trans (tl.mono (fun _ _ h => .inr (.inr (.inl h)))) (fun _ _ h => h))
                            obtain ⟨d12, f12⟩ := one_cell RQ.out.tn.b12
                            have hsw : wrap64 ((tk : Int) + 1) = (tk : Int) + 1 := by have := HTB.out; unfold wrap64; omega
                            clear rl tl ek
                            gi_wp2
                            refine ⟨keeps_touch TL.out (fun g hg => HSC.out g hg), TL.out, X', HLQ.out, ?_⟩
                            have e := HTK.out
                            have e2 : t + (kk + 1) = tk + 1 := by omega
                            rw [e2]
                            exact RL.out
                        case done =>
                          rintro D W hD ⟨X', hX', hi⟩ hd
                          have hw := wrap_up (n := j) (m := 6) HJ.out (by omega)
                          obtain ⟨c15, -⟩ := one_cell hi.b15
                          obtain ⟨c16, -⟩ := one_cell hi.b16
                          have HTN : Hid (Tn w wz B5 B6 B7 B8 m B r A B12 q (.slice so sn sc) #[.func (.func 66) #[] l1, .func (.func 66) #[] l2, .func (.func 66) #[] l3] X' (t + (Kd.list (ord3 q) (kd3 fr i3) Y).length) (D :: Ds) W) := hide (hi.tn.more hd (by have := HTOP.out; omega) (fun h => by have := HTOP.out.2.2.2.2.2.2 D h; omega))
                          have HBB : Hid (X'.length ≤ bd (j + 1) ∧ t + (Kd.list (ord3 q) (kd3 fr i3) Y).length ≤ bd (j + 1)) := hide (by
                            have h1 := walk_low (c := ord3 q) (X := Y) (kd3 fr i3)
                            have h2 := HY.out
                            have h3 := HT.out
                            rw [bd_next]
                            omega)
                          clear hi hd hX' hD SQ HTOP HWT HRN
                          generalize (Kd.list (ord3 q) (kd3 fr i3) Y).length = ln at *
                          gi_wp2
                          refine ⟨⟨j + 1, X', t + ln, D :: Ds, fun i => Array.getD #[undef, undef, undef, undef, undef, undef, undef, undef, undef, undef, undef, undef, undef, undef, _, _, _, _, _, _, _, _, _, _, _, _, _, _, _, _, _, _, _, _, _, _, _, _, _, _, _, _, _, _, _, _, _, _, _, _, _, _, _, _, _, _, _, _, _, _, _, _, _, _, _, _, _, _, _, _, _, _, _, _, _, _, _, _, _, _, _, _, _, _, _, _, _, _, _, _, _, _, _, _, _, _, _, _, _, _, _, _, _, _, _, _, _, _, _, _, _, _, _, _, _, _, _, _, _, _, _, _, _, _, _, _, _, _, _, _, _, _, _, _, _, _, _, _, _, _, _, _, _, _, _, _, _, _, _, _, _, _, _, _, _, _, _, _, _, _, _, _, _, _, _, _, _, _, _] i undef, ⟨HJ.out, HBB.out.1, HBB.out.2, HTN.out⟩, rfl⟩, ?_⟩
                          have := HJ.out
                          simp [intOf]
                          omega
                        case stop =>
                          rintro D c kk W hD hkm h hd
                          exact h.elim
              · have e : j = 6 := by omega
                subst e
                clear hj hj6
                have BT := hide tn.ws.bt
                have TNH := hide tn
                have HYB := hide (show Y.length + 1 ≤ 8796093022208 by have := bd_le (k := 6) (by omega); omega)
                obtain ⟨c7, -⟩ := one_cell tn.ws.b7
                obtain ⟨c8, -⟩ := one_cell tn.ws.b8
                clear tn hY ht
                gi_wp2
                refine ⟨trivial, (callsIn_wide.2 (whole_any m B r q Y _ BT.out HYB.out)).mono ?_⟩
                rintro e w2 ⟨rfl, t2⟩
                have T2 := hide t2
                clear t2 c7 c8
                gi_wp2
                refine ⟨trivial, (callsIn_wide.2 (works_any _)).mono ?_⟩
                rintro e w3 ⟨rfl, t3⟩
                have TN3 := hide (TNH.out.calm (T2.out.tr t3))
                obtain ⟨c6, f6⟩ := one_cell TN3.out.ws.b6
                have T6 : Hid (Touch (fun g => g = B6) w3 (w3.setCell ⟨B6, 0, none⟩ (.bool true))) := hide ((Touch.refl (fun g => g = B6) w3).setCell (p := ⟨B6, 0, none⟩) (fun _ => rfl) _)
                have K6 := hide (set_one (.bool true) TN3.out.ws.b6)
                have HDS : Hid (∀ D ∈ Ds, (w3.setCell ⟨B6, 0, none⟩ (.bool true)).heap[D]? = some (.deferred (some []))) := hide (fun D hD => T6.out.heap (TN3.out.ds D hD) (fun e => by
                  have h1 := TN3.out.ds D hD
                  rw [e, TN3.out.ws.b6] at h1
                  cases h1))
                clear t3 T2 BT TNH
                gi_wp2
                refine leaves_marks Ds _ HDS.out TN3.out.dl.2 (fun W2 tw => ?_)
                have r6 := (one_cell (tw.heap K6.out (fun hm => by
                  have h1 := HDS.out _ hm
                  rw [K6.out] at h1
                  cases h1))).1
                exact ⟨.bool true, by simp [results, Try.results4, go_sem, r6], rfl, (TN3.out.ws.calm.trans T6.out (fun g hg e => by have := TN3.out.ws.new; omega)).trans tw (fun g hg hm => by have := (TN3.out.dl.1 g hm).1; omega)⟩

end Go.Proofs.Ytegiinnhknfjjaa.IM
