/- StoreTexts, walked. -/
import Derived.Test.YtcbaloenlodkdaaXFx
import Derived.Test.YtcbaloenlodkdaaSQuietR
namespace Go.Proofs.Ytcbaloenlodkdaa.XM
open Go.RowKit
attribute [local go_sem] Oper.semAt_some

theorem infoInts : (Try.prog.info? 44).map (fun i => (i.zero, i.size, i.bytes)) = some (some (.slice none 0 0), 1, 24) := by kernel_rfl

theorem few_of {n : Nat} (h : n ≤ 1048576) : Few n := ⟨by omega⟩

theorem wrap_up {n m : Nat} (h : n < m) (hm : m ≤ 1048576) : wrap64 ((n : Int) + 1) = ((n + 1 : Nat) : Int) := by unfold wrap64; omega

/-- At the start. -/
theorem tx_start (w w1 : World) (ks : List ByteArray) (ko : Option Addr) (kc m : Nat) (key : ByteArray) (h1 : Mt w1 m 50 #[] []) (hm : (((w.alloc (.cells #[.slice ko ks.length kc] 59)).alloc (.cells #[.string key] 9)).alloc (.cells #[.bool false] 4)).heap.size ≤ m)
    (t1 : Calm (((w.alloc (.cells #[.slice ko ks.length kc] 59)).alloc (.cells #[.string key] 9)).alloc (.cells #[.bool false] 4)) w1) :
    Tx w ks (.slice ko ks.length kc) key m w.heap.size (w.heap.size + 1) (w.heap.size + 1 + 1) w1.heap.size (w1.heap.size + 1) [] [] ((w1.alloc (.cells #[.pointer (some ⟨m, 0, none⟩)] 60)).alloc (.cells #[.slice none 0 0] 62)) := by
  have nw : ∀ (V : World) (o : Obj) (n : Nat), n = V.heap.size → (V.alloc o).heap[n]? = some o := fun V o n e => by rw [e]; exact World.alloc_heap_new V o
  have kp : ∀ (V : World) (o o' : Obj) (n : Nat), V.heap[n]? = some o → (V.alloc o').heap[n]? = some o := fun V o o' n h => (Below.heap_alloc V o' n (lt_of_heap h)).trans h
  have t0 : Calm w (((w.alloc (.cells #[.slice ko ks.length kc] 59)).alloc (.cells #[.string key] 9)).alloc (.cells #[.bool false] 4)) := (((Touch.refl _ _).alloc _).alloc _).alloc _
  have t2 : Calm w1 ((w1.alloc (.cells #[.pointer (some ⟨m, 0, none⟩)] 60)).alloc (.cells #[.slice none 0 0] 62)) := ((Touch.refl _ _).alloc _).alloc _
  have s1 := t1.size
  have s0 : (((w.alloc (.cells #[.slice ko ks.length kc] 59)).alloc (.cells #[.string key] 9)).alloc (.cells #[.bool false] 4)).heap.size = w.heap.size + 1 + 1 + 1 := by simp
  rw [s0] at s1 hm
  refine ⟨t0.tr (t1.tr t2), t2.at (t1.at (kp _ _ _ _ (kp _ _ _ _ (nw _ _ _ rfl)))), t2.at (t1.at (kp _ _ _ _ (nw _ _ _ (by simp)))), t2.at (t1.at (nw _ _ _ (by simp))), kp _ _ _ _ (nw _ _ _ rfl), ⟨none, 0, nw _ _ _ (by simp), World.ownsRow_nil _ _ _ _⟩, h1.calm t2, fun i hi => ?_, fun a ha => ?_, List.Pairwise.nil, Nat.le_refl _, ⟨by omega, by omega, by omega, by omega⟩⟩
  · simp at hi
  · simp at ha

set_option maxRecDepth 100000 in
set_option maxHeartbeats 4000000 in
theorem texts_any (ko : Option Addr) (kc : Nat) (ks : List ByteArray) (go : Option Addr) (gc : Nat) (gs : List ByteArray) (key : ByteArray) (w : World) (hks : SegS w ko ks) (hgs : SegS w go gs) (bk : ks.length ≤ 1048576) (bg : gs.length ≤ 1048576) :
    Calls Try.prog 5 #[.slice ko ks.length kc, .slice go gs.length gc, .string key] w fun e w' => e = .returned (.bool true) ∧ Calm w w' := by
  obtain ⟨i1, hj, hy0, hy1, hy2⟩ := info_parts2 infoInts
  have HKS := hide hks
  have HGS := hide hgs
  have BK := hide bk
  have BG := hide bg
  clear hks hgs bk bg
  have TS := hide (tx_start w)
  refine (callsIn_wide (n := 3)).1 (callsIn_of_wp_marks Try.func5 rfl trivial ?_ rfl)
  simp only [Try.ntmps5, List.size_toArray, List.length_cons, List.length_nil, Nat.reduceAdd, Nat.reduceSub, Array.replicate_succ, Array.replicate_zero, List.push_toArray, List.append_toArray, List.nil_append, List.cons_append]
  gi_wp2
  refine ⟨trivial, (callsIn_wide.2 (of_any _)).mono ?_⟩
  rintro e w1 ⟨m, rfl, h1, hm, t1⟩
  have tx0 := TS.out w1 ks ko kc m key h1 hm t1
  clear TS h1 hm t1
  gi_wp2
  obtain ⟨B3, e3⟩ : ∃ B3, B3 = w.heap.size := ⟨_, rfl⟩
  obtain ⟨B5, e5⟩ : ∃ B5, B5 = w.heap.size + 1 := ⟨_, rfl⟩
  obtain ⟨B6, e6⟩ : ∃ B6, B6 = w.heap.size + 1 + 1 := ⟨_, rfl⟩
  obtain ⟨B7, e7⟩ : ∃ B7, B7 = w1.heap.size := ⟨_, rfl⟩
  obtain ⟨B8, e8⟩ : ∃ B8, B8 = w1.heap.size + 1 := ⟨_, rfl⟩
  rw [← e8, ← e7, ← e6, ← e5, ← e3] at tx0 ⊢
  generalize ((w1.alloc (.cells #[.pointer (some ⟨m, 0, none⟩)] 60)).alloc (.cells #[.slice none 0 0] 62)) = W0 at tx0 ⊢
  clear e3 e5 e6 e7 e8
  have TX0 := hide tx0
  clear tx0
  generalize hkn : ks.length = kn at *
  have HKN := hide hkn
  clear hkn
  gi_loopw [9] (fun i wr => ∃ (k : Nat) (X : List (ByteArray × (Option Addr × Nat × Nat))) (lv : List Nat), i = .int .i64 (k : Int) ∧ k ≤ kn ∧ lv.length = k ∧ Tx w ks (.slice ko kn kc) key m B3 B5 B6 B7 B8 X lv wr) (fun i _ => kn - (intOf i).toNat)
  case atStart => exact ⟨0, [], [], rfl, Nat.zero_le _, rfl, TX0.out⟩
  case round =>
    obtain ⟨k, X, lv, rfl, hk, hlv, tx⟩ := hrel
    by_cases hlt : k < kn
    · obtain ⟨ao, cap, h8, own⟩ := tx.b8
      have hkl : k < ks.length := by rw [HKN.out]; exact hlt
      have TX := hide tx
      obtain ⟨c3, -⟩ := one_cell tx.b3
      obtain ⟨c8, f8⟩ := one_cell h8
      subst hlv
      have H8 := hide h8
      have OWN := hide own
      have SW := hide (wrap_up hlt BK.out)
      have hlt' : ((lv.length : Nat) : Int) < (kn : Int) := by omega
      have hx2 : Hid (lv.length + 1 ≤ maxLen) := hide (by have := BK.out; unfold maxLen; omega)
      have hx3 : Hid ((lv.length + 1) * 24 ≤ 140737488355328) := hide (by have := BK.out; omega)
      have TZ := hide (((Touch.refl (fun _ => False) wr).alloc (.cells #[.int .i64 (lv.length : Int)] 3)).alloc (.cells #[.slice (some ⟨wr.heap.size, 0, none⟩) 1 1] 44))
      have OW2 := hide (own_touch own TZ.out (fun _ _ h => h))
      have BZ := hide (Nat.le_trans tx.calm.size TZ.out.size)
      have C83 := hide (TZ.out.at h8)
      have HKL := hide hkl
      have HLT := hide hlt
      clear h8 own tx hkl hk hlt
      generalize hln : lv.length = ln at *
      have HLN := hide hln
      clear hln
      refine wpIn_wide.2 ?_
      go_wp2_with (at_builtin; refine wpList_append_sep _ rfl (.tmp 37) (.tmp 40) 62 rfl w.heap.size 44 i1 (.slice none 0 0) 1 24 Try.underlying62 hj hy0 hy1 hy2 rfl (by decide) _ ln (lv.map fun b => .slice (some ⟨b, 0, none⟩) 1 1) rfl OW2.out ⟨wr.heap.size + 1, 0, none⟩ 1 1 [.slice (some ⟨wr.heap.size, 0, none⟩) 1 1] rfl rfl ?nc (one_cells1 rfl) hx2.out hx3.out BZ.out (by omega) ?ny)
      case nc =>
        have := new_cells1 (wr.alloc (.cells #[.int .i64 (ln : Int)] 3)) (.slice (some ⟨wr.heap.size, 0, none⟩) 1 1) 44
        simpa using this
      case ny =>
        intro ao3 c3' w3 own3 t3 _
        have H83 : Hid (w3.cell? ⟨B8, 0, none⟩ = some (.slice ao ln cap) ∧ w3.frozen? ⟨B8, 0, none⟩ = false) := hide (one_cell (t3.heap C83.out (fun hs => by
          obtain ⟨_, cur, hc⟩ := own_block OW2.out hs
          exact tags hc C83.out (by decide) rfl)))
        have tx2 := TX.out.grow ao cap (by rw [HLN.out]; exact H8.out) (by rw [HLN.out]; exact OWN.out) (by rw [HLN.out]; exact t3) ao3 c3' (by rw [HLN.out]; exact own3)
        rw [HLN.out] at tx2
        obtain ⟨c83, f83⟩ := H83.out
        clear own3 t3 c3 c8 f8 OW2 C83 H83 TZ BZ H8 OWN
        go_wp2_with fail
        generalize w3.setCell ⟨B8, 0, none⟩ (.slice ao3 (ln + 1) c3') = w4 at *
        obtain ⟨ao4, cap4, h84, own4⟩ := tx2.b8
        have hl4 : (lv ++ [wr.heap.size]).length = ln + 1 := by rw [List.length_append, HLN.out]; rfl
        rw [hl4, List.map_append] at own4
        rw [hl4] at h84
        obtain ⟨g4, rfl, -, hcap4, -, cg4, -⟩ := own_cut own4
        have H7 := hide tx2.b7
        have H3 := hide tx2.b3
        have H8 := hide h84
        have TX2 := hide tx2
        have hkl2 : (ln : Int) < (kn : Int) := hlt'
        obtain ⟨b, off, rfl, ck⟩ := (HKS.out.calm tx2.calm) ln HKL.out
        have CK : Hid (∀ W, Calm w4 W → W.cell? ⟨b, off + ln, none⟩ = some (.string ks[ln])) := hide (fun W h => (h.cell (p := ⟨b, off + ln, none⟩) (lt_of_cell ck) (fun h => h)).trans ck)
        have CG : Hid (∀ W, Calm w4 W → W.cell? ⟨g4, ln, none⟩ = some (.slice (some ⟨wr.heap.size, 0, none⟩) 1 1)) := hide (fun W h => (h.cell (p := ⟨g4, ln, none⟩) (lt_of_cell cg4) (fun h => h)).trans cg4)
        have PU := hide (fun W (h : Calm w4 W) => put_any cmpOf m ks[ln] (tv wr.heap.size) W X (TX2.out.mt.calm h) trivial (TX2.out.up.dec cmpS_ord _) (few_of (n := X.length + 1) (by have := TX.out.len; have := BK.out; have := HLN.out; have := HLT.out; omega)).low)
        have hkl3 : (ln : Int) < (ln : Int) + 1 := by omega
        clear h84 own4 tx2 ck cg4 hl4
        generalize hkk : ks[ln] = kk at *
        have HKK := hide hkk
        clear hkk hlt' hcap4
        refine wp_only ?_
        refine wp_region_z 9 (Calm w4) (by kernel_rfl) ?_
        have hT0 : Calm w4 { w4 with drawn := w4.drawn + 1 } := (Touch.refl (fun _ => False) w4).drew
        refine wpAnyZ_yield 0 42 (.pointer (some ⟨m, 0, none⟩)) [9] rfl rfl (by kernel_rfl) (by kernel_rfl) (by kernel_rfl) (by kernel_rfl) (by kernel_rfl) (fun _ _ _ h => h) (by kernel_rfl) (fun W hW => by have c0 := (one_cell (hW.at H7.out)).1; go_simp) (by assumption) rfl rfl ?_
        simp only [Act.put, List.setIfInBounds_toArray, List.set_cons_zero, List.set_cons_succ]
        refine wpAnyZ_yield 1 43 (.slice (some ⟨b, off, none⟩) kn kc) [3, 4, 9] rfl rfl (by kernel_rfl) (by kernel_rfl) (by kernel_rfl) (by kernel_rfl) (by kernel_rfl) (fun _ _ _ h => h) (by kernel_rfl) (fun W hW => by have c0 := (one_cell (hW.at H3.out)).1; go_simp) (by assumption) rfl rfl ?_
        simp only [Act.put, List.setIfInBounds_toArray, List.set_cons_zero, List.set_cons_succ]
        refine wpAnyZ_yield 2 44 (.int .i64 (ln : Int)) [3, 4, 9] rfl rfl (by kernel_rfl) (by kernel_rfl) (by kernel_rfl) (by kernel_rfl) (by kernel_rfl) (fun _ _ _ h => h) (by kernel_rfl) (fun W hW => by kernel_rfl) (by assumption) rfl rfl ?_
        simp only [Act.put, List.setIfInBounds_toArray, List.set_cons_zero, List.set_cons_succ]
        refine wpAnyZ_yield 3 45 (.pointer (some ⟨b, off + ln, none⟩)) [4, 9] rfl rfl (by kernel_rfl) (by kernel_rfl) (by kernel_rfl) (by kernel_rfl) (by kernel_rfl) (fun _ _ _ h => h) (by kernel_rfl) (fun W hW => by go_simp) (by assumption) rfl rfl ?_
        simp only [Act.put, List.setIfInBounds_toArray, List.set_cons_zero, List.set_cons_succ]
        refine wpAnyZ_yield 4 46 (.string kk) [9] rfl rfl (by kernel_rfl) (by kernel_rfl) (by kernel_rfl) (by kernel_rfl) (by kernel_rfl) (fun _ _ _ h => h) (by kernel_rfl) (fun W hW => by have c0 := CK.out W hW; go_simp) (by assumption) rfl rfl ?_
        simp only [Act.put, List.setIfInBounds_toArray, List.set_cons_zero, List.set_cons_succ]
        refine wpAnyZ_yield 5 47 (.slice (some ⟨g4, 0, none⟩) (ln + 1) cap4) [7, 8, 9] rfl rfl (by kernel_rfl) (by kernel_rfl) (by kernel_rfl) (by kernel_rfl) (by kernel_rfl) (fun _ _ _ h => h) (by kernel_rfl) (fun W hW => by have c0 := (one_cell (hW.at H8.out)).1; go_simp) (by assumption) rfl rfl ?_
        simp only [Act.put, List.setIfInBounds_toArray, List.set_cons_zero, List.set_cons_succ]
        refine wpAnyZ_yield 6 48 (.int .i64 (ln : Int)) [7, 8, 9] rfl rfl (by kernel_rfl) (by kernel_rfl) (by kernel_rfl) (by kernel_rfl) (by kernel_rfl) (fun _ _ _ h => h) (by kernel_rfl) (fun W hW => by kernel_rfl) (by assumption) rfl rfl ?_
        simp only [Act.put, List.setIfInBounds_toArray, List.set_cons_zero, List.set_cons_succ]
        refine wpAnyZ_yield 7 49 (.pointer (some ⟨g4, ln, none⟩)) [8, 9] rfl rfl (by kernel_rfl) (by kernel_rfl) (by kernel_rfl) (by kernel_rfl) (by kernel_rfl) (fun _ _ _ h => h) (by kernel_rfl) (fun W hW => by go_simp) (by assumption) rfl rfl ?_
        simp only [Act.put, List.setIfInBounds_toArray, List.set_cons_zero, List.set_cons_succ]
        refine wpAnyZ_yield 8 50 (.slice (some ⟨wr.heap.size, 0, none⟩) 1 1) [9] rfl rfl (by kernel_rfl) (by kernel_rfl) (by kernel_rfl) (by kernel_rfl) (by kernel_rfl) (fun _ _ _ h => h) (by kernel_rfl) (fun W hW => by have c0 := CG.out W hW; go_simp) (by assumption) rfl rfl ?_
        simp only [Act.put, List.setIfInBounds_toArray, List.set_cons_zero, List.set_cons_succ]
        refine wpAnyZ_last 51 21 #[.pointer (some ⟨m, 0, none⟩), .string kk, .slice (some ⟨wr.heap.size, 0, none⟩) 1 1] rfl rfl (by kernel_rfl) (by kernel_rfl) (by kernel_rfl) (by kernel_rfl) ?_
        refine (PU.out _ hT0).mono ?_
        rintro e w5 ⟨rfl, mt5, t5⟩
        have HL5 : Hid ((lv ++ [wr.heap.size]).length = ln + 1) := hide (by rw [List.length_append, HLN.out]; rfl)
        have TX5 : Hid (Tx w ks (.slice (some ⟨b, off, none⟩) kn kc) key m B3 B5 B6 B7 B8 (lput (cmpS kk) kk (tv wr.heap.size) X) (lv ++ [wr.heap.size]) w5) := hide ((TX2.out.calm' hT0).map t5 mt5 (by
          have e1 := TX.out.ent.put wr.heap.size (by rw [HLN.out]; exact HKL.out)
          have e2 : ks[lv.length]'(by rw [HLN.out]; exact HKL.out) = kk := by rw [← HKK.out]; congr 1
          rw [e2] at e1
          exact e1) (TX.out.up.put cmpS_ord _ _) (by
          have h1 := (lput_len (k := kk) (v := tv wr.heap.size) (TX.out.up.dec cmpS_ord kk)).1
          have h2 := TX.out.len
          rw [HL5.out, ← HLN.out]
          omega))
        refine ⟨_, rfl, ?_⟩
        rw [onlyN_normal]
        simp only [Act.put, List.setIfInBounds_toArray, List.set_cons_zero, List.set_cons_succ]
        clear mt5 t5 hT0 PU TX2 H3 H7 H8
        go_wp2_with fail
        go_roundw
        case rel => exact ⟨ln + 1, _, _, by rw [SW.out], HLT.out, HL5.out, TX5.out⟩
        case measure => rw [SW.out]; have := HLT.out; simp [intOf]; omega
    · have e : k = kn := by omega
      subst e
      obtain ⟨c3, -⟩ := one_cell tx.b3
      have TX1 := hide tx
      have HLV := hide hlv
      clear tx hlv hk hlt TX0
      generalize hgn : gs.length = gn at *
      have HGN := hide hgn
      clear hgn
      gi_wp2
      clear c3
      gi_loopw [10] (fun i wr => ∃ (k' : Nat) (X : List (ByteArray × (Option Addr × Nat × Nat))), i = .int .i64 (k' : Int) ∧ k' ≤ gn ∧ Tx w ks (.slice ko k kc) key m B3 B5 B6 B7 B8 X lv wr) (fun i _ => gn - (intOf i).toNat)
      case atStart => exact ⟨0, X, rfl, Nat.zero_le _, TX1.out⟩
      case round =>
        clear TX1 X
        obtain ⟨k', X, rfl, hk', tx⟩ := hrel
        by_cases hlt : k' < gn
        · have HLT := hide hlt
          have hlt' : (k' : Int) < (gn : Int) := by omega
          have SW := hide (wrap_up hlt BG.out)
          have hgl : k' < gs.length := by rw [HGN.out]; exact hlt
          have H7 := hide tx.b7
          have TX := hide tx
          obtain ⟨b, off, rfl, ck⟩ := (HGS.out.calm tx.calm) k' hgl
          have CK : Hid (∀ W, Calm wr W → W.cell? ⟨b, off + k', none⟩ = some (.string gs[k'])) := hide (fun W h => (h.cell (p := ⟨b, off + k', none⟩) (lt_of_cell ck) (fun h => h)).trans ck)
          have PU := hide (fun W (h : Calm wr W) => take_any cmpOf m gs[k'] W X (TX.out.mt.calm h) trivial (TX.out.up.dec cmpS_ord _) (few_of (n := X.length) (by have := TX.out.len; have := BK.out; have := HLV.out; omega)).low)
          clear tx hk' hlt ck
          generalize gs[k'] = kk at *
          refine wpIn_wide.2 ?_
          go_wp2_with fail
          refine wp_only ?_
          refine wp_region_z 5 (Calm wr) (by kernel_rfl) ?_
          have hT0 : Calm wr { wr with drawn := wr.drawn + 1 } := (Touch.refl (fun _ => False) wr).drew
          refine wpAnyZ_yield 0 58 (.pointer (some ⟨m, 0, none⟩)) [5] rfl rfl (by kernel_rfl) (by kernel_rfl) (by kernel_rfl) (by kernel_rfl) (by kernel_rfl) (fun _ _ _ h => h) (by kernel_rfl) (fun W hW => by have c0 := (one_cell (hW.at H7.out)).1; go_simp) (by assumption) rfl rfl ?_
          simp only [Act.put, List.setIfInBounds_toArray, List.set_cons_zero, List.set_cons_succ]
          refine wpAnyZ_yield 1 59 (.slice (some ⟨b, off, none⟩) gn gc) [3, 4, 5] rfl rfl (by kernel_rfl) (by kernel_rfl) (by kernel_rfl) (by kernel_rfl) (by kernel_rfl) (fun _ _ _ h => h) (by kernel_rfl) (fun W hW => by kernel_rfl) (by assumption) rfl rfl ?_
          simp only [Act.put, List.setIfInBounds_toArray, List.set_cons_zero, List.set_cons_succ]
          refine wpAnyZ_yield 2 60 (.int .i64 (k' : Int)) [3, 4, 5] rfl rfl (by kernel_rfl) (by kernel_rfl) (by kernel_rfl) (by kernel_rfl) (by kernel_rfl) (fun _ _ _ h => h) (by kernel_rfl) (fun W hW => by kernel_rfl) (by assumption) rfl rfl ?_
          simp only [Act.put, List.setIfInBounds_toArray, List.set_cons_zero, List.set_cons_succ]
          refine wpAnyZ_yield 3 61 (.pointer (some ⟨b, off + k', none⟩)) [4, 5] rfl rfl (by kernel_rfl) (by kernel_rfl) (by kernel_rfl) (by kernel_rfl) (by kernel_rfl) (fun _ _ _ h => h) (by kernel_rfl) (fun W hW => by go_simp) (by assumption) rfl rfl ?_
          simp only [Act.put, List.setIfInBounds_toArray, List.set_cons_zero, List.set_cons_succ]
          refine wpAnyZ_yield 4 62 (.string kk) [5] rfl rfl (by kernel_rfl) (by kernel_rfl) (by kernel_rfl) (by kernel_rfl) (by kernel_rfl) (fun _ _ _ h => h) (by kernel_rfl) (fun W hW => by have c0 := CK.out W hW; go_simp) (by assumption) rfl rfl ?_
          simp only [Act.put, List.setIfInBounds_toArray, List.set_cons_zero, List.set_cons_succ]
          refine wpAnyZ_last 63 22 #[.pointer (some ⟨m, 0, none⟩), .string kk] rfl rfl (by kernel_rfl) (by kernel_rfl) (by kernel_rfl) (by kernel_rfl) ?_
          refine (PU.out _ hT0).mono ?_
          rintro e w5 ⟨rfl, mt5, t5⟩
          have TX5 : Hid (Tx w ks (.slice ko k kc) key m B3 B5 B6 B7 B8 (ldrop (cmpS kk) X) lv w5) := hide ((TX.out.calm' hT0).map t5 mt5 (TX.out.ent.drop _) (TX.out.up.drop cmpS_ord _) (Nat.le_trans (ldrop_len (TX.out.up.dec cmpS_ord kk)).1 TX.out.len))
          refine ⟨_, rfl, ?_⟩
          rw [onlyN_normal]
          simp only [Act.put, List.setIfInBounds_toArray, List.set_cons_zero, List.set_cons_succ]
          clear mt5 t5 hT0 PU H7 CK
          go_wp2_with fail
          go_roundw
          case rel => exact ⟨k' + 1, _, by rw [SW.out], HLT.out, TX5.out⟩
          case measure => rw [SW.out]; have := HLT.out; simp [intOf]; omega
        · have TX := hide tx
          obtain ⟨c7, -⟩ := one_cell tx.b7
          have hge : ¬ (k' : Int) < (gn : Int) := by omega
          clear tx hlt hk'
          gi_wp2
          refine ⟨trivial, (callsIn_wide.2 (all_any _ _)).mono ?_⟩
          rintro e x1 ⟨fv1, rfl, wl1, t1⟩
          have tx1 := TX.out.calm' t1
          clear c7
          obtain ⟨c7, -⟩ := one_cell tx1.b7
          obtain ⟨c5, -⟩ := one_cell tx1.b5
          obtain ⟨lb1, rfl⟩ := wl1.shape
          gi_wp2
          refine ⟨trivial, (callsIn_wide.2 (from_any _ _ _)).mono ?_⟩
          rintro e x2 ⟨fv2, rfl, wl2, t2⟩
          have tx2 := tx1.calm' t2
          clear c7 c5
          obtain ⟨c7, -⟩ := one_cell tx2.b7
          obtain ⟨c5, -⟩ := one_cell tx2.b5
          obtain ⟨lb2, rfl⟩ := wl2.shape
          gi_wp2
          refine ⟨trivial, (callsIn_wide.2 (back_any _ _ _)).mono ?_⟩
          rintro e Wz ⟨fv3, rfl, wl3, t3⟩
          have tx3 := tx2.calm' t3
          obtain ⟨lb3, rfl⟩ := wl3.shape
          have L1 := hide (wl1.calm (t2.tr t3))
          have L2 := hide (wl2.calm t3)
          have L3 := hide wl3
          have TX3 := hide tx3
          clear c7 c5 tx1 tx2 tx3 wl1 wl2 wl3 t1 t2 t3 TX
          have n1 := seq_not_nil lb1 Wz
          have n2 := seq_not_nil lb2 Wz
          have n3 := seq_not_nil lb3 Wz
          gi_wp2
          clear n1 n2 n3
          obtain ⟨B14, e14⟩ : ∃ B14, B14 = Wz.heap.size := ⟨_, rfl⟩
          obtain ⟨B15, e15⟩ : ∃ B15, B15 = Wz.heap.size + 1 := ⟨_, rfl⟩
          obtain ⟨W1, eW1⟩ : ∃ W1, W1 = (Wz.alloc (.cells #[.int .i64 0] 3)).alloc (.cells #[.string { data := #[] }] 9) := ⟨_, rfl⟩
          have hsz : W1.heap.size = Wz.heap.size + 2 := by rw [eW1]; simp
          have RN : Rn Wz B6 B14 B15 X 0 W1 := by
            have nw : ∀ (V : World) (o : Obj) (n : Nat), n = V.heap.size → (V.alloc o).heap[n]? = some o := fun V o n e => by rw [e]; exact World.alloc_heap_new V o
            have kp : ∀ (V : World) (o o' : Obj) (n : Nat), V.heap[n]? = some o → (V.alloc o').heap[n]? = some o := fun V o o' n h => (Below.heap_alloc V o' n (lt_of_heap h)).trans h
            refine ⟨?_, ?_, ?_, ?_, ⟨by omega, by omega⟩⟩
            · rw [eW1]; exact (Kp.refl Wz B6).touch (((Touch.refl (fun _ => False) _).alloc _).alloc _) (fun _ h => h.elim)
            · rw [eW1]; exact kp _ _ _ _ (kp _ _ _ _ TX3.out.b6)
            · rw [eW1]; exact kp _ _ _ _ (nw _ _ _ e14)
            · rw [eW1]; exact nw _ _ _ (by rw [e15]; simp)
          rw [← e15, ← e14, ← eW1]
          have RN1 := hide RN
          have H14 := hide (show B6 < Wz.heap.size + 2 ∧ B14 < Wz.heap.size + 2 ∧ B15 < Wz.heap.size + 2 from ⟨by have := lt_of_heap TX3.out.b6; omega, by omega, by omega⟩)
          have HLX := hide (show X.length ≤ 1048576 by have := TX3.out.len; have := HLV.out; have := BK.out; omega)
          have SQ1 := hide (Wl.seq cmpOf m .all lb1 X (fun key => TX3.out.up.dec cmpS_ord key) (few_of HLX.out))
          rw [list_all] at SQ1
          clear e14 e15 eW1 RN
          refine wpIn_range (gf := 72) (lb := lb1) rfl (enters_of Try.func72 (by kernel_rfl) rfl) SQ1.out (fun _ => rfl)
            (fun g => g = B14 ∨ g = B15) ?hs (fun W h => ⟨((RN1.out.kp.touch h (fun _ h => h.elim)).wl TX3.out.b6 L1.out), (RN1.out.kp.touch h (fun _ h => h.elim)).mt TX3.out.b6 TX3.out.mt, trivial⟩)
            (fun k W => Rn Wz B6 B14 B15 X k W)
            (fun _ _ _ => False)
            (fun _ x a' _ => a' = { tmps := #[.slice ko k kc, .slice go gn gc, .string key, .pointer (some ⟨B3, 0, none⟩), undef, .pointer (some ⟨B5, 0, none⟩), .pointer (some ⟨B6, 0, none⟩), .pointer (some ⟨B7, 0, none⟩), .pointer (some ⟨B8, 0, none⟩), .int .i64 (k : Int), .int .i64 (k' : Int), .func (.func 72) #[] lb1, .func (.func 72) #[] lb2, .func (.func 72) #[] lb3, .pointer (some ⟨B14, 0, none⟩), .pointer (some ⟨B15, 0, none⟩), .string x.1, .slice x.2.1 x.2.2.1 x.2.2.2, undef, undef, undef, undef, undef, undef, undef, undef, undef, undef, .pointer (some ⟨m, 0, none⟩), .pointer (some ⟨m, 0, none⟩), .bool false, .int .i64 (k : Int), .slice ko k kc, .int .i64 (k : Int), .bool false, u35, u36, u37, u38, u39, u40, u41, u42, u43, u44, u45, u46, u47, u48, u49, u50, u51, .int .i64 (k' : Int), .slice go gn gc, .int .i64 (gn : Int), .bool false, u56, u57, u58, u59, u60, u61, u62, u63, .pointer (some ⟨m, 0, none⟩), .func (.func 72) #[] lb1, .pointer (some ⟨m, 0, none⟩), .string key, .func (.func 72) #[] lb2, .pointer (some ⟨m, 0, none⟩), .string key, .func (.func 72) #[] lb3, .func (.func 72) #[] lb1, .bool false, .bool false, .func (.func 72) #[] lb2, .bool false, .bool false, .bool false, .func (.func 72) #[] lb3, .bool false, .bool false, .func (.func 72) #[] lb1, .string x.1, .slice x.2.1 x.2.2.1 x.2.2.2, undef, undef, undef, undef, undef, undef, undef, undef, undef, undef, undef, undef, undef, undef, undef, undef, undef, undef, undef, undef, undef, undef, undef, undef, undef, undef, undef, undef, undef, undef, undef, undef, undef, undef, undef, undef, undef, undef, undef, undef, undef, undef, undef, undef, undef, undef, undef, undef, undef, undef, undef, undef, undef, undef, undef, undef, undef, undef, undef, undef, undef, undef, undef, undef, undef, undef, undef, undef, undef, undef, undef, undef, undef, undef, undef, undef, undef, undef, undef, undef, undef, undef, undef, undef, undef, undef, undef, undef, undef, undef, undef, undef, undef, undef, undef, undef, undef, undef, undef, undef, undef, undef, undef, undef, undef, undef, undef, undef, undef, undef, undef, undef, undef, undef, undef, undef, undef, undef, undef, undef, undef, undef, undef, undef, undef, undef, undef, undef, undef, undef, undef], defers := [] })
            (fun k W W' h ht => h.turn ht (fun g hg => by have := hg.1; rw [hsz] at this; have := H14.out; omega)) (fun k => by rw [hsz]; exact Rn.bides (by omega) H14.out.1 H14.out.2.1 H14.out.2.2) (fun c k => fun _ _ _ _ h _ _ _ => h) (fun k x a' => fun _ _ _ _ h _ _ _ => h) RN1.out ?assign ?body ?done ?stop
          case hs =>
            rintro g (rfl | rfl)
            · exact ⟨lt_of_heap RN1.out.b14, fun cs fr he => tags he RN1.out.b14 (by decide) rfl⟩
            · exact ⟨lt_of_heap RN1.out.b15, fun cs fr he => tags he RN1.out.b15 (by decide) rfl⟩
          case assign =>
            rintro l k x W K hi hkm hx hK
            have HK := hide hK
            have HI := hide hi
            clear hK hi
            simp only [encs]
            gi_wp2
            exact HK.out _ _ (KeepsOthers.refl _) (Touch.refl _ _) HI.out rfl
          case body =>
            rintro l j x a' W hi hkm hx rfl
            obtain ⟨xk, xv⟩ := x
            have hxj : X[j] = (xk, xv) := by rw [List.getElem?_eq_getElem hkm] at hx; injection hx
            obtain ⟨i, hi1, hi2, e2, e1⟩ := TX3.out.ent (xk, xv) (by rw [← hxj]; exact List.getElem_mem hkm)
            simp only at e1 e2
            subst e2
            have MT := hide (fun W' (h : Rn Wz B6 B14 B15 X j W') => h.kp.mt TX3.out.b6 TX3.out.mt)
            have AT := hide (fun W' (h : Rn Wz B6 B14 B15 X j W') => at_any 50 #[] m (j : Int) (by have := HLX.out; omega) W' X (MT.out _ h) (few_of HLX.out).low)
            have PL := hide (fun W' (h : Rn Wz B6 B14 B15 X j W') => place_any cmpOf m xk W' X (MT.out _ h) trivial (TX3.out.up.dec cmpS_ord xk) (few_of HLX.out).low)
            have hpl := TX3.out.up.place cmpS_ord hkm
            rw [hxj] at hpl
            simp only at hpl
            rw [hpl.1, hpl.2] at PL
            have hat : atI X (j : Int) = some (xk, tv lv[i]) := by unfold atI; rw [if_pos (by omega), Int.toNat_natCast, List.getElem?_eq_getElem hkm, hxj]
            rw [hat] at AT
            simp only [atV, tv, Option.isSome_some] at AT PL
            have HLS : Hid (∀ W', Rn Wz B6 B14 B15 X j W' → W'.cell? ⟨lv[i], 0, none⟩ = some (.int .i64 (i : Int))) := hide (fun W' h => (one_cell (h.kp.at TX3.out.b6 (TX3.out.lst i hi1) (by decide))).1)
            obtain ⟨ao8, cap8, h8, own8⟩ := TX3.out.b8
            have H8 := hide (fun W' (h : Rn Wz B6 B14 B15 X j W') => (one_cell (h.kp.at TX3.out.b6 h8 (by decide))).1)
            have H7 := hide (fun W' (h : Rn Wz B6 B14 B15 X j W') => (one_cell (h.kp.at TX3.out.b6 TX3.out.b7 (by decide))).1)
            have H3 := hide (fun W' (h : Rn Wz B6 B14 B15 X j W') => (one_cell (h.kp.at TX3.out.b6 TX3.out.b3 (by decide))).1)
            obtain ⟨-, ⟨-, h0⟩ | ⟨g8, cap8', cur8, hv8, -, hg8, -⟩⟩ := id own8
            · exfalso; omega
            injection hv8 with hv8 _ hc8
            subst hv8 hc8
            have HG8 : Hid (∀ W', Rn Wz B6 B14 B15 X j W' → W'.cell? ⟨g8, i, none⟩ = some (.slice (some ⟨lv[i], 0, none⟩) 1 1)) := hide (fun W' h => by
              have h1 : Wz.cell? ⟨g8, i, none⟩ = some (.slice (some ⟨lv[i], 0, none⟩) 1 1) := by
                have := own8.cells (g := g8) rfl i (.slice (some ⟨lv[i], 0, none⟩) 1 1) (by simp [hi1])
                rw [Addr.add_lit, Nat.zero_add] at this
                exact this
              have h2 := h.kp.at TX3.out.b6 hg8 (by decide)
              rw [cell_of_row _ _ i _ _ _ hg8] at h1
              rw [cell_of_row _ _ i _ _ _ h2]; exact h1)
            obtain ⟨b, off, rfl, ck⟩ := (HKS.out.calm TX3.out.calm) i hi2
            have HCK : Hid (∀ W', Rn Wz B6 B14 B15 X j W' → W'.cell? ⟨b, off + i, none⟩ = some (.string ks[i])) := hide (fun W' h => by
              obtain ⟨b', off', hb', ck'⟩ := (HKS.out.calm (h.kp.calm TX3.out.calm TX3.out.lo.1)) i hi2
              injection hb' with hb'; injection hb' with e1 e2 _
              subst e1 e2
              exact ck')
            have hii : (i : Int) < (k : Int) := by have := HKN.out; omega
            have hil : (i : Int) < (lv.length : Int) := by omega
            have hlast : Hid (0 < j → (Op.bytesLess xk.toList (lastOf X j).toList || xk.toList == (lastOf X j).toList) = false) := hide (fun hj => by
              obtain ⟨j', rfl⟩ : ∃ j', j = j' + 1 := ⟨j - 1, by omega⟩
              have h1 : lastOf X (j' + 1) = X[j'].1 := by show ((X[j']?).map (·.1)).getD _ = _; rw [List.getElem?_eq_getElem (by omega)]; rfl
              have h2 := List.pairwise_iff_getElem.1 TX3.out.up j' (j' + 1) (by omega) hkm (by omega)
              rw [hxj] at h2
              have h3 := cmpS_lt.1 h2
              rw [h1, less_eq, Bool.or_eq_false_iff]
              refine ⟨decide_eq_false (fun h4 => List.lt_irrefl _ (List.lt_trans h3 h4)), ?_⟩
              rw [beq_eq_false_iff_ne]
              intro h4
              rw [h4] at h3
              exact List.lt_irrefl _ h3)
            have HI := hide hi
            have c7 := H7.out W hi
            have c14 := (one_cell hi.b14).1
            have HXJ := hide hxj
            have HKM := hide hkm
            have HE1 := hide e1
            have hj0 : (0 < (j : Int)) ∨ j = 0 := by omega
            have SW : Hid (wrap64 ((j : Int) + 1) = (j : Int) + 1) := hide (by have := HLX.out; unfold wrap64; omega)
            have HNX : Hid (lastOf X (j + 1) = xk) := hide (by show ((X[j]?).map (·.1)).getD _ = _; rw [hx]; rfl)
            clear hx hpl hat h8 own8 hg8 ck hi hxj e1
            generalize lv[i] = li at *
            have hki : ks[i].toList = xk.toList := HE1.out.symm
            generalize ks[i] = kk at *
            generalize lv.length = ll at *
            gi_wp2
            refine ⟨trivial, (CallsIn.inRound l (callsIn_wide.2 (AT.out _ HI.out))).mono ?_⟩
            rintro e x4 ⟨rfl, t4⟩
            have HI4 := hide (HI.out.calm t4)
            clear c7 c14
            have c7 := H7.out _ HI4.out
            gi_wp2
            refine ⟨trivial, (CallsIn.inRound l (callsIn_wide.2 (PL.out _ HI4.out))).mono ?_⟩
            rintro e x5 ⟨rfl, t5⟩
            have HI5 := hide (HI4.out.calm t5)
            have T5 := hide (t4.tr t5)
            clear c7 t4 t5 AT PL
            have d7 := H7.out _ HI5.out
            have d3 := H3.out _ HI5.out
            have d8 := H8.out _ HI5.out
            have dg := HG8.out _ HI5.out
            have dk := HCK.out _ HI5.out
            have dl := HLS.out _ HI5.out
            obtain ⟨d14, f14⟩ := one_cell HI5.out.b14
            obtain ⟨d15, f15⟩ := one_cell HI5.out.b15
            gi_wp2
            have hnk : ((kk.toList == xk.toList)) = true := by rw [beq_iff_eq]; exact hki
            rcases hj0 with hj0 | hj0
            · have hl1 := hlast.out (by omega)
              have hj1 : decide (0 < j) = true := decide_eq_true (by omega)
              have hi3 : decide ((i : Int) < 0) = false := decide_eq_false (by omega)
              have hi4 : decide (k ≤ i) = false := decide_eq_false (by omega)
              have hi5 : decide ((k : Int) ≤ (i : Int)) = false := decide_eq_false (by omega)
              have hps := ptr_same li
              clear hj0
              simp only [List.append_eq, List.cons_append, List.nil_append]
              refine region_quiet_round (by kernel_rfl) (by kernel_rfl) (by kernel_rfl) ?_
              repeat (go_big_quiet_step (fail))
              refine wpQuiet_nil ?_
              intro _ hw'
              obtain ⟨nq, hw''⟩ := hw'
              subst hw''
              have RQ := HI5.out.calm (Touch.drewN (Touch.refl (fun _ => False) x5) nq)
              have KQ : Hid (Touch (fun g => g = B14 ∨ g = B15) W (x5.drewN nq)) := hide ((T5.out.tr (Touch.drewN (Touch.refl (fun _ => False) x5) nq)).mono (fun _ _ h => h.elim))
              clear d7 d3 d8 dg dk dl d14 f14 d15 f15
              generalize x5.drewN nq = xq at *
              obtain ⟨q14, g14⟩ := one_cell RQ.b14
              obtain ⟨q15, g15⟩ := one_cell RQ.b15
              obtain ⟨RN2, TN2, hn14⟩ := RQ.next xk HNX.out
              obtain ⟨r14, s14⟩ := one_cell hn14
              have HR2 := hide RN2
              have HT2 := hide (KQ.out.trans TN2 (fun _ _ h => h))
              have hsw := SW.out
              clear RN2 TN2 hn14 RQ KQ
              gi_wp2
              exact ⟨keeps_touch HT2.out (fun g hg => by
                rcases hg with rfl | rfl
                · exact ⟨_, _, _, HI.out.b14⟩
                · exact ⟨_, _, _, HI.out.b15⟩), HT2.out, HR2.out⟩
            · have hj1 : decide (0 < j) = false := decide_eq_false (by omega)
              have hi3 : decide ((i : Int) < 0) = false := decide_eq_false (by omega)
              have hi4 : decide (k ≤ i) = false := decide_eq_false (by omega)
              have hi5 : decide ((k : Int) ≤ (i : Int)) = false := decide_eq_false (by omega)
              have hps := ptr_same li
              clear hj0
              simp only [List.append_eq, List.cons_append, List.nil_append]
              refine region_quiet_round (by kernel_rfl) (by kernel_rfl) (by kernel_rfl) ?_
              repeat (go_big_quiet_step (fail))
              refine wpQuiet_nil ?_
              intro _ hw'
              obtain ⟨nq, hw''⟩ := hw'
              subst hw''
              have RQ := HI5.out.calm (Touch.drewN (Touch.refl (fun _ => False) x5) nq)
              have KQ : Hid (Touch (fun g => g = B14 ∨ g = B15) W (x5.drewN nq)) := hide ((T5.out.tr (Touch.drewN (Touch.refl (fun _ => False) x5) nq)).mono (fun _ _ h => h.elim))
              clear d7 d3 d8 dg dk dl d14 f14 d15 f15
              generalize x5.drewN nq = xq at *
              obtain ⟨q14, g14⟩ := one_cell RQ.b14
              obtain ⟨q15, g15⟩ := one_cell RQ.b15
              obtain ⟨RN2, TN2, hn14⟩ := RQ.next xk HNX.out
              obtain ⟨r14, s14⟩ := one_cell hn14
              have HR2 := hide RN2
              have HT2 := hide (KQ.out.trans TN2 (fun _ _ h => h))
              have hsw := SW.out
              clear RN2 TN2 hn14 RQ KQ
              gi_wp2
              exact ⟨keeps_touch HT2.out (fun g hg => by
                rcases hg with rfl | rfl
                · exact ⟨_, _, _, HI.out.b14⟩
                · exact ⟨_, _, _, HI.out.b15⟩), HT2.out, HR2.out⟩
          case done =>
            rintro D1 W hD hi hd
            obtain ⟨c7, -⟩ := one_cell (hi.kp.at TX3.out.b6 TX3.out.b7 (by decide))
            obtain ⟨c5, -⟩ := one_cell (hi.kp.at TX3.out.b6 TX3.out.b5 (by decide))
            have GE := hide (get_any cmpOf m key W X (hi.kp.mt TX3.out.b6 TX3.out.mt) trivial (TX3.out.up.dec cmpS_ord key))
            have BW := hide (both_walks (TX3.out.up.dec cmpS_ord key))
            have HI := hide hi
            have HD := hide hd
            have HD1 := hide (show Wz.heap.size ≤ D1 by rw [hsz] at hD; omega)
            generalize hwv : was (cmpS key) X = wv at *
            generalize hth : (it (cmpS key) X).isSome = th at *
            clear hi hd hD hwv hth RN1 SQ1
            gi_wp2
            refine ⟨trivial, (callsIn_wide.2 GE.out).mono ?_⟩
            rintro e x6 ⟨rfl, t6⟩
            have HI6 := hide (HI.out.calm t6)
            have HD6 := hide (t6.at HD.out)
            clear t6 c7 c5 GE HI HD
            gi_wp2
            obtain ⟨B25, e25⟩ : ∃ B25, B25 = x6.heap.size := ⟨_, rfl⟩
            obtain ⟨W2, eW2⟩ : ∃ W2, W2 = x6.alloc (.cells #[.int .i64 0] 3) := ⟨_, rfl⟩
            rw [← e25, ← eW2]
            generalize hxl : X.length = xl at *
            have HXL := hide hxl
            have tW2 : Calm x6 W2 := by rw [eW2]; exact (Touch.refl _ _).alloc _
            obtain ⟨RM2, HT2⟩ : Hid (Rm Wz B6 B14 B25 xl 0 [D1] W2) ∧ Hid (Wz.heap.size ≤ W2.heap.size ∧ B6 < W2.heap.size ∧ B14 < W2.heap.size ∧ B25 < W2.heap.size ∧ ∀ D ∈ [D1], D < W2.heap.size) := by
              have h14 := HI6.out.b14
              have hr : Rm Wz B6 B14 B25 xl 0 [D1] W2 := ⟨HI6.out.kp.touch tW2 (fun _ h => h.elim), tW2.at HI6.out.b6, tW2.at h14, by rw [eW2, e25]; exact World.alloc_heap_new _ _, fun D hD => by
                obtain rfl : D = D1 := by simpa using hD
                exact tW2.at HD6.out, ⟨HI6.out.lo.1, by rw [e25]; exact HI6.out.kp.size, by have := lt_of_heap h14; omega⟩⟩
              exact ⟨hide hr, hide ⟨hr.kp.size, lt_of_heap hr.b6, lt_of_heap hr.b14, lt_of_heap hr.b25, fun D hD => lt_of_heap (hr.ds D hD)⟩⟩
            obtain ⟨lf, hlf⟩ : ∃ lf, (Kd.list cmpS (.fwd key) X).length = lf := ⟨_, rfl⟩
            obtain ⟨lbk, hlbk⟩ : ∃ lbk, (Kd.list cmpS (.back key) X).length = lbk := ⟨_, rfl⟩
            have HLF := hide hlf
            have HLB := hide hlbk
            rw [hlf, hlbk] at BW
            have SQ2 := hide (Wl.seq cmpOf m (.fwd key) lb2 X (fun key => TX3.out.up.dec cmpS_ord key) (few_of (by rw [hxl]; exact HLX.out)))
            have SQ3 := hide (Wl.seq cmpOf m (.back key) lb3 X (fun key => TX3.out.up.dec cmpS_ord key) (few_of (by rw [hxl]; exact HLX.out)))
            clear eW2 e25 tW2 HI6 HD6 hxl hlf hlbk
            refine wpIn_range (gf := 72) (lb := lb2) rfl (enters_of Try.func72 (by kernel_rfl) rfl) SQ2.out (fun _ => rfl)
              (fun g => g = B25) ?hs2 (fun W h => ⟨((RM2.out.kp.touch h (fun _ h => h.elim)).wl TX3.out.b6 L2.out), (RM2.out.kp.touch h (fun _ h => h.elim)).mt TX3.out.b6 TX3.out.mt, trivial⟩)
              (fun k W => Rm Wz B6 B14 B25 xl (k) [D1] W)
              (fun _ _ _ => False)
              (fun _ x a' _ => a' = { tmps := #[.slice ko k kc, .slice go gn gc, .string key, .pointer (some ⟨B3, 0, none⟩), undef, .pointer (some ⟨B5, 0, none⟩), .pointer (some ⟨B6, 0, none⟩), .pointer (some ⟨B7, 0, none⟩), .pointer (some ⟨B8, 0, none⟩), .int .i64 (k : Int), .int .i64 (k' : Int), .func (.func 72) #[] lb1, .func (.func 72) #[] lb2, .func (.func 72) #[] lb3, .pointer (some ⟨B14, 0, none⟩), .pointer (some ⟨B15, 0, none⟩), undef, undef, undef, undef, undef, undef, undef, .slice wv.1 wv.2.1 wv.2.2, .bool th, .pointer (some ⟨B25, 0, none⟩), .string x.1, undef, .pointer (some ⟨m, 0, none⟩), .pointer (some ⟨m, 0, none⟩), .bool false, .int .i64 (k : Int), .slice ko k kc, .int .i64 (k : Int), .bool false, u35, u36, u37, u38, u39, u40, u41, u42, u43, u44, u45, u46, u47, u48, u49, u50, u51, .int .i64 (k' : Int), .slice go gn gc, .int .i64 (gn : Int), .bool false, u56, u57, u58, u59, u60, u61, u62, u63, .pointer (some ⟨m, 0, none⟩), .func (.func 72) #[] lb1, .pointer (some ⟨m, 0, none⟩), .string key, .func (.func 72) #[] lb2, .pointer (some ⟨m, 0, none⟩), .string key, .func (.func 72) #[] lb3, .func (.func 72) #[] lb1, .bool false, .bool false, .func (.func 72) #[] lb2, .bool false, .bool false, .bool false, .func (.func 72) #[] lb3, .bool false, .bool false, .func (.func 72) #[] lb1, undef, undef, undef, undef, undef, undef, undef, undef, undef, undef, undef, undef, undef, undef, undef, undef, undef, undef, undef, undef, undef, undef, undef, undef, undef, undef, undef, undef, undef, undef, undef, undef, undef, undef, undef, undef, undef, undef, undef, undef, undef, undef, undef, undef, undef, undef, undef, undef, undef, undef, undef, undef, undef, undef, undef, undef, undef, undef, undef, undef, undef, undef, undef, undef, undef, undef, undef, undef, undef, undef, undef, undef, undef, undef, undef, undef, undef, undef, undef, undef, undef, undef, undef, undef, undef, undef, undef, undef, undef, undef, undef, undef, undef, undef, undef, undef, .tuple #[.slice wv.1 wv.2.1 wv.2.2, .bool th], .pointer (some ⟨m, 0, none⟩), .string key, .tuple #[.slice wv.1 wv.2.1 wv.2.2, .bool th], .slice wv.1 wv.2.1 wv.2.2, .bool th, .func (.func 72) #[] lb2, .string x.1, .slice x.2.1 x.2.2.1 x.2.2.2, undef, undef, undef, undef, undef, undef, undef, undef, undef, undef, undef, undef, undef, undef, undef, undef, undef, undef, undef, undef, undef, undef, undef, undef, undef, undef, undef, undef], defers := [] })
              (fun k W W' h ht => h.sly ht HT2.out.1 HT2.out.2.1 HT2.out.2.2.1 HT2.out.2.2.2.1) (fun k => Rm.bides HT2.out.1 HT2.out.2.1 HT2.out.2.2.1 HT2.out.2.2.2.1 HT2.out.2.2.2.2) (fun c k => fun _ _ _ _ h _ _ _ => h) (fun k x a' => fun _ _ _ _ h _ _ _ => h) RM2.out ?as2 ?bo2 ?do2 ?st2
            case hs2 =>
              rintro g rfl
              exact ⟨lt_of_heap RM2.out.b25, fun cs fr he => tags he RM2.out.b25 (by decide) rfl⟩
            case as2 =>
              rintro l k x W K hi hkm hx hK
              have HK := hide hK
              have HI := hide hi
              clear hK hi
              simp only [encs]
              gi_wp2
              exact HK.out _ _ (KeepsOthers.refl _) (Touch.refl _ _) HI.out rfl
            case bo2 =>
              rintro l j x a' W hi hkm hx rfl
              obtain ⟨xk, xv⟩ := x
              have hmem : (xk, xv) ∈ Kd.list cmpS (.fwd key) X := List.mem_of_getElem? hx
              have hles : Op.bytesLess xk.toList key.toList = false := by
                unfold Kd.list at hmem
                have h1 := (List.mem_filter.1 hmem).2
                simp only [Kd.g, decide_eq_true_eq] at h1
                rw [less_eq]
                exact decide_eq_false (fun h2 => by have := cmpS_gt.2 h2; omega)
              have c5 := (one_cell (hi.kp.at TX3.out.b6 TX3.out.b5 (by decide))).1
              obtain ⟨c25, f25⟩ := one_cell hi.b25
              have hcl : Hid ((j) + 1 ≤ 2097153) := hide (by
                have h1 := walk_low (c := cmpS) (X := X) (.fwd key)
                have h2 := walk_low (c := cmpS) (X := X) (Kd.fwd key)
                have h3 := HLX.out
                have h4 := HXL.out
                have h5 := HLF.out
                omega)
              obtain ⟨RN2, TN2⟩ := hi.next ((j) + 1)
              have ecn : (((j) + 1 : Nat) : Int) = (((j) : Nat) : Int) + 1 := by omega
              have hsw : wrap64 (((j : Nat) : Int) + 1) = ((j : Nat) : Int) + 1 := by have := hcl.out; unfold wrap64; omega
              rw [ecn] at RN2 TN2
              have HR2 := hide RN2
              have HT2 := hide TN2
              have HB25 := hide hi.b25
              clear RN2 TN2 hi hx hmem hkm ecn
              generalize ((j : Nat) : Int) = cn at *
              gi_wp2
              exact ⟨keeps_touch HT2.out (fun g hg => by subst hg; exact ⟨_, _, _, HB25.out⟩), HT2.out, HR2.out⟩
            case do2 =>
              rintro D2 W hD hi hd
              obtain ⟨RM3, HT3⟩ : Hid (Rm Wz B6 B14 B25 xl (lf + 0) [D2, D1] W) ∧ Hid (Wz.heap.size ≤ W.heap.size ∧ B6 < W.heap.size ∧ B14 < W.heap.size ∧ B25 < W.heap.size ∧ ∀ D ∈ [D2, D1], D < W.heap.size) := by
                have hr : Rm Wz B6 B14 B25 xl (lf + 0) [D2, D1] W := ⟨hi.kp, hi.b6, hi.b14, by have := hi.b25; rw [HLF.out] at this; simpa using this, fun D hD => by
                  simp only [List.mem_cons, List.not_mem_nil, or_false] at hD
                  rcases hD with rfl | rfl
                  · exact hd
                  · exact hi.ds _ (by simp), hi.lo⟩
                exact ⟨hide hr, hide ⟨hi.kp.size, lt_of_heap hi.b6, lt_of_heap hi.b14, lt_of_heap hi.b25, fun D hD => lt_of_heap (hr.ds D hD)⟩⟩
              have HD2 : Hid (D1 < D2) := hide (Nat.lt_of_lt_of_le (HT2.out.2.2.2.2 D1 (by simp)) hD)
              clear hi hd hD RM2 SQ2
              gi_wp2
              refine wpIn_range (gf := 72) (lb := lb3) rfl (enters_of Try.func72 (by kernel_rfl) rfl) SQ3.out (fun _ => rfl)
                (fun g => g = B25) ?hs3 (fun W h => ⟨((RM3.out.kp.touch h (fun _ h => h.elim)).wl TX3.out.b6 L3.out), (RM3.out.kp.touch h (fun _ h => h.elim)).mt TX3.out.b6 TX3.out.mt, trivial⟩)
                (fun k W => Rm Wz B6 B14 B25 xl (lf + k) [D2, D1] W)
                (fun _ _ _ => False)
                (fun _ x a' _ => a' = { tmps := #[.slice ko k kc, .slice go gn gc, .string key, .pointer (some ⟨B3, 0, none⟩), undef, .pointer (some ⟨B5, 0, none⟩), .pointer (some ⟨B6, 0, none⟩), .pointer (some ⟨B7, 0, none⟩), .pointer (some ⟨B8, 0, none⟩), .int .i64 (k : Int), .int .i64 (k' : Int), .func (.func 72) #[] lb1, .func (.func 72) #[] lb2, .func (.func 72) #[] lb3, .pointer (some ⟨B14, 0, none⟩), .pointer (some ⟨B15, 0, none⟩), undef, undef, undef, undef, undef, undef, undef, .slice wv.1 wv.2.1 wv.2.2, .bool th, .pointer (some ⟨B25, 0, none⟩), undef, .string x.1, .pointer (some ⟨m, 0, none⟩), .pointer (some ⟨m, 0, none⟩), .bool false, .int .i64 (k : Int), .slice ko k kc, .int .i64 (k : Int), .bool false, u35, u36, u37, u38, u39, u40, u41, u42, u43, u44, u45, u46, u47, u48, u49, u50, u51, .int .i64 (k' : Int), .slice go gn gc, .int .i64 (gn : Int), .bool false, u56, u57, u58, u59, u60, u61, u62, u63, .pointer (some ⟨m, 0, none⟩), .func (.func 72) #[] lb1, .pointer (some ⟨m, 0, none⟩), .string key, .func (.func 72) #[] lb2, .pointer (some ⟨m, 0, none⟩), .string key, .func (.func 72) #[] lb3, .func (.func 72) #[] lb1, .bool false, .bool false, .func (.func 72) #[] lb2, .bool false, .bool false, .bool false, .func (.func 72) #[] lb3, .bool false, .bool false, .func (.func 72) #[] lb1, undef, undef, undef, undef, undef, undef, undef, undef, undef, undef, undef, undef, undef, undef, undef, undef, undef, undef, undef, undef, undef, undef, undef, undef, undef, undef, undef, undef, undef, undef, undef, undef, undef, undef, undef, undef, undef, undef, undef, undef, undef, undef, undef, undef, undef, undef, undef, undef, undef, undef, undef, undef, undef, undef, undef, undef, undef, undef, undef, undef, undef, undef, undef, undef, undef, undef, undef, undef, undef, undef, undef, undef, undef, undef, undef, undef, undef, undef, undef, undef, undef, undef, undef, undef, undef, undef, undef, undef, undef, undef, undef, undef, undef, undef, undef, undef, .tuple #[.slice wv.1 wv.2.1 wv.2.2, .bool th], .pointer (some ⟨m, 0, none⟩), .string key, .tuple #[.slice wv.1 wv.2.1 wv.2.2, .bool th], .slice wv.1 wv.2.1 wv.2.2, .bool th, .func (.func 72) #[] lb2, undef, undef, undef, undef, undef, undef, undef, .func (.func 72) #[] lb3, .string x.1, .slice x.2.1 x.2.2.1 x.2.2.2, undef, undef, undef, undef, undef, undef, undef, undef, undef, undef, undef, undef, undef, undef, undef, undef, undef, undef, undef, undef], defers := [] })
                (fun k W W' h ht => h.sly ht HT3.out.1 HT3.out.2.1 HT3.out.2.2.1 HT3.out.2.2.2.1) (fun k => Rm.bides HT3.out.1 HT3.out.2.1 HT3.out.2.2.1 HT3.out.2.2.2.1 HT3.out.2.2.2.2) (fun c k => fun _ _ _ _ h _ _ _ => h) (fun k x a' => fun _ _ _ _ h _ _ _ => h) RM3.out ?as3 ?bo3 ?do3 ?st3
              case hs3 =>
                rintro g rfl
                exact ⟨lt_of_heap RM3.out.b25, fun cs fr he => tags he RM3.out.b25 (by decide) rfl⟩
              case as3 =>
                rintro l k x W K hi hkm hx hK
                have HK := hide hK
                have HI := hide hi
                clear hK hi
                simp only [encs]
                gi_wp2
                exact HK.out _ _ (KeepsOthers.refl _) (Touch.refl _ _) HI.out rfl
              case bo3 =>
                rintro l j x a' W hi hkm hx rfl
                obtain ⟨xk, xv⟩ := x
                have hmem : (xk, xv) ∈ Kd.list cmpS (.back key) X := List.mem_of_getElem? hx
                have hles : (Op.bytesLess xk.toList key.toList || xk.toList == key.toList) = true := by
                  unfold Kd.list at hmem
                  have h1 := (List.mem_filter.1 hmem).2
                  simp only [Kd.g, decide_eq_true_eq] at h1
                  rw [less_eq, Bool.or_eq_true]
                  rcases (show 0 < cmpS key xk ∨ cmpS key xk = 0 by omega) with h2 | h2
                  · exact .inl (decide_eq_true (cmpS_gt.1 h2))
                  · exact .inr (by rw [beq_iff_eq]; exact (cmpS_eq.1 h2).symm)
                have c5 := (one_cell (hi.kp.at TX3.out.b6 TX3.out.b5 (by decide))).1
                obtain ⟨c25, f25⟩ := one_cell hi.b25
                have hcl : Hid ((lf + j) + 1 ≤ 2097153) := hide (by
                  have h1 := walk_low (c := cmpS) (X := X) (.back key)
                  have h2 := walk_low (c := cmpS) (X := X) (Kd.fwd key)
                  have h3 := HLX.out
                  have h4 := HXL.out
                  have h5 := HLF.out
                  omega)
                obtain ⟨RN2, TN2⟩ := hi.next ((lf + j) + 1)
                have ecn : (((lf + j) + 1 : Nat) : Int) = (((lf + j) : Nat) : Int) + 1 := by omega
                have hsw : wrap64 (((lf + j : Nat) : Int) + 1) = ((lf + j : Nat) : Int) + 1 := by have := hcl.out; unfold wrap64; omega
                rw [ecn] at RN2 TN2
                have HR2 := hide RN2
                have HT2 := hide TN2
                have HB25 := hide hi.b25
                clear RN2 TN2 hi hx hmem hkm ecn
                generalize ((lf + j : Nat) : Int) = cn at *
                gi_wp2
                exact ⟨keeps_touch HT2.out (fun g hg => by subst hg; exact ⟨_, _, _, HB25.out⟩), HT2.out, HR2.out⟩
              case do3 =>
                rintro D3 W hD hi hd
                have hr3 : Rm Wz B6 B14 B25 xl (lf + lbk) [D3, D2, D1] W := ⟨hi.kp, hi.b6, hi.b14, by have := hi.b25; rw [HLB.out] at this; exact this, fun D hD => by
                  simp only [List.mem_cons, List.not_mem_nil, or_false] at hD
                  rcases hD with rfl | rfl | rfl
                  · exact hd
                  · exact hi.ds _ (by simp)
                  · exact hi.ds _ (by simp), hi.lo⟩
                have hnd : [D3, D2, D1].Nodup := by
                  have h1 := HD2.out
                  have h2 := HT3.out.2.2.2.2 D2 (by simp)
                  have h3 : D2 < D3 := Nat.lt_of_lt_of_le h2 hD
                  have h4 : D1 < D3 := by omega
                  simp only [List.nodup_cons, List.mem_cons, List.not_mem_nil, or_false, not_or, not_false_eq_true, List.nodup_nil, and_true]
                  omega
                have HND := hide hnd
                have HDM : Hid (∀ D ∈ [D3, D2, D1], Wz.heap.size ≤ D) := hide (fun D hDm => by
                  simp only [List.mem_cons, List.not_mem_nil, or_false] at hDm
                  have h1 := HD1.out
                  have h2 := HD2.out
                  have h3 := HT3.out.2.2.2.2 D2 (by simp)
                  have h4 : D2 < D3 := Nat.lt_of_lt_of_le h3 hD
                  rcases hDm with rfl | rfl | rfl <;> omega)
                have HLL := hide (show lf + lbk ≤ 2097152 by
                  have h1 := walk_low (c := cmpS) (X := X) (Kd.fwd key)
                  have h2 := walk_low (c := cmpS) (X := X) (Kd.back key)
                  have h3 := HLX.out
                  have h4 := HXL.out
                  have h5 := HLF.out
                  have h6 := HLB.out
                  omega)
                clear hi hd hD RM3 SQ3 hnd
                cases th with
                | true =>
                  have hsum : lf + lbk = xl + 1 := by have := BW.out; simpa using this
                  obtain ⟨c25, f25⟩ := one_cell hr3.b25
                  obtain ⟨hv, -⟩ := hr3.next xl
                  have hsub : wrap64 (((lf + lbk : Nat) : Int) - 1) = (xl : Int) := by rw [hsum]; have := HLL.out; unfold wrap64; omega
                  have HV := hide hv
                  clear hv hr3 hsum
                  generalize ((lf + lbk : Nat) : Int) = cn at *
                  gi_wp2
                  have hv := HV.out
                  clear HV c25 f25 hsub
                  generalize W.setCell ⟨B25, 0, none⟩ (.int .i64 (xl : Int)) = V at *
                  have H14' := hide hv.b14
                  have H25 := hide hv.b25
                  have H6 := hide hv.b6
                  have H7 := hide (hv.kp.at TX3.out.b6 TX3.out.b7 (by decide))
                  have HDS := hide hv.ds
                  have HCV := hide (hv.kp.calm TX3.out.calm TX3.out.lo.1)
                  have LN := hide (fun W (h : Calm V W) => len_any W m 50 #[] X ((hv.kp.mt TX3.out.b6 TX3.out.mt).calm h))
                  rw [HXL.out] at LN
                  clear hv
                  refine wpIn_wide.2 (wp_only ?_)
                  refine wp_region_z 12 (Calm V) (by kernel_rfl) ?_
                  have hT0 : Calm V { V with drawn := V.drawn + 1 } := (Touch.refl (fun _ => False) V).drew
                  refine wpAnyZ_yield 0 204 (.int .i64 (xl : Int)) [3, 4, 8, 9, 11, 12] rfl rfl (by kernel_rfl) (by kernel_rfl) (by kernel_rfl) (by kernel_rfl) (by kernel_rfl) (fun _ _ _ h => h) (by kernel_rfl) (fun W hW => by have c0 := (one_cell (hW.at H14'.out)).1; go_simp) (by assumption) rfl rfl ?_
                  simp only [Act.put, List.setIfInBounds_toArray, List.set_cons_zero, List.set_cons_succ]
                  refine wpAnyZ_yield 1 205 (.pointer (some ⟨m, 0, none⟩)) [2, 3, 4, 8, 9, 11, 12] rfl rfl (by kernel_rfl) (by kernel_rfl) (by kernel_rfl) (by kernel_rfl) (by kernel_rfl) (fun _ _ _ h => h) (by kernel_rfl) (fun W hW => by have c0 := (one_cell (hW.at H7.out)).1; go_simp) (by assumption) rfl rfl ?_
                  simp only [Act.put, List.setIfInBounds_toArray, List.set_cons_zero, List.set_cons_succ]
                  refine wpAnyZ_enter 2 206 29 #[.pointer (some ⟨m, 0, none⟩)] rfl rfl (by decide) (by kernel_rfl) (by kernel_rfl) (by kernel_rfl) ?_
                  refine (LN.out _ hT0).mono ?_
                  rintro r _ ⟨rfl, rfl⟩
                  refine ⟨_, rfl, hT0, ?_⟩
                  simp only [Act.put, List.setIfInBounds_toArray, List.set_cons_zero, List.set_cons_succ]
                  refine wpAnyZ_yield 3 207 (.bool true) [4, 8, 9, 11, 12] rfl rfl (by kernel_rfl) (by kernel_rfl) (by kernel_rfl) (by kernel_rfl) (by kernel_rfl) (fun _ _ _ h => h) (by kernel_rfl) (fun W hW => by go_simp) (by assumption) rfl rfl ?_
                  simp only [Act.put, List.setIfInBounds_toArray, List.set_cons_zero, List.set_cons_succ]
                  refine wpAnyZ_yield 4 208 (.bool true) [8, 9, 11, 12] rfl rfl (by kernel_rfl) (by kernel_rfl) (by kernel_rfl) (by kernel_rfl) (by kernel_rfl) (fun _ _ _ h => h) (by kernel_rfl) (fun W hW => by kernel_rfl) (by assumption) rfl rfl ?_
                  simp only [Act.put, List.setIfInBounds_toArray, List.set_cons_zero, List.set_cons_succ]
                  refine wpAnyZ_yield 5 209 (.int .i64 (xl : Int)) [7, 8, 9, 11, 12] rfl rfl (by kernel_rfl) (by kernel_rfl) (by kernel_rfl) (by kernel_rfl) (by kernel_rfl) (fun _ _ _ h => h) (by kernel_rfl) (fun W hW => by have c0 := (one_cell (hW.at H25.out)).1; go_simp) (by assumption) rfl rfl ?_
                  simp only [Act.put, List.setIfInBounds_toArray, List.set_cons_zero, List.set_cons_succ]
                  refine wpAnyZ_yield 6 210 (.int .i64 (xl : Int)) [7, 8, 9, 11, 12] rfl rfl (by kernel_rfl) (by kernel_rfl) (by kernel_rfl) (by kernel_rfl) (by kernel_rfl) (fun _ _ _ h => h) (by kernel_rfl) (fun W hW => by have c0 := (one_cell (hW.at H14'.out)).1; go_simp) (by assumption) rfl rfl ?_
                  simp only [Act.put, List.setIfInBounds_toArray, List.set_cons_zero, List.set_cons_succ]
                  refine wpAnyZ_yield 7 211 (.bool true) [8, 9, 11, 12] rfl rfl (by kernel_rfl) (by kernel_rfl) (by kernel_rfl) (by kernel_rfl) (by kernel_rfl) (fun _ _ _ h => h) (by kernel_rfl) (fun W hW => by go_simp) (by assumption) rfl rfl ?_
                  simp only [Act.put, List.setIfInBounds_toArray, List.set_cons_zero, List.set_cons_succ]
                  refine wpAnyZ_yield 8 212 (.bool true) [9, 11, 12] rfl rfl (by kernel_rfl) (by kernel_rfl) (by kernel_rfl) (by kernel_rfl) (by kernel_rfl) (fun _ _ _ h => h) (by kernel_rfl) (fun W hW => by kernel_rfl) (by assumption) rfl rfl ?_
                  simp only [Act.put, List.setIfInBounds_toArray, List.set_cons_zero, List.set_cons_succ]
                  refine wpAnyZ_yield 9 213 (.bool true) [11, 12] rfl rfl (by kernel_rfl) (by kernel_rfl) (by kernel_rfl) (by kernel_rfl) (by kernel_rfl) (fun _ _ _ h => h) (by kernel_rfl) (fun W hW => by kernel_rfl) (by assumption) rfl rfl ?_
                  simp only [Act.put, List.setIfInBounds_toArray, List.set_cons_zero, List.set_cons_succ]
                  refine wpAnyZ_enter 10 214 12 #[] rfl rfl (by decide) (by kernel_rfl) (by kernel_rfl) (by kernel_rfl) ?_
                  refine (IM.works_any _).mono ?_
                  rintro r x8 ⟨rfl, t8⟩
                  have hT8 : Calm V x8 := hT0.tr t8
                  refine ⟨_, rfl, hT8, ?_⟩
                  simp only [Act.put, List.setIfInBounds_toArray, List.set_cons_zero, List.set_cons_succ]
                  refine wpAnyZ_yield 11 215 (.bool true) [12] rfl rfl (by kernel_rfl) (by kernel_rfl) (by kernel_rfl) (by kernel_rfl) (by kernel_rfl) (fun _ _ _ h => h) (by kernel_rfl) (fun W hW => by kernel_rfl) (by assumption) rfl rfl ?_
                  simp only [Act.put, List.setIfInBounds_toArray, List.set_cons_zero, List.set_cons_succ]
                  refine wpAnyZ_end rfl (by kernel_rfl) (by kernel_rfl) (by kernel_rfl) ?_
                  obtain ⟨c6, f6⟩ := one_cell (hT8.at H6.out)
                  have K6 := hide (set_one (.bool true) (hT8.at H6.out))
                  have TM : Hid (Touch (fun g => g = B6) V (x8.setCell ⟨B6, 0, none⟩ (.bool true))) := hide ((hT8.mono (fun _ _ h => h.elim)).trans ((Touch.refl (fun g => g = B6) x8).setCell (p := ⟨B6, 0, none⟩) (fun _ => rfl) _) (fun _ _ h => h))
                  clear hT0 t8 hT8
                  unfold Oper.wp
                  go_simp
                  rw [onlyN_normal]
                  gi_wp2
                  refine leaves_marks [D3, D2, D1] _ (fun D hD => TM.out.heap (HDS.out D hD) (fun e => by
                    subst e
                    have h1 := HDS.out D hD
                    rw [H6.out] at h1
                    cases h1)) HND.out (fun W2 tw => ?_)
                  have r6 := (one_cell (tw.heap K6.out (fun hm => by
                    have h1 := TM.out.heap (HDS.out _ hm) (fun e => by
                      have h1 := HDS.out _ hm
                      rw [H6.out] at h1
                      cases h1)
                    rw [K6.out] at h1
                    cases h1))).1
                  exact ⟨.bool true, by simp [results, Try.results5, go_sem, r6], rfl, (HCV.out.trans TM.out (fun g hg e => by have := TX3.out.lo.1; omega)).trans tw (fun g hg hm => by
                    have h1 := HDM.out g hm
                    have h2 := TX3.out.calm.size
                    omega)⟩
                | false =>
                  have hsum : lf + lbk = xl := by have := BW.out; simpa using this
                  rw [hsum] at hr3
                  have HV := hide hr3
                  clear hr3 hsum
                  gi_wp2
                  have hv := HV.out
                  clear HV
                  generalize W = V at *
                  have H14' := hide hv.b14
                  have H25 := hide hv.b25
                  have H6 := hide hv.b6
                  have H7 := hide (hv.kp.at TX3.out.b6 TX3.out.b7 (by decide))
                  have HDS := hide hv.ds
                  have HCV := hide (hv.kp.calm TX3.out.calm TX3.out.lo.1)
                  have LN := hide (fun W (h : Calm V W) => len_any W m 50 #[] X ((hv.kp.mt TX3.out.b6 TX3.out.mt).calm h))
                  rw [HXL.out] at LN
                  clear hv
                  refine wpIn_wide.2 (wp_only ?_)
                  refine wp_region_z 12 (Calm V) (by kernel_rfl) ?_
                  have hT0 : Calm V { V with drawn := V.drawn + 1 } := (Touch.refl (fun _ => False) V).drew
                  refine wpAnyZ_yield 0 204 (.int .i64 (xl : Int)) [3, 4, 8, 9, 11, 12] rfl rfl (by kernel_rfl) (by kernel_rfl) (by kernel_rfl) (by kernel_rfl) (by kernel_rfl) (fun _ _ _ h => h) (by kernel_rfl) (fun W hW => by have c0 := (one_cell (hW.at H14'.out)).1; go_simp) (by assumption) rfl rfl ?_
                  simp only [Act.put, List.setIfInBounds_toArray, List.set_cons_zero, List.set_cons_succ]
                  refine wpAnyZ_yield 1 205 (.pointer (some ⟨m, 0, none⟩)) [2, 3, 4, 8, 9, 11, 12] rfl rfl (by kernel_rfl) (by kernel_rfl) (by kernel_rfl) (by kernel_rfl) (by kernel_rfl) (fun _ _ _ h => h) (by kernel_rfl) (fun W hW => by have c0 := (one_cell (hW.at H7.out)).1; go_simp) (by assumption) rfl rfl ?_
                  simp only [Act.put, List.setIfInBounds_toArray, List.set_cons_zero, List.set_cons_succ]
                  refine wpAnyZ_enter 2 206 29 #[.pointer (some ⟨m, 0, none⟩)] rfl rfl (by decide) (by kernel_rfl) (by kernel_rfl) (by kernel_rfl) ?_
                  refine (LN.out _ hT0).mono ?_
                  rintro r _ ⟨rfl, rfl⟩
                  refine ⟨_, rfl, hT0, ?_⟩
                  simp only [Act.put, List.setIfInBounds_toArray, List.set_cons_zero, List.set_cons_succ]
                  refine wpAnyZ_yield 3 207 (.bool true) [4, 8, 9, 11, 12] rfl rfl (by kernel_rfl) (by kernel_rfl) (by kernel_rfl) (by kernel_rfl) (by kernel_rfl) (fun _ _ _ h => h) (by kernel_rfl) (fun W hW => by go_simp) (by assumption) rfl rfl ?_
                  simp only [Act.put, List.setIfInBounds_toArray, List.set_cons_zero, List.set_cons_succ]
                  refine wpAnyZ_yield 4 208 (.bool true) [8, 9, 11, 12] rfl rfl (by kernel_rfl) (by kernel_rfl) (by kernel_rfl) (by kernel_rfl) (by kernel_rfl) (fun _ _ _ h => h) (by kernel_rfl) (fun W hW => by kernel_rfl) (by assumption) rfl rfl ?_
                  simp only [Act.put, List.setIfInBounds_toArray, List.set_cons_zero, List.set_cons_succ]
                  refine wpAnyZ_yield 5 209 (.int .i64 (xl : Int)) [7, 8, 9, 11, 12] rfl rfl (by kernel_rfl) (by kernel_rfl) (by kernel_rfl) (by kernel_rfl) (by kernel_rfl) (fun _ _ _ h => h) (by kernel_rfl) (fun W hW => by have c0 := (one_cell (hW.at H25.out)).1; go_simp) (by assumption) rfl rfl ?_
                  simp only [Act.put, List.setIfInBounds_toArray, List.set_cons_zero, List.set_cons_succ]
                  refine wpAnyZ_yield 6 210 (.int .i64 (xl : Int)) [7, 8, 9, 11, 12] rfl rfl (by kernel_rfl) (by kernel_rfl) (by kernel_rfl) (by kernel_rfl) (by kernel_rfl) (fun _ _ _ h => h) (by kernel_rfl) (fun W hW => by have c0 := (one_cell (hW.at H14'.out)).1; go_simp) (by assumption) rfl rfl ?_
                  simp only [Act.put, List.setIfInBounds_toArray, List.set_cons_zero, List.set_cons_succ]
                  refine wpAnyZ_yield 7 211 (.bool true) [8, 9, 11, 12] rfl rfl (by kernel_rfl) (by kernel_rfl) (by kernel_rfl) (by kernel_rfl) (by kernel_rfl) (fun _ _ _ h => h) (by kernel_rfl) (fun W hW => by go_simp) (by assumption) rfl rfl ?_
                  simp only [Act.put, List.setIfInBounds_toArray, List.set_cons_zero, List.set_cons_succ]
                  refine wpAnyZ_yield 8 212 (.bool true) [9, 11, 12] rfl rfl (by kernel_rfl) (by kernel_rfl) (by kernel_rfl) (by kernel_rfl) (by kernel_rfl) (fun _ _ _ h => h) (by kernel_rfl) (fun W hW => by kernel_rfl) (by assumption) rfl rfl ?_
                  simp only [Act.put, List.setIfInBounds_toArray, List.set_cons_zero, List.set_cons_succ]
                  refine wpAnyZ_yield 9 213 (.bool true) [11, 12] rfl rfl (by kernel_rfl) (by kernel_rfl) (by kernel_rfl) (by kernel_rfl) (by kernel_rfl) (fun _ _ _ h => h) (by kernel_rfl) (fun W hW => by kernel_rfl) (by assumption) rfl rfl ?_
                  simp only [Act.put, List.setIfInBounds_toArray, List.set_cons_zero, List.set_cons_succ]
                  refine wpAnyZ_enter 10 214 12 #[] rfl rfl (by decide) (by kernel_rfl) (by kernel_rfl) (by kernel_rfl) ?_
                  refine (IM.works_any _).mono ?_
                  rintro r x8 ⟨rfl, t8⟩
                  have hT8 : Calm V x8 := hT0.tr t8
                  refine ⟨_, rfl, hT8, ?_⟩
                  simp only [Act.put, List.setIfInBounds_toArray, List.set_cons_zero, List.set_cons_succ]
                  refine wpAnyZ_yield 11 215 (.bool true) [12] rfl rfl (by kernel_rfl) (by kernel_rfl) (by kernel_rfl) (by kernel_rfl) (by kernel_rfl) (fun _ _ _ h => h) (by kernel_rfl) (fun W hW => by kernel_rfl) (by assumption) rfl rfl ?_
                  simp only [Act.put, List.setIfInBounds_toArray, List.set_cons_zero, List.set_cons_succ]
                  refine wpAnyZ_end rfl (by kernel_rfl) (by kernel_rfl) (by kernel_rfl) ?_
                  obtain ⟨c6, f6⟩ := one_cell (hT8.at H6.out)
                  have K6 := hide (set_one (.bool true) (hT8.at H6.out))
                  have TM : Hid (Touch (fun g => g = B6) V (x8.setCell ⟨B6, 0, none⟩ (.bool true))) := hide ((hT8.mono (fun _ _ h => h.elim)).trans ((Touch.refl (fun g => g = B6) x8).setCell (p := ⟨B6, 0, none⟩) (fun _ => rfl) _) (fun _ _ h => h))
                  clear hT0 t8 hT8
                  unfold Oper.wp
                  go_simp
                  rw [onlyN_normal]
                  gi_wp2
                  refine leaves_marks [D3, D2, D1] _ (fun D hD => TM.out.heap (HDS.out D hD) (fun e => by
                    subst e
                    have h1 := HDS.out D hD
                    rw [H6.out] at h1
                    cases h1)) HND.out (fun W2 tw => ?_)
                  have r6 := (one_cell (tw.heap K6.out (fun hm => by
                    have h1 := TM.out.heap (HDS.out _ hm) (fun e => by
                      have h1 := HDS.out _ hm
                      rw [H6.out] at h1
                      cases h1)
                    rw [K6.out] at h1
                    cases h1))).1
                  exact ⟨.bool true, by simp [results, Try.results5, go_sem, r6], rfl, (HCV.out.trans TM.out (fun g hg e => by have := TX3.out.lo.1; omega)).trans tw (fun g hg hm => by
                    have h1 := HDM.out g hm
                    have h2 := TX3.out.calm.size
                    omega)⟩
              case st3 => exact fun D c k W hD hkm h hd => h.elim
            case st2 => exact fun D c k W hD hkm h hd => h.elim
          case stop => exact fun D c k W hD hkm h hd => h.elim

end Go.Proofs.Ytcbaloenlodkdaa.XM
