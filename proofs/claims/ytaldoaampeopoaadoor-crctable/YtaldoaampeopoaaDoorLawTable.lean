/- The Go law CrcTable returns true and leaves all memory that was there as it was: Table is the document's table, told anew each time. Condition: the package variable fourSteps starts as the program's text lays it (the card ties it). -/
import Derived.Test.YtaldoaampeopoaaDoorLaid
import Derived.Test.YtaldoaampeopoaaDoorWorks
import Derived.Test.YtaldoaampeopoaaDoorRef2
import Derived.Test.YtaldoaampeopoaaDoorTbl
import Derived.Test.YtaldoaampeopoaaDoorArrEq
namespace Go.Proofs.YtaldoaampeopoaaDoor
open Go.ChangeShapes Go.WideShapes Go.ChangeAt Go.RowKit Crcx

/-- A block that holds the table from number n on. -/
structure From (w : World) (g n : Nat) : Prop where
  block : ∃ c, w.heap[g]? = some (.cells c 33 (0, 0)) ∧ c.size = 256 ∧ ∀ i, n ≤ i → i < 256 → c[i]? = some (.int .u32 ((stps 8 i : Nat) : Int))

theorem From.touch {S : Nat → Prop} {w w' : World} {g n : Nat} (h : From w g n) (ht : Touch S w w') (hn : ¬ S g) : From w' g n := by
  obtain ⟨c, h1, h2, h3⟩ := h.block
  exact ⟨c, (ht.block g (Array.getElem?_eq_some_iff.1 h1).1 hn).trans h1, h2, h3⟩

theorem From.cell {w : World} {g n : Nat} (h : From w g n) (hn : n < 256) : w.cell? ⟨g, n, none⟩ = some (.int .u32 ((stps 8 n : Nat) : Int)) := by
  obtain ⟨c, h1, h2, h3⟩ := h.block
  rw [cell_of_row w g n c _ _ h1, h3 n (Nat.le_refl _) hn]

theorem From.frozen {w : World} {g n : Nat} (h : From w g n) (i : Nat) : w.frozen? ⟨g, i, none⟩ = false := by
  obtain ⟨c, h1, _⟩ := h.block
  simp [World.frozen?, h1]

theorem From.put {w : World} {g n : Nat} (h : From w g n) (v : Value) : From (w.setCell ⟨g, n, none⟩ v) g (n + 1) := by
  obtain ⟨c, h1, h2, h3⟩ := h.block
  refine ⟨_, heap_setCell_row h1 _, by simp [h2], fun i hi hj => ?_⟩
  rw [Array.getElem?_setIfInBounds_ne (by omega)]; exact h3 i (by omega) hj

theorem rsum_lit1 (w : World) :
    Calls Tryd.prog 11 #[.slice (some ⟨w.heap.size, 0, none⟩) 1 1] (w.alloc (.cells #[.int .u8 1] 5))
      fun e w' => e = .returned (.int .u32 2685849682) ∧ Touch (fun _ => False) w w' := by
  obtain ⟨o, ho⟩ : ∃ o, o = Obj.cells #[.int .u8 1] 5 (0, 0) := ⟨_, rfl⟩
  rw [← ho]
  have T : Touch (fun _ => False) w (w.alloc o) := (Touch.refl _ _).alloc _
  have b1 : (w.alloc o).heap[w.heap.size]? = some o := heap_alloc_last w _
  generalize w.alloc o = W at *
  rw [ho] at b1
  have := rsum_any (some ⟨w.heap.size, 0, none⟩) [1] 1 W (seg_of b1 rfl) a1 (by decide)
  rw [s1] at this
  refine this.mono ?_
  rintro e w' ⟨rfl, rfl⟩
  exact ⟨rfl, T⟩

set_option maxRecDepth 100000 in
set_option maxHeartbeats 1000000 in
theorem table_walk (w : World) (ht : Tab w) :
    Calls Tryd.prog 4 #[] w fun e w' => e = .returned (.bool true) ∧ Touch (fun _ => False) w w' := by
  obtain ⟨c0, hz, hc0⟩ := zero256
  obtain ⟨iu, hiu⟩ := Option.isSome_iff_exists.1 (show (Tryd.prog.info? 23).isSome = true by kernel_rfl)
  have hc0s : c0.size = 256 := by rw [hc0]; simp
  clear hc0
  go_enter Tryd.func4, Tryd.ntmps4
  go_wp2_with fail
  refine (table_any _ ht).mono ?_
  rintro e w1 ⟨c1, rfl, hc1, t1⟩
  have i1 := hc1.info
  have s1 : c0.size = c1.size := by rw [hc0s, hc1.size]
  have o1 : c1.all (·.oneCell') = true := all_one hc1.size (fun i hi => ⟨_, hc1.at_ i hi⟩)
  go_wp2_with (refine wpList_store_all rfl rfl 33 (.tmp 1) (.tmp 5) rfl w1.heap.size c1 rfl rfl 33 c0 (heap_alloc_last w1 _) i1 s1 o1 ?_)
  have ta : Touch (fun _ => False) w ((w1.alloc (.cells c0 33)).setRow w1.heap.size c1) := (t1.alloc _).setRow c1 (fun h => by have := t1.size; omega)
  have fa : From ((w1.alloc (.cells c0 33)).setRow w1.heap.size c1) w1.heap.size 0 := ⟨c1, setRow_heap _ _ c0 c1 _ _ (heap_alloc_last w1 _), hc1.size, fun i _ hi => hc1.at_ i hi⟩
  have hA : w.heap.size ≤ w1.heap.size := t1.size
  generalize (w1.alloc (.cells c0 33)).setRow w1.heap.size c1 = wa at *
  generalize w1.heap.size = A at *
  clear i1 s1 o1 t1
  refine (table_any _ (ht.touch ta (fun h => h))).mono ?_
  rintro e w2 ⟨c2, rfl, hc2, t2⟩
  have i2 := hc2.info
  have s2 : c0.size = c2.size := by rw [hc0s, hc2.size]
  have o2 : c2.all (·.oneCell') = true := all_one hc2.size (fun i hi => ⟨_, hc2.at_ i hi⟩)
  go_wp2_with (refine wpList_store_all rfl rfl 33 (.tmp 2) (.tmp 6) rfl w2.heap.size c2 rfl rfl 33 c0 (heap_alloc_last w2 _) i2 s2 o2 ?_)
  have tb : Touch (fun _ => False) w ((w2.alloc (.cells c0 33)).setRow w2.heap.size c2) := ((ta.trans t2 (fun _ _ h => h)).alloc _).setRow c2 (fun h => by have := ta.size; have := t2.size; omega)
  have tab : Touch (fun k => k = w2.heap.size) wa ((w2.alloc (.cells c0 33)).setRow w2.heap.size c2) := ((t2.mono (S' := fun k => k = w2.heap.size) (fun _ _ h => h.elim)).alloc _).setRow c2 (fun _ => rfl)
  have hAB : A < w2.heap.size := by
    obtain ⟨c, h1, _⟩ := fa.block
    have := (Array.getElem?_eq_some_iff.1 h1).1
    have := t2.size
    omega
  have fb := fa.touch tab (by omega)
  have hb : Held ((w2.alloc (.cells c0 33)).setRow w2.heap.size c2) w2.heap.size 33 c2 := ⟨setRow_heap _ _ c0 c2 _ _ (heap_alloc_last w2 _)⟩
  have hB : w.heap.size ≤ w2.heap.size := by have := ta.size; have := t2.size; omega
  generalize (w2.alloc (.cells c0 33)).setRow w2.heap.size c2 = wb at *
  generalize w2.heap.size = B at *
  clear s2 o2 t2 ta fa tab
  go_loopw [3] (fun i wr => ∃ n : Nat, i = .int .i64 n ∧ n ≤ 256 ∧ From wr A n ∧ Held wr B 33 c2 ∧ Touch (fun _ => False) w wr) (fun i _ => 256 - (intOf i).toNat)
  case atStart => exact ⟨0, rfl, Nat.zero_le _, fb, hb, tb⟩
  case round =>
    obtain ⟨n, rfl, hn, hf, hh, htw⟩ := hrel
    clear fb hb tb
    by_cases hlast : n < 256
    · have hv := hf.cell hlast
      have hfz := hf.frozen n
      have RT := hide (fun W => rtable_any n hlast W)
      have hput := hide (hf.touch (Touch.refl (fun _ => False) wr).drew (fun h => h) |>.put (.int .u32 7))
      have tset : Touch (fun k => k = A) wr (wr.drew.setCell ⟨A, n, none⟩ (.int .u32 7)) := (Touch.refl (fun k => k = A) wr).drew.setCell (p := ⟨A, n, none⟩) (fun _ => rfl) _
      have hh1 := hide (hh.touch tset (by omega))
      have htw1 := hide (htw.trans tset (fun k hk h => by omega))
      generalize stps 8 n = y at *
      clear hf hh htw
      go_wp2_with fail
      go_region_with (go_at_call 17; refine (RT.out _).mono ?_; rintro r w5 ⟨rfl, rfl⟩)
      all_goals go_wp2_with fail
      all_goals go_roundw
      all_goals first
        | (case rel => exact ⟨n + 1, by go_num, by omega, hput.out, hh1.out, htw1.out⟩)
        | (case measure => simp [intOf]; omega)
    · have e : n = 256 := by omega
      subst e
      have HT := hide htw
      have ht3 := ht.touch htw (fun h => h)
      clear hf htw
      go_wp2_with fail
      refine (table_any _ ht3).mono ?_
      rintro e w3 ⟨c3, rfl, hc3, t3⟩
      have i3 := hc3.info
      have s3 : c0.size = c3.size := by rw [hc0s, hc3.size]
      have o3 : c3.all (·.oneCell') = true := all_one hc3.size (fun i hi => ⟨_, hc3.at_ i hi⟩)
      have hh3 := hh.touch t3 (fun h => h)
      have t4 : Touch (fun _ => False) w3 ((w3.alloc (.cells c0 33)).setRow w3.heap.size c3) := ((Touch.refl _ _).alloc _).setRow c3 (fun h => by omega)
      have hh4 := hh3.touch t4 (fun h => h)
      have hb4 := setRow_heap (w3.alloc (.cells c0 33)) w3.heap.size c0 c3 33 (0, 0) (heap_alloc_last w3 _)
      have heq := fun W => equalIn_same (k := .u32) Tryd.underlying33 hiu cellsU32 Tryd.underlying23 c2 c3 W (fun i hi => ⟨_, hc2.at_ i hi, hc3.at_ i hi⟩)
      have T4 := HT.out.trans (t3.trans t4 (fun _ _ h => h)) (fun _ _ h => h)
      have ht4 := ht.touch T4 (fun h => h)
      have SC := hide (fun W h => sum_lit1 W h [1] (0, 0) a1 (by decide) _ Go.Proofs.YtaldoaampeopoaaDoor.s1)
      have H4 := hide hh4
      have B4 := hide hb4
      have HT4 := hide T4
      clear hh4 hb4 T4 t3 t4 hh hh3
      go_wp2_with (first | refine wpList_store_all rfl rfl 33 (.tmp 4) (.tmp 19) rfl w3.heap.size c3 rfl rfl 33 c0 (heap_alloc_last w3 _) i3 s3 o3 ?_ | refine wpList_load_row rfl 33 (.tmp 2) rfl B rfl 33 c2 (0, 0) _ H4.out.block Tryd.underlying33 rfl i2 ?_ | refine wpList_load_row rfl 33 (.tmp 4) rfl w3.heap.size rfl 33 c3 (0, 0) _ B4.out Tryd.underlying33 rfl i3 ?_)
      have hw4 : ((w3.alloc (.cells c0 33)).setRow w3.heap.size c3).heap.size = w3.heap.size + 1 := by simp
      generalize (w3.alloc (.cells c0 33)).setRow w3.heap.size c3 = w4 at *
      rw [← hw4]
      refine (SC.out w4 ht4).mono ?_
      rintro e w5 ⟨rfl, ht5, t5⟩
      go_wp2_with fail
      refine (rsum_lit1 w5).mono ?_
      rintro e w6 ⟨rfl, t6⟩
      have ht6 := ht5.touch t6 (fun h => h)
      go_wp2_with fail
      refine (works_any w6 ht6).mono ?_
      rintro e w7 ⟨rfl, t7⟩
      go_wp2_with fail
      go_ret
      exact ⟨rfl, ((HT4.out.trans t5 (fun _ _ h => h)).trans t6 (fun _ _ h => h)).trans t7 (fun _ _ h => h)⟩

theorem table_contract (H : Type) (enc : TypeId × Value → H) (W : World) (base : Nat) (args : Array Value) (ds gs : List (DataW H)) (before : List MemPlace)
    (_hval : ∀ (j : Nat) t v, Tryd.f4.params[j]? = some t → args[j]? = some v → Value.okWide Tryd.prog W .any base t v)
    (hW : DataW.Whole enc Tryd.prog Tryd.f4.params.toList Rows.crcTableSpec.vars false W args.toList ds gs before) (hL : laidMetH Tryd.prog Rows.crcTableRow.laid W) :
    Calls Tryd.prog 4 args W fun e W' => ∃ v, e = .returned v ∧ Rows.crcTableSpec.post enc Tryd.prog Tryd.f4 false true false false W args v W' := by
  have hW' := hW
  obtain ⟨p, q, hA0, hV, rfl, hfz, hnd⟩ := hW
  have hA : DataW.TrodAll enc Tryd.prog W 0 (fun _ => true) true Tryd.f4.params.toList args.toList ds p := hA0
  rw [Tryd.params4] at hA
  obtain ⟨hargs, rfl, rfl⟩ := trodAll_nil hA
  obtain rfl : args = #[] := by cases args; simp_all
  obtain ⟨rfl, rfl⟩ := trodVars_none hV
  clear hA0
  simp only [List.append_nil] at hW'
  refine (table_walk W (table hL)).mono fun e W' ⟨he, ht⟩ => ?_
  subst he
  have bel := ht.below (fun _ _ h => h)
  exact ⟨_, rfl, _, _, _, [], [], [], hW', trodAll_mk1 (shut_bool Tryd.underlying4 _), trodAll_mk0, rfl, bel.frame _, fun h => by cases h⟩

theorem table_met (os : Os) : laidMet Tryd.prog Rows.crcTableRow.laid ((laidWorld os).forCall (fun _ _ => 0) ⟨#[], (#[] : Array Value), []⟩).memory :=
  laidMet_of_run' 8 (by kernel_rfl) (by kernel_rfl)
theorem table_reads (os : Os) {H : Type} (enc : TypeId × Value → H) : ∃ places, DataW.whole enc Tryd.prog ((laidWorld os).forCall (fun _ _ => 0) ⟨#[], (#[] : Array Value), []⟩).memory Tryd.f4.params.toList Rows.crcTableSpec.vars false (#[] : Array Value).toList 8 = some ([], [], places) :=
  ⟨[], by kernel_rfl⟩

set_option maxRecDepth 100000 in
theorem table_lifted (os : Os) (started : os.Started) (H : Type) (enc : TypeId × Value → H) (F : Stop.Interp) :
    ReturnsInHanded {} Tryd.checked os 4 .any ((OpenSpec.ofChange Rows.crcTableSpec).preRow enc Tryd.prog Tryd.f4 Rows.crcTableRow.domain false Rows.crcTableRow.laid) (((OpenSpec.ofChange Rows.crcTableSpec).at F).post enc Tryd.prog Tryd.f4 false true false false) := by
  obtain ⟨places, hx⟩ := table_reads os enc
  refine returnsInHanded_of_row (C := Tryd.checked) (s := (OpenSpec.ofChange Rows.crcTableSpec)) own started (by kernel_rfl) Tryd.func4
    (witness_row_at (enc := enc) (C := Tryd.checked) false (laidWorld os) (#[] : Array Value) rfl (by kernel_rfl) (by kernel_rfl) (by kernel_rfl)
      (OpenSpec.preRow_of_cond 8 hx (by kernel_rfl) (fun k hk => by cases hk) (by kernel_rfl) (table_met os))) ?_
  intro W base args ds gs before hval hW _ _ _ hL _ _
  exact table_contract H enc W base args ds gs before hval hW hL

theorem table_said : Rows.CrcTableSaid :=
  OpenClaim.holds_of_cond 4 Tryd.f4 rfl rfl rfl rfl rfl rfl rfl ⟨rfl, rfl, rfl, rfl, rfl⟩ rfl rfl rfl rfl rfl (by kernel_rfl) Tryd.func4 (by kernel_rfl)
    (of_decide_eq_true (by kernel_rfl)) (by unfold Func.isWrapper; first | (rw [if_pos (by decide +kernel)]; kernel_rfl) | (rw [if_neg (by decide +kernel)]; exact ⟨rfl, rfl⟩))
    (fun os started H enc _ F => by rw [OpenClaim.pre_eq_preRow]; exact table_lifted os started H enc F)

theorem table_plain (f : FuncId) (fn : Func) (hf : Tryd.pinned.checked.prog.funcNamed "keepsake/keepsakelaw02.CrcTable" = some f) (hfn : Tryd.pinned.checked.prog.funcs[f]? = some fn) :
    false = Tryd.pinned.checked.prog.looks [] ∧ ∀ (j : Nat) t, fn.params[j]? = some t → Tryd.pinned.checked.prog.wantsStandIn t = false := by
  obtain rfl : f = 4 := Option.some.inj ((show Tryd.prog.funcNamed "keepsake/keepsakelaw02.CrcTable" = some 4 by kernel_rfl).symm.trans hf) |>.symm
  obtain rfl : fn = Tryd.f4 := (Option.some.inj (Tryd.func4.symm.trans hfn)).symm
  refine ⟨by kernel_rfl, fun j t ht => ?_⟩
  rw [Tryd.params4] at ht
  simp at ht

theorem crcTable_holds : Rows.CrcTableCardSaid :=
  Claim7.holds_tied_plain_at .later [] _ _ _ _ table_said (fun _ h => by cases h) (by kernel_rfl) (fun _ h => by cases h) crcTable_row_tie rfl ⟨rfl, rfl⟩ (by kernel_rfl) rfl table_plain (by kernel_rfl)

#print axioms crcTable_holds
end Go.Proofs.YtaldoaampeopoaaDoor
