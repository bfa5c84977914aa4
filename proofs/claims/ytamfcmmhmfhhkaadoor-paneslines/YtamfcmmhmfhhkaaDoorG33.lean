/- The program's panes by keys. The program's side: two lists of panes, cell by cell. Panes by keys: what begins and is as long is all (mathematics). -/
import Derived.Test.YtamfcmmhmfhhkaaDoorG32
import Derived.Deep.CutRange
import Derived.Test.YtamfcmmhmfhhkaaDoorG6
import Derived.Test.YtamfcmmhmfhhkaaDoorG15
namespace Go.Proofs.YtamfcmmhmfhhkaaDoor
open Go.RowKit LM

theorem exec_appK {ρ : Operand → Value} {o : Oper} {s x : Operand} {t : TypeId} {w w' : World} {v' : Value} (ho : o.op = .call { callee := .builtin .append, args := #[s, x], argTypes := #[t, t] })
    (h : (Builtin.append_ #[t, t] o.type #[ρ s, ρ x]).run Tryd.prog w = .ok v' w') : (execOp ρ o).run Tryd.prog w = .ok (.value v') w' := by
  unfold execOp
  simp only [ho, resolve, invoke, builtin, Sem.run_bind, Sem.run_pure, Result.andThen_ok, List.map_toArray, List.map_cons, List.map_nil, h]

set_option maxRecDepth 100000 in
set_option maxHeartbeats 4000000 in
theorem byKeys_any (L : List Pn) (ao : Option Addr) (ac : Nat) (w : World) (ha : encP.Mem w ao L) (hl : L.length ≤ 100000) : Calls Tryd.prog 56 #[.slice ao L.length ac] w fun e w' => ∃ m X, e = .returned (.pointer (some ⟨m, 0, none⟩)) ∧ Bk w.heap.size m L X w' ∧ w.heap.size ≤ m ∧ Calm w w' := by
  have CO := hide (LM.of_any w)
  obtain ⟨x, hx⟩ : ∃ x : Nat → Pn, ∀ i, x i = L.getD i pn0 := ⟨fun i => L.getD i pn0, fun _ => rfl⟩
  obtain ⟨o, ho⟩ : ∃ o : Nat → List Pn, ∀ i, o i = L.take i := ⟨fun i => L.take i, fun _ => rfl⟩
  have SA : Hid (∀ j, j < L.length → ∃ g off, ao = some ⟨g, off, none⟩ ∧ ∀ W, Calm w W → pcell W g (off + j * 9) (x j)) := hide fun j hj => by
    rw [hx]; exact pn_W ha j hj
  have OS : Hid (∀ i, i < L.length → o (i + 1) = o i ++ [x i]) := hide fun i hi => by
    rw [ho, ho, hx, List.take_add_one, List.getElem?_eq_getElem hi, List.getD_eq_getElem?_getD, List.getElem?_eq_getElem hi]
    rfl
  have OL : Hid (∀ i, i ≤ L.length → (o i).length ≤ i) := hide fun i _ => by rw [ho, List.length_take]; omega
  have O0 : Hid (o 0 = []) := hide (by rw [ho]; rfl)
  have OE : Hid (o L.length = L) := hide (by rw [ho, List.take_length])
  clear ho hx ha
  generalize hn : L.length = n at *
  go_enter Tryd.func56, Tryd.ntmps56
  go_wp2_with fail
  refine CO.out.mono ?_
  rintro e w1 ⟨m, rfl, hM, hm0, T1⟩
  have B0 : Hid (Bk w.heap.size m (o 0) [] w1) := hide (by rw [O0.out]; exact Bk.none hM)
  have HM0 := hide hm0
  have HT1 := hide T1
  clear hM hm0 T1 CO O0
  go_wp2_with fail
  go_loopw [11] (fun s11 wr => ∃ (i : Nat) (X : List Rw), s11 = .int .i64 (i : Int) ∧ i ≤ n ∧ Bk w.heap.size m (o i) X wr ∧ Calm w wr) (fun s11 _ => n - (intOf s11).toNat)
  case atStart => exact ⟨0, [], rfl, by omega, B0.out, HT1.out⟩
  case round =>
    obtain ⟨i, X, rfl, hi, hB, hC⟩ := hrel
    by_cases hlt : i < n
    · have hltz : (i : Int) < (n : Int) := by omega
      obtain ⟨g, off, rfl, ca⟩ := SA.out i hlt
      have crow := ca wr hC
      have hs := hide (OS.out i hlt)
      have hol := hide (OL.out i (by omega))
      have BI := hide hB
      have HC := hide hC
      have hi9 : (Tryd.prog.info? 29).map (·.size) = some 9 := by kernel_rfl
      clear SA OS OL OE ca hB hC B0 HT1
      generalize x i = p at *
      have Z0 := hide (al_new wr (.cells (pnc pn0) 29))
      have Z1 := hide (setRow_heap _ _ _ (pnc p) _ _ Z0.out)
      have Z2 : Hid (Touch (fun _ => False) wr ((wr.alloc (.cells (pnc pn0) 29)).setRow wr.heap.size (pnc p))) := hide (((Touch.refl (fun _ => False) wr).alloc _).trans (S' := fun g => g = wr.heap.size) ⟨rfl, rfl, rfl, by simp, fun j _ hj => setRow_other _ _ j _ hj⟩ (fun g hg e => by omega))
      have hq1 : Hid ((pnc p).all (·.oneCell') = true) := hide (by simp [Value.oneCell'])
      have B2 := hide (BI.out.calm Z2.out)
      have HC2 := hide (HC.out.tr Z2.out)
      have CG := hide (LM.get_any cmpOf m p.k _ X B2.out.mt trivial (B2.out.up.dec cmpS_ord p.k))
      have HDw : Hid (∀ g, (Value.slice (was (cmpS p.k) X).1 (was (cmpS p.k) X).2.1 (was (cmpS p.k) X).2.2).ownBlock = some g → g < wr.heap.size) := hide fun g hg => by
        obtain ⟨-, cur, e⟩ := Rc.own_block (BI.out.at p.k).1 hg
        exact lt_of_heap e
      obtain ⟨⟨c0, c1, c2, c3, c4⟩, c5, c6, c7, c8⟩ := crow
      clear BI HC
      go_upto_region 5 with (refine wpList_store_rowTo rfl 29 (.tmp 5) (.tmp 14) rfl rfl wr.heap.size (pnc p) rfl rfl 29 _ Z0.out hi9 rfl hq1.out ?_)
      clear c0 c1 c2 c3 c4 c5 c6 c7 c8
      generalize (wr.alloc (.cells (pnc pn0) 29)).setRow wr.heap.size (pnc p) = w3 at *
      clear Z0 Z2
      generalize wr.heap.size = D at *
      obtain ⟨⟨c0, c1, c2, c3, c4⟩, c5, c6, c7, c8⟩ := pn_cells Z1.out
      go_upto_region 6 with fail
      refine CG.out.mono ?_
      rintro e w4 ⟨rfl, T4⟩
      go_upto_region 6 with fail
      clear c0 c1 c2 c3 c4 c5 c6 c7 c8
      have B4 := hide (B2.out.calm T4)
      have Z4 := hide (T4.at Z1.out)
      have HC4 := hide (HC2.out.tr T4)
      clear T4 CG B2 Z1 HC2
      refine wp_region_z 7 (fun W => W.heap[D]? = some (.cells (pnc p) 29 (0, 0))) (by kernel_rfl) ?_
      have hT0 : ({ w4 with drawn := w4.drawn + 1 } : World).heap[D]? = some (.cells (pnc p) 29 (0, 0)) := Z4.out
      have hTd : Calm w4 { w4 with drawn := w4.drawn + 1 } := (Touch.refl _ w4).drew
      have B5 := hide (B4.out.calm hTd)
      have HC5 := hide (HC4.out.tr hTd)
      have HDs : Hid (D < ({ w4 with drawn := w4.drawn + 1 } : World).heap.size) := hide (lt_of_heap hT0)
      have HMs : Hid (m < ({ w4 with drawn := w4.drawn + 1 } : World).heap.size) := hide (by obtain ⟨ro, h1, -⟩ := B5.out.mt; exact lt_of_heap h1)
      clear hTd B4 HC4 Z4
      generalize ({ w4 with drawn := w4.drawn + 1 } : World) = wa at *
      have SEE : Hid (∀ W : World, W.heap[D]? = some (.cells (pnc p) 29 (0, 0)) → W.cell? ⟨D, 0, none⟩ = some (.string p.k)) := hide fun W hW => (pn_cells hW).1.1
      refine wpAnyZ_yield 0 22 (.pointer (some ⟨m, 0, none⟩)) [7] rfl rfl (by kernel_rfl) (by kernel_rfl) (by kernel_rfl) (by kernel_rfl) (by kernel_rfl) (fun _ _ _ h => h) (by kernel_rfl) (fun W hW => by kernel_rfl) (by assumption) rfl rfl ?_
      simp only [Act.put, List.setIfInBounds_toArray, List.set_cons_zero, List.set_cons_succ]
      refine wpAnyZ_yield 1 23 (.pointer (some ⟨D, 0, none⟩)) [2, 7] rfl rfl (by kernel_rfl) (by kernel_rfl) (by kernel_rfl) (by kernel_rfl) (by kernel_rfl) (fun _ _ _ h => h) (by kernel_rfl) (fun W hW => by go_simp) (by assumption) rfl rfl ?_
      simp only [Act.put, List.setIfInBounds_toArray, List.set_cons_zero, List.set_cons_succ]
      refine wpAnyZ_yield 2 24 (.string p.k) [7] rfl rfl (by kernel_rfl) (by kernel_rfl) (by kernel_rfl) (by kernel_rfl) (by kernel_rfl) (fun _ _ _ h => h) (by kernel_rfl) (fun W hW => by have c0 := SEE.out W hW; go_simp) (by assumption) rfl rfl ?_
      simp only [Act.put, List.setIfInBounds_toArray, List.set_cons_zero, List.set_cons_succ]
      refine wpAnyZ_yield 3 25 (.slice (was (cmpS p.k) X).1 (was (cmpS p.k) X).2.1 (was (cmpS p.k) X).2.2) [6, 7] rfl rfl (by kernel_rfl) (by kernel_rfl) (by kernel_rfl) (by kernel_rfl) (by kernel_rfl) (fun _ _ _ h => h) (by kernel_rfl) (fun W hW => by kernel_rfl) (by assumption) rfl rfl ?_
      simp only [Act.put, List.setIfInBounds_toArray, List.set_cons_zero, List.set_cons_succ]
      refine wpAnyZ_yield 4 26 (pnv p) [5, 6, 7] rfl rfl (by kernel_rfl) (by kernel_rfl) (by kernel_rfl) (by kernel_rfl) (by kernel_rfl) (fun _ _ _ h => h) (by kernel_rfl) (fun W hW => by obtain ⟨⟨c0, c1, c2, c3, c4⟩, c5, c6, c7, c8⟩ := pn_cells hW; go_simp) (by assumption) rfl rfl ?_
      simp only [Act.put, List.setIfInBounds_toArray, List.set_cons_zero, List.set_cons_succ]
      have PN := Rc.Mem.new (E := encP) wa [p] 29
      have al : Calm wa (wa.alloc (.cells (pnc p) 29)) := (Touch.refl _ _).alloc _
      have als : (wa.alloc (.cells (pnc p) 29)).heap.size = wa.heap.size + 1 := al_size _ _
      refine wpAnyZ_value 5 27 (.slice (some ⟨wa.heap.size, 0, none⟩) 1 1) (w' := wa.alloc (.cells (pnc p) 29)) rfl rfl (by decide) (by kernel_rfl) (by kernel_rfl) (by go_simp) (al.at hT0) ?_
      simp only [Act.put, List.setIfInBounds_toArray, List.set_cons_zero, List.set_cons_succ]
      obtain ⟨ow, sep⟩ := B5.out.at p.k
      have hle := ofP_le (o i) p.k
      have hol2 := hol.out
      have hcs := HC5.out.size
      obtain ⟨i0, hi0, hz, hsz, hby⟩ := Rc.info_parts infoPane
      obtain ⟨a2, p2, w6, hr, ow6, t6, hx6⟩ := Rc.Own.appw (E := encP) (ty := 22) Tryd.underlying22 hi0 hz hsz hby rfl (Rc.Own.calm ow al) (some ⟨wa.heap.size, 0, none⟩) 1 [p] PN (fun h => (nomatch h)) (by unfold maxLen; simp only [List.length_cons, List.length_nil]; omega) (by simp only [List.length_cons, List.length_nil]; omega) (by omega) (by omega)
      have t7 := Touch.trans (S := fun g => (Value.slice (was (cmpS p.k) X).1 (was (cmpS p.k) X).2.1 (was (cmpS p.k) X).2.2).ownBlock = some g) (al.mono fun _ _ h => h.elim) t6 fun _ _ h => h
      obtain ⟨mt6, fin⟩ := B5.out.app p (a2, (ofP (o i) p.k ++ [p]).length, p2) ow6 t7 fun g hg => (hx6 g hg).imp id fun h => by omega
      have hD6 : w6.heap[D]? = some (.cells (pnc p) 29 (0, 0)) := t7.heap hT0 fun hg => Nat.lt_irrefl _ (HDw.out D hg)
      refine wpAnyZ_value 6 28 (.slice a2 (ofP (o i) p.k ++ [p]).length p2) (w' := w6) rfl rfl (by decide) (by kernel_rfl) (by kernel_rfl) (exec_appK rfl hr) hD6 ?_
      simp only [Act.put, List.setIfInBounds_toArray, List.set_cons_zero, List.set_cons_succ]
      have hC6 : Calm w w6 := HC5.out.trans t7 fun g hg hs => by have := (Rc.own_block ow hs).1; omega
      have hnum := B5.out.num
      have CPt := hide (LM.put_any cmpOf m p.k (a2, (ofP (o i) p.k ++ [p]).length, p2) w6 X mt6 trivial (B5.out.up.dec cmpS_ord p.k) ⟨by omega⟩)
      have FIN : Hid (∀ W5, Mt W5 m 44 #[] (lput (cmpS p.k) p.k (a2, (ofP (o i) p.k ++ [p]).length, p2) X) → Touch (fun g => g = m) w6 W5 → Bk w.heap.size m (o (i + 1)) (lput (cmpS p.k) p.k (a2, (ofP (o i) p.k ++ [p]).length, p2) X) W5 ∧ Calm w W5) := hide fun W5 h1 h2 => ⟨by rw [hs.out]; exact fin W5 h1 h2, hC6.trans h2 fun g hg e => by have := HM0.out; omega⟩
      clear fin hC6 mt6 hD6 t7 t6 hx6 ow6 hr PN al als sep ow B5 hT0 HC5 SEE
      generalize (ofP (o i) p.k ++ [p]).length = ln at *
      refine wpAnyZ_last 29 67 #[.pointer (some ⟨m, 0, none⟩), .string p.k, .slice a2 ln p2] rfl rfl (by kernel_rfl) (by kernel_rfl) (by kernel_rfl) (by first | kernel_rfl | go_simp) (CPt.out.mono ?_)
      rintro e w7 ⟨rfl, m7, t7⟩
      obtain ⟨b7, c7⟩ := FIN.out w7 m7 t7
      have HB7 := hide b7
      have HC7 := hide c7
      refine ⟨_, rfl, ?_⟩
      clear FIN CPt m7 t7 b7 c7
      go_wp2_with fail
      go_roundw
      case rel => exact ⟨i + 1, _, by go_num, by omega, HB7.out, HC7.out⟩
      case measure => simp [intOf]; omega
    · have hltz : ¬ (i : Int) < (n : Int) := by omega
      obtain rfl : i = n := by omega
      rw [OE.out] at hB
      have HB := hide hB
      have HC := hide hC
      clear SA OS OL OE hB hC B0 HT1
      go_wp2_with fail
      go_ret
      exact ⟨m, rfl, ⟨X, HB.out⟩, HM0.out, HC.out⟩

end Go.Proofs.YtamfcmmhmfhhkaaDoor

namespace Go.Proofs.YtamfcmmhmfhhkaaDoor
open Go.RowKit

set_option maxRecDepth 100000 in
set_option maxHeartbeats 2000000 in
/-- The same lists. -/
theorem equalP_any (A B : List Pn) (ao bo : Option Addr) (ac bc : Nat) (w : World) (ha : encP.Mem w ao A) (hb : encP.Mem w bo B) (hl : A.length ≤ 140737488355328) (hm : B.length ≤ 140737488355328) : Calls Tryd.prog 59 #[.slice ao A.length ac, .slice bo B.length bc] w fun e w' => e = .returned (.bool (decide (A = B))) ∧ Calm w w' := by
  obtain ⟨x, hx⟩ : ∃ x : Nat → Pn, ∀ i, x i = A.getD i pn0 := ⟨fun i => A.getD i pn0, fun _ => rfl⟩
  obtain ⟨y, hy⟩ : ∃ y : Nat → Pn, ∀ i, y i = B.getD i pn0 := ⟨fun i => B.getD i pn0, fun _ => rfl⟩
  have SA : Hid (∀ j, j < A.length → ∃ g off, ao = some ⟨g, off, none⟩ ∧ ∀ W, Calm w W → pcell W g (off + j * 9) (x j)) := hide fun j hj => by
    rw [hx]; exact pn_W ha j hj
  have SB : Hid (∀ j, j < B.length → ∃ g off, bo = some ⟨g, off, none⟩ ∧ ∀ W, Calm w W → pcell W g (off + j * 9) (y j)) := hide fun j hj => by
    rw [hy]; exact pn_W hb j hj
  have HN : Hid (A.length ≠ B.length → decide (A = B) = false) := hide fun h => decide_eq_false fun e => h (by rw [e])
  have HE : Hid (A.length = B.length → (∀ j, j < A.length → x j = y j) → decide (A = B) = true) := hide fun h k => decide_eq_true (List.ext_getElem h fun j h1 h2 => by
    have := k j h1
    rw [hx, hy, List.getD_eq_getElem?_getD, List.getD_eq_getElem?_getD, List.getElem?_eq_getElem h1, List.getElem?_eq_getElem h2] at this
    exact this)
  have HF : Hid (∀ j, j < A.length → x j ≠ y j → decide (A = B) = false) := hide fun j hj k => decide_eq_false fun e => k (by rw [hx, hy, e])
  clear ha hb hx hy
  generalize decide (A = B) = z at *
  generalize hn : A.length = n at *
  generalize hm' : B.length = m at *
  go_enter Tryd.func59, Tryd.ntmps59
  by_cases hnm : n = m
  case neg =>
    have hz : ¬ (n : Int) = (m : Int) := by omega
    have hz0 := HN.out hnm
    subst hz0
    clear HN HE HF SA SB
    go_wp2_with fail
    go_ret
    exact ⟨rfl, Touch.refl _ _⟩
  subst hnm
  clear HN
  go_wp2_with fail
  go_loopw [13] (fun s13 wr => ∃ i : Nat, s13 = .int .i64 (i : Int) ∧ i ≤ n ∧ (∀ j, j < i → x j = y j) ∧ Calm w wr) (fun s13 _ => n - (intOf s13).toNat)
  case atStart => exact ⟨0, rfl, by omega, fun j hj => by omega, Touch.refl _ _⟩
  case round =>
    obtain ⟨i, rfl, hi, hS, hC⟩ := hrel
    by_cases hlt : i < n
    · have hltz : (i : Int) < (n : Int) := by omega
      obtain ⟨ga, oa, rfl, ca⟩ := SA.out i hlt
      obtain ⟨gb, ob, rfl, cb⟩ := SB.out i hlt
      have KA := hide ca
      have KB := hide cb
      have HC := hide hC
      have HS := hide hS
      have HQ := hide (fun h : x i ≠ y i => HF.out i hlt h)
      have HR := hide (fun h : x i = y i => (fun j (hj : j < i + 1) => if e : j = i then by subst e; exact h else hS j (by omega) : ∀ j, j < i + 1 → x j = y j))
      clear SA SB ca cb hC hS HF HE
      generalize x i = p at *
      generalize y i = q at *
      go_wp2_with fail
      refine wp_region_held (S := Calm w) (by kernel_rfl) ?_
      have hT0 : Calm w { wr with drawn := wr.drawn + 1 } := HC.out.drew
      refine wpAnyH_yield 0 16 (.slice (some ⟨ga, oa, none⟩) n ac) rfl rfl (by kernel_rfl) (by kernel_rfl) (by kernel_rfl) (fun _ _ _ h => h) (by kernel_rfl) (fun W hW => by kernel_rfl) (by assumption) rfl rfl ?_
      simp only [Act.put, List.setIfInBounds_toArray, List.set_cons_zero, List.set_cons_succ]
      refine wpAnyH_yield 1 17 (.int .i64 (i : Int)) rfl rfl (by kernel_rfl) (by kernel_rfl) (by kernel_rfl) (fun _ _ _ h => h) (by kernel_rfl) (fun W hW => by kernel_rfl) (by assumption) rfl rfl ?_
      simp only [Act.put, List.setIfInBounds_toArray, List.set_cons_zero, List.set_cons_succ]
      refine wpAnyH_yield 2 18 (.pointer (some ⟨ga, oa + i * 9, none⟩)) rfl rfl (by kernel_rfl) (by kernel_rfl) (by kernel_rfl) (fun _ _ _ h => h) (by kernel_rfl) (fun W hW => by go_simp) (by assumption) rfl rfl ?_
      simp only [Act.put, List.setIfInBounds_toArray, List.set_cons_zero, List.set_cons_succ]
      refine wpAnyH_yield 3 19 (pnv p) rfl rfl (by kernel_rfl) (by kernel_rfl) (by kernel_rfl) (fun _ _ _ h => h) (by kernel_rfl) (fun W hW => by obtain ⟨⟨c0, c1, c2, c3, c4⟩, c5, c6, c7, c8⟩ := KA.out W hW; go_simp) (by assumption) rfl rfl ?_
      simp only [Act.put, List.setIfInBounds_toArray, List.set_cons_zero, List.set_cons_succ]
      refine wpAnyH_yield 4 20 (.slice (some ⟨gb, ob, none⟩) n bc) rfl rfl (by kernel_rfl) (by kernel_rfl) (by kernel_rfl) (fun _ _ _ h => h) (by kernel_rfl) (fun W hW => by kernel_rfl) (by assumption) rfl rfl ?_
      simp only [Act.put, List.setIfInBounds_toArray, List.set_cons_zero, List.set_cons_succ]
      refine wpAnyH_yield 5 21 (.int .i64 (i : Int)) rfl rfl (by kernel_rfl) (by kernel_rfl) (by kernel_rfl) (fun _ _ _ h => h) (by kernel_rfl) (fun W hW => by kernel_rfl) (by assumption) rfl rfl ?_
      simp only [Act.put, List.setIfInBounds_toArray, List.set_cons_zero, List.set_cons_succ]
      refine wpAnyH_yield 6 22 (.pointer (some ⟨gb, ob + i * 9, none⟩)) rfl rfl (by kernel_rfl) (by kernel_rfl) (by kernel_rfl) (fun _ _ _ h => h) (by kernel_rfl) (fun W hW => by go_simp) (by assumption) rfl rfl ?_
      simp only [Act.put, List.setIfInBounds_toArray, List.set_cons_zero, List.set_cons_succ]
      refine wpAnyH_yield 7 23 (pnv q) rfl rfl (by kernel_rfl) (by kernel_rfl) (by kernel_rfl) (fun _ _ _ h => h) (by kernel_rfl) (fun W hW => by obtain ⟨⟨c0, c1, c2, c3, c4⟩, c5, c6, c7, c8⟩ := KB.out W hW; go_simp) (by assumption) rfl rfl ?_
      simp only [Act.put, List.setIfInBounds_toArray, List.set_cons_zero, List.set_cons_succ]
      refine wpAnyH_yield 8 24 (.bool (!decide (p = q))) rfl rfl (by kernel_rfl) (by kernel_rfl) (by kernel_rfl) (fun _ _ _ h => h) (by kernel_rfl) (fun W hW => by go_simp; exact pn_ifs p q (fun b => Result.ok (Next.value (.bool b)) W)) (by assumption) rfl rfl ?_
      simp only [Act.put, List.setIfInBounds_toArray, List.set_cons_zero, List.set_cons_succ]
      refine wpAnyH_done (by kernel_rfl) ?_ _
      have H1 := hide hT0
      clear hT0 HC
      by_cases hpq : p = q
      · have hd : (!decide (p = q)) = false := by rw [decide_eq_true hpq]; rfl
        have HX := hide (HR.out hpq)
        rw [hd]
        clear HR HQ hd
        go_wp2_with fail
        go_roundw
        case rel => exact ⟨i + 1, by go_num, by omega, HX.out, H1.out⟩
        case measure => simp [intOf]; omega
      · have hd : (!decide (p = q)) = true := by rw [decide_eq_false hpq]; rfl
        have hz := HQ.out hpq
        subst hz
        rw [hd]
        clear HR HQ hd
        go_wp2_with fail
        go_ret
        exact ⟨rfl, H1.out⟩
    · have hltz : ¬ (i : Int) < (n : Int) := by omega
      obtain rfl : i = n := by omega
      have HC := hide hC
      have hz := HE.out (by first | rfl | trivial) hS
      subst hz
      clear SA SB hC HE HF
      go_wp2_with fail
      go_ret
      exact ⟨rfl, HC.out⟩

end Go.Proofs.YtamfcmmhmfhhkaaDoor

namespace Go.Proofs.YtamfcmmhmfhhkaaDoor

def sumN : List Nat → Nat
  | [] => 0
  | x :: r => x + sumN r
theorem sum_up {α : Type} [DecidableEq α] (f g : α → Nat) (a : α) : ∀ {K : List α}, K.Nodup → a ∈ K → (∀ k, g k = f k + if k = a then 1 else 0) → sumN (K.map g) = sumN (K.map f) + 1
  | [], _, h, _ => by cases h
  | k :: K, hn, h, hg => by
    rw [List.nodup_cons] at hn
    rw [List.map_cons, List.map_cons, sumN, sumN, hg k]
    rcases List.mem_cons.1 h with rfl | h
    · have e : K.map g = K.map f := List.map_congr_left fun x hx => by
        rw [hg x, if_neg (fun e => hn.1 (by rw [← e]; exact hx)), Nat.add_zero]
      rw [e, if_pos rfl]
      omega
    · rw [if_neg (fun e => hn.1 (by rw [e]; exact h)), sum_up f g a hn.2 h hg]
      omega
theorem sum_eq {α : Type} (f g : α → Nat) : ∀ {K : List α}, (∀ k ∈ K, f k ≤ g k) → sumN (K.map f) = sumN (K.map g) → ∀ k ∈ K, f k = g k
  | [], _, _, k, hk => by cases hk
  | a :: K, hle, hs, k, hk => by
    have h1 := hle a (by simp)
    have h2 : sumN (K.map f) ≤ sumN (K.map g) := by
      have : ∀ {K : List α}, (∀ k ∈ K, f k ≤ g k) → sumN (K.map f) ≤ sumN (K.map g) := by
        intro K
        induction K with
        | nil => intro _; exact Nat.le_refl _
        | cons b K ih =>
          intro h
          rw [List.map_cons, List.map_cons, sumN, sumN]
          have := h b (by simp)
          have := ih fun k hk => h k (by simp [hk])
          omega
      exact this fun k hk => hle k (by simp [hk])
    rw [List.map_cons, List.map_cons, sumN, sumN] at hs
    rcases List.mem_cons.1 hk with rfl | hk
    · omega
    · exact sum_eq f g (fun k hk => hle k (by simp [hk])) (by omega) k hk
/-- A list's length is the sum over its keys. -/
theorem len_sum (K : List ByteArray) (hn : K.Nodup) : ∀ (A : List Pn), (∀ p ∈ A, p.k ∈ K) → A.length = sumN (K.map fun k => (ofP A k).length)
  | [], _ => by
    have e : (fun k : ByteArray => (ofP [] k).length) = fun _ => 0 := rfl
    rw [e]
    clear hn
    induction K with
    | nil => rfl
    | cons k K ih => rw [List.map_cons, sumN, ← ih fun p hp => (nomatch hp)]; rfl
  | p :: A, h => by
    rw [List.length_cons, len_sum K hn A fun q hq => h q (by simp [hq])]
    refine (sum_up (fun k => (ofP A k).length) _ p.k hn (h p (by simp)) fun k => ?_).symm
    unfold ofP
    rw [List.filter_cons]
    by_cases e : p.k = k
    · subst e; simp
    · have e2 : ¬ k = p.k := fun h => e h.symm
      simp [e, e2]
theorem krise_nodup {O : List ByteArray} (h : KRise O) : O.Nodup := h.imp fun {a b} hab e => by
  subst e
  rw [kLt_self] at hab
  cases hab
theorem begins_at {A B : List Pn} (h : beginsP A B = true) (k : ByteArray) : (ofP A k).length ≤ (ofP B k).length ∧ ofP A k = (ofP B k).take (ofP A k).length := by
  by_cases hk : k ∈ keysP A
  · unfold beginsP at h
    rw [List.all_eq_true] at h
    have := h k hk
    unfold okB at this
    rw [Bool.and_eq_true, decide_eq_true_eq, decide_eq_true_eq] at this
    exact this
  · have e : ofP A k = [] := by
      by_cases e : ofP A k = []
      · exact e
      · exact absurd (keys_of.2 e) hk
    rw [e]
    exact ⟨Nat.zero_le _, by simp⟩
theorem ali_of {A B : List Pn} : aliP A B = (decide (A.length = B.length) && beginsP A B) := by
  unfold aliP
  by_cases hb : beginsP A B = true
  · rw [hb, Bool.true_and, Bool.and_true]
    by_cases hl : A.length = B.length
    · rw [decide_eq_true hl]
      have hK := keys_rise (A ++ B)
      have hn := krise_nodup hK
      have hA := len_sum _ hn A fun p hp => (keys_mem _ _).2 ⟨p, by simp [hp], rfl⟩
      have hB := len_sum _ hn B fun p hp => (keys_mem _ _).2 ⟨p, by simp [hp], rfl⟩
      have he := sum_eq (fun k => (ofP A k).length) (fun k => (ofP B k).length) (K := keysP (A ++ B)) (fun k _ => (begins_at hb k).1) (by rw [← hA, ← hB, hl])
      refine begins_yes fun k => ⟨[], ?_⟩
      rw [List.append_nil]
      have h1 := begins_at hb k
      by_cases hk : k ∈ keysP (A ++ B)
      · have h2 := he k hk
        have h3 := h1.2
        rw [show (ofP A k).length = (ofP B k).length from h2, List.take_length] at h3
        exact h3
      · have e : ofP (A ++ B) k = [] := by
          by_cases e : ofP (A ++ B) k = []
          · exact e
          · exact absurd (keys_of.2 e) hk
        rw [ofP_app, List.append_eq_nil_iff] at e
        rw [e.1, e.2]
    · rw [decide_eq_false hl]
      by_cases hb2 : beginsP B A = true
      · exfalso
        exact hl (same_len fun k => by
          have h1 := begins_at hb k
          have h2 := begins_at hb2 k
          have e : (ofP A k).length = (ofP B k).length := by omega
          have h3 := h1.2
          rw [e, List.take_length] at h3
          exact h3)
      · exact Bool.eq_false_iff.2 hb2
  · rw [Bool.eq_false_iff.2 hb, Bool.false_and, Bool.and_false]

end Go.Proofs.YtamfcmmhmfhhkaaDoor
