/- The document's Mark. -/
import Derived.Test.YtfmlbcddomggaaaVD
import Derived.Test.YtfmlbcddomggaaaYS
import Derived.Test.YtfmlbcddomggaaaVX
import Derived.Test.YtfmlbcddomggaaaVS
import Derived.Test.YtfmlbcddomggaaaMRw
import Derived.BigQuiet
import Derived.Deep.QuietTactic
namespace Go.Proofs.Ytfmlbcddomggaaa
open Go.RowKit

/-- What Mark answers. -/
def RetM (w : World) (e : Ending) (w' : World) (O : List Wn) (P : List Pn) : Prop :=
  ∃ oo oc po pc, e = .returned (.tuple #[.slice oo O.length oc, .slice po P.length pc]) ∧ encW.Own 30 w' w.heap.size (.slice oo O.length oc) O ∧ encP.Own 37 w' w.heap.size (.slice po P.length pc) P ∧ Calm w w'

/-- All windows, the panes so far, in memory. -/
structure Ms (w : World) (B b2 : Nat) (c : Cf) (a1 : Option Addr) (c1 : Nat) (A : List Wn) (po : Option Addr) (pc : Nat) (P : List Pn) (wr : World) : Prop where
  cf : wr.heap[B]? = some (.cells (cfc c) 24 (0, 0))
  all : encW.Own 30 wr (B + 1) (.slice a1 A.length c1) A
  pan : encP.Own 37 wr b2 (.slice po P.length pc) P
  low : ∀ a, a1 = some a → a.block < b2
  calm : Calm w wr
  size : b2 ≤ wr.heap.size

theorem Ms.step {w : World} {B b2 : Nat} {c : Cf} {a1 : Option Addr} {c1 : Nat} {A : List Wn} {po : Option Addr} {pc : Nat} {P : List Pn} {wr wr' : World} (h : Ms w B b2 c a1 c1 A po pc P wr) (ht : Calm wr wr') : Ms w B b2 c a1 c1 A po pc P wr' :=
  ⟨ht.at h.cf, Rc.Own.calm h.all ht, Rc.Own.calm h.pan ht, h.low, h.calm.tr ht, Nat.le_trans h.size ht.size⟩

theorem allM_next (f t : Int) (di : Bool) (L : List Wn) (i : Nat) (hi : i < L.length) : (allM f t di (L.take i) ++ L.drop i).set i (markedW f t di (L.getD i wn0)) = allM f t di (L.take (i + 1)) ++ L.drop (i + 1) := by
  have hl : (allM f t di (L.take i)).length = i := by unfold allM; rw [List.length_map, List.length_take]; omega
  rw [List.set_append_right _ _ (by omega), hl, Nat.sub_self, List.drop_eq_getElem_cons hi, List.set_cons_zero, List.take_succ_eq_append_getElem hi]
  unfold allM
  rw [List.map_append, List.getD_eq_getElem?_getD, List.getElem?_eq_getElem hi]
  simp
theorem allM_at (f t : Int) (di : Bool) (L : List Wn) (i : Nat) (hi : i < L.length) : (allM f t di (L.take i) ++ L.drop i).getD i wn0 = L.getD i wn0 := by
  have hl : (allM f t di (L.take i)).length = i := by unfold allM; rw [List.length_map, List.length_take]; omega
  rw [List.getD_eq_getElem?_getD, List.getD_eq_getElem?_getD, List.getElem?_append_right (by omega), hl, Nat.sub_self, List.getElem?_drop, Nat.add_zero]
theorem allM_len (f t : Int) (di : Bool) (L : List Wn) (i : Nat) (hi : i ≤ L.length) : (allM f t di (L.take i) ++ L.drop i).length = L.length := by
  unfold allM; rw [List.length_append, List.length_map, List.length_take, List.length_drop]; omega

theorem set_self (A : List Wn) (j : Nat) (hj : j < A.length) : A.set j (A.getD j wn0) = A := by
  rw [List.getD_eq_getElem?_getD, List.getElem?_eq_getElem hj]
  simp

/-- One pane more behind those that were told. -/
theorem pn_app {w : World} {b2 : Nat} {po : Option Addr} {pc : Nat} {P : List Pn} (q : Pn) (h : encP.Own 37 w b2 (.slice po P.length pc) P) (hs : b2 ≤ w.heap.size) (hn : P.length ≤ 2000000000000) :
    ∃ a2 p2 w4, (Builtin.append_ #[46, 46] 46 #[.slice po P.length pc, .slice (some ⟨w.heap.size, 0, none⟩) 1 1]).run Try.prog (w.alloc (.cells #[.string q.k, .int .i64 q.a, .int .i64 q.b, .int .i64 q.d, .int .i64 q.n, .int .i64 q.t.c, .int .i64 q.t.s, .int .i64 q.t.m, .int .i64 q.t.x] 37)) = .ok (.slice a2 (P.length + 1) p2) w4 ∧
      encP.Own 37 w4 b2 (.slice a2 (P ++ [q]).length p2) (P ++ [q]) ∧ Touch (fun d => (Value.slice po P.length pc).ownBlock = some d) w w4 ∧ ∀ g, (Value.slice a2 (P ++ [q]).length p2).ownBlock = some g → (Value.slice po P.length pc).ownBlock = some g ∨ w.heap.size ≤ g := by
  obtain ⟨i0, hi, hz, hsz, hby⟩ := Rc.info_parts infoPane
  have own := Rc.Own.calm h ((Touch.refl (fun _ => False) w).alloc (.cells (pnc q) 37))
  have hs1 := al_size w (.cells (pnc q) 37)
  obtain ⟨a2, p2, w4, hr, ow, t2, hg2⟩ := Rc.Own.appw (E := encP) (ty := 46) Try.underlying46 hi hz hsz hby rfl own (some ⟨w.heap.size, 0, none⟩) 1 [q] (Rc.Mem.new w [q] 37) (fun h => (nomatch h)) (by simp; unfold maxLen; omega) (by simp; omega) (by omega) (by omega)
  have e3 : (P ++ [q]).length = P.length + 1 := by simp
  refine ⟨a2, p2, w4, by rw [← e3]; exact hr, ow, ?_, fun g hg => (hg2 g hg).imp id fun h => by omega⟩
  exact Touch.trans (((Touch.refl (fun _ => False) w).alloc _).mono fun _ _ h => h.elim) t2 fun _ _ h => h

/-- One window more behind those that are left. -/
theorem wn_app {w : World} {b3 : Nat} {oo : Option Addr} {oc : Nat} {O : List Wn} (x : Wn) (h : encW.Own 30 w b3 (.slice oo O.length oc) O) (hs : b3 ≤ w.heap.size) (hn : O.length ≤ 2000000000000) :
    ∃ a2 p2 w4, (Builtin.append_ #[50, 50] 50 #[.slice oo O.length oc, .slice (some ⟨w.heap.size, 0, none⟩) 1 1]).run Try.prog (w.alloc (.cells #[.int .i64 x.a, .int .i64 x.b, .int .i64 x.h, .int .i64 x.t.c, .int .i64 x.t.s, .int .i64 x.t.m, .int .i64 x.t.x, .int .i64 x.n, .int .i64 x.p] 30)) = .ok (.slice a2 (O.length + 1) p2) w4 ∧
      encW.Own 30 w4 b3 (.slice a2 (O ++ [x]).length p2) (O ++ [x]) ∧ Touch (fun d => (Value.slice oo O.length oc).ownBlock = some d) w w4 := by
  obtain ⟨i0, hi, hz, hsz, hby⟩ := Rc.info_parts infoWin
  have own := Rc.Own.calm h ((Touch.refl (fun _ => False) w).alloc (.cells (wnc x) 30))
  have hs1 := al_size w (.cells (wnc x) 30)
  obtain ⟨a2, p2, w4, hr, ow, t2, -⟩ := Rc.Own.appw (E := encW) (ty := 50) Try.underlying50 hi hz hsz hby rfl own (some ⟨w.heap.size, 0, none⟩) 1 [x] (Rc.Mem.new w [x] 30) (fun h => (nomatch h)) (by simp; unfold maxLen; omega) (by simp; omega) (by omega) (by omega)
  have e3 : (O ++ [x]).length = O.length + 1 := by simp
  refine ⟨a2, p2, w4, by rw [← e3]; exact hr, ow, ?_⟩
  exact Touch.trans (((Touch.refl (fun _ => False) w).alloc _).mono fun _ _ h => h.elim) t2 fun _ _ h => h

/-- Those that are left of the first j. -/
def outJ (f t lt : Int) (di : Bool) (L : List Wn) (j : Nat) : List Wn := ((allM f t di L).take j).filter fun x => !overB x.b lt t
theorem allM_get (f t : Int) (di : Bool) (L : List Wn) (j : Nat) (hj : j < L.length) : (allM f t di L).getD j wn0 = markedW f t di (L.getD j wn0) := by
  unfold allM
  rw [List.getD_eq_getElem?_getD, List.getElem?_map, List.getElem?_eq_getElem hj, List.getD_eq_getElem?_getD, List.getElem?_eq_getElem hj]
  rfl

theorem outJ_next (f t lt : Int) (di : Bool) (L : List Wn) (j : Nat) (hj : j < L.length) : outJ f t lt di L (j + 1) = outJ f t lt di L j ++ if overB (L.getD j wn0).b lt t then [] else [markedW f t di (L.getD j wn0)] := by
  have hl : j < (allM f t di L).length := by unfold allM; rw [List.length_map]; exact hj
  have e : (allM f t di L)[j] = markedW f t di (L.getD j wn0) := by
    have h := allM_get f t di L j hj
    rw [List.getD_eq_getElem?_getD, List.getElem?_eq_getElem hl] at h
    exact h
  unfold outJ
  rw [List.take_succ_eq_append_getElem hl, List.filter_append, e, List.filter_cons, List.filter_nil, (marked_b f t di _).2.1]
  cases overB (L.getD j wn0).b lt t <;> rfl
theorem outJ_all (f t lt : Int) (di : Bool) (L : List Wn) : outJ f t lt di L L.length = outM f t lt di L := by
  unfold outJ outM
  rw [List.take_of_length_le (by unfold allM; rw [List.length_map]; exact Nat.le_refl _)]
theorem outJ_le (f t lt : Int) (di : Bool) (L : List Wn) (j : Nat) : (outJ f t lt di L j).length ≤ j := by
  unfold outJ
  exact Nat.le_trans (List.length_filter_le _ _) (List.length_take_le _ _)
set_option maxRecDepth 100000 in
set_option maxHeartbeats 4000000 in
theorem rmark_any (c : Cf) (k : ByteArray) (ao : Option Addr) (cap : Nat) (L : List Wn) (f t : Int) (w : World) (hs : encW.Sl w ao cap L) (hn : L.length ≤ 2000000000000) (hok : ∀ x ∈ L, x.Ok) (hlt : I64 c.lt) (ht : I64 t) :
    Calls Try.prog 21 #[cfv c, .string k, .slice ao L.length cap, .int .i64 f, .int .i64 t] w fun e w' => RetM w e w' (outM f t c.lt c.di L) (panesM k f t L) := by
  have T0 : Calm w (w.alloc (.cells (cfc c) 24)) := (Touch.refl _ _).alloc _
  have A0 := al_new w (.cells (cfc c) 24)
  have hs0 := al_size w (.cells (cfc c) 24)
  obtain ⟨i0, hi, hz, hsz, hby⟩ := Rc.info_parts infoWin
  obtain ⟨j0, hj, hjz, hjsz, hjby⟩ := Rc.info_parts infoPane
  obtain ⟨a1, c1, w1, hr1, ow1, t1, -⟩ := Rc.Own.appw (E := encW) (ty := 50) Try.underlying50 hi hz hsz hby rfl (Rc.Own.nil 30 (w.alloc (.cells (cfc c) 24)) (w.heap.size + 1)) ao cap L (Rc.Mem.calm hs.mem T0) hs.nil (by simp; unfold maxLen; omega) (by simp; omega) (by omega) (by omega)
  rw [List.nil_append] at hr1 ow1
  have C1 : Calm (w.alloc (.cells (cfc c) 24)) w1 := Rc.Own.fresh (Rc.Own.nil (E := encW) 30 (w.alloc (.cells (cfc c) 24)) (w.heap.size + 1)) t1 (fun _ h => h) (Touch.refl _ _) (by omega)
  have M1 : Ms w w.heap.size w1.heap.size c a1 c1 L none 0 [] w1 := ⟨C1.at A0, ow1, Rc.Own.nil _ _ _, fun a ha => ((Rc.Own.mem ow1).2.2.2.2.2 a ha).2.2.2, T0.tr C1, Nat.le_refl _⟩
  have CO := fun x w => hide (rontime_any x f t w)
  have CT : Hid (∀ x, x ∈ L → ∀ w, Calls Try.prog 15 #[.string k, wnv x, .int .i64 2, .bool c.di] w fun e w' => e = .returned (.tuple #[pnv (tellP k x 2), wnv (tellW x c.di)]) ∧ Calm w w') := hide fun x hx w => rtell_any k x 2 c.di (hok x hx).p w
  have CV : Hid (∀ x, x ∈ L → ∀ w, Calls Try.prog 23 #[spv x.sp, .int .i64 c.lt, .int .i64 t] w fun e w' => e = .returned (.bool (overB x.b c.lt t)) ∧ Calm w w') := hide fun x hx w => rover_any x.sp c.lt t (hok x hx).b hlt ht w
  have HI := hide (And.intro hi (And.intro hz (And.intro hsz hby)))
  have HP := hide (And.intro hj (And.intro hjz (And.intro hjsz hjby)))
  have HM1 := hide M1
  have HBb : Hid (w.heap.size ≤ w1.heap.size) := hide M1.calm.size
  generalize hN : L.length = n at *
  have HN := hide hN
  clear hs hok hlt ht hi hz hsz hby hj hjz hjsz hjby ow1 t1 C1 M1 T0 A0 hN hs0
  generalize hb2 : w1.heap.size = b2 at *
  clear hb2
  go_enter Try.func21, Try.ntmps21
  go_wp2_with (at_builtin; refine Rc.wpList_appR rfl (.const (.slice none 0 0)) (.tmp 19) 50 50 rfl _ _ _ rfl rfl hr1 ?_)
  clear hr1
  generalize hB : w.heap.size = B at *
  have HB := hide hB
  clear hB
  go_loopw [13, 14] (fun ps i wr => ∃ (j : Nat) (po : Option Addr) (pc : Nat), i = .int .i64 j ∧ j ≤ n ∧ ps = .slice po (panesM k f t (L.take j)).length pc ∧ Ms w B b2 c a1 c1 (allM f t c.di (L.take j) ++ L.drop j) po pc (panesM k f t (L.take j)) wr) (fun _ i _ => n - (intOf i).toNat)
  case atStart => exact ⟨0, none, 0, rfl, Nat.zero_le _, rfl, HM1.out⟩
  case round =>
    obtain ⟨j, po, pc, rfl, hj, rfl, MS⟩ := hrel
    obtain ⟨wo, hwo⟩ : ∃ x, x = wr := ⟨_, rfl⟩
    subst hwo
    by_cases hlt : j < n
    · have hjL : j < L.length := by have := HN.out; omega
      have hAl := allM_len f t c.di L j (by omega)
      have hAt := allM_at f t c.di L j hjL
      have HAn := hide (allM_next f t c.di L j hjL)
      have HPn := hide (panesM_next k f t L j hjL)
      have hxL : L.getD j wn0 ∈ L := by rw [List.getD_eq_getElem?_getD, List.getElem?_eq_getElem hjL]; exact List.getElem_mem hjL
      have CTx := hide (CT.out _ hxL)
      obtain ⟨b, off, e, cc⟩ := wn_at (Rc.Own.mem MS.all).2.1 j (by rw [hAl]; exact hjL)
      obtain ⟨-, hoff, hge, -⟩ := (Rc.Own.mem MS.all).2.2.2.2.2 _ e
      simp only at hoff hge
      subst hoff e
      rw [hAt] at cc
      obtain ⟨⟨c0, c1', c2⟩, ⟨c3, c4, c5, c6⟩, c7, c8⟩ := cc
      simp only [Nat.zero_add] at c0 c1' c2 c3 c4 c5 c6 c7 c8
      have C1 := fun w => CO (L.getD j wn0) w
      generalize hx : L.getD j wn0 = x at *
      have HX := hide hx
      clear hx hAt
      have HMS := hide MS
      have hAl' := hAl
      rw [HN.out] at hAl'
      have hji : (j : Int) < (n : Int) := by omega
      generalize hot : onT x f t = ot at *
      have HOT := hide hot
      clear MS hot hAl
      go_wp2_with fail
      refine (C1 _).out.mono ?_
      rintro e w3 ⟨rfl, T3⟩
      have HM3 := hide (HMS.out.step T3)
      clear HMS T3 C1 c0 c1' c2 c3 c4 c5 c6 c7 c8
      cases ot with
      | false =>
        have eA : allM f t c.di (L.take (j + 1)) ++ L.drop (j + 1) = allM f t c.di (L.take j) ++ L.drop j := by
          rw [← HAn.out]
          have em : markedW f t c.di x = x := by unfold markedW; rw [HOT.out]; rfl
          rw [em]
          have hl : (allM f t c.di (L.take j) ++ L.drop j).length = L.length := allM_len f t c.di L j (by omega)
          have hA := allM_at f t c.di L j hjL
          rw [HX.out] at hA
          rw [← hA]
          exact set_self _ _ (by omega)
        have eP : panesM k f t (L.take (j + 1)) = panesM k f t (L.take j) := by rw [HPn.out]; rfl
        go_wp2_with fail
        go_roundw
        case rel => exact ⟨j + 1, po, pc, by go_num, by omega, by rw [eP], by rw [eA, eP]; exact HM3.out⟩
        case measure => simp [intOf]; omega
      | true =>
        go_wp2_with fail
        have hD3 := HM3.out.size
        have N4 := al_new w3 (.cells (pnc pn0) 37)
        have M4 := HM3.out.step ((Touch.refl (fun _ => False) w3).alloc (.cells (pnc pn0) 37))
        have hb3 := HM3.out.low _ rfl
        simp only at hb3
        have hB3 := lt_of_heap HM3.out.cf
        have HPD : Hid (∀ g, (Value.slice po (panesM k f t (L.take j)).length pc).ownBlock = some g → b2 ≤ g ∧ g < w3.heap.size) := hide fun g hg => by
          obtain ⟨h1, cur, h2⟩ := Rc.own_block HM3.out.pan hg
          exact ⟨h1, lt_of_heap h2⟩
        generalize w3.alloc (.cells (pnc pn0) 37) = w4 at *
        generalize hDD : w3.heap.size = D at *
        clear hDD HM3
        have AJ : Hid (∀ W, Touch (fun d => d = D) w4 W → wcell W b (j * 9) x) := hide fun W hW => by
          have ow := Rc.Own.touch M4.all hW (fun g hg e => by simp only [Value.ownBlock, Option.some.injEq] at hg; omega)
          obtain ⟨b', off', e', cc⟩ := wn_at (Rc.Own.mem ow).2.1 j (by rw [hAl']; omega)
          injection e' with e'
          injection e' with e1 e2
          subst e1 e2
          rw [allM_at f t c.di L j hjL, HX.out, Nat.zero_add] at cc
          exact cc
        have AC : Hid (∀ W, Touch (fun d => d = D) w4 W → W.heap[B]? = some (.cells (cfc c) 24 (0, 0))) := hide fun W hW => hW.heap M4.cf (by omega)
        have HN4 := hide N4
        have HM4 := hide M4
        generalize hq : tellP k x 2 = q at *
        generalize hr : tellW x c.di = r at *
        have HQ := hide hq
        have HR := hide hr
        clear N4 M4 hq hr
        refine wp_region_z 15 (Touch (fun d => d = D) w4) (by kernel_rfl) ?_
        have hT0 : Touch (fun d => d = D) w4 { w4 with drawn := w4.drawn + 1 } := (Touch.refl _ w4).drew
        refine wpAnyZ_yield 0 36 (.slice (some ⟨b, 0, none⟩) n c1) [15] rfl rfl (by kernel_rfl) (by kernel_rfl) (by kernel_rfl) (by kernel_rfl) (by kernel_rfl) (fun _ _ _ h => h) (by kernel_rfl) (fun W hW => by kernel_rfl) (by assumption) rfl rfl ?_
        simp only [Act.put, List.setIfInBounds_toArray, List.set_cons_zero, List.set_cons_succ]
        refine wpAnyZ_yield 1 37 (.int .i64 (j : Int)) [15] rfl rfl (by kernel_rfl) (by kernel_rfl) (by kernel_rfl) (by kernel_rfl) (by kernel_rfl) (fun _ _ _ h => h) (by kernel_rfl) (fun W hW => by kernel_rfl) (by assumption) rfl rfl ?_
        simp only [Act.put, List.setIfInBounds_toArray, List.set_cons_zero, List.set_cons_succ]
        refine wpAnyZ_yield 2 38 (.string k) [15] rfl rfl (by kernel_rfl) (by kernel_rfl) (by kernel_rfl) (by kernel_rfl) (by kernel_rfl) (fun _ _ _ h => h) (by kernel_rfl) (fun W hW => by kernel_rfl) (by assumption) rfl rfl ?_
        simp only [Act.put, List.setIfInBounds_toArray, List.set_cons_zero, List.set_cons_succ]
        refine wpAnyZ_yield 3 39 (.slice (some ⟨b, 0, none⟩) n c1) [15] rfl rfl (by kernel_rfl) (by kernel_rfl) (by kernel_rfl) (by kernel_rfl) (by kernel_rfl) (fun _ _ _ h => h) (by kernel_rfl) (fun W hW => by kernel_rfl) (by assumption) rfl rfl ?_
        simp only [Act.put, List.setIfInBounds_toArray, List.set_cons_zero, List.set_cons_succ]
        refine wpAnyZ_yield 4 40 (.int .i64 (j : Int)) [15] rfl rfl (by kernel_rfl) (by kernel_rfl) (by kernel_rfl) (by kernel_rfl) (by kernel_rfl) (fun _ _ _ h => h) (by kernel_rfl) (fun W hW => by kernel_rfl) (by assumption) rfl rfl ?_
        simp only [Act.put, List.setIfInBounds_toArray, List.set_cons_zero, List.set_cons_succ]
        refine wpAnyZ_yield 5 41 (.pointer (some ⟨b, j * 9, none⟩)) [15] rfl rfl (by kernel_rfl) (by kernel_rfl) (by kernel_rfl) (by kernel_rfl) (by kernel_rfl) (fun _ _ _ h => h) (by kernel_rfl) (fun W hW => by go_simp) (by assumption) rfl rfl ?_
        simp only [Act.put, List.setIfInBounds_toArray, List.set_cons_zero, List.set_cons_succ]
        refine wpAnyZ_yield 6 42 (wnv x) [15] rfl rfl (by kernel_rfl) (by kernel_rfl) (by kernel_rfl) (by kernel_rfl) (by kernel_rfl) (fun _ _ _ h => h) (by kernel_rfl) (fun W hW => by obtain ⟨⟨c0, c1, c2⟩, ⟨c3, c4, c5, c6⟩, c7, c8⟩ := AJ.out W hW; go_simp) (by assumption) rfl rfl ?_
        simp only [Act.put, List.setIfInBounds_toArray, List.set_cons_zero, List.set_cons_succ]
        refine wpAnyZ_yield 7 43 (.pointer (some ⟨B, 9, none⟩)) [15] rfl rfl (by kernel_rfl) (by kernel_rfl) (by kernel_rfl) (by kernel_rfl) (by kernel_rfl) (fun _ _ _ h => h) (by kernel_rfl) (fun W hW => by go_simp) (by assumption) rfl rfl ?_
        simp only [Act.put, List.setIfInBounds_toArray, List.set_cons_zero, List.set_cons_succ]
        refine wpAnyZ_yield 8 44 (.bool c.di) [15] rfl rfl (by kernel_rfl) (by kernel_rfl) (by kernel_rfl) (by kernel_rfl) (by kernel_rfl) (fun _ _ _ h => h) (by kernel_rfl) (fun W hW => by obtain ⟨-, -, -, g9⟩ := cf_cells (AC.out W hW); go_simp) (by assumption) rfl rfl ?_
        simp only [Act.put, List.setIfInBounds_toArray, List.set_cons_zero, List.set_cons_succ]
        refine wpAnyZ_enter 9 45 15 #[.string k, wnv x, .int .i64 2, .bool c.di] rfl rfl (by decide) (by kernel_rfl) (by kernel_rfl) (by kernel_rfl) ?_
        refine (CTx.out _).mono ?_
        rintro rr w5 ⟨rfl, T5⟩
        have h5 : Touch (fun d => d = D) w4 w5 := Touch.trans hT0 (T5.mono fun _ _ h => h.elim) fun _ _ h => h
        refine ⟨_, rfl, h5, ?_⟩
        simp only [Act.put, List.setIfInBounds_toArray, List.set_cons_zero, List.set_cons_succ]
        refine wpAnyZ_yield 10 35 (.tuple #[pnv q, wnv r]) [15] rfl rfl (by kernel_rfl) (by kernel_rfl) (by kernel_rfl) (by kernel_rfl) (by kernel_rfl) (fun _ _ _ h => h) (by kernel_rfl) (fun W hW => by kernel_rfl) (by assumption) rfl rfl ?_
        simp only [Act.put, List.setIfInBounds_toArray, List.set_cons_zero, List.set_cons_succ]
        refine wpAnyZ_yield 11 46 (pnv q) [15] rfl rfl (by kernel_rfl) (by kernel_rfl) (by kernel_rfl) (by kernel_rfl) (by kernel_rfl) (fun _ _ _ h => h) (by kernel_rfl) (fun W hW => by go_simp) (by assumption) rfl rfl ?_
        simp only [Act.put, List.setIfInBounds_toArray, List.set_cons_zero, List.set_cons_succ]
        refine wpAnyZ_yield 12 47 (wnv r) [15] rfl rfl (by kernel_rfl) (by kernel_rfl) (by kernel_rfl) (by kernel_rfl) (by kernel_rfl) (fun _ _ _ h => h) (by kernel_rfl) (fun W hW => by go_simp) (by assumption) rfl rfl ?_
        simp only [Act.put, List.setIfInBounds_toArray, List.set_cons_zero, List.set_cons_succ]
        have P5 := T5.at (show ({ w4 with drawn := w4.drawn + 1 } : World).heap[D]? = _ from HN4.out)
        have M5 := HM4.out.step (((Touch.refl (fun _ => False) w4).drew).tr T5)
        obtain ⟨Q6, t6⟩ := pn_all q P5
        have h6 := Touch.trans h5 t6 (fun _ _ h => h)
        refine wpAnyZ_do 13 ((((((((((w5).setCell ⟨D, 0, none⟩ (.string q.k)).setCell ⟨D, 1, none⟩ (.int .i64 q.a)).setCell ⟨D, 2, none⟩ (.int .i64 q.b)).setCell ⟨D, 3, none⟩ (.int .i64 q.d)).setCell ⟨D, 4, none⟩ (.int .i64 q.n)).setCell ⟨D, 5, none⟩ (.int .i64 q.t.c)).setCell ⟨D, 6, none⟩ (.int .i64 q.t.s)).setCell ⟨D, 7, none⟩ (.int .i64 q.t.m)).setCell ⟨D, 8, none⟩ (.int .i64 q.t.x)) rfl (by decide) (by kernel_rfl) (by kernel_rfl) (fun K hK => ?_) h6 ?_
        · obtain ⟨⟨d0, d1, d2, d3, d4⟩, d5, d6, d7, d8⟩ := pn_cells P5
          have y0 := wn_frozen P5 0
          have y1 := wn_frozen P5 1
          have y2 := wn_frozen P5 2
          have y3 := wn_frozen P5 3
          have y4 := wn_frozen P5 4
          have y5 := wn_frozen P5 5
          have y6 := wn_frozen P5 6
          have y7 := wn_frozen P5 7
          have y8 := wn_frozen P5 8
          unfold Oper.wp
          go_simp
          exact hK
        have A6 := Rc.Own.touch M5.all t6 (fun g hg e => by simp only [Value.ownBlock, Option.some.injEq] at hg; omega)
        have N6 := Rc.Own.touch M5.pan t6 (fun g hg e => by have := Rc.own_block M5.pan hg; have := HPD.out g hg; omega)
        have F6 := t6.heap M5.cf (by omega)
        have C6 := Touch.trans M5.calm t6 (fun d hd e => by have := HB.out; omega)
        have s6 := Nat.le_trans M5.size t6.size
        generalize (((((((((w5).setCell ⟨D, 0, none⟩ (.string q.k)).setCell ⟨D, 1, none⟩ (.int .i64 q.a)).setCell ⟨D, 2, none⟩ (.int .i64 q.b)).setCell ⟨D, 3, none⟩ (.int .i64 q.d)).setCell ⟨D, 4, none⟩ (.int .i64 q.n)).setCell ⟨D, 5, none⟩ (.int .i64 q.t.c)).setCell ⟨D, 6, none⟩ (.int .i64 q.t.s)).setCell ⟨D, 7, none⟩ (.int .i64 q.t.m)).setCell ⟨D, 8, none⟩ (.int .i64 q.t.x) = w6 at *
        refine wpAnyZ_yield 14 48 (.pointer (some ⟨b, j * 9, none⟩)) [15] rfl rfl (by kernel_rfl) (by kernel_rfl) (by kernel_rfl) (by kernel_rfl) (by kernel_rfl) (fun _ _ _ h => h) (by kernel_rfl) (fun W hW => by go_simp) (by assumption) rfl rfl ?_
        simp only [Act.put, List.setIfInBounds_toArray, List.set_cons_zero, List.set_cons_succ]
        refine wpAnyZ_end rfl (by kernel_rfl) (by kernel_rfl) (by kernel_rfl) ?_
        obtain ⟨A7, t7⟩ := Rc.Own.set9 (E := encW) rfl A6 j (by omega) r rfl
        obtain ⟨⟨c0, c1', c2⟩, ⟨c3, c4, c5, c6⟩, c7, c8⟩ := AJ.out w6 h6
        obtain ⟨cur, hcur⟩ := (Rc.own_block A6 (g := b) rfl).2
        have zb : ∀ o, w6.frozen? ⟨b, o, none⟩ = false := fun o => by simp [World.frozen?, hcur]
        have y0 := zb (j * 9)
        have y1 := zb (j * 9 + 1)
        have y2 := zb (j * 9 + 2)
        have y3 := zb (j * 9 + 3)
        have y4 := zb (j * 9 + 4)
        have y5 := zb (j * 9 + 5)
        have y6 := zb (j * 9 + 6)
        have y7 := zb (j * 9 + 7)
        have y8 := zb (j * 9 + 8)
        unfold Oper.wp
        go_simp
        have M7 : Ms w B b2 c (some ⟨b, 0, none⟩) c1 (allM f t c.di (L.take (j + 1)) ++ L.drop (j + 1)) po pc (panesM k f t (L.take j)) ((((((((((w6).setCell ⟨b, j * 9, none⟩ (.int .i64 r.a)).setCell ⟨b, j * 9 + 1, none⟩ (.int .i64 r.b)).setCell ⟨b, j * 9 + 2, none⟩ (.int .i64 r.h)).setCell ⟨b, j * 9 + 3, none⟩ (.int .i64 r.t.c)).setCell ⟨b, j * 9 + 4, none⟩ (.int .i64 r.t.s)).setCell ⟨b, j * 9 + 5, none⟩ (.int .i64 r.t.m)).setCell ⟨b, j * 9 + 6, none⟩ (.int .i64 r.t.x)).setCell ⟨b, j * 9 + 7, none⟩ (.int .i64 r.n)).setCell ⟨b, j * 9 + 8, none⟩ (.int .i64 r.p)) := by
          have em : markedW f t c.di x = r := by unfold markedW; rw [HOT.out, ← HR.out]; rfl
          have e := HAn.out
          rw [em] at e
          rw [← e]
          refine ⟨t7.heap F6 (by omega), by rw [List.length_set]; exact A7, Rc.Own.touch N6 t7 (fun g hg e => by have := HPD.out g hg; omega), fun a ha => by injection ha with ha; subst ha; exact hb3, Touch.trans C6 t7 (fun d hd e => by have := HB.out; omega), Nat.le_trans s6 t7.size⟩
        have D7 := t7.heap Q6 (by omega)
        generalize (((((((((w6).setCell ⟨b, j * 9, none⟩ (.int .i64 r.a)).setCell ⟨b, j * 9 + 1, none⟩ (.int .i64 r.b)).setCell ⟨b, j * 9 + 2, none⟩ (.int .i64 r.h)).setCell ⟨b, j * 9 + 3, none⟩ (.int .i64 r.t.c)).setCell ⟨b, j * 9 + 4, none⟩ (.int .i64 r.t.s)).setCell ⟨b, j * 9 + 5, none⟩ (.int .i64 r.t.m)).setCell ⟨b, j * 9 + 6, none⟩ (.int .i64 r.t.x)).setCell ⟨b, j * 9 + 7, none⟩ (.int .i64 r.n)).setCell ⟨b, j * 9 + 8, none⟩ (.int .i64 r.p) = w7 at *
        have hpl := panesM_le k f t L j
        obtain ⟨a2, p2, w8, hr8, ow8, t8, hg8⟩ := pn_app q M7.pan M7.size (by omega)
        have hD7 := lt_of_heap D7
        have HPD2 : Hid (∀ g, a2 = some ⟨g, 0, none⟩ → g ≠ D) := hide fun g ha e => by
          subst ha
          rcases hg8 g rfl with h | h
          · have := HPD.out g h; omega
          · omega
        clear hg8
        have M8 : Ms w B b2 c (some ⟨b, 0, none⟩) c1 (allM f t c.di (L.take (j + 1)) ++ L.drop (j + 1)) a2 p2 (panesM k f t (L.take j) ++ [q]) w8 :=
          ⟨t8.heap M7.cf (fun hg => by have := HPD.out B hg; omega), Rc.Own.touch M7.all t8 (fun g hg hS => by have := HPD.out g hS; simp only [Value.ownBlock, Option.some.injEq] at hg; omega), ow8, M7.low, Touch.trans M7.calm t8 (fun d hd hS => by have := HPD.out d hS; have := HB.out; omega), Nat.le_trans M7.size t8.size⟩
        have D8 := t8.heap D7 (fun hg => by have := HPD.out D hg; omega)
        obtain ⟨⟨d0, d1, d2, d3, d4⟩, d5, d6, d7, d8⟩ := pn_cells D7
        have HM8 := hide M8
        have HD8 := hide D8
        have hge2 : B < b2 := by omega
        have HPX : Hid (panesM k f t (L.take (j + 1)) = putE (panesM k f t (L.take j)) q) := hide (by rw [HPn.out, ← HQ.out]; rfl)
        clear M7 D7 t8 ow8 M8 D8 t7 A7 A6 N6 F6 C6 M5 t6 h6 h5 hT0 T5 P5 Q6 HN4 HM4 AJ AC c0 c1' c2 c3 c4 c5 c6 c7 c8 y0 y1 y2 y3 y4 y5 y6 y7 y8 zb hcur s6 CTx HPn HAn hAl'
        generalize panesM k f t (L.take j) = P at *
        generalize hA : allM f t c.di (L.take (j + 1)) ++ L.drop (j + 1) = A at *
        have HAe := hide hA
        clear hA
        generalize hm : P.length = m at *
        have HMm := hide hm
        clear hm
        go_wp2_with (at_builtin; refine Rc.wpList_appR rfl (.tmp 49) (.tmp 51) 46 46 rfl _ _ _ rfl rfl hr8 ?_)
        clear hr8 d0 d1 d2 d3 d4 d5 d6 d7 d8
        go_loopw [16] (fun i wr => ∃ kk : Nat, i = .int .i64 kk ∧ kk ≤ m ∧ (∀ i (_ : kk ≤ i) (hi : i < P.length), q.b < P[i].b) ∧ Ms w B b2 c (some ⟨b, 0, none⟩) c1 A a2 p2 (P.take kk ++ [q] ++ P.drop kk) wr ∧ wr.heap[D]? = some (.cells (pnc q) 37 (0, 0))) (fun i _ => (intOf i).toNat)
        case atStart =>
          refine ⟨m, rfl, Nat.le_refl _, fun i h1 h2 => absurd h2 (by have := HMm.out; omega), ?_, HD8.out⟩
          rw [List.take_of_length_le (by have := HMm.out; omega), List.drop_of_length_le (by have := HMm.out; omega), List.append_nil]
          exact HM8.out
        case round =>
          obtain ⟨kk, rfl, hkk, HH0, M9, D9⟩ := hrel
          have HH := hide HH0
          clear HH0 HM8 HD8
          have HLn : Hid ((P.take kk ++ [q] ++ P.drop kk).length = m + 1) := hide (by have := HMm.out; simp only [List.length_append, List.length_take, List.length_drop, List.length_cons, List.length_nil]; omega)
          cases kk with
          | zero =>
            clear D9
            go_wp2_with fail
            go_quiet (fail)
            have M9 := M9.step ((Touch.refl (fun _ => False) _).drewN nq)
            have eL : putE P q = P.take 0 ++ [q] ++ P.drop 0 := putE_at 0 (Nat.zero_le _) HH.out (fun j hj => by omega)
            have H9 := hide M9
            clear M9
            go_wp2_with fail
            go_roundw
            case rel => exact ⟨j + 1, a2, p2, by go_num, by omega, by rw [HPX.out, eL, HLn.out], by rw [HPX.out, eL, HAe.out]; exact H9.out⟩
            case measure => simp [intOf]; omega
          | succ kk =>
            have hkP : kk < P.length := by have := HMm.out; omega
            have hkl : kk < (P.take (kk + 1) ++ [q] ++ P.drop (kk + 1)).length := by have := HLn.out; omega
            have PA : Hid (∃ pb, a2 = some ⟨pb, 0, none⟩) := hide (by
              obtain ⟨pb, po', e', -⟩ := pn_at (Rc.Own.mem M9.pan).2.1 kk hkl
              have := ((Rc.Own.mem M9.pan).2.2.2.2.2 _ e').2.1
              simp only at this
              subst this
              exact ⟨pb, e'⟩)
            obtain ⟨pb, rfl⟩ := PA.out
            have PY : Hid (∀ W, Calm wr W → pcell W pb (kk * 9) (P.getD kk pn0)) := hide fun W hW => by
              obtain ⟨b', off', e', cc⟩ := pn_at (Rc.Mem.calm (Rc.Own.mem M9.pan).2.1 hW) kk hkl
              injection e' with e'
              injection e' with e1 e2
              subst e1 e2
              rw [swapE_at P q kk hkP, Nat.zero_add] at cc
              exact cc
            have hyP : P.getD kk pn0 = P[kk] := by rw [List.getD_eq_getElem?_getD, List.getElem?_eq_getElem hkP]; rfl
            have HYP := hide hyP
            have SW := hide (swapE P q kk hkP)
            generalize P.getD kk pn0 = y at *
            obtain ⟨⟨g0, g1, g2, g3, g4⟩, g5, g6, g7, g8⟩ := PY.out wr (Touch.refl _ _)
            obtain ⟨⟨d0, d1, d2, d3, d4⟩, d5, d6, d7, d8⟩ := pn_cells D9
            have hki : (kk : Int) < ((m + 1 : Nat) : Int) := by omega
            generalize hd : decide (q.b < y.b) = dd at *
            have HDD := hide hd
            have HM9 := hide M9
            have HD9 := hide D9
            clear hyP M9 D9
            cases dd with
            | false =>
              clear d0 d1 d3 d4 d5 d6 d7 d8 g0 g1 g3 g4 g5 g6 g7 g8
              go_wp2_with fail
              go_quiet (fail)
              have H9 := hide (HM9.out.step ((Touch.refl (fun _ => False) _).drewN nq))
              have eL : putE P q = P.take (kk + 1) ++ [q] ++ P.drop (kk + 1) := putE_at (kk + 1) (by omega) HH.out (fun i hi => by
                have e : i = kk := by omega
                subst e
                rw [← HYP.out]
                exact of_decide_eq_false HDD.out)
              clear HM9 HD9 g2 d2
              go_wp2_with fail
              go_roundw
              case rel => exact ⟨j + 1, some ⟨pb, 0, none⟩, p2, by go_num, by omega, by rw [HPX.out, eL, HLn.out], by rw [HPX.out, eL, HAe.out]; exact H9.out⟩
              case measure => simp [intOf]; omega
            | true =>
              clear d0 d1 d3 d4 d5 d6 d7 d8 g0 g1 g3 g4 g5 g6 g7 g8
              go_wp2_with fail
              go_quiet (fail)
              have M0 := HM9.out.step ((Touch.refl (fun _ => False) _).drewN nq)
              have D0 := ((Touch.refl (fun _ => False) wr).drewN nq).at HD9.out
              have Y0 := PY.out _ ((Touch.refl (fun _ => False) wr).drewN nq)
              generalize wr.drewN nq = wq at *
              have hl1 := HLn.out
              obtain ⟨O1, s1⟩ := Rc.Own.set9 (E := encP) rfl M0.pan (kk + 1) (by omega) y rfl
              have hpb := Rc.own_block M0.pan (g := pb) rfl
              have hpD : pb ≠ D := HPD2.out pb rfl
              have hbl := M0.low _ rfl
              simp only at hbl
              obtain ⟨hpb1, cur, hcur⟩ := hpb
              have zq : ∀ o, wq.frozen? ⟨pb, o, none⟩ = false := fun o => by simp [World.frozen?, hcur]
              have K1 : Hid (∃ wx, (((((((((wq).setCell ⟨pb, (kk + 1) * 9, none⟩ (.string y.k)).setCell ⟨pb, (kk + 1) * 9 + 1, none⟩ (.int .i64 y.a)).setCell ⟨pb, (kk + 1) * 9 + 2, none⟩ (.int .i64 y.b)).setCell ⟨pb, (kk + 1) * 9 + 3, none⟩ (.int .i64 y.d)).setCell ⟨pb, (kk + 1) * 9 + 4, none⟩ (.int .i64 y.n)).setCell ⟨pb, (kk + 1) * 9 + 5, none⟩ (.int .i64 y.t.c)).setCell ⟨pb, (kk + 1) * 9 + 6, none⟩ (.int .i64 y.t.s)).setCell ⟨pb, (kk + 1) * 9 + 7, none⟩ (.int .i64 y.t.m)).setCell ⟨pb, (kk + 1) * 9 + 8, none⟩ (.int .i64 y.t.x) = wx ∧ encP.Own 37 wx b2 (.slice (some ⟨pb, 0, none⟩) (P.take (kk + 1) ++ [q] ++ P.drop (kk + 1)).length p2) ((P.take (kk + 1) ++ [q] ++ P.drop (kk + 1)).set (kk + 1) y) ∧ Touch (fun d => d = pb) wq wx) := hide ⟨_, rfl, O1, s1⟩
              obtain ⟨wx, e1, O1', s1'⟩ := K1.out
              obtain ⟨O2, s2⟩ := Rc.Own.set9 (E := encP) rfl O1' kk (by rw [List.length_set]; omega) q rfl
              have K2 : Hid (∃ wy, (((((((((wx).setCell ⟨pb, kk * 9, none⟩ (.string q.k)).setCell ⟨pb, kk * 9 + 1, none⟩ (.int .i64 q.a)).setCell ⟨pb, kk * 9 + 2, none⟩ (.int .i64 q.b)).setCell ⟨pb, kk * 9 + 3, none⟩ (.int .i64 q.d)).setCell ⟨pb, kk * 9 + 4, none⟩ (.int .i64 q.n)).setCell ⟨pb, kk * 9 + 5, none⟩ (.int .i64 q.t.c)).setCell ⟨pb, kk * 9 + 6, none⟩ (.int .i64 q.t.s)).setCell ⟨pb, kk * 9 + 7, none⟩ (.int .i64 q.t.m)).setCell ⟨pb, kk * 9 + 8, none⟩ (.int .i64 q.t.x) = wy ∧ encP.Own 37 wy b2 (.slice (some ⟨pb, 0, none⟩) (P.take (kk + 1) ++ [q] ++ P.drop (kk + 1)).length p2) (((P.take (kk + 1) ++ [q] ++ P.drop (kk + 1)).set (kk + 1) y).set kk q) ∧ Touch (fun d => d = pb) wx wy) := hide ⟨_, rfl, O2, s2⟩
              obtain ⟨wy, e2, O2', s2'⟩ := K2.out
              have ss := Touch.trans s1' s2' (fun _ _ h => h)
              have D1 := s1'.heap D0 (fun e => hpD e.symm)
              have HD2 := hide (s2'.heap D1 (fun e => hpD e.symm))
              have hl2 : (P.take kk ++ [q] ++ P.drop kk).length = (P.take (kk + 1) ++ [q] ++ P.drop (kk + 1)).length := by
                have := HMm.out
                simp only [List.length_append, List.length_take, List.length_drop, List.length_cons, List.length_nil]; omega
              have HMy : Hid (Ms w B b2 c (some ⟨b, 0, none⟩) c1 A (some ⟨pb, 0, none⟩) p2 (P.take kk ++ [q] ++ P.drop kk) wy) := hide ⟨ss.heap M0.cf (by omega), Rc.Own.touch M0.all ss (fun g hg e => by simp only [Value.ownBlock, Option.some.injEq] at hg; omega), by rw [hl2, ← SW.out]; exact O2', M0.low, Touch.trans M0.calm ss (fun d hd e => by have := HB.out; omega), Nat.le_trans M0.size ss.size⟩
              obtain ⟨cur2, hcur2⟩ := (Rc.own_block O1' (g := pb) rfl).2
              have zx : ∀ o, wx.frozen? ⟨pb, o, none⟩ = false := fun o => by simp [World.frozen?, hcur2]
              obtain ⟨pb', po', ep', cc⟩ := pn_at (Rc.Own.mem M0.pan).2.1 (kk + 1) (by omega)
              injection ep' with ep'
              injection ep' with ep1 ep2
              subst ep1 ep2
              rw [Nat.zero_add] at cc
              obtain ⟨⟨h0, h1, h2, h3, h4⟩, h5, h6, h7, h8⟩ := cc
              obtain ⟨pb', po', ep', cc⟩ := pn_at (Rc.Own.mem O1').2.1 kk (by rw [List.length_set]; omega)
              injection ep' with ep'
              injection ep' with ep1 ep2
              subst ep1 ep2
              rw [Nat.zero_add] at cc
              obtain ⟨⟨i0', i1, i2, i3, i4⟩, i5, i6, i7, i8⟩ := cc
              obtain ⟨⟨g0, g1, g2', g3, g4⟩, g5, g6, g7, g8⟩ := Y0
              obtain ⟨⟨d0, d1, d2', d3, d4⟩, d5, d6, d7, d8⟩ := pn_cells D1
              have y0 := zq ((kk + 1) * 9)
              have y1 := zq ((kk + 1) * 9 + 1)
              have y2 := zq ((kk + 1) * 9 + 2)
              have y3 := zq ((kk + 1) * 9 + 3)
              have y4 := zq ((kk + 1) * 9 + 4)
              have y5 := zq ((kk + 1) * 9 + 5)
              have y6 := zq ((kk + 1) * 9 + 6)
              have y7 := zq ((kk + 1) * 9 + 7)
              have y8 := zq ((kk + 1) * 9 + 8)
              have v0 := zx (kk * 9)
              have v1 := zx (kk * 9 + 1)
              have v2 := zx (kk * 9 + 2)
              have v3 := zx (kk * 9 + 3)
              have v4 := zx (kk * 9 + 4)
              have v5 := zx (kk * 9 + 5)
              have v6 := zx (kk * 9 + 6)
              have v7 := zx (kk * 9 + 7)
              have v8 := zx (kk * 9 + 8)
              have hk1 : ((kk + 1 : Nat) : Int) < ((m + 1 : Nat) : Int) := by omega
              clear O1 s1 O1' s1' O2 s2 O2' s2' K1 K2 ss D0 D1 M0 HM9 HD9 zq zx hcur hcur2 PY PA hl1 hl2
              go_wp2_with fail
              go_roundw
              case rel => exact ⟨kk, by go_num, by omega, fun i h1 h2 => by
                rcases Nat.lt_or_ge kk i with h3 | h3
                · exact HH.out i (by omega) h2
                · have e : i = kk := by omega
                  subst e
                  rw [← HYP.out]
                  exact of_decide_eq_true HDD.out, HMy.out, HD2.out⟩
              case measure => simp [intOf]
    · have e : j = n := by omega
      subst e
      have hLn := HN.out
      have eT : L.take j = L := List.take_of_length_le (by omega)
      have eD : L.drop j = [] := List.drop_of_length_le (by omega)
      rw [eT] at MS ⊢
      rw [eD, List.append_nil] at MS
      have HMS := hide MS
      have OZ : Hid (outJ f t c.lt c.di L 0 = []) := hide rfl
      have ON := hide (outJ_next f t c.lt c.di L)
      have OA : Hid (outJ f t c.lt c.di L j = outM f t c.lt c.di L) := hide (by rw [← hLn]; exact outJ_all f t c.lt c.di L)
      have OL := hide (outJ_le f t c.lt c.di L)
      have AG := hide (allM_get f t c.di L)
      have hal : Hid ((allM f t c.di L).length = j) := hide (by unfold allM; rw [List.length_map]; exact hLn)
      have hla : (allM f t c.di L).length = L.length := by unfold allM; rw [List.length_map]
      clear MS HM1 CO CT
      generalize hb3 : wo.heap.size = b3 at *
      have HB3 := hide hb3
      clear hb3 hLn hla eT eD
      generalize hPe : panesM k f t L = P at *
      have HPe := hide hPe
      clear hPe
      go_wp2_with fail
      go_loopw [17, 18] (fun o i wr => ∃ (l : Nat) (oo : Option Addr) (oc : Nat), i = .int .i64 l ∧ l ≤ j ∧ o = .slice oo (outJ f t c.lt c.di L l).length oc ∧ encW.Own 30 wr b3 (.slice oo (outJ f t c.lt c.di L l).length oc) (outJ f t c.lt c.di L l) ∧ Calm wo wr) (fun _ i _ => j - (intOf i).toNat)
      case atStart => exact ⟨0, none, 0, rfl, Nat.zero_le _, by rw [OZ.out]; rfl, by rw [OZ.out]; exact Rc.Own.nil _ _ _, Touch.refl _ _⟩
      case round =>
        obtain ⟨l, oo, oc, rfl, hl, rfl, OW, T0⟩ := hrel
        by_cases hlt : l < j
        · have hlL : l < L.length := by have := HN.out; omega
          have hxL : L.getD l wn0 ∈ L := by rw [List.getD_eq_getElem?_getD, List.getElem?_eq_getElem hlL]; exact List.getElem_mem hlL
          have C1 := hide (CV.out _ hxL)
          have ONl := hide (ON.out l hlL)
          have AGl := hide (AG.out l hlL)
          have hll := OL.out l
          obtain ⟨m1, m2, -⟩ := marked_b f t c.di (L.getD l wn0)
          generalize L.getD l wn0 = x at *
          generalize hmx : markedW f t c.di x = mx at *
          have hsp : x.sp = mx.sp := by unfold Wn.sp; rw [m1, m2]
          rw [hsp] at C1
          clear hmx hsp m1 m2
          generalize overB x.b c.lt t = ov at *
          generalize outJ f t c.lt c.di L l = O at *
          have AJ : Hid (∃ b, a1 = some ⟨b, 0, none⟩ ∧ ∀ W, Calm wo W → wcell W b (l * 9) mx) := hide (by
            have hlA : l < (allM f t c.di L).length := by have := hal.out; omega
            obtain ⟨b, off, e, -⟩ := wn_at (Rc.Own.mem HMS.out.all).2.1 l hlA
            have hoff := ((Rc.Own.mem HMS.out.all).2.2.2.2.2 _ e).2.1
            simp only at hoff
            subst hoff
            refine ⟨b, e, fun W hW => ?_⟩
            obtain ⟨b', off', e', cc⟩ := wn_at (Rc.Mem.calm (Rc.Own.mem HMS.out.all).2.1 hW) l hlA
            rw [e] at e'
            injection e' with e'
            injection e' with e1 e2
            subst e1 e2
            rw [AGl.out, Nat.zero_add] at cc
            exact cc)
          obtain ⟨b, rfl, hcell⟩ := AJ.out
          have HC := hide hcell
          have HO := hide OW
          have HT := hide T0
          have hli : (l : Int) < (j : Int) := by omega
          clear OW T0 hcell AJ ON OZ AG
          go_wp2_with fail
          refine wp_region_held (S := Calm wo) (by kernel_rfl) ?_
          have hT0 : Calm wo { wr with drawn := wr.drawn + 1 } := HT.out.drew
          refine wpAnyH_yield 0 92 (.slice (some ⟨b, 0, none⟩) j c1) rfl rfl (by kernel_rfl) (by kernel_rfl) (by kernel_rfl) (fun _ _ _ h => h) (by kernel_rfl) (fun W hW => by kernel_rfl) (by assumption) rfl rfl ?_
          simp only [Act.put, List.setIfInBounds_toArray, List.set_cons_zero, List.set_cons_succ]
          refine wpAnyH_yield 1 93 (.int .i64 (l : Int)) rfl rfl (by kernel_rfl) (by kernel_rfl) (by kernel_rfl) (fun _ _ _ h => h) (by kernel_rfl) (fun W hW => by kernel_rfl) (by assumption) rfl rfl ?_
          simp only [Act.put, List.setIfInBounds_toArray, List.set_cons_zero, List.set_cons_succ]
          refine wpAnyH_yield 2 94 (.pointer (some ⟨b, l * 9, none⟩)) rfl rfl (by kernel_rfl) (by kernel_rfl) (by kernel_rfl) (fun _ _ _ h => h) (by kernel_rfl) (fun W hW => by go_simp) (by assumption) rfl rfl ?_
          simp only [Act.put, List.setIfInBounds_toArray, List.set_cons_zero, List.set_cons_succ]
          refine wpAnyH_yield 3 95 (.pointer (some ⟨b, l * 9, none⟩)) rfl rfl (by kernel_rfl) (by kernel_rfl) (by kernel_rfl) (fun _ _ _ h => h) (by kernel_rfl) (fun W hW => by go_simp) (by assumption) rfl rfl ?_
          simp only [Act.put, List.setIfInBounds_toArray, List.set_cons_zero, List.set_cons_succ]
          refine wpAnyH_yield 4 96 (spv mx.sp) rfl rfl (by kernel_rfl) (by kernel_rfl) (by kernel_rfl) (fun _ _ _ h => h) (by kernel_rfl) (fun W hW => by obtain ⟨⟨c0, c1, c2⟩, -⟩ := HC.out W hW; go_simp) (by assumption) rfl rfl ?_
          simp only [Act.put, List.setIfInBounds_toArray, List.set_cons_zero, List.set_cons_succ]
          refine wpAnyH_yield 5 97 (.pointer (some ⟨B, 7, none⟩)) rfl rfl (by kernel_rfl) (by kernel_rfl) (by kernel_rfl) (fun _ _ _ h => h) (by kernel_rfl) (fun W hW => by go_simp) (by assumption) rfl rfl ?_
          simp only [Act.put, List.setIfInBounds_toArray, List.set_cons_zero, List.set_cons_succ]
          refine wpAnyH_yield 6 98 (.int .i64 c.lt) rfl rfl (by kernel_rfl) (by kernel_rfl) (by kernel_rfl) (fun _ _ _ h => h) (by kernel_rfl) (fun W hW => by obtain ⟨-, g7, -, -⟩ := cf_cells (hW.at HMS.out.cf); go_simp) (by assumption) rfl rfl ?_
          simp only [Act.put, List.setIfInBounds_toArray, List.set_cons_zero, List.set_cons_succ]
          refine wpAnyH_yield 7 99 (.int .i64 t) rfl rfl (by kernel_rfl) (by kernel_rfl) (by kernel_rfl) (fun _ _ _ h => h) (by kernel_rfl) (fun W hW => by kernel_rfl) (by assumption) rfl rfl ?_
          simp only [Act.put, List.setIfInBounds_toArray, List.set_cons_zero, List.set_cons_succ]
          refine wpAnyH_enter 8 100 23 #[spv mx.sp, .int .i64 c.lt, .int .i64 t] rfl rfl (by kernel_rfl) (by kernel_rfl) (by kernel_rfl) ?_
          refine (C1.out _).mono ?_
          rintro r w5 ⟨rfl, T5⟩
          have h5 := hT0.tr T5
          refine ⟨_, rfl, h5, ?_⟩
          simp only [Act.put, List.setIfInBounds_toArray, List.set_cons_zero, List.set_cons_succ]
          refine wpAnyH_yield 9 101 (.bool (!ov)) rfl rfl (by kernel_rfl) (by kernel_rfl) (by kernel_rfl) (fun _ _ _ h => h) (by kernel_rfl) (fun W hW => by go_simp) (by assumption) rfl rfl ?_
          simp only [Act.put, List.setIfInBounds_toArray, List.set_cons_zero, List.set_cons_succ]
          refine wpAnyH_done (by kernel_rfl) ?_ _
          have OW5 := Rc.Own.calm HO.out (((Touch.refl (fun _ => False) wr).drew).tr T5)
          have H5 := hide h5
          have HO5 := hide OW5
          clear hT0 T5 h5 C1 HO HT OW5
          cases ov with
          | true =>
            go_wp2_with fail
            go_roundw
            case rel => exact ⟨l + 1, oo, oc, by go_num, by omega, by rw [ONl.out]; simp, by rw [ONl.out]; simpa using HO5.out, H5.out⟩
            case measure => simp [intOf]; omega
          | false =>
            obtain ⟨⟨c0, c1', c2⟩, ⟨c3, c4, c5, c6⟩, c7, c8⟩ := HC.out w5 H5.out
            have hsz5 := H5.out.size
            obtain ⟨a2, p2, w6, hr6, ow6, t6⟩ := wn_app mx HO5.out (by have := HB3.out; omega) (by omega)
            have C6 : Calm wo w6 := Touch.trans H5.out t6 (fun d hd hS => by have := (Rc.own_block HO5.out hS).1; have := HB3.out; omega)
            have eO : outJ f t c.lt c.di L (l + 1) = O ++ [mx] := by rw [ONl.out]; rfl
            have HO6 := hide ow6
            have H6 := hide C6
            have hlen : (O ++ [mx]).length = O.length + 1 := by simp
            clear ow6 t6 C6
            generalize O.length = ol at *
            go_wp2_with (at_builtin; refine Rc.wpList_appR rfl (.tmp 102) (.tmp 107) 50 50 rfl _ _ _ rfl rfl hr6 ?_)
            go_roundw
            case rel => exact ⟨l + 1, a2, p2, by go_num, by omega, by rw [eO, hlen], by rw [eO]; exact HO6.out, H6.out⟩
            case measure => simp [intOf]; omega
        · have e : l = j := by omega
          subst e
          rw [OA.out] at OW ⊢
          have hB := HB.out
          have hB3 := HB3.out
          have hwo := HMS.out.calm.size
          have hge : w.heap.size ≤ b3 := by omega
          have hb2 : w.heap.size ≤ b2 := by have := HBb.out; omega
          have HZ := hide (show RetM w (.returned (.tuple #[.slice oo (outM f t c.lt c.di L).length oc, .slice po P.length pc])) wr (outM f t c.lt c.di L) P from ⟨oo, oc, po, pc, rfl, Rc.Own.base OW hge, Rc.Own.base (Rc.Own.calm HMS.out.pan T0) hb2, HMS.out.calm.tr T0⟩)
          clear OW T0 hB hB3 hwo hge hb2
          generalize (outM f t c.lt c.di L).length = u at *
          go_wp2_with fail
          go_ret2
          rw [HPe.out]
          exact HZ.out

end Go.Proofs.Ytfmlbcddomggaaa
