/- The walk of TriggerWindow, by contracts of the program's trigger. -/
import Derived.Test.YtfmlbcddomggaaaVM
import Derived.Test.YtfmlbcddomggaaaVW
import Derived.Test.YtfmlbcddomggaaaVFm
namespace Go.Proofs.Ytfmlbcddomggaaa
open Go.RowKit

/-- A part of a tuple. -/
def tupAt : Value → Nat → Value
  | .tuple a, i => a.getD i undef
  | _, _ => undef

/-- The job, the span, the window, the panes so far, in memory. -/
structure Wk (w : World) (B D : Nat) (c : Cf) (s : Sp) (x : Wn) (po : Option Addr) (pc : Nat) (P : List Pn) (wr : World) : Prop where
  cf : wr.heap[B]? = some (.cells (cfc c) 24 (0, 0))
  sp : wr.heap[B + 1]? = some (.cells (spc s) 26 (0, 0))
  wn : wr.heap[D]? = some (.cells (wnc x) 30 (0, 0))
  pan : encP.Own 37 wr (D + 1) (.slice po P.length pc) P
  calm : Calm w wr

theorem Wk.step {w : World} {B D : Nat} {c : Cf} {s : Sp} {x : Wn} {po : Option Addr} {pc : Nat} {P : List Pn} {wr wr' : World} (h : Wk w B D c s x po pc P wr) (ht : Calm wr wr') : Wk w B D c s x po pc P wr' :=
  ⟨ht.at h.cf, ht.at h.sp, ht.at h.wn, Rc.Own.calm h.pan ht, h.calm.tr ht⟩

/-- How much the first l panes count. -/
def sumC (P : List Pn) (l : Nat) : Int := ((P.take l).map fun q => q.t.c).sum

theorem sum_below (b : Int) : ∀ (l : List Int), (∀ x ∈ l, x ≤ b) → l.sum ≤ l.length * b
  | [], _ => by simp
  | x :: l, h => by
    have := sum_below b l fun y hy => h y (by simp [hy])
    have := h x (by simp)
    simp only [List.sum_cons, List.length_cons]
    rw [Int.natCast_add, Int.add_mul]
    omega

theorem mem_le_sum : ∀ (l : List Int), (∀ x ∈ l, 0 ≤ x) → ∀ x ∈ l, x ≤ l.sum
  | [], _, _, h => (nomatch h)
  | y :: l, h, x, hx => by
    have h0 := sum_nonneg l fun z hz => h z (by simp [hz])
    have h1 := h y (by simp)
    simp only [List.sum_cons]
    rcases List.mem_cons.1 hx with rfl | hx
    · omega
    · have := mem_le_sum l (fun z hz => h z (by simp [hz])) x hx
      omega

theorem Tw.sums {c : Cf} {s : Sp} {k : ByteArray} {i : Nat} {x : Wn} {P : List Pn} (h : Tw c s k i x P) (hi : i ≤ 5000) (hq : ∀ q ∈ P, 0 ≤ q.t.c) (l : Nat) (hl : l < P.length) : wrap64 (sumC P l + (P.getD l pn0).t.c) = sumC P (l + 1) := by
  have hc := h.cnt
  have h0 := h.c0
  have nn : ∀ y ∈ P.map (fun q => q.t.c), 0 ≤ y := fun y hy => by
    obtain ⟨q, hq', rfl⟩ := List.mem_map.1 hy
    exact hq q hq'
  have each : ∀ y ∈ P.map (fun q => q.t.c), y ≤ 5000 := fun y hy => by
    split at hc
    · have := mem_le_sum _ nn y hy
      omega
    · rename_i hd
      obtain ⟨q, hq', rfl⟩ := List.mem_map.1 hy
      have := h.top (by simpa using hd) q hq'
      omega
  have e : sumC P (l + 1) = sumC P l + (P.getD l pn0).t.c := by
    unfold sumC
    rw [List.take_succ_eq_append_getElem hl, List.map_append, List.sum_append, List.getD_eq_getElem?_getD, List.getElem?_eq_getElem hl]
    simp
  rw [← e]
  have m1 : ∀ y ∈ (P.take (l + 1)).map (fun q => q.t.c), y ∈ P.map (fun q => q.t.c) := fun y hy => by
    obtain ⟨q, hq', rfl⟩ := List.mem_map.1 hy
    exact List.mem_map.2 ⟨q, List.mem_of_mem_take hq', rfl⟩
  have g0 := sum_nonneg _ fun y hy => nn y (m1 y hy)
  have g1 := sum_below 5000 _ fun y hy => each y (m1 y hy)
  have hlen := h.len
  have g2 : ((P.take (l + 1)).map (fun q => q.t.c)).length ≤ 5000 := by rw [List.length_map, List.length_take]; omega
  have g3 : sumC P (l + 1) = ((P.take (l + 1)).map (fun q => q.t.c)).sum := rfl
  rw [← g3] at g0 g1
  exact wrap64_id (by unfold I64; omega)

theorem Tw.all {c : Cf} {s : Sp} {k : ByteArray} {i : Nat} {x : Wn} {P : List Pn} (h : Tw c s k i x P) (hi : i ≤ 5000) (hd : c.di = true) : wrap64 (sumC P P.length + x.t.c) = i := by
  have hc := h.cnt
  rw [if_pos hd] at hc
  unfold sumC
  rw [List.take_length, hc]
  exact wrap64_id (by unfold I64; omega)

theorem Tw.at {c : Cf} {s : Sp} {k : ByteArray} {i : Nat} {x : Wn} {P : List Pn} (h : Tw c s k i x P) (l : Nat) (hl : l < P.length) : (P.getD l pn0).n = l := by
  rw [List.getD_eq_getElem?_getD, List.getElem?_eq_getElem hl]
  exact h.nth l hl

theorem Tw.up {c : Cf} {s : Sp} {k : ByteArray} {i : Nat} {x : Wn} {P : List Pn} (h : Tw c s k i x P) (hd : c.di = false) (l : Nat) (hl : l + 1 < P.length) : (P.getD l pn0).t.c < (P.getD (l + 1) pn0).t.c := by
  rw [List.getD_eq_getElem?_getD, List.getElem?_eq_getElem (show l < P.length by omega), List.getD_eq_getElem?_getD, List.getElem?_eq_getElem hl]
  exact List.pairwise_iff_getElem.1 (h.rise hd) l (l + 1) (by omega) hl (by omega)

theorem Wk.past {w : World} {B D : Nat} {c : Cf} {s : Sp} {x : Wn} {po : Option Addr} {pc : Nat} {P : List Pn} {wr W W' : World} (h : Wk w B D c s x po pc P wr) (ht : Calm wr W) {p : Nat} (h' : Touch (fun k => k = p) W W') (hp : wr.heap.size ≤ p) : Wk w B D c s x po pc P W' := by
  have g := h.step ht
  have l0 := lt_of_heap h.cf
  have l1 := lt_of_heap h.sp
  have l2 := lt_of_heap h.wn
  refine ⟨h'.heap g.cf (by omega), h'.heap g.sp (by omega), h'.heap g.wn (by omega), Rc.Own.touch g.pan h' (fun k hk e => ?_), Touch.trans g.calm h' (fun k hk e => by have := h.calm.size; omega)⟩
  obtain ⟨_, cur, hcur⟩ := Rc.own_block h.pan hk
  have := lt_of_heap hcur
  omega

theorem addT_ok {t : Tl} {v : Int} (ht : t.Ok) (hv : I64 v) : (addT t v).Ok := by
  rw [addT_eq hv]
  have h1 := ht.c
  have h2 := ht.m
  have h3 := ht.x
  unfold I64 at h1 h2 h3 hv
  split
  · refine ⟨?_, ?_, ?_, ?_⟩ <;> (unfold I64; dsimp only; omega)
  · refine ⟨?_, ?_, ?_, ?_⟩
    · unfold I64; dsimp only; split <;> omega
    · unfold I64 wrap64; dsimp only; omega
    · unfold I64; dsimp only; omega
    · unfold I64; dsimp only; omega

theorem evW_ok {c : Cf} {x : Wn} {v t m : Int} (hx : x.Ok) (hv : I64 v) (ht : I64 t) (hm : I64 m) : (evW c x v t m).Ok := by
  have hg : (grewW x v t m).Ok := ⟨hx.a, hx.b, by unfold grewW I64 at *; have := hx.h; unfold I64 at this; simp only; omega, addT_ok hx.t hv, moreN_ok hx.n, hx.p⟩
  unfold evW
  split
  · refine ⟨hg.a, hg.b, hg.h, ?_, by unfold tellW I64; simp, moreN_ok hg.p⟩
    show (if c.di then tl0 else (grewW x v t m).t).Ok
    split
    · exact ⟨by unfold I64; decide, by unfold I64; decide, by unfold I64; decide, by unfold I64; decide⟩
    · exact hg.t
  · exact hg

set_option maxRecDepth 100000 in
set_option maxHeartbeats 20000000 in
theorem window_walk (hB : BehC) (hO : OnC) (hT : TellC) (hE : EvC) (c : Cf) (s : Sp) (so : Option Addr) (sc : Nat) (V : List Int) (m : Int) (w : World) (hsa : I64 s.a) (hsb : I64 s.b) (hV : Seg w .i64 so V) (hvi : ∀ v ∈ V, I64 v) (hm : I64 m) :
    Calls Try.prog 6 #[cfv c, spv s, .slice so V.length sc, .int .i64 m] w fun e w' => e = .returned (.bool true) ∧ Calm w w' := by
  have CK := fun w => hide (known10_any hB hO hT hE w)
  have CE : Hid (∀ (x : Wn) (v : Int), x.Ok → I64 v → ∀ W, Calls Try.prog 16 #[cfv c, .string kK, wnv x, .int .i64 v, .int .i64 s.a, .int .i64 m] W fun e w' => RetE W e w' (evW c x v s.a m) (evP c kK x v s.a m)) := hide fun x v hx hv W => hE c kK x v s.a m hx hv hsa hm W
  have CB : Hid (∀ (x : Wn) (W : World), Calls Try.prog 8 #[cfv c, wnv x, .int .i64 m] W fun e w' => e = .returned (.tuple #[.int .i64 (behK c.ea m x), .bool (behB c.ea m x)]) ∧ Calm W w') := hide fun x W => hB c x m W
  have HVat : Hid (∀ k, k < V.length → ∃ b off, so = some ⟨b, off, none⟩ ∧ I64 (V.getD k 0) ∧ ∀ W, Calm w W → W.cell? ⟨b, off + k, none⟩ = some (.int .i64 (V.getD k 0))) := hide fun k hk => by
    obtain ⟨b, off, e⟩ := hV.addr (by omega)
    subst e
    refine ⟨b, off, rfl, hvi _ (by rw [List.getD_eq_getElem?_getD, List.getElem?_eq_getElem hk]; exact List.getElem_mem hk), fun W hW => ?_⟩
    exact (hV.touch hW (fun _ _ h => h)).at k hk
  have STP : Hid (∀ (i : Nat) (x : Wn) (P : List Pn) (v : Int), Tw c s kK i x P → i < 1000000 → (∀ q ∈ P, 0 ≤ q.t.c) → x.Ok → I64 v → Tw c s kK (i + 1) (evW c x v s.a m) (P ++ evP c kK x v s.a m) ∧ (∀ q ∈ P ++ evP c kK x v s.a m, 0 ≤ q.t.c) ∧ (evW c x v s.a m).Ok) := hide fun i x P v h hi hq hx hv =>
    ⟨(h.step hi hq v s.a m hv).1, (h.step hi hq v s.a m hv).2, evW_ok hx hv hsa hm⟩
  have A0 := (al1 w (.cells (cfc c) 24) (.cells (spc s) 26)).1
  have A1 := (al1 w (.cells (cfc c) 24) (.cells (spc s) 26)).2
  have T0 : Calm w ((w.alloc (.cells (cfc c) 24)).alloc (.cells (spc s) 26)) := ((Touch.refl _ _).alloc _).alloc _
  have X0 : Hid ((⟨s.a, s.b, 4611686018427387904, tl0, 0, 0⟩ : Wn).Ok) := hide ⟨hsa, hsb, by unfold I64; dsimp only; omega, ⟨by unfold I64; dsimp only; omega, by unfold I64; dsimp only; omega, by unfold I64; dsimp only; omega, by unfold I64; dsimp only; omega⟩, by unfold I64; dsimp only; omega, by unfold I64; dsimp only; omega⟩
  obtain ⟨n, hN⟩ : ∃ n, n = V.length := ⟨_, rfl⟩
  have HN := hide hN
  rw [← hN] at HVat ⊢
  have HA0 := hide A0
  have HA1 := hide A1
  have HT0 := hide T0
  clear A0 A1 T0 hB hO hT hE hV hvi hm hN hsa hsb
  go_enter Try.func6, Try.ntmps6
  go_wp2_with fail
  refine (CK _).out.mono ?_
  rintro e w1 ⟨rfl, T1⟩
  have H0 := hide (T1.at HA0.out)
  have H1 := hide (T1.at HA1.out)
  have HT := hide (HT0.out.tr T1)
  clear T1 HA0 HA1 HT0 CK
  generalize hBw : w.heap.size = B at *
  have HBw := hide hBw
  clear hBw
  obtain ⟨⟨g0, g1, g2, g3, g4, g5, g6⟩, g7, g8, g9⟩ := cf_cells H0.out
  obtain ⟨s0, s1⟩ := sp_cells H1.out
  by_cases he0 : c.ea < 0
  · have d1 : decide (c.ea < 0) = true := decide_eq_true he0
    clear he0
    go_wp2_with fail
    go_ret
    exact ⟨rfl, HT.out⟩
  by_cases he1 : 2147483647 < c.ea
  · have d1 : decide (c.ea < 0) = false := decide_eq_false he0
    have d2 : decide (2147483647 < c.ea) = true := decide_eq_true he1
    clear he0 he1
    go_wp2_with fail
    go_ret
    exact ⟨rfl, HT.out⟩
  by_cases he2 : (5000 : Int) < (n : Int)
  · have d1 : decide (c.ea < 0) = false := decide_eq_false he0
    have d2 : decide (2147483647 < c.ea) = false := decide_eq_false he1
    have d3 : decide ((5000 : Int) < (n : Int)) = true := decide_eq_true he2
    clear he0 he1 he2
    go_wp2_with fail
    go_ret
    exact ⟨rfl, HT.out⟩
  have d1 : decide (c.ea < 0) = false := decide_eq_false he0
  have d2 : decide (2147483647 < c.ea) = false := decide_eq_false he1
  have d3 : decide ((5000 : Int) < (n : Int)) = false := decide_eq_false he2
  have HEA : Hid (0 ≤ c.ea) := hide (by omega)
  have hn5 : n ≤ 5000 := by omega
  clear he0 he1 he2
  go_wp2_with fail
  have K0 : Wk w B w1.heap.size c s ⟨s.a, s.b, 4611686018427387904, tl0, 0, 0⟩ none 0 [] (w1.alloc (.cells (wnc ⟨s.a, s.b, 4611686018427387904, tl0, 0, 0⟩) 30)) :=
    ⟨al_old H0.out _, al_old H1.out _, al_new w1 _, Rc.Own.nil _ _ _, HT.out.alloc _⟩
  have HK0 := hide K0
  have hD : Hid (B + 1 < w1.heap.size) := hide (lt_of_heap H1.out)
  clear K0 H0 H1 HT g0 g1 g2 g3 g4 g5 g6 g7 g8 g9 s0 s1 d1 d2 d3
  generalize w1.alloc (.cells (wnc ⟨s.a, s.b, 4611686018427387904, tl0, 0, 0⟩) 30) = wS at *
  generalize w1.heap.size = D at *
  go_loopw [10, 11] (fun a i wr => ∃ (j : Nat) (x : Wn) (P : List Pn) (po : Option Addr) (pc : Nat), i = .int .i64 j ∧ j ≤ n ∧ a = .slice po P.length pc ∧ Tw c s kK j x P ∧ (∀ q ∈ P, 0 ≤ q.t.c) ∧ x.Ok ∧ Wk w B D c s x po pc P wr) (fun _ i _ => n - (intOf i).toNat)
  case atStart => exact ⟨0, _, [], none, 0, rfl, Nat.zero_le _, rfl, Tw.begin c s kK _, fun _ h => (nomatch h), X0.out, HK0.out⟩
  case round =>
    obtain ⟨j, x, P, po, pc, rfl, hj, rfl, hTw, hq0, hxo, hWk⟩ := hrel
    by_cases hlt : j < n
    · obtain ⟨vb, vf, rfl, hvi, hvc⟩ := HVat.out j hlt
      have HVC := hide hvc
      have C1 := hide (CE.out x _ hxo hvi)
      have S1 := hide (STP.out j x P _ hTw (by omega) hq0 hxo hvi)
      have BA : Hid (∀ v, behB c.ea m (evW c x v s.a m) = decide (s.b ≤ m)) := hide fun v => by rw [beh_again c x v s.a m HEA.out, hTw.b]
      have EA : Hid (∀ v, (evW c x v s.a m).a = s.a ∧ (evW c x v s.a m).b = s.b) := hide fun v => by
        have h := hTw.a
        have h' := hTw.b
        unfold evW
        split <;> exact ⟨h, h'⟩
      have EP : Hid (∀ v, evP c kK x v s.a m = [] ∨ ∃ q, evP c kK x v s.a m = [q] ∧ q.a = s.a ∧ q.b = s.b ∧ q.k = kK) := hide fun v => by
        have h := hTw.a
        have h' := hTw.b
        unfold evP
        split
        · exact .inr ⟨_, rfl, h, h', rfl⟩
        · exact .inl rfl
      have hpl : P.length ≤ j := hTw.len
      have hlp : P.length ≤ 5000 := by omega
      have HPl := hide hlp
      have HWk := hide hWk
      generalize hv : V.getD j 0 = v at *
      have BA1 := hide (BA.out v)
      have EA1 := hide (EA.out v)
      have EP1 := hide (EP.out v)
      clear hTw hq0 hxo hWk hv BA EA EP hvi hvc
      have HPl' : Hid ((evP c kK x v s.a m).length ≤ 1) := hide (by unfold evP; split <;> simp)
      generalize evW c x v s.a m = x' at *
      generalize evP c kK x v s.a m = P' at *
      have hji : (j : Int) < (n : Int) := by omega
      go_wp2_with fail
      refine wp_region_held (S := Calm wr) (by kernel_rfl) ?_
      have hT0 : Calm wr { wr with drawn := wr.drawn + 1 } := (Touch.refl _ wr).drew
      refine wpAnyH_yield 0 42 (cfv c) rfl rfl (by kernel_rfl) (by kernel_rfl) (by kernel_rfl) (fun _ _ _ h => h) (by kernel_rfl) (fun W hW => by obtain ⟨⟨g0, g1, g2, g3, g4, g5, g6⟩, g7, g8, g9⟩ := cf_cells (hW.at HWk.out.cf); go_simp) (by assumption) rfl rfl ?_
      simp only [Act.put, List.setIfInBounds_toArray, List.set_cons_zero, List.set_cons_succ]
      refine wpAnyH_yield 1 43 (wnv x) rfl rfl (by kernel_rfl) (by kernel_rfl) (by kernel_rfl) (fun _ _ _ h => h) (by kernel_rfl) (fun W hW => by obtain ⟨⟨c0, c1, c2⟩, ⟨c3, c4, c5, c6⟩, c7, c8⟩ := wn_cells (hW.at HWk.out.wn); go_simp) (by assumption) rfl rfl ?_
      simp only [Act.put, List.setIfInBounds_toArray, List.set_cons_zero, List.set_cons_succ]
      refine wpAnyH_yield 2 44 (.slice (some ⟨vb, vf, none⟩) n sc) rfl rfl (by kernel_rfl) (by kernel_rfl) (by kernel_rfl) (fun _ _ _ h => h) (by kernel_rfl) (fun W hW => by kernel_rfl) (by assumption) rfl rfl ?_
      simp only [Act.put, List.setIfInBounds_toArray, List.set_cons_zero, List.set_cons_succ]
      refine wpAnyH_yield 3 45 (.int .i64 (j : Int)) rfl rfl (by kernel_rfl) (by kernel_rfl) (by kernel_rfl) (fun _ _ _ h => h) (by kernel_rfl) (fun W hW => by kernel_rfl) (by assumption) rfl rfl ?_
      simp only [Act.put, List.setIfInBounds_toArray, List.set_cons_zero, List.set_cons_succ]
      refine wpAnyH_yield 4 46 (.pointer (some ⟨vb, vf + j, none⟩)) rfl rfl (by kernel_rfl) (by kernel_rfl) (by kernel_rfl) (fun _ _ _ h => h) (by kernel_rfl) (fun W hW => by go_simp) (by assumption) rfl rfl ?_
      simp only [Act.put, List.setIfInBounds_toArray, List.set_cons_zero, List.set_cons_succ]
      refine wpAnyH_yield 5 47 (.int .i64 v) rfl rfl (by kernel_rfl) (by kernel_rfl) (by kernel_rfl) (fun _ _ _ h => h) (by kernel_rfl) (fun W hW => by have hc := HVC.out W (HWk.out.calm.tr hW); go_simp) (by assumption) rfl rfl ?_
      simp only [Act.put, List.setIfInBounds_toArray, List.set_cons_zero, List.set_cons_succ]
      refine wpAnyH_yield 6 48 (.pointer (some ⟨B + 1, 0, none⟩)) rfl rfl (by kernel_rfl) (by kernel_rfl) (by kernel_rfl) (fun _ _ _ h => h) (by kernel_rfl) (fun W hW => by go_simp) (by assumption) rfl rfl ?_
      simp only [Act.put, List.setIfInBounds_toArray, List.set_cons_zero, List.set_cons_succ]
      refine wpAnyH_yield 7 49 (.int .i64 s.a) rfl rfl (by kernel_rfl) (by kernel_rfl) (by kernel_rfl) (fun _ _ _ h => h) (by kernel_rfl) (fun W hW => by obtain ⟨s0, s1⟩ := sp_cells (hW.at HWk.out.sp); go_simp) (by assumption) rfl rfl ?_
      simp only [Act.put, List.setIfInBounds_toArray, List.set_cons_zero, List.set_cons_succ]
      refine wpAnyH_yield 8 50 (.int .i64 m) rfl rfl (by kernel_rfl) (by kernel_rfl) (by kernel_rfl) (fun _ _ _ h => h) (by kernel_rfl) (fun W hW => by kernel_rfl) (by assumption) rfl rfl ?_
      simp only [Act.put, List.setIfInBounds_toArray, List.set_cons_zero, List.set_cons_succ]
      refine wpAnyH_names fun ops Q a0 hops hQ ha => ?_
      obtain ⟨F, hF⟩ : ∃ F : (Nat → Value) → Value → Act, F = fun vs p => ((a0.put (some 51) (vs 0)).put (some 41) (vs 1)).put (some 12) p := ⟨_, rfl⟩
      obtain ⟨FB, hFB⟩ : ∃ FB : (Nat → Value) → Value → Act, FB = fun vs p => ((((a0.put (some 51) (vs 0)).put (some 41) (vs 1)).put (some 52) (wnv x')).put (some 53) (tupAt (vs 0) 1)).put (some 12) p := ⟨_, rfl⟩
      have f0 : a0 = F (fun j => if j = 0 then u51 else u41) u12 := by rw [hF, ha]; kernel_rfl
      have g0 : ∀ vs p x, (F vs p).put (some 51) x = F (fun j => if j = 0 then x else vs j) p := fun vs p x => by rw [hF, ha]; kernel_rfl
      have g1 : ∀ vs p x, (F vs p).put (some 41) x = F (fun j => if j = 1 then x else vs j) p := fun vs p x => by rw [hF, ha]; kernel_rfl
      have g4 : ∀ vs x, (F vs u12).put (some 12) x = F vs x := fun vs x => by rw [hF, ha]; kernel_rfl
      have g5 : ∀ vs x, (FB vs u12).put (some 12) x = FB vs x := fun vs x => by rw [hFB, ha]; kernel_rfl
      rw [f0]
      refine wpAnyH_float5 (m := 2) (fuel := 2) 2 (fun k => [9, 10].getD k 0) 13 12 (.cells (wnc wn0) 30) F FB u12 (fun k b => #[true, true, true, true, true, true, true, true, true, decide (1 ≤ k), decide (2 ≤ k), false, false, b, false, false]) (fun b => #[true, true, true, true, true, true, true, true, true, true, true, true, true, b, false, false])
        (fun k vs W => (1 ≤ k → ∃ po' pc', vs 0 = .tuple #[wnv x', .slice po' P'.length pc'] ∧ encP.Own 37 W wr.heap.size (.slice po' P'.length pc') P') ∧ (2 ≤ k → vs 1 = vs 0)) wr
        (by rw [hops]; rfl) rfl (fun vs p => by rw [hops]; kernel_rfl) (fun vs W => by kernel_rfl) g4 ?hLf ?hLi ?r0 ?r1 ?hI (fun W h => h) ?step ?takes ?rf ?hLB g5 (fun vs p => by rw [hops]; kernel_rfl) (fun vs W => by kernel_rfl) ?fin _ _ ⟨fun h => absurd h (by omega), fun h => absurd h (by omega)⟩ hT0
      case hLf => intro k hk; rcases (by omega : k = 0 ∨ k = 1) with rfl | rfl <;> rfl
      case hLi => intro k b hk; rcases (by omega : k = 0 ∨ k = 1) with rfl | rfl <;> rfl
      case r0 => intro k hk; subst hops; rcases (by omega : k = 0 ∨ k = 1) with rfl | rfl <;> kernel_rfl
      case r1 => intro k hk; subst hops; rcases (by omega : k = 0 ∨ k = 1) with rfl | rfl <;> kernel_rfl
      case rf => subst hops; kernel_rfl
      case hLB => rfl
      case hI =>
        rintro k vs W W' ⟨h1, h2⟩ hW
        exact ⟨fun h => by obtain ⟨po', pc', e, f⟩ := h1 h; exact ⟨po', pc', e, Rc.Own.calm f hW⟩, h2⟩
      case step =>
        rintro k vs p' W K hk ⟨h1, h2⟩ hc hK
        subst hops
        rcases (by omega : k = 0 ∨ k = 1) with rfl | rfl
        · refine wpOp_enter 9 51 16 #[cfv c, .string kK, wnv x, .int .i64 v, .int .i64 s.a, .int .i64 m] rfl rfl (by kernel_rfl) (by rw [hF, ha]; kernel_rfl) ?_
          refine (C1.out W).mono ?_
          rintro r W' ⟨po', pc', rfl, ow, hW⟩
          exact ⟨_, rfl, by rw [g0]; exact hK _ _ hW ⟨fun _ => ⟨po', pc', rfl, Rc.Own.base ow hc.size⟩, fun h => absurd h (by omega)⟩⟩
        · obtain ⟨po', pc', e, ow⟩ := h1 (by omega)
          refine wpOp_value 10 41 (vs 0) (w' := W) rfl rfl (by kernel_rfl) (by rw [hF, ha]; kernel_rfl) ?_
          rw [g1]
          exact hK _ _ (Touch.refl _ _) ⟨fun _ => ⟨po', pc', e, ow⟩, fun _ => rfl⟩
      case takes =>
        rintro n' vs p' b W ⟨h1, h2⟩ hc hK
        obtain ⟨po', pc', e, ow⟩ := h1 (by omega)
        have e2 := h2 (by omega)
        rw [e] at e2
        have eF : F vs p' = ((a0.put (some 51) (.tuple #[wnv x', .slice po' P'.length pc'])).put (some 41) (.tuple #[wnv x', .slice po' P'.length pc'])).put (some 12) p' := by rw [hF]; simp only [e, e2]
        have eB : FB vs p' = (((((a0.put (some 51) (.tuple #[wnv x', .slice po' P'.length pc'])).put (some 41) (.tuple #[wnv x', .slice po' P'.length pc'])).put (some 12) p').put (some 52) (wnv x')).put (some 53) (.slice po' P'.length pc')) := by rw [hFB, ha]; simp only [e, e2]; kernel_rfl
        rw [eF]
        rw [eB] at hK
        subst hops hQ
        have hcS : Calm wr W := hc
        refine wpAnyH_yield 11 52 (wnv x') rfl rfl (by kernel_rfl) (by cases b <;> kernel_rfl) (by cases b <;> kernel_rfl) (fun _ _ _ h => h) (by kernel_rfl) (fun W hW => by rw [ha]; kernel_rfl) hcS rfl rfl ?_
        refine wpAnyH_yield 12 53 (.slice po' P'.length pc') rfl rfl (by kernel_rfl) (by cases b <;> kernel_rfl) (by cases b <;> kernel_rfl) (fun _ _ _ h => h) (by kernel_rfl) (fun W hW => by rw [ha]; kernel_rfl) hcS rfl rfl ?_
        exact hK
      case fin =>
        rintro vs p1 W ⟨h1, h2⟩ hc hp1 hh
        obtain ⟨po', pc', e, ow⟩ := h1 (by omega)
        have e2 := h2 (by omega)
        rw [e] at e2
        have eB : FB vs (.pointer (some ⟨p1, 0, none⟩)) = (((((a0.put (some 51) (.tuple #[wnv x', .slice po' P'.length pc'])).put (some 41) (.tuple #[wnv x', .slice po' P'.length pc'])).put (some 12) (.pointer (some ⟨p1, 0, none⟩))).put (some 52) (wnv x')).put (some 53) (.slice po' P'.length pc')) := by rw [hFB, ha]; simp only [e, e2]; kernel_rfl
        rw [eB, ha]
        subst hops hQ
        clear eB hF hFB ha f0 g0 g1 g4 g5 h1 h2 e e2 C1
        simp only [Act.put, List.setIfInBounds_toArray, List.set_cons_zero, List.set_cons_succ]
        have hcS : Calm wr W := hc
        obtain ⟨A6, T6⟩ := wn_all x' hh
        have SS : Calm wr _ := Touch.trans hcS T6 (fun k _ e => by omega)
        refine wpAnyH_do 14 ((((((((((W.setCell ⟨p1, 0, none⟩ (.int .i64 x'.a)).setCell ⟨p1, 1, none⟩ (.int .i64 x'.b)).setCell ⟨p1, 2, none⟩ (.int .i64 x'.h)).setCell ⟨p1, 3, none⟩ (.int .i64 x'.t.c)).setCell ⟨p1, 4, none⟩ (.int .i64 x'.t.s)).setCell ⟨p1, 5, none⟩ (.int .i64 x'.t.m)).setCell ⟨p1, 6, none⟩ (.int .i64 x'.t.x)).setCell ⟨p1, 7, none⟩ (.int .i64 x'.n)).setCell ⟨p1, 8, none⟩ (.int .i64 x'.p))) rfl (by kernel_rfl) (by kernel_rfl) ?_ SS ?_
        · intro K hK
          obtain ⟨⟨i0, i1, i2⟩, ⟨i3, i4, i5, i6⟩, i7, i8⟩ := wn_cells hh
          have y0 := wn_frozen hh 0
          have y1 := wn_frozen hh 1
          have y2 := wn_frozen hh 2
          have y3 := wn_frozen hh 3
          have y4 := wn_frozen hh 4
          have y5 := wn_frozen hh 5
          have y6 := wn_frozen hh 6
          have y7 := wn_frozen hh 7
          have y8 := wn_frozen hh 8
          unfold Oper.wp
          go_simp
          exact hK
        have ow7 := Rc.Own.touch ow T6 (fun g hg e => by
          subst e
          obtain ⟨-, cur, hcur⟩ := Rc.own_block ow hg
          rw [hh] at hcur
          injection hcur with hcur
          injection hcur with _ h37
          cases h37)
        have K6 := HWk.out.past hcS T6 hp1
        have hDp : D < p1 := Nat.lt_of_lt_of_le (lt_of_heap HWk.out.wn) hp1
        have hDw : Hid (D < wr.heap.size) := hide (lt_of_heap HWk.out.wn)
        have hsz6 : wr.heap.size ≤ ((((((((((W.setCell ⟨p1, 0, none⟩ (.int .i64 x'.a)).setCell ⟨p1, 1, none⟩ (.int .i64 x'.b)).setCell ⟨p1, 2, none⟩ (.int .i64 x'.h)).setCell ⟨p1, 3, none⟩ (.int .i64 x'.t.c)).setCell ⟨p1, 4, none⟩ (.int .i64 x'.t.s)).setCell ⟨p1, 5, none⟩ (.int .i64 x'.t.m)).setCell ⟨p1, 6, none⟩ (.int .i64 x'.t.x)).setCell ⟨p1, 7, none⟩ (.int .i64 x'.n)).setCell ⟨p1, 8, none⟩ (.int .i64 x'.p))).heap.size := SS.size
        generalize (((((((((W.setCell ⟨p1, 0, none⟩ (.int .i64 x'.a)).setCell ⟨p1, 1, none⟩ (.int .i64 x'.b)).setCell ⟨p1, 2, none⟩ (.int .i64 x'.h)).setCell ⟨p1, 3, none⟩ (.int .i64 x'.t.c)).setCell ⟨p1, 4, none⟩ (.int .i64 x'.t.s)).setCell ⟨p1, 5, none⟩ (.int .i64 x'.t.m)).setCell ⟨p1, 6, none⟩ (.int .i64 x'.t.x)).setCell ⟨p1, 7, none⟩ (.int .i64 x'.n)).setCell ⟨p1, 8, none⟩ (.int .i64 x'.p)) = W6 at *
        refine wpAnyH_yield 15 13 (.slice po' P'.length pc') rfl rfl (by kernel_rfl) (by kernel_rfl) (by kernel_rfl) (fun _ _ _ h => h) (by kernel_rfl) (fun W hW => by kernel_rfl) (by assumption) rfl rfl ?_
        simp only [Act.put, List.setIfInBounds_toArray, List.set_cons_zero, List.set_cons_succ]
        refine wpAnyH_done (by kernel_rfl) ?_ _
        clear hcS T6 SS hh hc hT0 ow HVC hlp hpl
        have HK6 := hide K6
        have HA6 := hide A6
        have HO6 := hide ow7
        clear K6 A6 ow7 HWk
        obtain ⟨xa, xb, xh, xt, xn, xp⟩ := x'
        obtain ⟨ea, eb⟩ := EA1.out
        simp only at ea eb
        subst ea eb
        have CB1 : Hid (∀ W, Calls Try.prog 8 #[cfv c, wnv ⟨s.a, s.b, xh, xt, xn, xp⟩, .int .i64 m] W fun e w' => e = .returned (.tuple #[.int .i64 (behK c.ea m ⟨s.a, s.b, xh, xt, xn, xp⟩), .bool (decide (s.b ≤ m))]) ∧ Calm W w') := hide fun W => by
          have h := CB.out ⟨s.a, s.b, xh, xt, xn, xp⟩ W
          rw [BA1.out] at h
          exact h
        generalize behK c.ea m ⟨s.a, s.b, xh, xt, xn, xp⟩ = bk at *
        clear EA1 BA1
        obtain ⟨⟨c0, c1, c2⟩, ⟨c3, c4, c5, c6⟩, c7, c8⟩ := wn_cells HA6.out
        obtain ⟨s0, s1⟩ := sp_cells HK6.out.sp
        simp only at c0 c1 c2 c3 c4 c5 c6 c7 c8
        have APP : Hid (∀ W, Calm W6 W → ∀ W8, Touch (fun k => k = D) W W8 → ∃ a2 p2 k9 w9, k9 = (P ++ P').length ∧ (Builtin.append_ #[46, 46] 46 #[.slice po P.length pc, .slice po' P'.length pc']).run Try.prog W8 = .ok (.slice a2 k9 p2) w9 ∧ (W8.heap[D]? = some (.cells (wnc ⟨s.a, s.b, xh, xt, xn, xp⟩) 30 (0, 0)) → Wk w B D c s ⟨s.a, s.b, xh, xt, xn, xp⟩ a2 p2 (P ++ P') w9)) := hide fun W hW W8 h8 => by
          have g := HK6.out.step hW
          have o1 := Rc.Own.touch g.pan h8 (fun k hk e => by have := (Rc.own_block g.pan hk).1; omega)
          have o2 := Rc.Own.touch (Rc.Own.calm HO6.out hW) h8 (fun k hk e => by have := (Rc.own_block HO6.out hk).1; have := hDw.out; omega)
          obtain ⟨i0, hi, hz, hsz, hby⟩ := Rc.info_parts infoPane
          have hl8 := h8.size
          have hDW := lt_of_heap g.wn
          have hP1 := HPl.out
          have hP2 := HPl'.out
          obtain ⟨a2, p2, w9, hr, ow, t2, hg2⟩ := Rc.Own.app (E := encP) (ty := 46) Try.underlying46 hi hz hsz hby rfl o1 po' pc' P' (Rc.Own.mem o2).2.1 (Rc.Own.mem o2).2.2.2.2.1 (by unfold maxLen; omega) (by omega) (by omega)
          refine ⟨a2, p2, _, w9, rfl, hr, fun h9 => ?_⟩
          have hb := hD.out
          have nb : ∀ k, k ≤ D → ¬ (Value.slice po P.length pc).ownBlock = some k := fun k hk e => by have := (Rc.own_block o1 e).1; omega
          refine ⟨t2.heap (h8.heap g.cf (by omega)) (nb _ (by omega)), t2.heap (h8.heap g.sp (by omega)) (nb _ (by omega)), t2.heap h9 (nb _ (Nat.le_refl _)), ow, ?_⟩
          have hw := HBw.out
          exact Touch.trans (Touch.trans g.calm h8 (fun k hk e => by omega)) t2 (fun k hk e => nb k (by omega) e)
        generalize hul : P'.length = u at *
        have HUL := hide hul
        generalize P.length = pl at *
        clear hul
        generalize hbd : decide (s.b ≤ m) = bd at *
        rcases EP1.out with e | ⟨q, e, qa, qb, qk⟩
        · obtain rfl : u = 0 := by rw [← HUL.out, e]; rfl
          clear EP1 e
          go_wp2_with fail
          go_quiet (fail)
          have T6 : Calm W6 (W6.drewN nq) := (Touch.refl (fun _ => False) W6).drewN nq
          clear c0 c1 c2 c3 c4 c5 c6 c7 c8 s0 s1
          generalize W6.drewN nq = Wq at *
          obtain ⟨⟨c0, c1, c2⟩, ⟨c3, c4, c5, c6⟩, c7, c8⟩ := wn_cells (T6.at HA6.out)
          obtain ⟨⟨g0, g1, g2, g3, g4, g5, g6⟩, g7, g8, g9⟩ := cf_cells (T6.at HK6.out.cf)
          simp only at c0 c1 c2 c3 c4 c5 c6 c7 c8
          have HT6 := hide T6
          clear T6
          go_wp2_with fail
          refine (CB1.out _).mono ?_
          rintro e W7 ⟨rfl, T7'⟩
          have T7 := HT6.out.tr T7'
          clear T7' HT6 CB1 c0 c1 c2 c3 c4 c5 c6 c7 c8 g0 g1 g2 g3 g4 g5 g6 g7 g8 g9
          obtain ⟨⟨c0, c1, c2⟩, ⟨c3, c4, c5, c6⟩, c7, c8⟩ := wn_cells (T7.at HA6.out)
          obtain ⟨⟨i0, i1, i2⟩, ⟨i3, i4, i5, i6⟩, i7, i8⟩ := wn_cells (T7.at HK6.out.wn)
          obtain ⟨s0, s1⟩ := sp_cells (T7.at HK6.out.sp)
          simp only at c0 c1 c2 c3 c4 c5 c6 c7 c8
          have y0 := wn_frozen (T7.at HK6.out.wn) 0
          have y1 := wn_frozen (T7.at HK6.out.wn) 1
          have y2 := wn_frozen (T7.at HK6.out.wn) 2
          have y3 := wn_frozen (T7.at HK6.out.wn) 3
          have y4 := wn_frozen (T7.at HK6.out.wn) 4
          have y5 := wn_frozen (T7.at HK6.out.wn) 5
          have y6 := wn_frozen (T7.at HK6.out.wn) 6
          have y7 := wn_frozen (T7.at HK6.out.wn) 7
          have y8 := wn_frozen (T7.at HK6.out.wn) 8
          obtain ⟨F8, t8⟩ := wn_all ⟨s.a, s.b, xh, xt, xn, xp⟩ (T7.at HK6.out.wn)
          obtain ⟨a2, p2, k9, w9, hk9, hr, hK9⟩ := APP.out W7 T7 _ t8
          have hK9 := hide (hK9 F8)
          have HR := hide hr
          have HK9 := hide hk9
          have hnp : D ≠ p1 := by omega
          have hnp' : p1 ≠ D := by omega
          obtain ⟨W8, e8⟩ : ∃ W8, (((((((((W7.setCell ⟨D, 0, none⟩ (.int .i64 s.a)).setCell ⟨D, 1, none⟩ (.int .i64 s.b)).setCell ⟨D, 2, none⟩ (.int .i64 xh)).setCell ⟨D, 3, none⟩ (.int .i64 xt.c)).setCell ⟨D, 4, none⟩ (.int .i64 xt.s)).setCell ⟨D, 5, none⟩ (.int .i64 xt.m)).setCell ⟨D, 6, none⟩ (.int .i64 xt.x)).setCell ⟨D, 7, none⟩ (.int .i64 xn)).setCell ⟨D, 8, none⟩ (.int .i64 xp)) = W8 := ⟨_, rfl⟩
          have HR8 : Hid ((Builtin.append_ #[46, 46] 46 #[.slice po pl pc, .slice po' 0 pc']).run Try.prog W8 = .ok (.slice a2 k9 p2) w9) := hide (by rw [← e8]; exact HR.out)
          clear hr hk9 F8 t8 APP HR T7
          cases bd
          all_goals
            go_wp2_with (refine Rc.wpList_appR rfl _ _ _ _ rfl _ _ _ rfl rfl HR8.out ?_)
            go_roundw
            case rel => exact ⟨j + 1, ⟨s.a, s.b, xh, xt, xn, xp⟩, P ++ P', a2, p2, by go_num, by omega, by rw [HK9.out], S1.out.1, S1.out.2.1, S1.out.2.2, hK9.out⟩
            case measure => simp [intOf]; omega
        · obtain rfl : u = 1 := by rw [← HUL.out, e]; rfl
          obtain ⟨q0, q1, q2, q3, q4, q5⟩ := q
          simp only at qa qb qk
          subst qa qb qk
          rw [e] at HO6
          obtain ⟨pb, pf, rfl, ⟨e0, e1, e2, e3, e4⟩, -⟩ := pn_at (Rc.Own.mem HO6.out).2.1 0 (by simp)
          rw [← e] at HO6
          simp only [List.getD_cons_zero, Nat.zero_mul, Nat.add_zero] at e0 e1 e2 e3 e4
          clear EP1 e
          go_wp2_with fail
          go_quiet (fail)
          clear e0 e1 e2 e3 e4
          have T6 : Calm W6 (W6.drewN nq) := (Touch.refl (fun _ => False) W6).drewN nq
          clear c0 c1 c2 c3 c4 c5 c6 c7 c8 s0 s1
          generalize W6.drewN nq = Wq at *
          obtain ⟨⟨c0, c1, c2⟩, ⟨c3, c4, c5, c6⟩, c7, c8⟩ := wn_cells (T6.at HA6.out)
          obtain ⟨⟨g0, g1, g2, g3, g4, g5, g6⟩, g7, g8, g9⟩ := cf_cells (T6.at HK6.out.cf)
          simp only at c0 c1 c2 c3 c4 c5 c6 c7 c8
          have HT6 := hide T6
          clear T6
          go_wp2_with fail
          refine (CB1.out _).mono ?_
          rintro e W7 ⟨rfl, T7'⟩
          have T7 := HT6.out.tr T7'
          clear T7' HT6 CB1 c0 c1 c2 c3 c4 c5 c6 c7 c8 g0 g1 g2 g3 g4 g5 g6 g7 g8 g9
          obtain ⟨⟨c0, c1, c2⟩, ⟨c3, c4, c5, c6⟩, c7, c8⟩ := wn_cells (T7.at HA6.out)
          obtain ⟨⟨i0, i1, i2⟩, ⟨i3, i4, i5, i6⟩, i7, i8⟩ := wn_cells (T7.at HK6.out.wn)
          obtain ⟨s0, s1⟩ := sp_cells (T7.at HK6.out.sp)
          simp only at c0 c1 c2 c3 c4 c5 c6 c7 c8
          have y0 := wn_frozen (T7.at HK6.out.wn) 0
          have y1 := wn_frozen (T7.at HK6.out.wn) 1
          have y2 := wn_frozen (T7.at HK6.out.wn) 2
          have y3 := wn_frozen (T7.at HK6.out.wn) 3
          have y4 := wn_frozen (T7.at HK6.out.wn) 4
          have y5 := wn_frozen (T7.at HK6.out.wn) 5
          have y6 := wn_frozen (T7.at HK6.out.wn) 6
          have y7 := wn_frozen (T7.at HK6.out.wn) 7
          have y8 := wn_frozen (T7.at HK6.out.wn) 8
          obtain ⟨F8, t8⟩ := wn_all ⟨s.a, s.b, xh, xt, xn, xp⟩ (T7.at HK6.out.wn)
          obtain ⟨a2, p2, k9, w9, hk9, hr, hK9⟩ := APP.out W7 T7 _ t8
          have hK9 := hide (hK9 F8)
          have HR := hide hr
          have HK9 := hide hk9
          have hnp : D ≠ p1 := by omega
          have hnp' : p1 ≠ D := by omega
          obtain ⟨W8, e8⟩ : ∃ W8, (((((((((W7.setCell ⟨D, 0, none⟩ (.int .i64 s.a)).setCell ⟨D, 1, none⟩ (.int .i64 s.b)).setCell ⟨D, 2, none⟩ (.int .i64 xh)).setCell ⟨D, 3, none⟩ (.int .i64 xt.c)).setCell ⟨D, 4, none⟩ (.int .i64 xt.s)).setCell ⟨D, 5, none⟩ (.int .i64 xt.m)).setCell ⟨D, 6, none⟩ (.int .i64 xt.x)).setCell ⟨D, 7, none⟩ (.int .i64 xn)).setCell ⟨D, 8, none⟩ (.int .i64 xp)) = W8 := ⟨_, rfl⟩
          have HR8 : Hid ((Builtin.append_ #[46, 46] 46 #[.slice po pl pc, .slice (some ⟨pb, pf, none⟩) 1 pc']).run Try.prog W8 = .ok (.slice a2 k9 p2) w9) := hide (by rw [← e8]; exact HR.out)
          clear hr hk9 F8 t8 APP HR T7
          cases bd
          all_goals
            go_wp2_with (refine Rc.wpList_appR rfl _ _ _ _ rfl _ _ _ rfl rfl HR8.out ?_)
            go_roundw
            case rel => exact ⟨j + 1, ⟨s.a, s.b, xh, xt, xn, xp⟩, P ++ P', a2, p2, by go_num, by omega, by rw [HK9.out], S1.out.1, S1.out.2.1, S1.out.2.2, hK9.out⟩
            case measure => simp [intOf]; omega
    · obtain rfl : j = n := by omega
      have SM : Hid (∀ l, l < P.length → wrap64 (sumC P l + (P.getD l pn0).t.c) = sumC P (l + 1)) := hide fun l hl => hTw.sums hn5 hq0 l hl
      have AT : Hid (∀ l, l < P.length → (P.getD l pn0).n = l) := hide fun l hl => hTw.at l hl
      have UP : Hid (c.di = false → ∀ l, l + 1 < P.length → (P.getD l pn0).t.c < (P.getD (l + 1) pn0).t.c) := hide fun hd l hl => hTw.up hd l hl
      have AL : Hid (c.di = true → wrap64 (sumC P P.length + x.t.c) = j) := hide fun hd => hTw.all hn5 hd
      have CT : Hid (c.di = false → x.t.c = j) := hide fun hd => by have := hTw.cnt; rw [if_neg (by simp [hd])] at this; exact this
      have hpl : P.length ≤ 5000 := by have := hTw.len; omega
      have S0 : Hid (sumC P 0 = 0) := hide rfl
      have PY : Hid (∀ l, l < P.length → ∃ pb pf, po = some ⟨pb, pf, none⟩ ∧ ∀ W, Calm wr W → pcell W pb (pf + l * 9) (P.getD l pn0)) := hide fun l hl => by
        have hm := (Rc.Own.mem hWk.pan).2.1
        obtain ⟨pb, pf, e, -⟩ := pn_at hm l hl
        refine ⟨pb, pf, e, fun W hW => ?_⟩
        obtain ⟨b', off', e', cc⟩ := pn_at (Rc.Mem.calm hm hW) l hl
        rw [e] at e'
        injection e' with e'
        injection e' with e1 e2
        subst e1 e2
        exact cc
      have HWk := hide hWk
      clear hTw hq0 hxo hWk CE CB STP HVat X0 HK0
      generalize P.length = pl at *
      obtain ⟨wo, ho⟩ : ∃ y, y = wr := ⟨_, rfl⟩
      subst ho
      go_wp2_with fail
      go_loopw [16, 17] (fun a i wr => ∃ l : Nat, i = .int .i64 l ∧ l ≤ pl ∧ a = .int .i64 (sumC P l) ∧ Calm wo wr) (fun _ i _ => pl - (intOf i).toNat)
      case atStart => exact ⟨0, rfl, Nat.zero_le _, by rw [S0.out], Touch.refl _ _⟩
      case round =>
        obtain ⟨l, rfl, hl, rfl, TL⟩ := hrel
        by_cases hlt2 : l < pl
        · obtain ⟨pb, pf, rfl, h1⟩ := PY.out l hlt2
          obtain ⟨⟨d0, d1, d2, d3, d4⟩, d5, d6, d7, d8⟩ := h1 wr TL
          have hsm := SM.out l hlt2
          rw [AT.out l hlt2] at d4
          have hli : (l : Int) < (pl : Int) := by omega
          have H7 := hide TL
          have HSM := hide hsm
          obtain ⟨⟨g0, g1, g2, g3, g4, g5, g6⟩, g7, g8, g9⟩ := cf_cells (TL.at HWk.out.cf)
          clear TL hsm d0 d1 d2 d3 d6 d7 d8
          by_cases hdi : c.di = true
          · rw [hdi] at g9
            generalize P.getD l pn0 = q at *
            clear UP CT h1
            go_wp2_with fail
            rw [HSM.out]
            go_quiet (fail)
            have H8 := hide (H7.out.drewN nq)
            go_wp2_with fail
            go_roundw
            case rel => exact ⟨l + 1, by go_num, by omega, rfl, H8.out⟩
            case measure => simp [intOf]; omega
          · have hdf : c.di = false := by simpa using hdi
            rw [hdf] at g9
            rcases Nat.eq_zero_or_pos l with rfl | hpos
            · generalize P.getD 0 pn0 = q at *
              clear UP CT h1
              go_wp2_with fail
              rw [HSM.out]
              go_quiet (fail)
              have H8 := hide (H7.out.drewN nq)
              go_wp2_with fail
              go_roundw
              case rel => exact ⟨0 + 1, by go_num, by omega, rfl, H8.out⟩
              case measure => simp [intOf]; omega
            · obtain ⟨k, rfl⟩ : ∃ k, l = k + 1 := ⟨l - 1, by omega⟩
              obtain ⟨pb', pf', e', h2⟩ := PY.out k (by omega)
              injection e' with e'
              injection e' with e1 e2
              subst e1 e2
              obtain ⟨-, f5, f6, f7, f8⟩ := h2 wr H7.out
              have hup := UP.out hdf k hlt2
              generalize P.getD (k + 1) pn0 = q at *
              generalize P.getD k pn0 = q' at *
              have hdd : decide (q.t.c ≤ q'.t.c) = false := decide_eq_false (by omega)
              have hk1 : ((k + 1 : Nat) : Int) - 1 = (k : Int) := by omega
              have hk2 : (k : Int) < (pl : Int) := by omega
              clear UP CT h1 h2 f6 f7 f8 hup
              go_wp2_with fail
              rw [HSM.out]
              go_quiet (fail)
              have H8 := hide (H7.out.drewN nq)
              go_wp2_with fail
              go_roundw
              case rel => exact ⟨k + 1 + 1, by go_num, by omega, rfl, H8.out⟩
              case measure => simp [intOf]; omega
        · obtain rfl : l = pl := by omega
          have hli : decide ((l : Int) < (l : Int)) = false := decide_eq_false (by omega)
          obtain ⟨⟨g0, g1, g2, g3, g4, g5, g6⟩, g7, g8, g9⟩ := cf_cells (TL.at HWk.out.cf)
          obtain ⟨⟨c0, c1, c2⟩, ⟨c3, c4, c5, c6⟩, c7, c8⟩ := wn_cells (TL.at HWk.out.wn)
          have H7 := hide (HWk.out.calm.tr TL)
          clear TL PY SM AT UP
          by_cases hdi : c.di = true
          · rw [hdi] at g9
            have ha := hide (AL.out hdi)
            clear AL CT hdi
            go_wp2_with fail
            go_ret
            refine ⟨?_, H7.out⟩
            show Ending.returned (.bool (wrap64 (sumC P l + x.t.c) == (j : Int))) = _
            rw [ha.out]
            simp
          · have hdf : c.di = false := by simpa using hdi
            rw [hdf] at g9
            rw [CT.out hdf] at c3
            clear AL CT hdi hdf
            go_wp2_with fail
            go_ret
            exact ⟨rfl, H7.out⟩

end Go.Proofs.Ytfmlbcddomggaaa
