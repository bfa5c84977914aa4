/- Keys' states (the program's isSpan, windowInOrder, isBehind). Keys' states (the program's keyInOrder). States (the program's marksInOrder, keysInOrder). States (the program's State). States in order stay in order when a key is left out. -/
import Derived.Test.YtdcpmpbfnfjncaaDoorEK0
import Derived.Test.YtdcpmpbfnfjncaaDoorCK
import Derived.Test.YtdcpmpbfnfjncaaDoorYS
import Derived.BigQuiet
import Derived.Deep.QuietTactic
import Derived.Test.YtdcpmpbfnfjncaaDoorCS
import Derived.Test.YtdcpmpbfnfjncaaDoorEC
namespace Go.Proofs.YtdcpmpbfnfjncaaDoor
open Go.RowKit

/-- A span where windows may lie? -/
def spanB (a b : Int) : Bool := decide (a < b) && (decide (-4611687117939015680 ≤ a) && decide (b ≤ 4611687117939015680))

set_option maxRecDepth 100000 in
theorem isSpan_any (s : Sp) (w : World) : Calls Tryd.prog 63 #[spv s] w fun e w' => e = .returned (.bool (spanB s.a s.b)) ∧ Calm w w' := by
  have T0 := hide ((Touch.refl (fun _ => False) w).alloc (.cells (spc s) 61))
  have HB : Hid (spanB s.a s.b = (decide (s.a < s.b) && (decide (-4611687117939015680 ≤ s.a) && decide (s.b ≤ 4611687117939015680)))) := hide rfl
  generalize spanB s.a s.b = R at *
  by_cases h1 : s.a < s.b
  · have d1 : decide (s.a < s.b) = true := decide_eq_true h1
    by_cases h2 : -4611687117939015680 ≤ s.a
    · have d2 : decide (-4611687117939015680 ≤ s.a) = true := decide_eq_true h2
      have HR : Hid (R = decide (s.b ≤ 4611687117939015680)) := hide (by rw [HB.out, d1, d2]; rfl)
      clear HB h1 h2
      go_enter Tryd.func63, Tryd.ntmps63
      go_wp2_with fail
      go_ret
      exact ⟨by rw [HR.out]; rfl, T0.out⟩
    · have d2 : decide (-4611687117939015680 ≤ s.a) = false := decide_eq_false h2
      have HR : Hid (R = false) := hide (by rw [HB.out, d1, d2]; rfl)
      clear HB h1 h2
      go_enter Tryd.func63, Tryd.ntmps63
      go_wp2_with fail
      go_ret
      exact ⟨by rw [HR.out]; rfl, T0.out⟩
  · have d1 : decide (s.a < s.b) = false := decide_eq_false h1
    have HR : Hid (R = false) := hide (by rw [HB.out, d1]; rfl)
    clear HB h1
    go_enter Tryd.func63, Tryd.ntmps63
    go_wp2_with fail
    go_ret
    exact ⟨by rw [HR.out]; rfl, T0.out⟩

theorem win_link (x : Wn) : (spanB x.a x.b && (inB x.t.c 0 9007199254740992 && (inB x.n 0 9007199254740992 && inB x.p 0 9007199254740992))) = winB x := by
  unfold spanB winB
  rw [Bool.eq_iff_iff]
  simp only [Bool.and_eq_true, Bool.not_eq_true', decide_eq_true_eq, decide_eq_false_iff_not]
  constructor
  · rintro ⟨⟨h1, h2, h3⟩, h4⟩; exact ⟨by omega, by omega, by omega, h4⟩
  · rintro ⟨h1, h2, h3, h4⟩; exact ⟨⟨by omega, by omega, by omega⟩, h4⟩

set_option maxRecDepth 100000 in
set_option maxHeartbeats 1000000 in
theorem windowInOrder_any (x : Wn) (w : World) : Calls Tryd.prog 49 #[wnv x] w fun e w' => e = .returned (.bool (winB x)) ∧ Calm w w' := by
  have CS : Hid (∀ W, Calls Tryd.prog 63 #[.agg #[.int .i64 x.a, .int .i64 x.b]] W fun e w' => e = .returned (.bool (spanB x.a x.b)) ∧ Calm W w') := hide fun W => isSpan_any x.sp W
  have C1 := fun W => hide (isCount_any x.t.c W)
  have C2 := fun W => hide (isCount_any x.n W)
  have C3 := fun W => hide (isCount_any x.p W)
  have HB := hide (win_link x).symm
  have A0 := hide (al_new w (.cells (wnc x) 65))
  have T0 := hide ((Touch.refl (fun _ => False) w).alloc (.cells (wnc x) 65))
  generalize winB x = R at *
  generalize spanB x.a x.b = b0 at *
  generalize inB x.t.c 0 9007199254740992 = b1 at *
  generalize inB x.n 0 9007199254740992 = b2 at *
  generalize inB x.p 0 9007199254740992 = b3 at *
  go_enter Tryd.func49, Tryd.ntmps49
  go_wp2_with fail
  refine (CS.out _).mono ?_
  rintro e w1 ⟨rfl, T1⟩
  have TT := hide (T0.out.tr T1)
  obtain ⟨⟨g0, g1, g2⟩, ⟨g3, g4, g5, g6⟩, g7, g8⟩ := wn_cells (T1.at A0.out)
  clear CS T0 T1 A0
  cases b0 with
  | false =>
    have HR : Hid (R = false) := hide (by rw [HB.out]; rfl)
    clear HB
    go_wp2_with fail
    go_ret
    exact ⟨by rw [HR.out]; rfl, TT.out⟩
  | true =>
    go_wp2_with fail
    refine (C1 _).out.mono ?_
    rintro e w2 ⟨rfl, hw2⟩
    subst hw2
    cases b1 with
    | false =>
      have HR : Hid (R = false) := hide (by rw [HB.out]; rfl)
      clear HB
      go_wp2_with fail
      go_ret
      exact ⟨by rw [HR.out]; rfl, TT.out⟩
    | true =>
      go_wp2_with fail
      refine (C2 _).out.mono ?_
      rintro e w2 ⟨rfl, hw2⟩
      subst hw2
      cases b2 with
      | false =>
        have HR : Hid (R = false) := hide (by rw [HB.out]; rfl)
        clear HB
        go_wp2_with fail
        go_ret
        exact ⟨by rw [HR.out]; rfl, TT.out⟩
      | true =>
        go_wp2_with fail
        refine (C3 _).out.mono ?_
        rintro e w2 ⟨rfl, hw2⟩
        subst hw2
        have HR : Hid (R = b3) := hide (by rw [HB.out]; cases b3 <;> rfl)
        clear HB
        go_wp2_with fail
        go_ret
        exact ⟨by rw [HR.out]; cases b3 <;> rfl, TT.out⟩

/-- The next one behind it? -/
def behB (ki : Int) (x y : Wn) : Bool := if ki = 3 then decide (x.b ≤ y.a) else ordB x y

set_option maxRecDepth 100000 in
set_option maxHeartbeats 1000000 in
theorem isBehind_any (ki : Int) (x y : Wn) (w : World) : Calls Tryd.prog 50 #[.int .i64 ki, spv x.sp, spv y.sp] w fun e w' => e = .returned (.bool (behB ki x y)) ∧ Calm w w' := by
  have T0 := hide (((Touch.refl (fun _ => False) w).alloc (.cells (spc x.sp) 61)).alloc (.cells (spc y.sp) 61))
  by_cases hk : ki = 3
  · have dk : (ki == 3) = true := by simp [hk]
    have HR : Hid (behB ki x y = decide (x.b ≤ y.a)) := hide (if_pos hk)
    generalize behB ki x y = R at *
    go_enter Tryd.func50, Tryd.ntmps50
    go_wp2_with fail
    go_ret
    exact ⟨by rw [HR.out]; rfl, T0.out⟩
  · have dk : (ki == 3) = false := by simp [hk]
    have HB : Hid (behB ki x y = (decide (x.a < y.a) || (x.a == y.a && decide (x.b < y.b)))) := hide (if_neg hk)
    generalize behB ki x y = R at *
    by_cases h1 : x.a < y.a
    · have hd : decide (x.a < y.a) = true := decide_eq_true h1
      have HR : Hid (R = true) := hide (by rw [HB.out, hd]; rfl)
      clear h1 HB
      go_enter Tryd.func50, Tryd.ntmps50
      go_wp2_with fail
      go_ret
      exact ⟨by rw [HR.out]; rfl, T0.out⟩
    · have hd : decide (x.a < y.a) = false := decide_eq_false h1
      by_cases h2 : x.a = y.a
      · have hd2 : (x.a == y.a) = true := beq_iff_eq.2 h2
        have HR : Hid (R = decide (x.b < y.b)) := hide (by rw [HB.out, hd, hd2]; rfl)
        clear h1 h2 HB
        go_enter Tryd.func50, Tryd.ntmps50
        go_wp2_with fail
        go_ret
        exact ⟨by rw [HR.out]; rfl, T0.out⟩
      · have hd2 : (x.a == y.a) = false := beq_false_of_ne h2
        have HR : Hid (R = false) := hide (by rw [HB.out, hd, hd2]; rfl)
        clear h1 h2 HB
        go_enter Tryd.func50, Tryd.ntmps50
        go_wp2_with fail
        go_ret
        exact ⟨by rw [HR.out]; rfl, T0.out⟩

/-- What the program says of the window at a place. -/
def keyPt (ki : Int) (L : List Wn) (i : Nat) : Bool := winB (L.getD i wn0) && (i == 0 || behB ki (L.getD (i - 1) wn0) (L.getD i wn0))
def keyP (ki : Int) (k : Ks) : Bool := decide (k.ke.size ≤ 256) && (inB k.dr 0 9007199254740992 && (List.range k.wi.length).all fun i => keyPt ki k.wi i)

theorem win_lt {x : Wn} (h : winB x = true) : x.a < x.b := by
  unfold winB at h
  simp only [Bool.and_eq_true, Bool.not_eq_true', decide_eq_false_iff_not] at h
  omega
theorem key_link (c : Cf) (k : Ks) : keyP c.ki k = keyB c k := by
  unfold keyP keyB
  have e : ((List.range k.wi.length).all fun i => keyPt c.ki k.wi i) = ((List.range k.wi.length).all fun i => keyAt c k.wi i) := by
    generalize k.wi = L
    by_cases hk : c.ki = 3
    · rw [Bool.eq_iff_iff, List.all_eq_true, List.all_eq_true]
      constructor
      · intro h
        have hp : ∀ i, i < L.length → winB (L.getD i wn0) = true ∧ (i = 0 ∨ (L.getD (i - 1) wn0).b ≤ (L.getD i wn0).a) := fun i hi => by
          have := h i (List.mem_range.2 hi)
          unfold keyPt behB at this
          rw [if_pos hk] at this
          simp only [Bool.and_eq_true, Bool.or_eq_true, beq_iff_eq, decide_eq_true_eq] at this
          exact this
        have far : ∀ i, i < L.length → ∀ m, m < i → (L.getD m wn0).b ≤ (L.getD i wn0).a := by
          intro i
          induction i with
          | zero => intro _ m hm; omega
          | succ i ih =>
            intro hi m hm
            have h1 := (hp (i + 1) hi).2
            rcases h1 with h1 | h1
            · omega
            · rw [show i + 1 - 1 = i from rfl] at h1
              by_cases hmi : m = i
              · rw [hmi]; exact h1
              · have h2 := ih (by omega) m (by omega)
                have h3 := win_lt (hp i (by omega)).1
                omega
        intro i hi
        have hi' := List.mem_range.1 hi
        obtain ⟨h1, h2⟩ := hp i hi'
        unfold keyAt
        rw [h1]
        simp only [Bool.true_and, Bool.and_eq_true, Bool.or_eq_true, beq_iff_eq, Bool.not_eq_true']
        refine ⟨?_, .inr ?_⟩
        · rcases h2 with h2 | h2
          · exact .inl h2
          · by_cases h0 : i = 0
            · exact .inl h0
            · refine .inr ?_
              unfold ordB
              have h3 := win_lt (hp (i - 1) (by omega)).1
              rw [decide_eq_true (by omega)]
              rfl
        · rw [List.all_eq_true]
          intro m hm
          have h3 := far i hi' m (List.mem_range.1 hm)
          unfold apartB
          rw [decide_eq_false (p := (L.getD i wn0).a < (L.getD m wn0).b) (by omega), Bool.and_false]
          rfl
      · intro h i hi
        have hi' := List.mem_range.1 hi
        have hp := h i hi
        unfold keyAt at hp
        simp only [Bool.and_eq_true, Bool.or_eq_true, beq_iff_eq, Bool.not_eq_true', hk] at hp
        obtain ⟨h1, h2, h3⟩ := hp
        unfold keyPt behB
        rw [h1, if_pos hk]
        simp only [Bool.true_and, Bool.or_eq_true, beq_iff_eq, decide_eq_true_eq]
        rcases h2 with h2 | h2
        · exact .inl h2
        · by_cases h0 : i = 0
          · exact .inl h0
          · refine .inr ?_
            rcases h3 with h3 | h3
            · simp at h3
            · rw [List.all_eq_true] at h3
              have h4 := h3 (i - 1) (List.mem_range.2 (by omega))
              have h5 := win_lt h1
              unfold apartB at h4
              unfold ordB at h2
              simp only [Bool.not_eq_true', Bool.and_eq_false_iff, decide_eq_false_iff_not, Bool.or_eq_true, Bool.and_eq_true, decide_eq_true_eq, beq_iff_eq] at h4 h2
              omega
    · have : (fun i => keyPt c.ki L i) = fun i => keyAt c L i := by
        funext i
        unfold keyPt keyAt behB
        have e3 : (c.ki == 3) = false := by simp [hk]
        rw [if_neg hk, e3]
        simp
      rw [this]
  rw [e]

end Go.Proofs.YtdcpmpbfnfjncaaDoor

namespace Go.Proofs.YtdcpmpbfnfjncaaDoor
open Go.RowKit

set_option maxRecDepth 100000 in
set_option maxHeartbeats 2000000 in
theorem keyInOrder_any (ki : Int) (k : Ks) (wo : Option Addr) (cap : Nat) (w : World) (hs : encW.Sl w wo cap k.wi) (hl : k.wi.length ≤ 140737488355328) : Calls Tryd.prog 28 #[.int .i64 ki, .agg (ksc k wo cap)] w fun e w' => e = .returned (.bool (keyP ki k)) ∧ Calm w w' := by
  have CK := fun W => hide (isKey_any k.ke W)
  have CC := fun W => hide (isCount_any k.dr W)
  have CW : Hid (∀ x W, Calls Tryd.prog 49 #[wnv x] W fun e w' => e = .returned (.bool (winB x)) ∧ Calm W w') := hide windowInOrder_any
  have CB : Hid (∀ x y W, Calls Tryd.prog 50 #[.int .i64 ki, spv x.sp, spv y.sp] W fun e w' => e = .returned (.bool (behB ki x y)) ∧ Calm W w') := hide fun x y W => isBehind_any ki x y W
  have AT : Hid (∀ j, j < k.wi.length → ∃ g off, wo = some ⟨g, off, none⟩ ∧ ∀ W, Calm w W → wcell W g (off + j * 9) (k.wi.getD j wn0)) := hide fun j hj => by
    obtain ⟨g, off, e, -⟩ := wn_at hs.mem j hj
    refine ⟨g, off, e, fun W hW => ?_⟩
    obtain ⟨g', off', e', h⟩ := wn_at (Rc.Mem.calm hs.mem hW) j hj
    rw [e] at e'
    injection e' with e'
    injection e' with e1 e2
    subst e1 e2
    exact h
  have hcp : Hid (k.wi.length ≤ cap) := hide hs.cap
  have A0 := hide (al_new w (.cells (ksc k wo cap) 40))
  have T0 := hide ((Touch.refl (fun _ => False) w).alloc (.cells (ksc k wo cap) 40))
  have HP : Hid (keyP ki k = (decide (k.ke.size ≤ 256) && (inB k.dr 0 9007199254740992 && (List.range k.wi.length).all fun i => keyPt ki k.wi i))) := hide rfl
  clear hs
  generalize keyP ki k = R at *
  generalize decide (k.ke.size ≤ 256) = b0 at *
  generalize inB k.dr 0 9007199254740992 = b1 at *
  generalize hL : k.wi = L at *
  generalize hn : L.length = n at *
  go_enter Tryd.func28, Tryd.ntmps28
  go_wp2_with fail
  refine (CK _).out.mono ?_
  rintro e w1 ⟨rfl, hw1⟩
  subst hw1
  cases b0 with
  | false =>
    have HR : Hid (R = false) := hide (by rw [HP.out]; rfl)
    clear HP
    go_wp2_with fail
    go_ret
    exact ⟨by rw [HR.out]; rfl, T0.out⟩
  | true =>
    go_wp2_with fail
    refine (CC _).out.mono ?_
    rintro e w1 ⟨rfl, hw1⟩
    subst hw1
    cases b1 with
    | false =>
      have HR : Hid (R = false) := hide (by rw [HP.out]; rfl)
      clear HP
      go_wp2_with fail
      go_ret
      exact ⟨by rw [HR.out]; rfl, T0.out⟩
    | true =>
      have HR : Hid (R = (List.range n).all fun i => keyPt ki L i) := hide (by rw [HP.out]; rfl)
      clear HP CK CC
      go_wp2_with fail
      generalize w.alloc (.cells (ksc k wo cap) 40) = w0 at *
      generalize w.heap.size = A at *
      go_loopw [20] (fun s wr => ∃ i : Nat, s = .int .i64 (i : Int) ∧ i ≤ n ∧ ((List.range i).all fun j => keyPt ki L j) = true ∧ Calm w0 wr) (fun s _ => n - (intOf s).toNat)
      case atStart => exact ⟨0, rfl, by omega, rfl, Touch.refl _ _⟩
      case round =>
        obtain ⟨i, rfl, hi, hall, TL⟩ := hrel
        by_cases hlt : i < n
        · have hltz : (i : Int) < (n : Int) := by omega
          obtain ⟨g, off, rfl, AT1⟩ := AT.out i hlt
          have AT2 : Hid (∀ j, j < n → ∀ W, Calm w W → wcell W g (off + j * 9) (L.getD j wn0)) := hide fun j hj => by
            obtain ⟨g', off', e', h⟩ := AT.out j hj
            injection e' with e'
            injection e' with e1 e2
            subst e1 e2
            exact h
          obtain ⟨⟨c0, c1, c2⟩, ⟨c3, c4, c5, c6⟩, c7, c8⟩ := AT1 wr (T0.out.tr TL)
          have NX : Hid (∀ b, keyPt ki L i = b → ((List.range (i + 1)).all fun j => keyPt ki L j) = b) := hide fun b hb => by rw [all_range_succ, hall, hb]; rfl
          have NF : Hid (keyPt ki L i = false → R = false) := hide fun h => by rw [HR.out]; exact all_range_false hlt h
          have KP : Hid (keyPt ki L i = (winB (L.getD i wn0) && (i == 0 || behB ki (L.getD (i - 1) wn0) (L.getD i wn0)))) := hide rfl
          have HTL := hide TL
          generalize hy : L.getD i wn0 = y at *
          have HY := hide hy
          clear hall TL AT1 hy HR
          go_wp2_with fail
          refine (CW.out y _).mono ?_
          rintro e w2 ⟨rfl, T2⟩
          have D2 := hide (T2.at (al_new wr (.cells (wnc y) 65)))
          have TT2 := hide ((HTL.out.alloc (.cells (wnc y) 65)).tr T2)
          have K2 := hide ((TT2.out).at A0.out)
          clear T2 HTL c0 c1 c2 c3 c4 c5 c6 c7 c8
          cases hwb : winB y with
          | false =>
            have HF : Hid (R = false) := hide (NF.out (by rw [KP.out, hwb]; rfl))
            clear NF KP NX
            go_wp2_with fail
            go_ret
            exact ⟨by rw [HF.out]; rfl, T0.out.tr TT2.out⟩
          | true =>
            have KP2 : Hid (keyPt ki L i = (i == 0 || behB ki (L.getD (i - 1) wn0) y)) := hide (by rw [KP.out, hwb]; rfl)
            clear KP hwb
            go_wp2_with fail
            by_cases h0 : i = 0
            · subst h0
              have HX := hide (NX.out true (by rw [KP2.out]; rfl))
              have d0 : decide ((0 : Int) < ((0 : Nat) : Int)) = false := by decide
              clear NX NF KP2
              go_quiet (fail)
              rename_i nq
              go_wp2_with fail
              go_roundw
              case rel => exact ⟨1, by go_num, by omega, HX.out, TT2.out.drewQ nq⟩
              case measure => simp [intOf]; omega
            · obtain ⟨j, rfl⟩ : ∃ j, i = j + 1 := ⟨i - 1, by omega⟩
              have KP3 : Hid (keyPt ki L (j + 1) = behB ki (L.getD j wn0) y) := hide (by rw [KP2.out]; rfl)
              have hw := AT2.out j (by omega)
              generalize L.getD j wn0 = x at *
              have CX : Hid (∀ W, Calm w2 W → wcell W g (off + j * 9) x) := hide fun W hW => hw W ((T0.out.tr TT2.out).tr hW)
              have CD : Hid (∀ W, Calm w2 W → W.heap[wr.heap.size]? = some (.cells (wnc y) 65 (0, 0)) ∧ W.heap[A]? = some (.cells (ksc k (some ⟨g, off, none⟩) cap) 40 (0, 0))) := hide fun W hW => ⟨hW.at D2.out, hW.at K2.out⟩
              have CBx := hide (CB.out x y)
              generalize wr.heap.size = D at *
              have ej : wrap64 ((((j + 1 : Nat)) : Int) - 1) = (j : Int) := by rw [wr_in _ (by omega)]; omega
              have hjz : (j : Int) < (n : Int) := by omega
              have hjp : (0 : Int) < (((j + 1 : Nat)) : Int) := by omega
              clear hw KP2 h0 AT2 K2 D2 CB CW AT
              have ewj : IntKind.i64.wrap (j : Int) = (j : Int) := by rw [IntKind.wrap_i64]; omega
              have hkn : k.wi.length = n := by rw [hL, hn]
              have hcp2 := hcp.out
              refine wp_region_held (S := Calm w2) (by kernel_rfl) ?_
              have hT0 : Calm w2 { w2 with drawn := w2.drawn + 1 } := (Touch.refl _ w2).drew
              refine wpAnyH_yield 0 28 (.int .i64 (((j + 1 : Nat)) : Int)) rfl rfl (by kernel_rfl) (by kernel_rfl) (by kernel_rfl) (fun _ _ _ h => h) (by kernel_rfl) (fun W hW => by kernel_rfl) (by assumption) rfl rfl ?_
              simp only [Act.put, List.setIfInBounds_toArray, List.set_cons_zero, List.set_cons_succ]
              refine wpAnyH_yield 1 29 (.bool true) rfl rfl (by kernel_rfl) (by kernel_rfl) (by kernel_rfl) (fun _ _ _ h => h) (by kernel_rfl) (fun W hW => by go_simp) (by assumption) rfl rfl ?_
              simp only [Act.put, List.setIfInBounds_toArray, List.set_cons_zero, List.set_cons_succ]
              refine wpAnyH_yield 2 30 (.bool true) rfl rfl (by kernel_rfl) (by kernel_rfl) (by kernel_rfl) (fun _ _ _ h => h) (by kernel_rfl) (fun W hW => by kernel_rfl) (by assumption) rfl rfl ?_
              simp only [Act.put, List.setIfInBounds_toArray, List.set_cons_zero, List.set_cons_succ]
              refine wpAnyH_yield 3 31 (.int .i64 ki) rfl rfl (by kernel_rfl) (by kernel_rfl) (by kernel_rfl) (fun _ _ _ h => h) (by kernel_rfl) (fun W hW => by kernel_rfl) (by assumption) rfl rfl ?_
              simp only [Act.put, List.setIfInBounds_toArray, List.set_cons_zero, List.set_cons_succ]
              refine wpAnyH_yield 4 32 (.pointer (some ⟨A, 2, none⟩)) rfl rfl (by kernel_rfl) (by kernel_rfl) (by kernel_rfl) (fun _ _ _ h => h) (by kernel_rfl) (fun W hW => by go_simp) (by assumption) rfl rfl ?_
              simp only [Act.put, List.setIfInBounds_toArray, List.set_cons_zero, List.set_cons_succ]
              refine wpAnyH_yield 5 33 (.slice (some ⟨g, off, none⟩) n cap) rfl rfl (by kernel_rfl) (by kernel_rfl) (by kernel_rfl) (fun _ _ _ h => h) (by kernel_rfl) (fun W hW => by obtain ⟨-, -, q⟩ := ks_cells (CD.out W hW).2; rw [hkn] at q; go_simp) (by assumption) rfl rfl ?_
              simp only [Act.put, List.setIfInBounds_toArray, List.set_cons_zero, List.set_cons_succ]
              refine wpAnyH_yield 6 34 (.int .i64 (((j + 1 : Nat)) : Int)) rfl rfl (by kernel_rfl) (by kernel_rfl) (by kernel_rfl) (fun _ _ _ h => h) (by kernel_rfl) (fun W hW => by kernel_rfl) (by assumption) rfl rfl ?_
              simp only [Act.put, List.setIfInBounds_toArray, List.set_cons_zero, List.set_cons_succ]
              refine wpAnyH_yield 7 35 (.int .i64 (j : Int)) rfl rfl (by kernel_rfl) (by kernel_rfl) (by kernel_rfl) (fun _ _ _ h => h) (by kernel_rfl) (fun W hW => by go_simp) (by assumption) rfl rfl ?_
              simp only [Act.put, List.setIfInBounds_toArray, List.set_cons_zero, List.set_cons_succ]
              refine wpAnyH_yield 8 36 (.pointer (some ⟨g, off + j * 9, none⟩)) rfl rfl (by kernel_rfl) (by kernel_rfl) (by kernel_rfl) (fun _ _ _ h => h) (by kernel_rfl) (fun W hW => by go_simp) (by assumption) rfl rfl ?_
              simp only [Act.put, List.setIfInBounds_toArray, List.set_cons_zero, List.set_cons_succ]
              refine wpAnyH_yield 9 37 (.pointer (some ⟨g, off + j * 9, none⟩)) rfl rfl (by kernel_rfl) (by kernel_rfl) (by kernel_rfl) (fun _ _ _ h => h) (by kernel_rfl) (fun W hW => by go_simp) (by assumption) rfl rfl ?_
              simp only [Act.put, List.setIfInBounds_toArray, List.set_cons_zero, List.set_cons_succ]
              refine wpAnyH_yield 10 38 (spv x.sp) rfl rfl (by kernel_rfl) (by kernel_rfl) (by kernel_rfl) (fun _ _ _ h => h) (by kernel_rfl) (fun W hW => by obtain ⟨⟨q0, q1, -⟩, -⟩ := CX.out W hW; go_simp) (by assumption) rfl rfl ?_
              simp only [Act.put, List.setIfInBounds_toArray, List.set_cons_zero, List.set_cons_succ]
              refine wpAnyH_yield 11 39 (.pointer (some ⟨D, 0, none⟩)) rfl rfl (by kernel_rfl) (by kernel_rfl) (by kernel_rfl) (fun _ _ _ h => h) (by kernel_rfl) (fun W hW => by go_simp) (by assumption) rfl rfl ?_
              simp only [Act.put, List.setIfInBounds_toArray, List.set_cons_zero, List.set_cons_succ]
              refine wpAnyH_yield 12 40 (spv y.sp) rfl rfl (by kernel_rfl) (by kernel_rfl) (by kernel_rfl) (fun _ _ _ h => h) (by kernel_rfl) (fun W hW => by obtain ⟨⟨q0, q1, -⟩, -⟩ := wn_cells (CD.out W hW).1; go_simp) (by assumption) rfl rfl ?_
              simp only [Act.put, List.setIfInBounds_toArray, List.set_cons_zero, List.set_cons_succ]
              refine wpAnyH_enter 13 41 50 #[.int .i64 ki, spv x.sp, spv y.sp] rfl rfl (by kernel_rfl) (by kernel_rfl) (by kernel_rfl) ?_
              refine (CBx.out _).mono ?_
              rintro rr w3 ⟨rfl, T3⟩
              have h3 := hT0.tr T3
              refine ⟨_, rfl, h3, ?_⟩
              simp only [Act.put, List.setIfInBounds_toArray, List.set_cons_zero, List.set_cons_succ]
              have TT3 := TT2.out.tr h3
              generalize hbb : behB ki x y = bb at *
              cases bb with
              | true =>
                refine wpAnyH_yield 14 42 (.bool false) rfl rfl (by kernel_rfl) (by kernel_rfl) (by kernel_rfl) (fun _ _ _ h => h) (by kernel_rfl) (fun W hW => by go_simp) (by assumption) rfl rfl ?_
                simp only [Act.put, List.setIfInBounds_toArray, List.set_cons_zero, List.set_cons_succ]
                refine wpAnyH_yield 15 43 (.bool false) rfl rfl (by kernel_rfl) (by kernel_rfl) (by kernel_rfl) (fun _ _ _ h => h) (by kernel_rfl) (fun W hW => by go_simp) (by assumption) rfl rfl ?_
                simp only [Act.put, List.setIfInBounds_toArray, List.set_cons_zero, List.set_cons_succ]
                refine wpAnyH_done (by kernel_rfl) ?_ _
                have HX := hide (NX.out true (by rw [KP3.out]))
                have HT := hide TT3
                clear NX NF KP3 TT3 h3 hT0 T3 CD CX CBx hbb
                go_wp2_with fail
                go_roundw
                case rel => exact ⟨j + 1 + 1, by go_num, by omega, HX.out, HT.out⟩
                case measure => simp [intOf]; omega
              | false =>
                refine wpAnyH_yield 14 42 (.bool true) rfl rfl (by kernel_rfl) (by kernel_rfl) (by kernel_rfl) (fun _ _ _ h => h) (by kernel_rfl) (fun W hW => by go_simp) (by assumption) rfl rfl ?_
                simp only [Act.put, List.setIfInBounds_toArray, List.set_cons_zero, List.set_cons_succ]
                refine wpAnyH_yield 15 43 (.bool true) rfl rfl (by kernel_rfl) (by kernel_rfl) (by kernel_rfl) (fun _ _ _ h => h) (by kernel_rfl) (fun W hW => by go_simp) (by assumption) rfl rfl ?_
                simp only [Act.put, List.setIfInBounds_toArray, List.set_cons_zero, List.set_cons_succ]
                refine wpAnyH_done (by kernel_rfl) ?_ _
                have HX := hide (NF.out (by rw [KP3.out]))
                have HT := hide TT3
                clear NX NF KP3 TT3 h3 hT0 T3 CD CX CBx hbb
                go_wp2_with fail
                go_ret
                exact ⟨by rw [HX.out]; rfl, T0.out.tr HT.out⟩
        · have hltz : ¬ (i : Int) < (n : Int) := by omega
          obtain rfl : i = n := by omega
          have HF : Hid (R = true) := hide (by rw [HR.out]; exact hall)
          have HTL := hide TL
          clear hall TL HR
          go_wp2_with fail
          go_ret
          exact ⟨by rw [HF.out]; rfl, T0.out.tr HTL.out⟩

end Go.Proofs.YtdcpmpbfnfjncaaDoor

namespace Go.Proofs.YtdcpmpbfnfjncaaDoor
open Go.RowKit

/-- What marksInOrder answers. -/
def marksP (so : Int) (M : List Int) : Bool := (List.range M.length).all (fun i => timeB (M.getD i 0)) && decide ((M.length : Int) = so)

set_option maxRecDepth 100000 in
set_option maxHeartbeats 2000000 in
theorem marksInOrder_any (so : Int) (M : List Int) (mo : Option Addr) (mc : Nat) (w : World) (hm : encJ.Sl w mo mc M) (hl : M.length ≤ 140737488355328) : Calls Tryd.prog 13 #[.int .i64 so, .slice mo M.length mc] w fun e w' => e = .returned (.bool (marksP so M)) ∧ Calm w w' := by
  have CT : Hid (∀ t W, Calls Tryd.prog 27 #[.int .i64 t] W fun e w' => e = .returned (.bool (timeB t)) ∧ w' = W) := hide isTime_any
  have AM : Hid (∀ j, j < M.length → ∃ g off, mo = some ⟨g, off, none⟩ ∧ ∀ W, Calm w W → W.cell? ⟨g, off + j, none⟩ = some (.int .i64 (M.getD j 0))) := hide fun j hj => by
    obtain ⟨g, off, e, -⟩ := ints_at hm.mem j hj
    refine ⟨g, off, e, fun W hW => ?_⟩
    obtain ⟨g', off', e', h⟩ := ints_at (Rc.Mem.calm hm.mem hW) j hj
    rw [e] at e'
    injection e' with e'
    injection e' with e1 e2
    subst e1 e2
    exact h
  have HP : Hid (marksP so M = ((List.range M.length).all (fun i => timeB (M.getD i 0)) && decide ((M.length : Int) = so))) := hide rfl
  generalize marksP so M = R at *
  clear hm
  go_enter Tryd.func13, Tryd.ntmps13
  go_wp2_with fail
  go_loopw [9] (fun s wr => ∃ i : Nat, s = .int .i64 (i : Int) ∧ i ≤ M.length ∧ Hid (((List.range i).all fun i => timeB (M.getD i 0)) = true) ∧ Calm w wr) (fun s _ => M.length - (intOf s).toNat)
  case atStart => exact ⟨0, rfl, by omega, hide rfl, Touch.refl _ _⟩
  case round =>
    obtain ⟨i, rfl, hi, HA, TL⟩ := hrel
    by_cases hlt : i < M.length
    · have hltz : (i : Int) < (M.length : Int) := by omega
      obtain ⟨g, off, rfl, hW⟩ := AM.out i hlt
      have cm := hW wr TL
      have C1 := hide (CT.out (M.getD i 0))
      have N1 : Hid (timeB (M.getD i 0) = false → R = false) := hide fun h => by rw [HP.out, all_range_false (f := fun i => timeB (M.getD i 0)) hlt h]; rfl
      have Y1 : Hid (timeB (M.getD i 0) = true → ((List.range (i + 1)).all fun i => timeB (M.getD i 0)) = true) := hide fun h => by rw [all_range_succ, HA.out, h]; rfl
      generalize M.getD i 0 = t at *
      generalize timeB t = tb at *
      have HT := hide TL
      clear hW HA TL CT AM HP
      go_wp2_with fail
      refine (C1.out _).mono ?_
      rintro e w2 ⟨rfl, rfl⟩
      cases tb with
      | false =>
        have N2 := hide (N1.out rfl)
        clear N1 Y1
        go_wp2_with fail
        go_ret
        exact ⟨by rw [N2.out]; rfl, HT.out⟩
      | true =>
        have Y2 := hide (Y1.out rfl)
        clear N1 Y1
        go_wp2_with fail
        go_roundw
        case rel => exact ⟨i + 1, by go_num, by omega, Y2.out, HT.out⟩
        case measure => simp [intOf]; omega
    · have hltz : ¬ (i : Int) < (M.length : Int) := by omega
      obtain rfl : i = M.length := by omega
      have HR : Hid (R = decide ((M.length : Int) = so)) := hide (by rw [HP.out, HA.out]; rfl)
      have HT := hide TL
      clear HA TL CT AM HP
      go_wp2_with fail
      go_ret
      exact ⟨by rw [HR.out]; rfl, HT.out⟩

/-- The key of that place may stand behind those ahead of it. -/
def keysPt (ki : Int) (K : List Kv) (i : Nat) : Bool := (i == 0 || keyLt (K.getD (i - 1) kv0).k.ke (K.getD i kv0).k.ke) && (!((K.getD i kv0).k.wi.length == 0 && (K.getD i kv0).k.dr == 0) && keyP ki (K.getD i kv0).k)
/-- What keysInOrder answers. -/
def keysP (ki : Int) (K : List Kv) : Bool := (List.range K.length).all fun i => keysPt ki K i

theorem less_or (x : List UInt8) : ∀ y : List UInt8, (Op.bytesLess x y || x == y) = !Op.bytesLess y x := by
  induction x with
  | nil => intro y; cases y <;> simp [Op.bytesLess]
  | cons a x ih =>
    intro y
    cases y with
    | nil => simp [Op.bytesLess]
    | cons b y =>
      have h := ih y
      simp only [Op.bytesLess]
      by_cases h1 : a < b
      · have h2 : ¬ b < a := by rw [UInt8.lt_iff_toNat_lt] at *; omega
        have h3 : ¬ b = a := by rintro rfl; rw [UInt8.lt_iff_toNat_lt] at h1; omega
        simp [h1, h2, h3]
      · by_cases h2 : b < a
        · have h3 : ¬ a = b := by rintro rfl; exact h1 h2
          simp [h1, h2, h3]
        · have h3 : a = b := by rw [UInt8.lt_iff_toNat_lt] at *; exact UInt8.toNat_inj.mp (by omega)
          subst h3
          simpa [h1] using h

theorem leq_str (t : TypeId) (a b : ByteArray) : binOp .leq t (.string a) (.string b) = pure (.bool (!keyLt b a)) := by
  unfold keyLt
  rw [← less_or]
  simp [binOp, Op.stringOp]

set_option maxRecDepth 100000 in
set_option maxHeartbeats 2000000 in
theorem keysInOrder_any (ki : Int) (K : List Kv) (ko : Option Addr) (kc : Nat) (w : World) (hk : encK.Sl w ko kc K) (hw : ∀ j, j < K.length → encW.Sl w (K.getD j kv0).wo (K.getD j kv0).cap (K.getD j kv0).k.wi ∧ (K.getD j kv0).k.wi.length ≤ 140737488355328) (hl : K.length ≤ 140737488355328) :
    Calls Tryd.prog 14 #[.int .i64 ki, .slice ko K.length kc] w fun e w' => e = .returned (.bool (keysP ki K)) ∧ Calm w w' := by
  have CK : Hid (∀ j, j < K.length → ∀ W, Calm w W → Calls Tryd.prog 28 #[.int .i64 ki, .agg (kvc (K.getD j kv0))] W fun e w' => e = .returned (.bool (keyP ki (K.getD j kv0).k)) ∧ Calm W w') := hide fun j hj W hW => keyInOrder_any ki _ _ _ W (Rc.Sl.calm (hw j hj).1 hW) (hw j hj).2
  have WL : Hid (∀ j, j < K.length → (K.getD j kv0).k.wi.length ≤ 140737488355328) := hide fun j hj => (hw j hj).2
  have AK : Hid (∀ j, j < K.length → ∃ g off, ko = some ⟨g, off, none⟩ ∧ ∀ W, Calm w W → W.cell? ⟨g, off + j * 3, none⟩ = some (.string (K.getD j kv0).k.ke) ∧ W.cell? ⟨g, off + j * 3 + 1, none⟩ = some (.int .i64 (K.getD j kv0).k.dr) ∧ W.cell? ⟨g, off + j * 3 + 2, none⟩ = some (.slice (K.getD j kv0).wo (K.getD j kv0).k.wi.length (K.getD j kv0).cap)) := hide fun j hj => by
    obtain ⟨g, off, e, -⟩ := keys_at hk.mem j hj
    refine ⟨g, off, e, fun W hW => ?_⟩
    obtain ⟨g', off', e', h⟩ := keys_at (Rc.Mem.calm hk.mem hW) j hj
    rw [e] at e'
    injection e' with e'
    injection e' with e1 e2
    subst e1 e2
    exact h
  have hcp : K.length ≤ kc := hk.cap
  have HP : Hid (keysP ki K = (List.range K.length).all fun i => keysPt ki K i) := hide rfl
  generalize keysP ki K = R at *
  clear hk hw
  generalize hn : K.length = n at *
  go_enter Tryd.func14, Tryd.ntmps14
  go_wp2_with fail
  go_loopw [9] (fun s wr => ∃ i : Nat, s = .int .i64 (i : Int) ∧ i ≤ n ∧ Hid (((List.range i).all fun i => keysPt ki K i) = true) ∧ Calm w wr) (fun s _ => n - (intOf s).toNat)
  case atStart => exact ⟨0, rfl, by omega, hide rfl, Touch.refl _ _⟩
  case round =>
    obtain ⟨i, rfl, hi, HA, TL⟩ := hrel
    by_cases hlt : i < n
    · have hltz : (i : Int) < (n : Int) := by omega
      obtain ⟨g, off, rfl, hW⟩ := AK.out i hlt
      obtain ⟨x0, x1, x2⟩ := hW wr TL
      have C1 := hide (CK.out i hlt)
      have L1 := hide (WL.out i hlt)
      have N1 : Hid (keysPt ki K i = false → R = false) := hide fun h => by rw [HP.out, all_range_false (f := fun i => keysPt ki K i) hlt h]
      have Y1 : Hid (keysPt ki K i = true → ((List.range (i + 1)).all fun i => keysPt ki K i) = true) := hide fun h => by rw [all_range_succ, HA.out, h]; rfl
      have HS : Hid (keysPt ki K i = ((i == 0 || keyLt (K.getD (i - 1) kv0).k.ke (K.getD i kv0).k.ke) && (!((K.getD i kv0).k.wi.length == 0 && (K.getD i kv0).k.dr == 0) && keyP ki (K.getD i kv0).k))) := hide rfl
      have PV : Hid (∀ j, i = j + 1 → ∀ W, Calm w W → W.cell? ⟨g, off + j * 3, none⟩ = some (.string (K.getD j kv0).k.ke)) := hide fun j hj W hW' => by
        obtain ⟨g', off', e', h⟩ := AK.out j (by omega)
        injection e' with e'
        injection e' with e1 e2
        subst e1 e2
        exact (h W hW').1
      generalize keysPt ki K i = sa at *
      generalize hv : K.getD i kv0 = v at *
      clear hv hW
      have HTn := hide (TL.alloc (.cells (kvc v) 40))
      have HVn := hide (al_new wr (.cells (kvc v) 40))
      clear TL HA CK AK WL HP
      go_wp2_with fail
      obtain ⟨k0, k1, k2⟩ := ks_cells HVn.out
      clear x0 x1 x2
      generalize wr.alloc (.cells (kvc v) 40) = w1 at *
      generalize wr.heap.size = D at *
      by_cases h0 : i = 0
      · subst h0
        have HS2 : Hid (sa = (!(v.k.wi.length == 0 && v.k.dr == 0) && keyP ki v.k)) := hide (by rw [HS.out]; rfl)
        have d0 : decide ((0 : Int) < ((0 : Nat) : Int)) = false := by decide
        clear HS PV
        go_quiet (fail)
        rename_i nq
        go_wp2_with fail
        · rename_i q1 q2
          have HN := hide (N1.out (by rw [HS2.out, q1, q2]; rfl))
          clear N1 Y1 HS2 C1
          go_ret
          exact ⟨by rw [HN.out]; rfl, HTn.out.drewQ nq⟩
        · have q1 : v.k.wi = [] := by assumption
          have q2 : (v.k.dr == 0) = false := by assumption
          have HS3 : Hid (sa = keyP ki v.k) := hide (by rw [HS2.out, q1, q2]; rfl)
          have C2 := C1.out (w1.drewN nq) (HTn.out.drewQ nq)
          have ea : Value.agg (kvc v) = .agg #[.string v.k.ke, .int .i64 v.k.dr, .slice v.wo 0 v.cap] := by
            show Value.agg #[.string v.k.ke, .int .i64 v.k.dr, .slice v.wo v.k.wi.length v.cap] = _
            rw [q1]; rfl
          rw [ea] at C2
          clear ea
          refine C2.mono ?_
          rintro e w3 ⟨rfl, T3⟩
          have HT3 := hide ((HTn.out.drewQ nq).tr T3)
          clear T3 HTn HVn C1 C2 HS2
          generalize keyP ki v.k = kb at *
          cases kb with
          | false =>
            have HN := hide (N1.out HS3.out)
            clear N1 Y1 HS3
            go_wp2_with fail
            go_ret
            exact ⟨by rw [HN.out]; rfl, HT3.out⟩
          | true =>
            have HY := hide (Y1.out HS3.out)
            clear N1 Y1 HS3
            go_wp2_with fail
            go_roundw
            case rel => exact ⟨0 + 1, by go_num, by omega, HY.out, HT3.out⟩
            case measure => simp [intOf]; omega
        · have q1 : ¬ v.k.wi = [] := by assumption
          have HS3 : Hid (sa = keyP ki v.k) := hide (by
            rw [HS2.out]
            have : (v.k.wi.length == 0) = false := by
              cases hh : v.k.wi with
              | nil => exact absurd hh q1
              | cons a l => rfl
            rw [this]; rfl)
          have C2 := C1.out (w1.drewN nq) (HTn.out.drewQ nq)
          refine C2.mono ?_
          rintro e w3 ⟨rfl, T3⟩
          have HT3 := hide ((HTn.out.drewQ nq).tr T3)
          clear T3 HTn HVn C1 C2 HS2
          generalize keyP ki v.k = kb at *
          cases kb with
          | false =>
            have HN := hide (N1.out HS3.out)
            clear N1 Y1 HS3
            go_wp2_with fail
            go_ret
            exact ⟨by rw [HN.out]; rfl, HT3.out⟩
          | true =>
            have HY := hide (Y1.out HS3.out)
            clear N1 Y1 HS3
            go_wp2_with fail
            go_roundw
            case rel => exact ⟨0 + 1, by go_num, by omega, HY.out, HT3.out⟩
            case measure => simp [intOf]; omega
      · obtain ⟨j, rfl⟩ : ∃ j, i = j + 1 := ⟨i - 1, by omega⟩
        have xp := PV.out j rfl w1 HTn.out
        have HS1 : Hid (sa = (keyLt (K.getD j kv0).k.ke v.k.ke && (!(v.k.wi.length == 0 && v.k.dr == 0) && keyP ki v.k))) := hide (by rw [HS.out]; rfl)
        generalize (K.getD j kv0).k.ke = pk at *
        have LS := leq_str 9 v.k.ke pk
        generalize keyLt pk v.k.ke = kl at *
        have d0 : decide ((0 : Int) < ((j + 1 : Nat) : Int)) = true := decide_eq_true (by omega)
        have ej : wrap64 ((((j + 1 : Nat)) : Int) - 1) = (j : Int) := by rw [wr_in _ (by omega)]; omega
        have hjz : (j : Int) < (n : Int) := by omega
        clear HS PV
        go_quiet (fail)
        rename_i nq
        cases kl with
        | false =>
          have HN := hide (N1.out (by rw [HS1.out]; rfl))
          clear N1 Y1 HS1 C1
          go_wp2_with fail
          go_ret
          exact ⟨by rw [HN.out]; rfl, HTn.out.drewQ nq⟩
        | true =>
          have HS2 : Hid (sa = (!(v.k.wi.length == 0 && v.k.dr == 0) && keyP ki v.k)) := hide (by rw [HS1.out]; rfl)
          clear HS1
          go_wp2_with fail
          · rename_i q1 q2
            have HN := hide (N1.out (by rw [HS2.out, q1, q2]; rfl))
            clear N1 Y1 HS2 C1
            go_ret
            exact ⟨by rw [HN.out]; rfl, HTn.out.drewQ nq⟩
          · have q1 : v.k.wi = [] := by assumption
            have q2 : (v.k.dr == 0) = false := by assumption
            have HS3 : Hid (sa = keyP ki v.k) := hide (by rw [HS2.out, q1, q2]; rfl)
            have C2 := C1.out (w1.drewN nq) (HTn.out.drewQ nq)
            have ea : Value.agg (kvc v) = .agg #[.string v.k.ke, .int .i64 v.k.dr, .slice v.wo 0 v.cap] := by
              show Value.agg #[.string v.k.ke, .int .i64 v.k.dr, .slice v.wo v.k.wi.length v.cap] = _
              rw [q1]; rfl
            rw [ea] at C2
            clear ea
            refine C2.mono ?_
            rintro e w3 ⟨rfl, T3⟩
            have HT3 := hide ((HTn.out.drewQ nq).tr T3)
            clear T3 HTn HVn C1 C2 HS2
            generalize keyP ki v.k = kb at *
            cases kb with
            | false =>
              have HN := hide (N1.out HS3.out)
              clear N1 Y1 HS3
              go_wp2_with fail
              go_ret
              exact ⟨by rw [HN.out]; rfl, HT3.out⟩
            | true =>
              have HY := hide (Y1.out HS3.out)
              clear N1 Y1 HS3
              go_wp2_with fail
              go_roundw
              case rel => exact ⟨(j + 1) + 1, by go_num, by omega, HY.out, HT3.out⟩
              case measure => simp [intOf]; omega
          · have q1 : ¬ v.k.wi = [] := by assumption
            have HS3 : Hid (sa = keyP ki v.k) := hide (by
              rw [HS2.out]
              have : (v.k.wi.length == 0) = false := by
                cases hh : v.k.wi with
                | nil => exact absurd hh q1
                | cons a l => rfl
              rw [this]; rfl)
            have C2 := C1.out (w1.drewN nq) (HTn.out.drewQ nq)
            refine C2.mono ?_
            rintro e w3 ⟨rfl, T3⟩
            have HT3 := hide ((HTn.out.drewQ nq).tr T3)
            clear T3 HTn HVn C1 C2 HS2
            generalize keyP ki v.k = kb at *
            cases kb with
            | false =>
              have HN := hide (N1.out HS3.out)
              clear N1 Y1 HS3
              go_wp2_with fail
              go_ret
              exact ⟨by rw [HN.out]; rfl, HT3.out⟩
            | true =>
              have HY := hide (Y1.out HS3.out)
              clear N1 Y1 HS3
              go_wp2_with fail
              go_roundw
              case rel => exact ⟨(j + 1) + 1, by go_num, by omega, HY.out, HT3.out⟩
              case measure => simp [intOf]; omega
    · have hltz : ¬ (i : Int) < (n : Int) := by omega
      obtain rfl : i = n := by omega
      have HR : Hid (R = true) := hide (by rw [HP.out, HA.out])
      have HT := hide TL
      clear HA TL CK AK HP
      go_wp2_with fail
      go_ret
      exact ⟨by rw [HR.out]; rfl, HT.out⟩

end Go.Proofs.YtdcpmpbfnfjncaaDoor

namespace Go.Proofs.YtdcpmpbfnfjncaaDoor
open Go.RowKit

theorem all_congr {n : Nat} {f g : Nat → Bool} (h : ∀ i, i < n → f i = g i) : (List.range n).all f = (List.range n).all g := by
  rw [Bool.eq_iff_iff]
  simp only [List.all_eq_true, List.mem_range]
  constructor
  · intro H i hi; rw [← h i hi]; exact H i hi
  · intro H i hi; rw [h i hi]; exact H i hi

theorem keys_link (c : Cf) (K : List Kv) : keysP c.ki K = (List.range K.length).all fun i => stAt c K i := by
  unfold keysP
  refine all_congr fun i _ => ?_
  unfold keysPt stAt
  rw [key_link]
  generalize keyB c _ = a
  generalize (i == 0 || _) = b
  generalize (!_) = d
  cases a <;> cases b <;> cases d <;> rfl

theorem state_link (c : Cf) (M : List Int) (K : List Kv) : stateN c M K = if wrongN c = 0 then if marksP c.so M then if keysP c.ki K then 0 else 6 else 6 else 4 := by
  unfold stateN marksP
  rw [keys_link]
  by_cases h0 : wrongN c = 0
  · rw [if_pos h0, if_pos h0]
    by_cases h1 : (M.length : Int) = c.so
    · rw [if_pos h1, decide_eq_true h1, Bool.and_true]
    · rw [if_neg h1, decide_eq_false h1, Bool.and_false]; rfl
  · rw [if_neg h0, if_neg h0]

set_option maxRecDepth 100000 in
set_option maxHeartbeats 2000000 in
theorem state_any (c : Cf) (M : List Int) (mo : Option Addr) (mc : Nat) (K : List Kv) (ko : Option Addr) (kc : Nat) (w : World) (hm : encJ.Sl w mo mc M) (hk : encK.Sl w ko kc K) (hw : ∀ j, j < K.length → encW.Sl w (K.getD j kv0).wo (K.getD j kv0).cap (K.getD j kv0).k.wi ∧ (K.getD j kv0).k.wi.length ≤ 140737488355328) (hl : M.length ≤ 140737488355328) (hl2 : K.length ≤ 140737488355328) :
    Calls Tryd.prog 5 #[.agg (stc c (.slice mo M.length mc) (.slice ko K.length kc))] w fun e w' => e = .returned (.int .i64 (stateN c M K)) ∧ Calm w w' := by
  have CC : Hid (∀ W, Calls Tryd.prog 12 #[cfv c] W fun e w' => e = .returned (.int .i64 (if wrongN c = 0 then 0 else 4)) ∧ Calm W w') := hide fun W => by
    have := check_any c W
    rw [ch_job] at this
    exact this
  have CM : Hid (∀ W, Calm w W → Calls Tryd.prog 13 #[.int .i64 c.so, .slice mo M.length mc] W fun e w' => e = .returned (.bool (marksP c.so M)) ∧ Calm W w') := hide fun W hW => marksInOrder_any c.so M mo mc W (Rc.Sl.calm hm hW) hl
  have CK : Hid (∀ W, Calm w W → Calls Tryd.prog 14 #[.int .i64 c.ki, .slice ko K.length kc] W fun e w' => e = .returned (.bool (keysP c.ki K)) ∧ Calm W w') := hide fun W hW => keysInOrder_any c.ki K ko kc W (Rc.Sl.calm hk hW) (fun j hj => ⟨Rc.Sl.calm (hw j hj).1 hW, (hw j hj).2⟩) hl2
  have T0 := hide ((Touch.refl (fun _ => False) w).alloc (.cells (stc c (.slice mo M.length mc) (.slice ko K.length kc)) 28))
  have A0 := hide (al_new w (.cells (stc c (.slice mo M.length mc) (.slice ko K.length kc)) 28))
  have hN := state_link c M K
  generalize stateN c M K = N at *
  generalize marksP c.so M = mb at *
  generalize keysP c.ki K = kb at *
  clear hm hk hw
  by_cases h0 : wrongN c = 0
  · rw [if_pos h0] at hN
    have HN := hide hN
    simp only [if_pos h0] at CC
    clear hN h0
    go_enter Tryd.func5, Tryd.ntmps5
    go_wp2_with fail
    refine (CC.out _).mono ?_
    rintro e w1 ⟨rfl, T1⟩
    have TT1 := hide (T0.out.tr T1)
    have A1 := hide (T1.at A0.out)
    obtain ⟨⟨g0, g1, g2, g3, g4, g5⟩, ⟨g6, g7, g8, g9⟩, g10, g11⟩ := st_cells (T1.at A0.out)
    clear CC A0 T0 T1
    go_wp2_with fail
    refine (CM.out _ TT1.out).mono ?_
    rintro e w2 ⟨rfl, T2⟩
    have TT2 := hide (TT1.out.tr T2)
    have A2 := hide (T2.at A1.out)
    clear CM T2 TT1 A1 g0 g1 g2 g3 g4 g5 g6 g7 g8 g9 g10 g11
    obtain ⟨⟨g0, g1, g2, g3, g4, g5⟩, ⟨g6, g7, g8, g9⟩, g10, g11⟩ := st_cells A2.out
    cases mb with
    | false =>
      clear CK
      go_wp2_with fail
      go_ret
      exact ⟨by rw [HN.out]; rfl, TT2.out⟩
    | true =>
      go_wp2_with fail
      refine (CK.out _ TT2.out).mono ?_
      rintro e w3 ⟨rfl, T3⟩
      have TT3 := hide (TT2.out.tr T3)
      clear CK T3 TT2
      cases kb with
      | false =>
        go_wp2_with fail
        go_ret
        exact ⟨by rw [HN.out]; rfl, TT3.out⟩
      | true =>
        go_wp2_with fail
        go_ret
        exact ⟨by rw [HN.out]; rfl, TT3.out⟩
  · rw [if_neg h0] at hN
    have HN := hide hN
    simp only [if_neg h0] at CC
    clear hN h0
    go_enter Tryd.func5, Tryd.ntmps5
    go_wp2_with fail
    refine (CC.out _).mono ?_
    rintro e w1 ⟨rfl, T1⟩
    have TT1 := hide (T0.out.tr T1)
    clear CC A0 T0 T1
    go_wp2_with fail
    go_ret
    exact ⟨by rw [HN.out]; rfl, TT1.out⟩

end Go.Proofs.YtdcpmpbfnfjncaaDoor

namespace Go.Proofs.YtdcpmpbfnfjncaaDoor
open Go.RowKit

theorem less_trans (x : List UInt8) : ∀ y z : List UInt8, Op.bytesLess x y = true → Op.bytesLess y z = true → Op.bytesLess x z = true := by
  induction x with
  | nil =>
    intro y z h1 h2
    cases z with
    | nil => cases y <;> simp [Op.bytesLess] at h2
    | cons c z => simp [Op.bytesLess]
  | cons a x ih =>
    intro y z h1 h2
    cases y with
    | nil => simp [Op.bytesLess] at h1
    | cons b y =>
      cases z with
      | nil => simp [Op.bytesLess] at h2
      | cons c z =>
        simp only [Op.bytesLess, Bool.or_eq_true, Bool.and_eq_true, decide_eq_true_eq, beq_iff_eq] at h1 h2 ⊢
        rcases h1 with h1 | ⟨rfl, h1⟩
        · rcases h2 with h2 | ⟨rfl, h2⟩
          · left; rw [UInt8.lt_iff_toNat_lt] at *; omega
          · exact .inl h1
        · rcases h2 with h2 | ⟨rfl, h2⟩
          · exact .inl h2
          · exact .inr ⟨rfl, ih y z h1 h2⟩

theorem keyLt_trans {a b c : ByteArray} (h1 : keyLt a b = true) (h2 : keyLt b c = true) : keyLt a c = true := less_trans _ _ _ h1 h2

/-- The keys but one. -/
abbrev but (K : List Kv) (o : Nat) : List Kv := K.take o ++ K.drop (o + 1)
theorem but_len {K : List Kv} {o : Nat} (ho : o < K.length) : (but K o).length = K.length - 1 := by simp; omega
theorem but_at {K : List Kv} {o : Nat} (ho : o < K.length) (i : Nat) : (but K o).getD i kv0 = if i < o then K.getD i kv0 else K.getD (i + 1) kv0 := by
  simp only [List.getD_eq_getElem?_getD]
  by_cases h : i < o
  · rw [if_pos h, List.getElem?_append_left (by simp; omega), List.getElem?_take, if_pos h]
  · rw [if_neg h, List.getElem?_append_right (by simp; omega), List.getElem?_drop]
    congr 2
    simp
    omega

theorem state_zero {c : Cf} {M : List Int} {K : List Kv} : stateN c M K = 0 ↔ wrongN c = 0 ∧ (M.length : Int) = c.so ∧ (List.range M.length).all (fun i => timeB (M.getD i 0)) = true ∧ ∀ i, i < K.length → stAt c K i = true := by
  unfold stateN
  by_cases h0 : wrongN c = 0
  · rw [if_pos h0]
    by_cases h1 : (M.length : Int) = c.so
    · rw [if_pos h1]
      by_cases h2 : (List.range M.length).all (fun i => timeB (M.getD i 0)) = true
      · rw [if_pos h2]
        by_cases h3 : (List.range K.length).all (fun i => stAt c K i) = true
        · rw [if_pos h3]
          have h4 := h3
          simp only [List.all_eq_true, List.mem_range] at h4
          exact ⟨fun _ => ⟨h0, h1, h2, h4⟩, fun _ => rfl⟩
        · rw [if_neg h3]
          refine ⟨fun h => by simp at h, fun h => absurd ?_ h3⟩
          simp only [List.all_eq_true, List.mem_range]
          exact h.2.2.2
      · rw [if_neg h2]
        exact ⟨fun h => by simp at h, fun h => absurd h.2.2.1 h2⟩
    · rw [if_neg h1]
      exact ⟨fun h => by simp at h, fun h => absurd h.2.1 h1⟩
  · rw [if_neg h0]
    exact ⟨fun h => by simp at h, fun h => absurd h.1 h0⟩

theorem stAt_iff {c : Cf} {K : List Kv} {i : Nat} : stAt c K i = true ↔ keyB c (K.getD i kv0).k = true ∧ (!((K.getD i kv0).k.wi.length == 0 && (K.getD i kv0).k.dr == 0)) = true ∧ (i = 0 ∨ keyLt (K.getD (i - 1) kv0).k.ke (K.getD i kv0).k.ke = true) := by
  unfold stAt
  rw [Bool.and_eq_true, Bool.and_eq_true, Bool.or_eq_true, beq_iff_eq]

/-- A state in order stays in order when a key is left out. -/
theorem state_but {c : Cf} {M : List Int} {K : List Kv} {o : Nat} (ho : o < K.length) (h : stateN c M K = 0) : stateN c M (but K o) = 0 := by
  rw [state_zero] at h ⊢
  obtain ⟨h0, h1, h2, h3⟩ := h
  refine ⟨h0, h1, h2, fun i hi => ?_⟩
  rw [but_len ho] at hi
  rw [stAt_iff, but_at ho, but_at ho]
  by_cases hio : i < o
  · have := stAt_iff.mp (h3 i (by omega))
    rw [if_pos hio, if_pos (show i - 1 < o by omega)]
    exact this
  · have t := stAt_iff.mp (h3 (i + 1) (by omega))
    rw [if_neg hio]
    refine ⟨t.1, t.2.1, ?_⟩
    by_cases hz : i = 0
    · exact .inl hz
    · right
      have k1 := t.2.2.resolve_left (by omega)
      rw [Nat.add_sub_cancel] at k1
      by_cases he : i - 1 < o
      · rw [if_pos he]
        have k0 := (stAt_iff.mp (h3 i (by omega))).2.2.resolve_left hz
        exact keyLt_trans k0 k1
      · rw [if_neg he, show i - 1 + 1 = i by omega]
        exact k1

end Go.Proofs.YtdcpmpbfnfjncaaDoor
