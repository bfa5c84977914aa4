/- Keys' states (the document's ordered, Key). -/
import Derived.Test.YtdcpmpbfnfjncaaDoorCI0
import Derived.Test.YtdcpmpbfnfjncaaDoorMW0
namespace Go.Proofs.YtdcpmpbfnfjncaaDoor
open Go.RowKit

/-- In order, the first ahead? -/
def ordB (x y : Wn) : Bool := decide (x.a < y.a) || (x.a == y.a && decide (x.b < y.b))

set_option maxRecDepth 100000 in
theorem rordered_any (x y : Wn) (w : World) : Calls Tryd.prog 31 #[wnv x, wnv y] w fun e w' => e = .returned (.bool (ordB x y)) ∧ Calm w w' := by
  have T0 := hide (((Touch.refl (fun _ => False) w).alloc (.cells (wnc x) 65)).alloc (.cells (wnc y) 65))
  by_cases h1 : x.a < y.a
  · have hd : decide (x.a < y.a) = true := decide_eq_true h1
    have hf : Hid (ordB x y = true) := hide (by unfold ordB; rw [hd]; rfl)
    clear h1
    go_enter Tryd.func31, Tryd.ntmps31
    go_wp2_with fail
    go_ret
    exact ⟨by rw [hf.out]; rfl, T0.out⟩
  · have hd : decide (x.a < y.a) = false := decide_eq_false h1
    by_cases h2 : x.a = y.a
    · have hd2 : (x.a == y.a) = true := beq_iff_eq.2 h2
      have hf : Hid (ordB x y = decide (x.b < y.b)) := hide (by unfold ordB; rw [hd, hd2]; rfl)
      clear h1 h2
      go_enter Tryd.func31, Tryd.ntmps31
      go_wp2_with fail
      go_ret
      exact ⟨by rw [hf.out]; rfl, T0.out⟩
    · have hd2 : (x.a == y.a) = false := beq_false_of_ne h2
      have hf : Hid (ordB x y = false) := hide (by unfold ordB; rw [hd, hd2]; rfl)
      clear h1 h2
      go_enter Tryd.func31, Tryd.ntmps31
      go_wp2_with fail
      go_ret
      exact ⟨by rw [hf.out]; rfl, T0.out⟩

/-- May the window be in a key's state? -/
def winB (x : Wn) : Bool := !decide (x.b ≤ x.a) && (!decide (x.a < -4611687117939015680) && (!decide (4611687117939015680 < x.b) && (inB x.t.c 0 9007199254740992 && (inB x.n 0 9007199254740992 && inB x.p 0 9007199254740992))))
/-- Two windows apart? -/
def apartB (x y : Wn) : Bool := !(decide (x.a < y.b) && decide (y.a < x.b))
/-- The window of that place may stand behind those ahead of it. -/
def keyAt (c : Cf) (L : List Wn) (i : Nat) : Bool := winB (L.getD i wn0) && ((i == 0 || ordB (L.getD (i - 1) wn0) (L.getD i wn0)) && (!(c.ki == 3) || (List.range i).all fun m => apartB (L.getD m wn0) (L.getD i wn0)))
/-- A key's state. -/
structure Ks where
  ke : ByteArray
  dr : Int
  wi : List Wn
/-- What the document's Key answers. -/
def keyB (c : Cf) (k : Ks) : Bool := decide (k.ke.size ≤ 256) && (inB k.dr 0 9007199254740992 && (List.range k.wi.length).all fun i => keyAt c k.wi i)
abbrev ksc (k : Ks) (wo : Option Addr) (cap : Nat) : Array Value := #[.string k.ke, .int .i64 k.dr, .slice wo k.wi.length cap]
theorem ks_cells {w : World} {b : Nat} {k : Ks} {wo : Option Addr} {cap : Nat} {ty : TypeId} (h : w.heap[b]? = some (.cells (ksc k wo cap) ty (0, 0))) :
    w.cell? ⟨b, 0, none⟩ = some (.string k.ke) ∧ w.cell? ⟨b, 1, none⟩ = some (.int .i64 k.dr) ∧ w.cell? ⟨b, 2, none⟩ = some (.slice wo k.wi.length cap) := by simp [World.cell?, h]

theorem all_range_succ (n : Nat) (f : Nat → Bool) : (List.range (n + 1)).all f = ((List.range n).all f && f n) := by
  rw [List.range_succ, List.all_append]; simp
theorem all_range_false {n i : Nat} {f : Nat → Bool} (hi : i < n) (h : f i = false) : (List.range n).all f = false := by
  rw [List.all_eq_false]
  exact ⟨i, List.mem_range.2 hi, by rw [h]; decide⟩

set_option maxRecDepth 100000 in
set_option maxHeartbeats 8000000 in
theorem rkey_any (c : Cf) (k : Ks) (wo : Option Addr) (cap : Nat) (w : World) (hs : encW.Sl w wo cap k.wi) (hl : k.wi.length ≤ 140737488355328) : Calls Tryd.prog 17 #[cfv c, .agg (ksc k wo cap)] w fun e w' => e = .returned (.bool (keyB c k)) ∧ Calm w w' := by
  have CI : Hid (∀ x W, Calls Tryd.prog 30 #[.int .i64 x, .int .i64 0, .int .i64 9007199254740992] W fun e w' => e = .returned (.bool (inB x 0 9007199254740992)) ∧ w' = W) := hide fun x W => rwithin_any x _ _ W
  have CO : Hid (∀ x y W, Calls Tryd.prog 31 #[wnv x, wnv y] W fun e w' => e = .returned (.bool (ordB x y)) ∧ Calm W w') := hide rordered_any
  have AT : Hid (∀ j, j < k.wi.length → ∃ g off, wo = some ⟨g, off, none⟩ ∧ ∀ W, Calm w W →
    (W.cell? ⟨g, off + j * 9, none⟩ = some (.int .i64 (k.wi.getD j wn0).a) ∧ W.cell? ⟨g, off + j * 9 + 1, none⟩ = some (.int .i64 (k.wi.getD j wn0).b) ∧ W.cell? ⟨g, off + j * 9 + 2, none⟩ = some (.int .i64 (k.wi.getD j wn0).h)) ∧
    (W.cell? ⟨g, off + j * 9 + 3, none⟩ = some (.int .i64 (k.wi.getD j wn0).t.c) ∧ W.cell? ⟨g, off + j * 9 + 4, none⟩ = some (.int .i64 (k.wi.getD j wn0).t.s) ∧ W.cell? ⟨g, off + j * 9 + 5, none⟩ = some (.int .i64 (k.wi.getD j wn0).t.m) ∧ W.cell? ⟨g, off + j * 9 + 6, none⟩ = some (.int .i64 (k.wi.getD j wn0).t.x)) ∧
    W.cell? ⟨g, off + j * 9 + 7, none⟩ = some (.int .i64 (k.wi.getD j wn0).n) ∧ W.cell? ⟨g, off + j * 9 + 8, none⟩ = some (.int .i64 (k.wi.getD j wn0).p)) := hide fun j hj => by
    obtain ⟨g, off, e, -⟩ := wn_at hs.mem j hj
    refine ⟨g, off, e, fun W hW => ?_⟩
    obtain ⟨g', off', e', h⟩ := wn_at (Rc.Mem.calm hs.mem hW) j hj
    rw [e] at e'
    injection e' with e'
    injection e' with e1 e2
    subst e1 e2
    exact h
  clear hs
  have T0 := hide (((Touch.refl (fun _ => False) w).alloc (.cells (cfc c) 24)).alloc (.cells (ksc k wo cap) 40))
  have A0 := hide (al_old (al_new w (.cells (cfc c) 24)) (.cells (ksc k wo cap) 40))
  have A1 : Hid (((w.alloc (.cells (cfc c) 24)).alloc (.cells (ksc k wo cap) 40)).heap[w.heap.size + 1]? = some (.cells (ksc k wo cap) 40 (0, 0))) := hide (by
    have := al_new (w.alloc (.cells (cfc c) 24)) (.cells (ksc k wo cap) 40)
    rwa [al_size] at this)
  by_cases h1 : (k.ke.size : Int) ≤ 256
  · have h1d : decide (256 < (k.ke.size : Int)) = false := decide_eq_false (by omega)
    have h1n : decide (k.ke.size ≤ 256) = true := decide_eq_true (by omega)
    have C1 := hide (CI.out k.dr)
    cases hd : inB k.dr 0 9007199254740992 with
    | false =>
      have HF : Hid (keyB c k = false) := hide (by unfold keyB; rw [hd, h1n]; rfl)
      rw [hd] at C1
      clear CI CO AT h1 hd
      go_enter Tryd.func17, Tryd.ntmps17
      go_wp2_with fail
      refine (C1.out _).mono ?_
      rintro e w2 ⟨rfl, rfl⟩
      go_wp2_with fail
      go_ret
      exact ⟨by rw [HF.out]; rfl, T0.out⟩
    | true =>
      have HK : Hid (keyB c k = (List.range k.wi.length).all fun i => keyAt c k.wi i) := hide (by unfold keyB; rw [hd, h1n]; rfl)
      rw [hd] at C1
      generalize keyB c k = X at *
      clear h1 hd h1n
      go_enter Tryd.func17, Tryd.ntmps17
      go_wp2_with fail
      refine (C1.out _).mono ?_
      rintro e w2 ⟨rfl, rfl⟩
      clear C1
      go_wp2_with fail
      generalize hB : w.heap.size = B at *
      go_loopw [5] (fun s5 wr => ∃ i : Nat, s5 = .int .i64 (i : Int) ∧ i ≤ k.wi.length ∧ Hid (((List.range i).all fun i => keyAt c k.wi i) = true) ∧ wr.heap[B]? = some (.cells (cfc c) 24 (0, 0)) ∧ wr.heap[B + 1]? = some (.cells (ksc k wo cap) 40 (0, 0)) ∧ Calm w wr) (fun s5 _ => k.wi.length - (intOf s5).toNat)
      case atStart => exact ⟨0, rfl, by omega, hide rfl, A0.out, A1.out, T0.out⟩
      case round =>
        obtain ⟨i, rfl, hi, HA, AB, AK, TL⟩ := hrel
        clear A0 A1 T0
        obtain ⟨k0, k1, k2⟩ := ks_cells AK
        by_cases hlt : i < k.wi.length
        · have hltz : (i : Int) < (k.wi.length : Int) := by omega
          obtain ⟨g, off, rfl, hW⟩ := AT.out i hlt
          have HW := hide hW
          obtain ⟨⟨x0, x1, x2⟩, ⟨x3, x4, x5, x6⟩, x7, x8⟩ := hW wr TL
          have HWB : Hid (∀ x, k.wi.getD i wn0 = x → winB x = (!decide (x.b ≤ x.a) && (!decide (x.a < -4611687117939015680) && (!decide (4611687117939015680 < x.b) && (inB x.t.c 0 9007199254740992 && (inB x.n 0 9007199254740992 && inB x.p 0 9007199254740992)))))) := hide fun x _ => rfl
          generalize hx : k.wi.getD i wn0 = x at *
          have HX := hide hx
          have HWB := hide (HWB.out x rfl)
          have KA : Hid (keyAt c k.wi i = (winB x && ((i == 0 || ordB (k.wi.getD (i - 1) wn0) x) && (!(c.ki == 3) || (List.range i).all fun m => apartB (k.wi.getD m wn0) x)))) := hide (by unfold keyAt; rw [hx])
          clear hW hx
          have HTn := hide (TL.alloc (.cells (wnc x) 65))
          have HAn := hide (al_old AB (.cells (wnc x) 65))
          have HKn := hide (al_old AK (.cells (wnc x) 65))
          have HXn := hide (al_new wr (.cells (wnc x) 65))
          clear AB AK TL
          have C1 := hide (CI.out x.t.c)
          have C2 := hide (CI.out x.n)
          have C3 := hide (CI.out x.p)
          clear CI
          cases e1 : decide (x.b ≤ x.a) with
          | true =>
            have HF : Hid (X = false) := hide (by
              rw [HK.out]
              exact all_range_false hlt (by rw [KA.out, HWB.out]; simp [e1]))
            clear HK HA HWB KA AT CO HW HAn HKn HXn
            go_wp2_with fail
            go_ret
            exact ⟨by rw [HF.out]; rfl, HTn.out⟩
          | false =>
            cases e2 : decide (x.a < -4611687117939015680) with
            | true =>
              have HF : Hid (X = false) := hide (by
                rw [HK.out]
                exact all_range_false hlt (by rw [KA.out, HWB.out]; simp [e1, e2]))
              clear HK HA HWB KA AT CO HW HAn HKn HXn
              go_wp2_with fail
              go_ret
              exact ⟨by rw [HF.out]; rfl, HTn.out⟩
            | false =>
              cases e3 : decide (4611687117939015680 < x.b) with
              | true =>
                have HF : Hid (X = false) := hide (by
                  rw [HK.out]
                  exact all_range_false hlt (by rw [KA.out, HWB.out]; simp [e1, e2, e3]))
                clear HK HA HWB KA AT CO HW HAn HKn HXn
                go_wp2_with fail
                go_ret
                exact ⟨by rw [HF.out]; rfl, HTn.out⟩
              | false =>
                cases e4 : inB x.t.c 0 9007199254740992 with
                | false =>
                  rw [e4] at C1
                  have HF : Hid (X = false) := hide (by
                    rw [HK.out]
                    exact all_range_false hlt (by rw [KA.out, HWB.out]; simp [e1, e2, e3, e4]))
                  clear HK HA HWB KA AT CO HW HAn HKn HXn
                  go_wp2_with fail
                  refine (C1.out _).mono ?_
                  rintro e w2 ⟨rfl, rfl⟩
                  go_wp2_with fail
                  go_ret
                  exact ⟨by rw [HF.out]; rfl, HTn.out⟩
                | true =>
                  rw [e4] at C1
                  cases e5 : inB x.n 0 9007199254740992 with
                  | false =>
                    rw [e5] at C2
                    have HF : Hid (X = false) := hide (by
                      rw [HK.out]
                      exact all_range_false hlt (by rw [KA.out, HWB.out]; simp [e1, e2, e3, e4, e5]))
                    clear HK HA HWB KA AT CO HW HAn HKn HXn
                    go_wp2_with fail
                    refine (C1.out _).mono ?_
                    rintro e w2 ⟨rfl, rfl⟩
                    go_wp2_with fail
                    refine (C2.out _).mono ?_
                    rintro e w2 ⟨rfl, rfl⟩
                    go_wp2_with fail
                    go_ret
                    exact ⟨by rw [HF.out]; rfl, HTn.out⟩
                  | true =>
                    rw [e5] at C2
                    cases e6 : inB x.p 0 9007199254740992 with
                    | false =>
                      rw [e6] at C3
                      have HF : Hid (X = false) := hide (by
                        rw [HK.out]
                        exact all_range_false hlt (by rw [KA.out, HWB.out]; simp [e1, e2, e3, e4, e5, e6]))
                      clear HK HA HWB KA AT CO HW HAn HKn HXn
                      go_wp2_with fail
                      refine (C1.out _).mono ?_
                      rintro e w2 ⟨rfl, rfl⟩
                      go_wp2_with fail
                      refine (C2.out _).mono ?_
                      rintro e w2 ⟨rfl, rfl⟩
                      go_wp2_with fail
                      refine (C3.out _).mono ?_
                      rintro e w2 ⟨rfl, rfl⟩
                      go_wp2_with fail
                      go_ret
                      exact ⟨by rw [HF.out]; rfl, HTn.out⟩
                    | true =>
                      rw [e6] at C3
                      have WT : winB x = true := by rw [HWB.out, e1, e2, e3, e4, e5, e6]; rfl
                      have KB : Hid (keyAt c k.wi i = ((i == 0 || ordB (k.wi.getD (i - 1) wn0) x) && (!(c.ki == 3) || (List.range i).all fun m => apartB (k.wi.getD m wn0) x))) := hide (by rw [KA.out, WT, Bool.true_and])
                      have Hlt := hide hlt
                      clear KA HWB WT
                      go_wp2_with fail
                      refine (C1.out _).mono ?_
                      rintro e w2 ⟨rfl, rfl⟩
                      go_wp2_with fail
                      refine (C2.out _).mono ?_
                      rintro e w2 ⟨rfl, rfl⟩
                      go_wp2_with fail
                      refine (C3.out _).mono ?_
                      rintro e w2 ⟨rfl, rfl⟩
                      clear x0 x1 x2 x3 x4 x5 x6 x7 x8 C1 C2 C3 e1 e2 e3 e4 e5 e6 k0 k1 k2
                      go_wp2_with fail
                      generalize wr.alloc (.cells (wnc x) 65) = w1 at *
                      generalize wr.heap.size = D at *
                      have KX : Hid (∀ W, Calm w1 W → W.cell? ⟨B + 1, 2, none⟩ = some (.slice (some ⟨g, off, none⟩) k.wi.length cap)) := hide fun W hW => (ks_cells (hW.at HKn.out)).2.2
                      have N1 : Hid (keyAt c k.wi i = false → false = X) := hide fun h => by rw [HK.out, all_range_false Hlt.out h]
                      have Y0 : Hid (keyAt c k.wi i = true → ((List.range (i + 1)).all fun i => keyAt c k.wi i) = true) := hide fun h => by rw [all_range_succ, HA.out, h]; rfl
                      have NI := hide fun h => HK.out.trans (all_range_false (f := fun i => keyAt c k.wi i) Hlt.out h)
                      have HKm := hide HKn.out
                      clear HKn HA
                      refine wp_region_held (S := Calm w1) (by kernel_rfl) ?_
                      have hT0 : Calm w1 { w1 with drawn := w1.drawn + 1 } := (Touch.refl (fun _ => False) w1).drew
                      obtain ⟨pd, hpd⟩ : ∃ y, y = k.wi.getD (i - 1) wn0 := ⟨_, rfl⟩
                      rw [← hpd] at KB
                      have CO2 := hide (CO.out pd x)
                      clear CO
                      by_cases hi0 : i = 0
                      · have hi0d : decide (0 < (i : Int)) = false := decide_eq_false (by omega)
                        have hi0z : (i : Int) = 0 := by omega
                        have KC : Hid (keyAt c k.wi i = (!(c.ki == 3) || (List.range i).all fun m => apartB (k.wi.getD m wn0) x)) := hide (by rw [KB.out, hi0]; rfl)
                        have Hi0 := hide hi0
                        clear KB hpd hi0
                        refine wpAnyH_yield 0 68 (.int .i64 (i : Int)) rfl rfl (by kernel_rfl) (by kernel_rfl) (by kernel_rfl) (fun _ _ _ h => h) (by kernel_rfl) (fun W hW => by kernel_rfl) (by assumption) rfl rfl ?_
                        simp only [Act.put, List.setIfInBounds_toArray, List.set_cons_zero, List.set_cons_succ]
                        refine wpAnyH_yield 1 69 (.bool false) rfl rfl (by kernel_rfl) (by kernel_rfl) (by kernel_rfl) (fun _ _ _ h => h) (by kernel_rfl) (fun W hW => by clear hi0z hi0d; go_simp; exact Hi0.out) (by assumption) rfl rfl ?_
                        simp only [Act.put, List.setIfInBounds_toArray, List.set_cons_zero, List.set_cons_succ]
                        refine wpAnyH_yield 2 70 (.bool false) rfl rfl (by kernel_rfl) (by kernel_rfl) (by kernel_rfl) (fun _ _ _ h => h) (by kernel_rfl) (fun W hW => by kernel_rfl) (by assumption) rfl rfl ?_
                        simp only [Act.put, List.setIfInBounds_toArray, List.set_cons_zero, List.set_cons_succ]
                        refine wpAnyH_skip 3 71 rfl rfl (by kernel_rfl) (by kernel_rfl) (by kernel_rfl) (fun _ _ _ h => h) (by kernel_rfl) (by assumption) rfl rfl ?_
                        simp only [Act.put, List.setIfInBounds_toArray, List.set_cons_zero, List.set_cons_succ]
                        refine wpAnyH_skip 4 72 rfl rfl (by kernel_rfl) (by kernel_rfl) (by kernel_rfl) (fun _ _ _ h => h) (by kernel_rfl) (by assumption) rfl rfl ?_
                        simp only [Act.put, List.setIfInBounds_toArray, List.set_cons_zero, List.set_cons_succ]
                        refine wpAnyH_skip 5 73 rfl rfl (by kernel_rfl) (by kernel_rfl) (by kernel_rfl) (fun _ _ _ h => h) (by kernel_rfl) (by assumption) rfl rfl ?_
                        simp only [Act.put, List.setIfInBounds_toArray, List.set_cons_zero, List.set_cons_succ]
                        refine wpAnyH_skip 6 74 rfl rfl (by kernel_rfl) (by kernel_rfl) (by kernel_rfl) (fun _ _ _ h => h) (by kernel_rfl) (by assumption) rfl rfl ?_
                        simp only [Act.put, List.setIfInBounds_toArray, List.set_cons_zero, List.set_cons_succ]
                        refine wpAnyH_skip 7 75 rfl rfl (by kernel_rfl) (by kernel_rfl) (by kernel_rfl) (fun _ _ _ h => h) (by kernel_rfl) (by assumption) rfl rfl ?_
                        simp only [Act.put, List.setIfInBounds_toArray, List.set_cons_zero, List.set_cons_succ]
                        refine wpAnyH_skip 8 76 rfl rfl (by kernel_rfl) (by kernel_rfl) (by kernel_rfl) (fun _ _ _ h => h) (by kernel_rfl) (by assumption) rfl rfl ?_
                        simp only [Act.put, List.setIfInBounds_toArray, List.set_cons_zero, List.set_cons_succ]
                        refine wpAnyH_skip 9 77 rfl rfl (by kernel_rfl) (by kernel_rfl) (by kernel_rfl) (fun _ _ _ h => h) (by kernel_rfl) (by assumption) rfl rfl ?_
                        simp only [Act.put, List.setIfInBounds_toArray, List.set_cons_zero, List.set_cons_succ]
                        refine wpAnyH_skip 10 78 rfl rfl (by kernel_rfl) (by kernel_rfl) (by kernel_rfl) (fun _ _ _ h => h) (by kernel_rfl) (by assumption) rfl rfl ?_
                        simp only [Act.put, List.setIfInBounds_toArray, List.set_cons_zero, List.set_cons_succ]
                        refine wpAnyH_skip 11 79 rfl rfl (by kernel_rfl) (by kernel_rfl) (by kernel_rfl) (fun _ _ _ h => h) (by kernel_rfl) (by assumption) rfl rfl ?_
                        simp only [Act.put, List.setIfInBounds_toArray, List.set_cons_zero, List.set_cons_succ]
                        refine wpAnyH_yield 12 80 (.bool false) rfl rfl (by kernel_rfl) (by kernel_rfl) (by kernel_rfl) (fun _ _ _ h => h) (by kernel_rfl) (fun W hW => by kernel_rfl) (by assumption) rfl rfl ?_
                        simp only [Act.put, List.setIfInBounds_toArray, List.set_cons_zero, List.set_cons_succ]
                        refine wpAnyH_done (by kernel_rfl) ?_ _
                        have H5 := hide hT0
                        clear hT0 hi0d hi0z CO2
                        generalize hw5 : ({ w1 with drawn := w1.drawn + 1 } : World) = w5 at *
                        clear hw5
                        have Y1 : Hid ((!(c.ki == 3) || (List.range i).all fun m => apartB (k.wi.getD m wn0) x) = true → ((List.range (i + 1)).all fun i => keyAt c k.wi i) = true) := hide fun h => Y0.out (by rw [KC.out, h])
                        have N2 : Hid (∀ m, m < i → c.ki = 3 → apartB (k.wi.getD m wn0) x = false → false = X) := hide fun m hm h3 h => N1.out (by rw [KC.out, all_range_false (f := fun m => apartB (k.wi.getD m wn0) x) hm h, h3]; rfl)
                        clear N1 NI Y0 KC HW HK
                        go_wp2_with fail
                        go_loopw [7] (fun j wz => ∃ m : Nat, j = .int .i64 (m : Int) ∧ m ≤ i ∧ Hid (((List.range m).all fun m => apartB (k.wi.getD m wn0) x) = true) ∧ Calm w1 wz) (fun j _ => i - (intOf j).toNat)
                        case atStart => exact ⟨0, rfl, Nat.zero_le _, hide rfl, H5.out⟩
                        case round =>
                          obtain ⟨m, rfl, hm, hall, T0⟩ := hrel
                          have KY : Hid (∀ W, Calm w1 W → W.cell? ⟨B + 1, 2, none⟩ = some (.slice (some ⟨g, off, none⟩) k.wi.length cap) ∧ (W.cell? ⟨D, 0, none⟩ = some (.int .i64 x.a) ∧ W.cell? ⟨D, 1, none⟩ = some (.int .i64 x.b))) := hide fun W hW => ⟨KX.out W hW, (wn_cells (hW.at HXn.out)).1.1, (wn_cells (hW.at HXn.out)).1.2.1⟩
                          obtain ⟨⟨-, -, kk, -⟩, -⟩ := cf_cells (T0.at HAn.out)
                          have H2 := hide T0
                          clear T0
                          by_cases hlm : m < i
                          · have hmi : (m : Int) < (i : Int) := by omega
                            have hmn : (m : Int) < (k.wi.length : Int) := by omega
                            by_cases hk3 : c.ki = 3
                            · have KM : Hid (∀ W, Calm w W → W.cell? ⟨g, off + m * 9, none⟩ = some (.int .i64 (k.wi.getD m wn0).a) ∧ W.cell? ⟨g, off + m * 9 + 1, none⟩ = some (.int .i64 (k.wi.getD m wn0).b)) := hide fun W hW => by
                                obtain ⟨g', off', e, h⟩ := AT.out m (by omega)
                                injection e with e
                                injection e with e1 e2
                                subst e1 e2
                                exact ⟨(h W hW).1.1, (h W hW).1.2.1⟩
                              have M1 := hide (N2.out m hlm hk3)
                              have M2 : Hid (apartB (k.wi.getD m wn0) x = true → ((List.range (m + 1)).all fun m => apartB (k.wi.getD m wn0) x) = true) := hide fun h => by rw [all_range_succ, hall.out, h]; rfl
                              generalize k.wi.getD m wn0 = y at *
                              have AE : apartB y x = !(decide (y.a < x.b) && decide (x.a < y.b)) := rfl
                              rw [AE] at M1 M2
                              clear AE hall N2
                              have kk3 : (c.ki == 3) = true := beq_iff_eq.2 hk3
                              cases d1 : decide (y.a < x.b) with
                              | false =>
                                have M3 := hide (M2.out (by rw [d1]; rfl))
                                clear M1 M2
                                go_wp2_with fail
                                refine wp_region_held (S := Calm w1) (by kernel_rfl) ?_
                                have hT0 : Calm w1 { wr with drawn := wr.drawn + 1 } := H2.out.drew
                                refine wpAnyH_yield 0 91 (.pointer (some ⟨B + 1, 2, none⟩)) rfl rfl (by kernel_rfl) (by kernel_rfl) (by kernel_rfl) (fun _ _ _ h => h) (by kernel_rfl) (fun W hW => by go_simp) (by assumption) rfl rfl ?_
                                simp only [Act.put, List.setIfInBounds_toArray, List.set_cons_zero, List.set_cons_succ]
                                refine wpAnyH_yield 1 92 (.slice (some ⟨g, off, none⟩) k.wi.length cap) rfl rfl (by kernel_rfl) (by kernel_rfl) (by kernel_rfl) (fun _ _ _ h => h) (by kernel_rfl) (fun W hW => by obtain ⟨q, -⟩ := KY.out W hW; go_simp) (by assumption) rfl rfl ?_
                                simp only [Act.put, List.setIfInBounds_toArray, List.set_cons_zero, List.set_cons_succ]
                                refine wpAnyH_yield 2 93 (.int .i64 (m : Int)) rfl rfl (by kernel_rfl) (by kernel_rfl) (by kernel_rfl) (fun _ _ _ h => h) (by kernel_rfl) (fun W hW => by kernel_rfl) (by assumption) rfl rfl ?_
                                simp only [Act.put, List.setIfInBounds_toArray, List.set_cons_zero, List.set_cons_succ]
                                refine wpAnyH_yield 3 94 (.pointer (some ⟨g, off + m * 9, none⟩)) rfl rfl (by kernel_rfl) (by kernel_rfl) (by kernel_rfl) (fun _ _ _ h => h) (by kernel_rfl) (fun W hW => by go_simp) (by assumption) rfl rfl ?_
                                simp only [Act.put, List.setIfInBounds_toArray, List.set_cons_zero, List.set_cons_succ]
                                refine wpAnyH_yield 4 95 (.pointer (some ⟨g, off + m * 9, none⟩)) rfl rfl (by kernel_rfl) (by kernel_rfl) (by kernel_rfl) (fun _ _ _ h => h) (by kernel_rfl) (fun W hW => by go_simp) (by assumption) rfl rfl ?_
                                simp only [Act.put, List.setIfInBounds_toArray, List.set_cons_zero, List.set_cons_succ]
                                refine wpAnyH_yield 5 96 (.pointer (some ⟨g, off + m * 9, none⟩)) rfl rfl (by kernel_rfl) (by kernel_rfl) (by kernel_rfl) (fun _ _ _ h => h) (by kernel_rfl) (fun W hW => by go_simp) (by assumption) rfl rfl ?_
                                simp only [Act.put, List.setIfInBounds_toArray, List.set_cons_zero, List.set_cons_succ]
                                refine wpAnyH_yield 6 97 (.int .i64 y.a) rfl rfl (by kernel_rfl) (by kernel_rfl) (by kernel_rfl) (fun _ _ _ h => h) (by kernel_rfl) (fun W hW => by obtain ⟨c0, c1⟩ := KM.out W (HTn.out.tr hW); go_simp) (by assumption) rfl rfl ?_
                                simp only [Act.put, List.setIfInBounds_toArray, List.set_cons_zero, List.set_cons_succ]
                                refine wpAnyH_yield 7 98 (.pointer (some ⟨D, 0, none⟩)) rfl rfl (by kernel_rfl) (by kernel_rfl) (by kernel_rfl) (fun _ _ _ h => h) (by kernel_rfl) (fun W hW => by go_simp) (by assumption) rfl rfl ?_
                                simp only [Act.put, List.setIfInBounds_toArray, List.set_cons_zero, List.set_cons_succ]
                                refine wpAnyH_yield 8 99 (.pointer (some ⟨D, 1, none⟩)) rfl rfl (by kernel_rfl) (by kernel_rfl) (by kernel_rfl) (fun _ _ _ h => h) (by kernel_rfl) (fun W hW => by go_simp) (by assumption) rfl rfl ?_
                                simp only [Act.put, List.setIfInBounds_toArray, List.set_cons_zero, List.set_cons_succ]
                                refine wpAnyH_yield 9 100 (.int .i64 x.b) rfl rfl (by kernel_rfl) (by kernel_rfl) (by kernel_rfl) (fun _ _ _ h => h) (by kernel_rfl) (fun W hW => by obtain ⟨-, c0, c1⟩ := KY.out W hW; go_simp) (by assumption) rfl rfl ?_
                                simp only [Act.put, List.setIfInBounds_toArray, List.set_cons_zero, List.set_cons_succ]
                                refine wpAnyH_yield 10 101 (.bool false) rfl rfl (by kernel_rfl) (by kernel_rfl) (by kernel_rfl) (fun _ _ _ h => h) (by kernel_rfl) (fun W hW => by go_simp) (by assumption) rfl rfl ?_
                                simp only [Act.put, List.setIfInBounds_toArray, List.set_cons_zero, List.set_cons_succ]
                                refine wpAnyH_yield 11 102 (.bool false) rfl rfl (by kernel_rfl) (by kernel_rfl) (by kernel_rfl) (fun _ _ _ h => h) (by kernel_rfl) (fun W hW => by kernel_rfl) (by assumption) rfl rfl ?_
                                simp only [Act.put, List.setIfInBounds_toArray, List.set_cons_zero, List.set_cons_succ]
                                refine wpAnyH_skip 12 103 rfl rfl (by kernel_rfl) (by kernel_rfl) (by kernel_rfl) (fun _ _ _ h => h) (by kernel_rfl) (by assumption) rfl rfl ?_
                                simp only [Act.put, List.setIfInBounds_toArray, List.set_cons_zero, List.set_cons_succ]
                                refine wpAnyH_skip 13 104 rfl rfl (by kernel_rfl) (by kernel_rfl) (by kernel_rfl) (fun _ _ _ h => h) (by kernel_rfl) (by assumption) rfl rfl ?_
                                simp only [Act.put, List.setIfInBounds_toArray, List.set_cons_zero, List.set_cons_succ]
                                refine wpAnyH_skip 14 105 rfl rfl (by kernel_rfl) (by kernel_rfl) (by kernel_rfl) (fun _ _ _ h => h) (by kernel_rfl) (by assumption) rfl rfl ?_
                                simp only [Act.put, List.setIfInBounds_toArray, List.set_cons_zero, List.set_cons_succ]
                                refine wpAnyH_skip 15 106 rfl rfl (by kernel_rfl) (by kernel_rfl) (by kernel_rfl) (fun _ _ _ h => h) (by kernel_rfl) (by assumption) rfl rfl ?_
                                simp only [Act.put, List.setIfInBounds_toArray, List.set_cons_zero, List.set_cons_succ]
                                refine wpAnyH_skip 16 107 rfl rfl (by kernel_rfl) (by kernel_rfl) (by kernel_rfl) (fun _ _ _ h => h) (by kernel_rfl) (by assumption) rfl rfl ?_
                                simp only [Act.put, List.setIfInBounds_toArray, List.set_cons_zero, List.set_cons_succ]
                                refine wpAnyH_skip 17 108 rfl rfl (by kernel_rfl) (by kernel_rfl) (by kernel_rfl) (fun _ _ _ h => h) (by kernel_rfl) (by assumption) rfl rfl ?_
                                simp only [Act.put, List.setIfInBounds_toArray, List.set_cons_zero, List.set_cons_succ]
                                refine wpAnyH_skip 18 109 rfl rfl (by kernel_rfl) (by kernel_rfl) (by kernel_rfl) (fun _ _ _ h => h) (by kernel_rfl) (by assumption) rfl rfl ?_
                                simp only [Act.put, List.setIfInBounds_toArray, List.set_cons_zero, List.set_cons_succ]
                                refine wpAnyH_skip 19 110 rfl rfl (by kernel_rfl) (by kernel_rfl) (by kernel_rfl) (fun _ _ _ h => h) (by kernel_rfl) (by assumption) rfl rfl ?_
                                simp only [Act.put, List.setIfInBounds_toArray, List.set_cons_zero, List.set_cons_succ]
                                refine wpAnyH_skip 20 111 rfl rfl (by kernel_rfl) (by kernel_rfl) (by kernel_rfl) (fun _ _ _ h => h) (by kernel_rfl) (by assumption) rfl rfl ?_
                                simp only [Act.put, List.setIfInBounds_toArray, List.set_cons_zero, List.set_cons_succ]
                                refine wpAnyH_skip 21 112 rfl rfl (by kernel_rfl) (by kernel_rfl) (by kernel_rfl) (fun _ _ _ h => h) (by kernel_rfl) (by assumption) rfl rfl ?_
                                simp only [Act.put, List.setIfInBounds_toArray, List.set_cons_zero, List.set_cons_succ]
                                refine wpAnyH_skip 22 113 rfl rfl (by kernel_rfl) (by kernel_rfl) (by kernel_rfl) (fun _ _ _ h => h) (by kernel_rfl) (by assumption) rfl rfl ?_
                                simp only [Act.put, List.setIfInBounds_toArray, List.set_cons_zero, List.set_cons_succ]
                                refine wpAnyH_yield 23 114 (.bool false) rfl rfl (by kernel_rfl) (by kernel_rfl) (by kernel_rfl) (fun _ _ _ h => h) (by kernel_rfl) (fun W hW => by kernel_rfl) (by assumption) rfl rfl ?_
                                simp only [Act.put, List.setIfInBounds_toArray, List.set_cons_zero, List.set_cons_succ]
                                refine wpAnyH_done (by kernel_rfl) ?_ _
                                have H4 := hide hT0
                                clear hT0 d1
                                go_wp2_with fail
                                go_roundw
                                case rel => exact ⟨m + 1, by go_num, by omega, M3, H4.out⟩
                                case measure => simp [intOf]; omega
                              | true =>
                                generalize d2 : decide (x.a < y.b) = bb at *
                                go_wp2_with fail
                                refine wp_region_held (S := Calm w1) (by kernel_rfl) ?_
                                have hT0 : Calm w1 { wr with drawn := wr.drawn + 1 } := H2.out.drew
                                refine wpAnyH_yield 0 91 (.pointer (some ⟨B + 1, 2, none⟩)) rfl rfl (by kernel_rfl) (by kernel_rfl) (by kernel_rfl) (fun _ _ _ h => h) (by kernel_rfl) (fun W hW => by go_simp) (by assumption) rfl rfl ?_
                                simp only [Act.put, List.setIfInBounds_toArray, List.set_cons_zero, List.set_cons_succ]
                                refine wpAnyH_yield 1 92 (.slice (some ⟨g, off, none⟩) k.wi.length cap) rfl rfl (by kernel_rfl) (by kernel_rfl) (by kernel_rfl) (fun _ _ _ h => h) (by kernel_rfl) (fun W hW => by obtain ⟨q, -⟩ := KY.out W hW; go_simp) (by assumption) rfl rfl ?_
                                simp only [Act.put, List.setIfInBounds_toArray, List.set_cons_zero, List.set_cons_succ]
                                refine wpAnyH_yield 2 93 (.int .i64 (m : Int)) rfl rfl (by kernel_rfl) (by kernel_rfl) (by kernel_rfl) (fun _ _ _ h => h) (by kernel_rfl) (fun W hW => by kernel_rfl) (by assumption) rfl rfl ?_
                                simp only [Act.put, List.setIfInBounds_toArray, List.set_cons_zero, List.set_cons_succ]
                                refine wpAnyH_yield 3 94 (.pointer (some ⟨g, off + m * 9, none⟩)) rfl rfl (by kernel_rfl) (by kernel_rfl) (by kernel_rfl) (fun _ _ _ h => h) (by kernel_rfl) (fun W hW => by go_simp) (by assumption) rfl rfl ?_
                                simp only [Act.put, List.setIfInBounds_toArray, List.set_cons_zero, List.set_cons_succ]
                                refine wpAnyH_yield 4 95 (.pointer (some ⟨g, off + m * 9, none⟩)) rfl rfl (by kernel_rfl) (by kernel_rfl) (by kernel_rfl) (fun _ _ _ h => h) (by kernel_rfl) (fun W hW => by go_simp) (by assumption) rfl rfl ?_
                                simp only [Act.put, List.setIfInBounds_toArray, List.set_cons_zero, List.set_cons_succ]
                                refine wpAnyH_yield 5 96 (.pointer (some ⟨g, off + m * 9, none⟩)) rfl rfl (by kernel_rfl) (by kernel_rfl) (by kernel_rfl) (fun _ _ _ h => h) (by kernel_rfl) (fun W hW => by go_simp) (by assumption) rfl rfl ?_
                                simp only [Act.put, List.setIfInBounds_toArray, List.set_cons_zero, List.set_cons_succ]
                                refine wpAnyH_yield 6 97 (.int .i64 y.a) rfl rfl (by kernel_rfl) (by kernel_rfl) (by kernel_rfl) (fun _ _ _ h => h) (by kernel_rfl) (fun W hW => by obtain ⟨c0, c1⟩ := KM.out W (HTn.out.tr hW); go_simp) (by assumption) rfl rfl ?_
                                simp only [Act.put, List.setIfInBounds_toArray, List.set_cons_zero, List.set_cons_succ]
                                refine wpAnyH_yield 7 98 (.pointer (some ⟨D, 0, none⟩)) rfl rfl (by kernel_rfl) (by kernel_rfl) (by kernel_rfl) (fun _ _ _ h => h) (by kernel_rfl) (fun W hW => by go_simp) (by assumption) rfl rfl ?_
                                simp only [Act.put, List.setIfInBounds_toArray, List.set_cons_zero, List.set_cons_succ]
                                refine wpAnyH_yield 8 99 (.pointer (some ⟨D, 1, none⟩)) rfl rfl (by kernel_rfl) (by kernel_rfl) (by kernel_rfl) (fun _ _ _ h => h) (by kernel_rfl) (fun W hW => by go_simp) (by assumption) rfl rfl ?_
                                simp only [Act.put, List.setIfInBounds_toArray, List.set_cons_zero, List.set_cons_succ]
                                refine wpAnyH_yield 9 100 (.int .i64 x.b) rfl rfl (by kernel_rfl) (by kernel_rfl) (by kernel_rfl) (fun _ _ _ h => h) (by kernel_rfl) (fun W hW => by obtain ⟨-, c0, c1⟩ := KY.out W hW; go_simp) (by assumption) rfl rfl ?_
                                simp only [Act.put, List.setIfInBounds_toArray, List.set_cons_zero, List.set_cons_succ]
                                refine wpAnyH_yield 10 101 (.bool true) rfl rfl (by kernel_rfl) (by kernel_rfl) (by kernel_rfl) (fun _ _ _ h => h) (by kernel_rfl) (fun W hW => by go_simp) (by assumption) rfl rfl ?_
                                simp only [Act.put, List.setIfInBounds_toArray, List.set_cons_zero, List.set_cons_succ]
                                refine wpAnyH_yield 11 102 (.bool true) rfl rfl (by kernel_rfl) (by kernel_rfl) (by kernel_rfl) (fun _ _ _ h => h) (by kernel_rfl) (fun W hW => by kernel_rfl) (by assumption) rfl rfl ?_
                                simp only [Act.put, List.setIfInBounds_toArray, List.set_cons_zero, List.set_cons_succ]
                                refine wpAnyH_yield 12 103 (.pointer (some ⟨D, 0, none⟩)) rfl rfl (by kernel_rfl) (by kernel_rfl) (by kernel_rfl) (fun _ _ _ h => h) (by kernel_rfl) (fun W hW => by go_simp) (by assumption) rfl rfl ?_
                                simp only [Act.put, List.setIfInBounds_toArray, List.set_cons_zero, List.set_cons_succ]
                                refine wpAnyH_yield 13 104 (.pointer (some ⟨D, 0, none⟩)) rfl rfl (by kernel_rfl) (by kernel_rfl) (by kernel_rfl) (fun _ _ _ h => h) (by kernel_rfl) (fun W hW => by go_simp) (by assumption) rfl rfl ?_
                                simp only [Act.put, List.setIfInBounds_toArray, List.set_cons_zero, List.set_cons_succ]
                                refine wpAnyH_yield 14 105 (.int .i64 x.a) rfl rfl (by kernel_rfl) (by kernel_rfl) (by kernel_rfl) (fun _ _ _ h => h) (by kernel_rfl) (fun W hW => by obtain ⟨-, c0, c1⟩ := KY.out W hW; go_simp) (by assumption) rfl rfl ?_
                                simp only [Act.put, List.setIfInBounds_toArray, List.set_cons_zero, List.set_cons_succ]
                                refine wpAnyH_yield 15 106 (.pointer (some ⟨B + 1, 2, none⟩)) rfl rfl (by kernel_rfl) (by kernel_rfl) (by kernel_rfl) (fun _ _ _ h => h) (by kernel_rfl) (fun W hW => by go_simp) (by assumption) rfl rfl ?_
                                simp only [Act.put, List.setIfInBounds_toArray, List.set_cons_zero, List.set_cons_succ]
                                refine wpAnyH_yield 16 107 (.slice (some ⟨g, off, none⟩) k.wi.length cap) rfl rfl (by kernel_rfl) (by kernel_rfl) (by kernel_rfl) (fun _ _ _ h => h) (by kernel_rfl) (fun W hW => by obtain ⟨q, -⟩ := KY.out W hW; go_simp) (by assumption) rfl rfl ?_
                                simp only [Act.put, List.setIfInBounds_toArray, List.set_cons_zero, List.set_cons_succ]
                                refine wpAnyH_yield 17 108 (.int .i64 (m : Int)) rfl rfl (by kernel_rfl) (by kernel_rfl) (by kernel_rfl) (fun _ _ _ h => h) (by kernel_rfl) (fun W hW => by kernel_rfl) (by assumption) rfl rfl ?_
                                simp only [Act.put, List.setIfInBounds_toArray, List.set_cons_zero, List.set_cons_succ]
                                refine wpAnyH_yield 18 109 (.pointer (some ⟨g, off + m * 9, none⟩)) rfl rfl (by kernel_rfl) (by kernel_rfl) (by kernel_rfl) (fun _ _ _ h => h) (by kernel_rfl) (fun W hW => by go_simp) (by assumption) rfl rfl ?_
                                simp only [Act.put, List.setIfInBounds_toArray, List.set_cons_zero, List.set_cons_succ]
                                refine wpAnyH_yield 19 110 (.pointer (some ⟨g, off + m * 9, none⟩)) rfl rfl (by kernel_rfl) (by kernel_rfl) (by kernel_rfl) (fun _ _ _ h => h) (by kernel_rfl) (fun W hW => by go_simp) (by assumption) rfl rfl ?_
                                simp only [Act.put, List.setIfInBounds_toArray, List.set_cons_zero, List.set_cons_succ]
                                refine wpAnyH_yield 20 111 (.pointer (some ⟨g, off + m * 9 + 1, none⟩)) rfl rfl (by kernel_rfl) (by kernel_rfl) (by kernel_rfl) (fun _ _ _ h => h) (by kernel_rfl) (fun W hW => by go_simp) (by assumption) rfl rfl ?_
                                simp only [Act.put, List.setIfInBounds_toArray, List.set_cons_zero, List.set_cons_succ]
                                refine wpAnyH_yield 21 112 (.int .i64 y.b) rfl rfl (by kernel_rfl) (by kernel_rfl) (by kernel_rfl) (fun _ _ _ h => h) (by kernel_rfl) (fun W hW => by obtain ⟨c0, c1⟩ := KM.out W (HTn.out.tr hW); go_simp) (by assumption) rfl rfl ?_
                                simp only [Act.put, List.setIfInBounds_toArray, List.set_cons_zero, List.set_cons_succ]
                                refine wpAnyH_yield 22 113 (.bool bb) rfl rfl (by kernel_rfl) (by kernel_rfl) (by kernel_rfl) (fun _ _ _ h => h) (by kernel_rfl) (fun W hW => by go_simp) (by assumption) rfl rfl ?_
                                simp only [Act.put, List.setIfInBounds_toArray, List.set_cons_zero, List.set_cons_succ]
                                refine wpAnyH_yield 23 114 (.bool bb) rfl rfl (by kernel_rfl) (by kernel_rfl) (by kernel_rfl) (fun _ _ _ h => h) (by kernel_rfl) (fun W hW => by kernel_rfl) (by assumption) rfl rfl ?_
                                simp only [Act.put, List.setIfInBounds_toArray, List.set_cons_zero, List.set_cons_succ]
                                refine wpAnyH_done (by kernel_rfl) ?_ _
                                have H4 := hide hT0
                                clear hT0
                                cases bb with
                                | true =>
                                  have M4 := hide (M1.out (by rw [d1]; rfl))
                                  clear M1 M2 d1 d2
                                  go_wp2_with fail
                                  go_ret
                                  exact ⟨by rw [← M4.out]; rfl, HTn.out.tr H4.out⟩
                                | false =>
                                  have M4 := hide (M2.out (by rw [d1]; rfl))
                                  clear M1 M2 d1 d2
                                  go_wp2_with fail
                                  go_roundw
                                  case rel => exact ⟨m + 1, by go_num, by omega, M4, H4.out⟩
                                  case measure => simp [intOf]; omega
                            · have kk3 : (c.ki == 3) = false := beq_false_of_ne hk3
                              have Y2 := hide (Y1.out (by rw [kk3]; rfl))
                              have A2 := hide (H2.out.at HAn.out)
                              have K2 := hide (H2.out.at HKm.out)
                              clear Y1 N2 hall
                              go_wp2_with fail
                              go_roundw
                              case rel => exact ⟨i + 1, by go_num, by omega, Y2, A2.out, K2.out, HTn.out.tr H2.out⟩
                              case measure => simp [intOf]; omega
                          · obtain rfl : m = i := by omega
                            have Y2 := hide (Y1.out (by rw [hall.out, Bool.or_true]))
                            have A2 := hide (H2.out.at HAn.out)
                            have K2 := hide (H2.out.at HKm.out)
                            clear Y1 N2 hall
                            go_wp2_with fail
                            go_roundw
                            case rel => exact ⟨m + 1, by go_num, by omega, Y2, A2.out, K2.out, HTn.out.tr H2.out⟩
                            case measure => simp [intOf]; omega
                      · obtain ⟨q, hq⟩ : ∃ q, q = i - 1 := ⟨_, rfl⟩
                        have hi0d : decide (0 < (i : Int)) = true := decide_eq_true (by omega)
                        have hq1 : IntKind.i64.wrap ((i : Int) - 1) = (q : Int) := by rw [IntKind.wrap_i64]; omega
                        have hqn : (q : Int) < (k.wi.length : Int) := by omega
                        rw [← hq] at hpd
                        have KB2 : Hid (keyAt c k.wi i = (ordB pd x && (!(c.ki == 3) || (List.range i).all fun m => apartB (k.wi.getD m wn0) x))) := hide (by rw [KB.out, beq_false_of_ne hi0]; rfl)
                        have KP : Hid (∀ W, Calm w W → (W.cell? ⟨g, off + q * 9, none⟩ = some (.int .i64 pd.a) ∧ W.cell? ⟨g, off + q * 9 + 1, none⟩ = some (.int .i64 pd.b) ∧ W.cell? ⟨g, off + q * 9 + 2, none⟩ = some (.int .i64 pd.h)) ∧
                          (W.cell? ⟨g, off + q * 9 + 3, none⟩ = some (.int .i64 pd.t.c) ∧ W.cell? ⟨g, off + q * 9 + 4, none⟩ = some (.int .i64 pd.t.s) ∧ W.cell? ⟨g, off + q * 9 + 5, none⟩ = some (.int .i64 pd.t.m) ∧ W.cell? ⟨g, off + q * 9 + 6, none⟩ = some (.int .i64 pd.t.x)) ∧
                          W.cell? ⟨g, off + q * 9 + 7, none⟩ = some (.int .i64 pd.n) ∧ W.cell? ⟨g, off + q * 9 + 8, none⟩ = some (.int .i64 pd.p)) := hide fun W hW => by
                          obtain ⟨g', off', e, h⟩ := AT.out q (by have := Hlt.out; omega)
                          injection e with e
                          injection e with e1 e2
                          subst e1 e2
                          rw [hpd]
                          exact h W hW
                        have Hi0 := hide hi0
                        have Hq := hide hq
                        clear KB hpd hi0 hq
                        refine wpAnyH_yield 0 68 (.int .i64 (i : Int)) rfl rfl (by kernel_rfl) (by kernel_rfl) (by kernel_rfl) (fun _ _ _ h => h) (by kernel_rfl) (fun W hW => by kernel_rfl) (by assumption) rfl rfl ?_
                        simp only [Act.put, List.setIfInBounds_toArray, List.set_cons_zero, List.set_cons_succ]
                        refine wpAnyH_yield 1 69 (.bool true) rfl rfl (by kernel_rfl) (by kernel_rfl) (by kernel_rfl) (fun _ _ _ h => h) (by kernel_rfl) (fun W hW => by clear hi0d; go_simp; have := Hi0.out; omega) (by assumption) rfl rfl ?_
                        simp only [Act.put, List.setIfInBounds_toArray, List.set_cons_zero, List.set_cons_succ]
                        refine wpAnyH_yield 2 70 (.bool true) rfl rfl (by kernel_rfl) (by kernel_rfl) (by kernel_rfl) (fun _ _ _ h => h) (by kernel_rfl) (fun W hW => by kernel_rfl) (by assumption) rfl rfl ?_
                        simp only [Act.put, List.setIfInBounds_toArray, List.set_cons_zero, List.set_cons_succ]
                        refine wpAnyH_yield 3 71 (.pointer (some ⟨B + 1, 2, none⟩)) rfl rfl (by kernel_rfl) (by kernel_rfl) (by kernel_rfl) (fun _ _ _ h => h) (by kernel_rfl) (fun W hW => by go_simp) (by assumption) rfl rfl ?_
                        simp only [Act.put, List.setIfInBounds_toArray, List.set_cons_zero, List.set_cons_succ]
                        refine wpAnyH_yield 4 72 (.slice (some ⟨g, off, none⟩) k.wi.length cap) rfl rfl (by kernel_rfl) (by kernel_rfl) (by kernel_rfl) (fun _ _ _ h => h) (by kernel_rfl) (fun W hW => by have q := KX.out W hW; go_simp) (by assumption) rfl rfl ?_
                        simp only [Act.put, List.setIfInBounds_toArray, List.set_cons_zero, List.set_cons_succ]
                        refine wpAnyH_yield 5 73 (.int .i64 (i : Int)) rfl rfl (by kernel_rfl) (by kernel_rfl) (by kernel_rfl) (fun _ _ _ h => h) (by kernel_rfl) (fun W hW => by kernel_rfl) (by assumption) rfl rfl ?_
                        simp only [Act.put, List.setIfInBounds_toArray, List.set_cons_zero, List.set_cons_succ]
                        refine wpAnyH_yield 6 74 (.int .i64 (q : Int)) rfl rfl (by kernel_rfl) (by kernel_rfl) (by kernel_rfl) (fun _ _ _ h => h) (by kernel_rfl) (fun W hW => by go_simp) (by assumption) rfl rfl ?_
                        simp only [Act.put, List.setIfInBounds_toArray, List.set_cons_zero, List.set_cons_succ]
                        refine wpAnyH_yield 7 75 (.pointer (some ⟨g, off + q * 9, none⟩)) rfl rfl (by kernel_rfl) (by kernel_rfl) (by kernel_rfl) (fun _ _ _ h => h) (by kernel_rfl) (fun W hW => by go_simp) (by assumption) rfl rfl ?_
                        simp only [Act.put, List.setIfInBounds_toArray, List.set_cons_zero, List.set_cons_succ]
                        refine wpAnyH_yield 8 76 (wnv pd) rfl rfl (by kernel_rfl) (by kernel_rfl) (by kernel_rfl) (fun _ _ _ h => h) (by kernel_rfl) (fun W hW => by obtain ⟨⟨c0, c1, c2⟩, ⟨c3, c4, c5, c6⟩, c7, c8⟩ := KP.out W (HTn.out.tr hW); go_simp) (by assumption) rfl rfl ?_
                        simp only [Act.put, List.setIfInBounds_toArray, List.set_cons_zero, List.set_cons_succ]
                        refine wpAnyH_yield 9 77 (wnv x) rfl rfl (by kernel_rfl) (by kernel_rfl) (by kernel_rfl) (fun _ _ _ h => h) (by kernel_rfl) (fun W hW => by obtain ⟨⟨c0, c1, c2⟩, ⟨c3, c4, c5, c6⟩, c7, c8⟩ := wn_cells (hW.at HXn.out); go_simp) (by assumption) rfl rfl ?_
                        simp only [Act.put, List.setIfInBounds_toArray, List.set_cons_zero, List.set_cons_succ]
                        refine wpAnyH_enter 10 78 31 #[wnv pd, wnv x] rfl rfl (by kernel_rfl) (by kernel_rfl) (by kernel_rfl) ?_
                        refine (CO2.out _).mono ?_
                        rintro r w5 ⟨rfl, T5⟩
                        have h5 := hT0.tr T5
                        refine ⟨_, rfl, h5, ?_⟩
                        simp only [Act.put, List.setIfInBounds_toArray, List.set_cons_zero, List.set_cons_succ]
                        have H5 := hide h5
                        clear T5 hT0 KP CO2 hq1 hqn hi0d
                        generalize ordB pd x = ob at *
                        cases ob with
                        | false =>
                          have N5 := hide (N1.out (by rw [KB2.out]; rfl))
                          refine wpAnyH_yield 11 79 (.bool true) rfl rfl (by kernel_rfl) (by kernel_rfl) (by kernel_rfl) (fun _ _ _ h => h) (by kernel_rfl) (fun W hW => by kernel_rfl) (by assumption) rfl rfl ?_
                          simp only [Act.put, List.setIfInBounds_toArray, List.set_cons_zero, List.set_cons_succ]
                          refine wpAnyH_yield 12 80 (.bool true) rfl rfl (by kernel_rfl) (by kernel_rfl) (by kernel_rfl) (fun _ _ _ h => h) (by kernel_rfl) (fun W hW => by kernel_rfl) (by assumption) rfl rfl ?_
                          simp only [Act.put, List.setIfInBounds_toArray, List.set_cons_zero, List.set_cons_succ]
                          refine wpAnyH_done (by kernel_rfl) ?_ _
                          clear h5 N1 NI Y0 KB2 HXn HK AT HW KX
                          go_wp2_with fail
                          go_ret
                          exact ⟨by rw [← N5.out]; rfl, HTn.out.tr H5.out⟩
                        | true =>
                          have KC : Hid (keyAt c k.wi i = (!(c.ki == 3) || (List.range i).all fun m => apartB (k.wi.getD m wn0) x)) := hide (by rw [KB2.out, Bool.true_and])
                          clear KB2
                          refine wpAnyH_yield 11 79 (.bool false) rfl rfl (by kernel_rfl) (by kernel_rfl) (by kernel_rfl) (fun _ _ _ h => h) (by kernel_rfl) (fun W hW => by kernel_rfl) (by assumption) rfl rfl ?_
                          simp only [Act.put, List.setIfInBounds_toArray, List.set_cons_zero, List.set_cons_succ]
                          refine wpAnyH_yield 12 80 (.bool false) rfl rfl (by kernel_rfl) (by kernel_rfl) (by kernel_rfl) (fun _ _ _ h => h) (by kernel_rfl) (fun W hW => by kernel_rfl) (by assumption) rfl rfl ?_
                          simp only [Act.put, List.setIfInBounds_toArray, List.set_cons_zero, List.set_cons_succ]
                          refine wpAnyH_done (by kernel_rfl) ?_ _
                          clear h5
                          have Y1 : Hid ((!(c.ki == 3) || (List.range i).all fun m => apartB (k.wi.getD m wn0) x) = true → ((List.range (i + 1)).all fun i => keyAt c k.wi i) = true) := hide fun h => Y0.out (by rw [KC.out, h])
                          have N2 : Hid (∀ m, m < i → c.ki = 3 → apartB (k.wi.getD m wn0) x = false → false = X) := hide fun m hm h3 h => N1.out (by rw [KC.out, all_range_false (f := fun m => apartB (k.wi.getD m wn0) x) hm h, h3]; rfl)
                          clear N1 NI Y0 KC HW HK
                          go_wp2_with fail
                          go_loopw [7] (fun j wz => ∃ m : Nat, j = .int .i64 (m : Int) ∧ m ≤ i ∧ Hid (((List.range m).all fun m => apartB (k.wi.getD m wn0) x) = true) ∧ Calm w1 wz) (fun j _ => i - (intOf j).toNat)
                          case atStart => exact ⟨0, rfl, Nat.zero_le _, hide rfl, H5.out⟩
                          case round =>
                            obtain ⟨m, rfl, hm, hall, T0⟩ := hrel
                            have KY : Hid (∀ W, Calm w1 W → W.cell? ⟨B + 1, 2, none⟩ = some (.slice (some ⟨g, off, none⟩) k.wi.length cap) ∧ (W.cell? ⟨D, 0, none⟩ = some (.int .i64 x.a) ∧ W.cell? ⟨D, 1, none⟩ = some (.int .i64 x.b))) := hide fun W hW => ⟨KX.out W hW, (wn_cells (hW.at HXn.out)).1.1, (wn_cells (hW.at HXn.out)).1.2.1⟩
                            obtain ⟨⟨-, -, kk, -⟩, -⟩ := cf_cells (T0.at HAn.out)
                            have H2 := hide T0
                            clear T0
                            by_cases hlm : m < i
                            · have hmi : (m : Int) < (i : Int) := by omega
                              have hmn : (m : Int) < (k.wi.length : Int) := by omega
                              by_cases hk3 : c.ki = 3
                              · have KM : Hid (∀ W, Calm w W → W.cell? ⟨g, off + m * 9, none⟩ = some (.int .i64 (k.wi.getD m wn0).a) ∧ W.cell? ⟨g, off + m * 9 + 1, none⟩ = some (.int .i64 (k.wi.getD m wn0).b)) := hide fun W hW => by
                                  obtain ⟨g', off', e, h⟩ := AT.out m (by omega)
                                  injection e with e
                                  injection e with e1 e2
                                  subst e1 e2
                                  exact ⟨(h W hW).1.1, (h W hW).1.2.1⟩
                                have M1 := hide (N2.out m hlm hk3)
                                have M2 : Hid (apartB (k.wi.getD m wn0) x = true → ((List.range (m + 1)).all fun m => apartB (k.wi.getD m wn0) x) = true) := hide fun h => by rw [all_range_succ, hall.out, h]; rfl
                                generalize k.wi.getD m wn0 = y at *
                                have AE : apartB y x = !(decide (y.a < x.b) && decide (x.a < y.b)) := rfl
                                rw [AE] at M1 M2
                                clear AE hall N2
                                have kk3 : (c.ki == 3) = true := beq_iff_eq.2 hk3
                                cases d1 : decide (y.a < x.b) with
                                | false =>
                                  have M3 := hide (M2.out (by rw [d1]; rfl))
                                  clear M1 M2
                                  go_wp2_with fail
                                  refine wp_region_held (S := Calm w1) (by kernel_rfl) ?_
                                  have hT0 : Calm w1 { wr with drawn := wr.drawn + 1 } := H2.out.drew
                                  refine wpAnyH_yield 0 91 (.pointer (some ⟨B + 1, 2, none⟩)) rfl rfl (by kernel_rfl) (by kernel_rfl) (by kernel_rfl) (fun _ _ _ h => h) (by kernel_rfl) (fun W hW => by go_simp) (by assumption) rfl rfl ?_
                                  simp only [Act.put, List.setIfInBounds_toArray, List.set_cons_zero, List.set_cons_succ]
                                  refine wpAnyH_yield 1 92 (.slice (some ⟨g, off, none⟩) k.wi.length cap) rfl rfl (by kernel_rfl) (by kernel_rfl) (by kernel_rfl) (fun _ _ _ h => h) (by kernel_rfl) (fun W hW => by obtain ⟨q, -⟩ := KY.out W hW; go_simp) (by assumption) rfl rfl ?_
                                  simp only [Act.put, List.setIfInBounds_toArray, List.set_cons_zero, List.set_cons_succ]
                                  refine wpAnyH_yield 2 93 (.int .i64 (m : Int)) rfl rfl (by kernel_rfl) (by kernel_rfl) (by kernel_rfl) (fun _ _ _ h => h) (by kernel_rfl) (fun W hW => by kernel_rfl) (by assumption) rfl rfl ?_
                                  simp only [Act.put, List.setIfInBounds_toArray, List.set_cons_zero, List.set_cons_succ]
                                  refine wpAnyH_yield 3 94 (.pointer (some ⟨g, off + m * 9, none⟩)) rfl rfl (by kernel_rfl) (by kernel_rfl) (by kernel_rfl) (fun _ _ _ h => h) (by kernel_rfl) (fun W hW => by go_simp) (by assumption) rfl rfl ?_
                                  simp only [Act.put, List.setIfInBounds_toArray, List.set_cons_zero, List.set_cons_succ]
                                  refine wpAnyH_yield 4 95 (.pointer (some ⟨g, off + m * 9, none⟩)) rfl rfl (by kernel_rfl) (by kernel_rfl) (by kernel_rfl) (fun _ _ _ h => h) (by kernel_rfl) (fun W hW => by go_simp) (by assumption) rfl rfl ?_
                                  simp only [Act.put, List.setIfInBounds_toArray, List.set_cons_zero, List.set_cons_succ]
                                  refine wpAnyH_yield 5 96 (.pointer (some ⟨g, off + m * 9, none⟩)) rfl rfl (by kernel_rfl) (by kernel_rfl) (by kernel_rfl) (fun _ _ _ h => h) (by kernel_rfl) (fun W hW => by go_simp) (by assumption) rfl rfl ?_
                                  simp only [Act.put, List.setIfInBounds_toArray, List.set_cons_zero, List.set_cons_succ]
                                  refine wpAnyH_yield 6 97 (.int .i64 y.a) rfl rfl (by kernel_rfl) (by kernel_rfl) (by kernel_rfl) (fun _ _ _ h => h) (by kernel_rfl) (fun W hW => by obtain ⟨c0, c1⟩ := KM.out W (HTn.out.tr hW); go_simp) (by assumption) rfl rfl ?_
                                  simp only [Act.put, List.setIfInBounds_toArray, List.set_cons_zero, List.set_cons_succ]
                                  refine wpAnyH_yield 7 98 (.pointer (some ⟨D, 0, none⟩)) rfl rfl (by kernel_rfl) (by kernel_rfl) (by kernel_rfl) (fun _ _ _ h => h) (by kernel_rfl) (fun W hW => by go_simp) (by assumption) rfl rfl ?_
                                  simp only [Act.put, List.setIfInBounds_toArray, List.set_cons_zero, List.set_cons_succ]
                                  refine wpAnyH_yield 8 99 (.pointer (some ⟨D, 1, none⟩)) rfl rfl (by kernel_rfl) (by kernel_rfl) (by kernel_rfl) (fun _ _ _ h => h) (by kernel_rfl) (fun W hW => by go_simp) (by assumption) rfl rfl ?_
                                  simp only [Act.put, List.setIfInBounds_toArray, List.set_cons_zero, List.set_cons_succ]
                                  refine wpAnyH_yield 9 100 (.int .i64 x.b) rfl rfl (by kernel_rfl) (by kernel_rfl) (by kernel_rfl) (fun _ _ _ h => h) (by kernel_rfl) (fun W hW => by obtain ⟨-, c0, c1⟩ := KY.out W hW; go_simp) (by assumption) rfl rfl ?_
                                  simp only [Act.put, List.setIfInBounds_toArray, List.set_cons_zero, List.set_cons_succ]
                                  refine wpAnyH_yield 10 101 (.bool false) rfl rfl (by kernel_rfl) (by kernel_rfl) (by kernel_rfl) (fun _ _ _ h => h) (by kernel_rfl) (fun W hW => by go_simp) (by assumption) rfl rfl ?_
                                  simp only [Act.put, List.setIfInBounds_toArray, List.set_cons_zero, List.set_cons_succ]
                                  refine wpAnyH_yield 11 102 (.bool false) rfl rfl (by kernel_rfl) (by kernel_rfl) (by kernel_rfl) (fun _ _ _ h => h) (by kernel_rfl) (fun W hW => by kernel_rfl) (by assumption) rfl rfl ?_
                                  simp only [Act.put, List.setIfInBounds_toArray, List.set_cons_zero, List.set_cons_succ]
                                  refine wpAnyH_skip 12 103 rfl rfl (by kernel_rfl) (by kernel_rfl) (by kernel_rfl) (fun _ _ _ h => h) (by kernel_rfl) (by assumption) rfl rfl ?_
                                  simp only [Act.put, List.setIfInBounds_toArray, List.set_cons_zero, List.set_cons_succ]
                                  refine wpAnyH_skip 13 104 rfl rfl (by kernel_rfl) (by kernel_rfl) (by kernel_rfl) (fun _ _ _ h => h) (by kernel_rfl) (by assumption) rfl rfl ?_
                                  simp only [Act.put, List.setIfInBounds_toArray, List.set_cons_zero, List.set_cons_succ]
                                  refine wpAnyH_skip 14 105 rfl rfl (by kernel_rfl) (by kernel_rfl) (by kernel_rfl) (fun _ _ _ h => h) (by kernel_rfl) (by assumption) rfl rfl ?_
                                  simp only [Act.put, List.setIfInBounds_toArray, List.set_cons_zero, List.set_cons_succ]
                                  refine wpAnyH_skip 15 106 rfl rfl (by kernel_rfl) (by kernel_rfl) (by kernel_rfl) (fun _ _ _ h => h) (by kernel_rfl) (by assumption) rfl rfl ?_
                                  simp only [Act.put, List.setIfInBounds_toArray, List.set_cons_zero, List.set_cons_succ]
                                  refine wpAnyH_skip 16 107 rfl rfl (by kernel_rfl) (by kernel_rfl) (by kernel_rfl) (fun _ _ _ h => h) (by kernel_rfl) (by assumption) rfl rfl ?_
                                  simp only [Act.put, List.setIfInBounds_toArray, List.set_cons_zero, List.set_cons_succ]
                                  refine wpAnyH_skip 17 108 rfl rfl (by kernel_rfl) (by kernel_rfl) (by kernel_rfl) (fun _ _ _ h => h) (by kernel_rfl) (by assumption) rfl rfl ?_
                                  simp only [Act.put, List.setIfInBounds_toArray, List.set_cons_zero, List.set_cons_succ]
                                  refine wpAnyH_skip 18 109 rfl rfl (by kernel_rfl) (by kernel_rfl) (by kernel_rfl) (fun _ _ _ h => h) (by kernel_rfl) (by assumption) rfl rfl ?_
                                  simp only [Act.put, List.setIfInBounds_toArray, List.set_cons_zero, List.set_cons_succ]
                                  refine wpAnyH_skip 19 110 rfl rfl (by kernel_rfl) (by kernel_rfl) (by kernel_rfl) (fun _ _ _ h => h) (by kernel_rfl) (by assumption) rfl rfl ?_
                                  simp only [Act.put, List.setIfInBounds_toArray, List.set_cons_zero, List.set_cons_succ]
                                  refine wpAnyH_skip 20 111 rfl rfl (by kernel_rfl) (by kernel_rfl) (by kernel_rfl) (fun _ _ _ h => h) (by kernel_rfl) (by assumption) rfl rfl ?_
                                  simp only [Act.put, List.setIfInBounds_toArray, List.set_cons_zero, List.set_cons_succ]
                                  refine wpAnyH_skip 21 112 rfl rfl (by kernel_rfl) (by kernel_rfl) (by kernel_rfl) (fun _ _ _ h => h) (by kernel_rfl) (by assumption) rfl rfl ?_
                                  simp only [Act.put, List.setIfInBounds_toArray, List.set_cons_zero, List.set_cons_succ]
                                  refine wpAnyH_skip 22 113 rfl rfl (by kernel_rfl) (by kernel_rfl) (by kernel_rfl) (fun _ _ _ h => h) (by kernel_rfl) (by assumption) rfl rfl ?_
                                  simp only [Act.put, List.setIfInBounds_toArray, List.set_cons_zero, List.set_cons_succ]
                                  refine wpAnyH_yield 23 114 (.bool false) rfl rfl (by kernel_rfl) (by kernel_rfl) (by kernel_rfl) (fun _ _ _ h => h) (by kernel_rfl) (fun W hW => by kernel_rfl) (by assumption) rfl rfl ?_
                                  simp only [Act.put, List.setIfInBounds_toArray, List.set_cons_zero, List.set_cons_succ]
                                  refine wpAnyH_done (by kernel_rfl) ?_ _
                                  have H4 := hide hT0
                                  clear hT0 d1
                                  go_wp2_with fail
                                  go_roundw
                                  case rel => exact ⟨m + 1, by go_num, by omega, M3, H4.out⟩
                                  case measure => simp [intOf]; omega
                                | true =>
                                  generalize d2 : decide (x.a < y.b) = bb at *
                                  go_wp2_with fail
                                  refine wp_region_held (S := Calm w1) (by kernel_rfl) ?_
                                  have hT0 : Calm w1 { wr with drawn := wr.drawn + 1 } := H2.out.drew
                                  refine wpAnyH_yield 0 91 (.pointer (some ⟨B + 1, 2, none⟩)) rfl rfl (by kernel_rfl) (by kernel_rfl) (by kernel_rfl) (fun _ _ _ h => h) (by kernel_rfl) (fun W hW => by go_simp) (by assumption) rfl rfl ?_
                                  simp only [Act.put, List.setIfInBounds_toArray, List.set_cons_zero, List.set_cons_succ]
                                  refine wpAnyH_yield 1 92 (.slice (some ⟨g, off, none⟩) k.wi.length cap) rfl rfl (by kernel_rfl) (by kernel_rfl) (by kernel_rfl) (fun _ _ _ h => h) (by kernel_rfl) (fun W hW => by obtain ⟨q, -⟩ := KY.out W hW; go_simp) (by assumption) rfl rfl ?_
                                  simp only [Act.put, List.setIfInBounds_toArray, List.set_cons_zero, List.set_cons_succ]
                                  refine wpAnyH_yield 2 93 (.int .i64 (m : Int)) rfl rfl (by kernel_rfl) (by kernel_rfl) (by kernel_rfl) (fun _ _ _ h => h) (by kernel_rfl) (fun W hW => by kernel_rfl) (by assumption) rfl rfl ?_
                                  simp only [Act.put, List.setIfInBounds_toArray, List.set_cons_zero, List.set_cons_succ]
                                  refine wpAnyH_yield 3 94 (.pointer (some ⟨g, off + m * 9, none⟩)) rfl rfl (by kernel_rfl) (by kernel_rfl) (by kernel_rfl) (fun _ _ _ h => h) (by kernel_rfl) (fun W hW => by go_simp) (by assumption) rfl rfl ?_
                                  simp only [Act.put, List.setIfInBounds_toArray, List.set_cons_zero, List.set_cons_succ]
                                  refine wpAnyH_yield 4 95 (.pointer (some ⟨g, off + m * 9, none⟩)) rfl rfl (by kernel_rfl) (by kernel_rfl) (by kernel_rfl) (fun _ _ _ h => h) (by kernel_rfl) (fun W hW => by go_simp) (by assumption) rfl rfl ?_
                                  simp only [Act.put, List.setIfInBounds_toArray, List.set_cons_zero, List.set_cons_succ]
                                  refine wpAnyH_yield 5 96 (.pointer (some ⟨g, off + m * 9, none⟩)) rfl rfl (by kernel_rfl) (by kernel_rfl) (by kernel_rfl) (fun _ _ _ h => h) (by kernel_rfl) (fun W hW => by go_simp) (by assumption) rfl rfl ?_
                                  simp only [Act.put, List.setIfInBounds_toArray, List.set_cons_zero, List.set_cons_succ]
                                  refine wpAnyH_yield 6 97 (.int .i64 y.a) rfl rfl (by kernel_rfl) (by kernel_rfl) (by kernel_rfl) (fun _ _ _ h => h) (by kernel_rfl) (fun W hW => by obtain ⟨c0, c1⟩ := KM.out W (HTn.out.tr hW); go_simp) (by assumption) rfl rfl ?_
                                  simp only [Act.put, List.setIfInBounds_toArray, List.set_cons_zero, List.set_cons_succ]
                                  refine wpAnyH_yield 7 98 (.pointer (some ⟨D, 0, none⟩)) rfl rfl (by kernel_rfl) (by kernel_rfl) (by kernel_rfl) (fun _ _ _ h => h) (by kernel_rfl) (fun W hW => by go_simp) (by assumption) rfl rfl ?_
                                  simp only [Act.put, List.setIfInBounds_toArray, List.set_cons_zero, List.set_cons_succ]
                                  refine wpAnyH_yield 8 99 (.pointer (some ⟨D, 1, none⟩)) rfl rfl (by kernel_rfl) (by kernel_rfl) (by kernel_rfl) (fun _ _ _ h => h) (by kernel_rfl) (fun W hW => by go_simp) (by assumption) rfl rfl ?_
                                  simp only [Act.put, List.setIfInBounds_toArray, List.set_cons_zero, List.set_cons_succ]
                                  refine wpAnyH_yield 9 100 (.int .i64 x.b) rfl rfl (by kernel_rfl) (by kernel_rfl) (by kernel_rfl) (fun _ _ _ h => h) (by kernel_rfl) (fun W hW => by obtain ⟨-, c0, c1⟩ := KY.out W hW; go_simp) (by assumption) rfl rfl ?_
                                  simp only [Act.put, List.setIfInBounds_toArray, List.set_cons_zero, List.set_cons_succ]
                                  refine wpAnyH_yield 10 101 (.bool true) rfl rfl (by kernel_rfl) (by kernel_rfl) (by kernel_rfl) (fun _ _ _ h => h) (by kernel_rfl) (fun W hW => by go_simp) (by assumption) rfl rfl ?_
                                  simp only [Act.put, List.setIfInBounds_toArray, List.set_cons_zero, List.set_cons_succ]
                                  refine wpAnyH_yield 11 102 (.bool true) rfl rfl (by kernel_rfl) (by kernel_rfl) (by kernel_rfl) (fun _ _ _ h => h) (by kernel_rfl) (fun W hW => by kernel_rfl) (by assumption) rfl rfl ?_
                                  simp only [Act.put, List.setIfInBounds_toArray, List.set_cons_zero, List.set_cons_succ]
                                  refine wpAnyH_yield 12 103 (.pointer (some ⟨D, 0, none⟩)) rfl rfl (by kernel_rfl) (by kernel_rfl) (by kernel_rfl) (fun _ _ _ h => h) (by kernel_rfl) (fun W hW => by go_simp) (by assumption) rfl rfl ?_
                                  simp only [Act.put, List.setIfInBounds_toArray, List.set_cons_zero, List.set_cons_succ]
                                  refine wpAnyH_yield 13 104 (.pointer (some ⟨D, 0, none⟩)) rfl rfl (by kernel_rfl) (by kernel_rfl) (by kernel_rfl) (fun _ _ _ h => h) (by kernel_rfl) (fun W hW => by go_simp) (by assumption) rfl rfl ?_
                                  simp only [Act.put, List.setIfInBounds_toArray, List.set_cons_zero, List.set_cons_succ]
                                  refine wpAnyH_yield 14 105 (.int .i64 x.a) rfl rfl (by kernel_rfl) (by kernel_rfl) (by kernel_rfl) (fun _ _ _ h => h) (by kernel_rfl) (fun W hW => by obtain ⟨-, c0, c1⟩ := KY.out W hW; go_simp) (by assumption) rfl rfl ?_
                                  simp only [Act.put, List.setIfInBounds_toArray, List.set_cons_zero, List.set_cons_succ]
                                  refine wpAnyH_yield 15 106 (.pointer (some ⟨B + 1, 2, none⟩)) rfl rfl (by kernel_rfl) (by kernel_rfl) (by kernel_rfl) (fun _ _ _ h => h) (by kernel_rfl) (fun W hW => by go_simp) (by assumption) rfl rfl ?_
                                  simp only [Act.put, List.setIfInBounds_toArray, List.set_cons_zero, List.set_cons_succ]
                                  refine wpAnyH_yield 16 107 (.slice (some ⟨g, off, none⟩) k.wi.length cap) rfl rfl (by kernel_rfl) (by kernel_rfl) (by kernel_rfl) (fun _ _ _ h => h) (by kernel_rfl) (fun W hW => by obtain ⟨q, -⟩ := KY.out W hW; go_simp) (by assumption) rfl rfl ?_
                                  simp only [Act.put, List.setIfInBounds_toArray, List.set_cons_zero, List.set_cons_succ]
                                  refine wpAnyH_yield 17 108 (.int .i64 (m : Int)) rfl rfl (by kernel_rfl) (by kernel_rfl) (by kernel_rfl) (fun _ _ _ h => h) (by kernel_rfl) (fun W hW => by kernel_rfl) (by assumption) rfl rfl ?_
                                  simp only [Act.put, List.setIfInBounds_toArray, List.set_cons_zero, List.set_cons_succ]
                                  refine wpAnyH_yield 18 109 (.pointer (some ⟨g, off + m * 9, none⟩)) rfl rfl (by kernel_rfl) (by kernel_rfl) (by kernel_rfl) (fun _ _ _ h => h) (by kernel_rfl) (fun W hW => by go_simp) (by assumption) rfl rfl ?_
                                  simp only [Act.put, List.setIfInBounds_toArray, List.set_cons_zero, List.set_cons_succ]
                                  refine wpAnyH_yield 19 110 (.pointer (some ⟨g, off + m * 9, none⟩)) rfl rfl (by kernel_rfl) (by kernel_rfl) (by kernel_rfl) (fun _ _ _ h => h) (by kernel_rfl) (fun W hW => by go_simp) (by assumption) rfl rfl ?_
                                  simp only [Act.put, List.setIfInBounds_toArray, List.set_cons_zero, List.set_cons_succ]
                                  refine wpAnyH_yield 20 111 (.pointer (some ⟨g, off + m * 9 + 1, none⟩)) rfl rfl (by kernel_rfl) (by kernel_rfl) (by kernel_rfl) (fun _ _ _ h => h) (by kernel_rfl) (fun W hW => by go_simp) (by assumption) rfl rfl ?_
                                  simp only [Act.put, List.setIfInBounds_toArray, List.set_cons_zero, List.set_cons_succ]
                                  refine wpAnyH_yield 21 112 (.int .i64 y.b) rfl rfl (by kernel_rfl) (by kernel_rfl) (by kernel_rfl) (fun _ _ _ h => h) (by kernel_rfl) (fun W hW => by obtain ⟨c0, c1⟩ := KM.out W (HTn.out.tr hW); go_simp) (by assumption) rfl rfl ?_
                                  simp only [Act.put, List.setIfInBounds_toArray, List.set_cons_zero, List.set_cons_succ]
                                  refine wpAnyH_yield 22 113 (.bool bb) rfl rfl (by kernel_rfl) (by kernel_rfl) (by kernel_rfl) (fun _ _ _ h => h) (by kernel_rfl) (fun W hW => by go_simp) (by assumption) rfl rfl ?_
                                  simp only [Act.put, List.setIfInBounds_toArray, List.set_cons_zero, List.set_cons_succ]
                                  refine wpAnyH_yield 23 114 (.bool bb) rfl rfl (by kernel_rfl) (by kernel_rfl) (by kernel_rfl) (fun _ _ _ h => h) (by kernel_rfl) (fun W hW => by kernel_rfl) (by assumption) rfl rfl ?_
                                  simp only [Act.put, List.setIfInBounds_toArray, List.set_cons_zero, List.set_cons_succ]
                                  refine wpAnyH_done (by kernel_rfl) ?_ _
                                  have H4 := hide hT0
                                  clear hT0
                                  cases bb with
                                  | true =>
                                    have M4 := hide (M1.out (by rw [d1]; rfl))
                                    clear M1 M2 d1 d2
                                    go_wp2_with fail
                                    go_ret
                                    exact ⟨by rw [← M4.out]; rfl, HTn.out.tr H4.out⟩
                                  | false =>
                                    have M4 := hide (M2.out (by rw [d1]; rfl))
                                    clear M1 M2 d1 d2
                                    go_wp2_with fail
                                    go_roundw
                                    case rel => exact ⟨m + 1, by go_num, by omega, M4, H4.out⟩
                                    case measure => simp [intOf]; omega
                              · have kk3 : (c.ki == 3) = false := beq_false_of_ne hk3
                                have Y2 := hide (Y1.out (by rw [kk3]; rfl))
                                have A2 := hide (H2.out.at HAn.out)
                                have K2 := hide (H2.out.at HKm.out)
                                clear Y1 N2 hall
                                go_wp2_with fail
                                go_roundw
                                case rel => exact ⟨i + 1, by go_num, by omega, Y2, A2.out, K2.out, HTn.out.tr H2.out⟩
                                case measure => simp [intOf]; omega
                            · obtain rfl : m = i := by omega
                              have Y2 := hide (Y1.out (by rw [hall.out, Bool.or_true]))
                              have A2 := hide (H2.out.at HAn.out)
                              have K2 := hide (H2.out.at HKm.out)
                              clear Y1 N2 hall
                              go_wp2_with fail
                              go_roundw
                              case rel => exact ⟨m + 1, by go_num, by omega, Y2, A2.out, K2.out, HTn.out.tr H2.out⟩
                              case measure => simp [intOf]; omega
        · have hltz : ¬ (i : Int) < (k.wi.length : Int) := by omega
          obtain rfl : i = k.wi.length := by omega
          have HF : Hid (X = true) := hide (HK.out.trans HA.out)
          have HT := hide TL
          clear HK HA AB AK TL
          go_wp2_with fail
          go_ret
          exact ⟨by rw [HF.out]; rfl, HT.out⟩
  · have h1d : decide (256 < (k.ke.size : Int)) = true := decide_eq_true (by omega)
    have h1n : decide (k.ke.size ≤ 256) = false := decide_eq_false (by omega)
    have HF : Hid (keyB c k = false) := hide (by unfold keyB; rw [h1n]; rfl)
    clear CI CO AT h1
    go_enter Tryd.func17, Tryd.ntmps17
    go_wp2_with fail
    go_ret
    exact ⟨by rw [HF.out]; rfl, T0.out⟩

end Go.Proofs.YtdcpmpbfnfjncaaDoor
