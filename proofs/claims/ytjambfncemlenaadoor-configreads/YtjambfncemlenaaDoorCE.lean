/- A job out of bytes (the document's Read). -/
import Derived.Test.YtjambfncemlenaaDoorCD
import Derived.Laws.Tables
import Derived.Great.BuildSlice
import Derived.ChangeKeysEq
namespace Go.Proofs.YtjambfncemlenaaDoor
open Go.RowKit
open Cg

namespace Cg
theorem heap_put {w : World} {g i : Nat} {c : Array Value} {t : TypeId} {fr : Nat × Nat} (h : w.heap[g]? = some (.cells c t fr)) (v : Value) : (w.setCell ⟨g, i, none⟩ v).heap[g]? = some (.cells (c.setIfInBounds i v) t fr) := by
  obtain ⟨hg, hv⟩ := Array.getElem?_eq_some_iff.1 h
  simp [World.setCell, hg, Array.getElem_modify, hv]
theorem heap_far {w : World} {g g' i : Nat} {o : Obj} (h : w.heap[g]? = some o) (hne : g ≠ g') (v : Value) : (w.setCell ⟨g', i, none⟩ v).heap[g]? = some o := by
  obtain ⟨hg, hv⟩ := Array.getElem?_eq_some_iff.1 h
  have : ¬ g' = g := fun e => hne e.symm
  simp [World.setCell, hg, Array.getElem_modify, hv, this]
end Cg

/-- Numbers of which one is another. -/
def upF (f : Nat → Int) (i : Nat) (x : Int) : Nat → Int := fun k => if k = i then x else f k
theorem f10c_up (f : Nat → Int) (i : Nat) (x : Int) (hi : i < 10) : (f10c f).setIfInBounds i (.int .i64 x) = f10c (upF f i x) := by
  rcases (by omega : i = 0 ∨ i = 1 ∨ i = 2 ∨ i = 3 ∨ i = 4 ∨ i = 5 ∨ i = 6 ∨ i = 7 ∨ i = 8 ∨ i = 9) with rfl | rfl | rfl | rfl | rfl | rfl | rfl | rfl | rfl | rfl <;> rfl

theorem f10_all {w : World} {b : Nat} {f : Nat → Int} {ty : TypeId} (h : w.heap[b]? = some (.cells (f10c f) ty (0, 0))) : (w.cell? ⟨b, 0, none⟩ = some (.int .i64 (f 0)) ∧ w.cell? ⟨b, 1, none⟩ = some (.int .i64 (f 1)) ∧ w.cell? ⟨b, 2, none⟩ = some (.int .i64 (f 2)) ∧ w.cell? ⟨b, 3, none⟩ = some (.int .i64 (f 3)) ∧ w.cell? ⟨b, 4, none⟩ = some (.int .i64 (f 4))) ∧
    w.cell? ⟨b, 5, none⟩ = some (.int .i64 (f 5)) ∧ w.cell? ⟨b, 6, none⟩ = some (.int .i64 (f 6)) ∧ w.cell? ⟨b, 7, none⟩ = some (.int .i64 (f 7)) ∧ w.cell? ⟨b, 8, none⟩ = some (.int .i64 (f 8)) ∧ w.cell? ⟨b, 9, none⟩ = some (.int .i64 (f 9)) := by simp [World.cell?, h]

theorem Cg.items_self {P : Program} {e : TypeId} {k : IntKind} (hu : P.underlying e = some (.int k)) (d : Nat) (xs : Array Value) (hx : ∀ j, j < xs.size → ∃ x, xs[j]? = some (.int .i64 x)) (w : World) : ∀ (is : List Nat), (∀ j ∈ is, j < xs.size) → (Op.eqItems (d + 1) e 1 xs xs is).run P w = .ok true w
  | [], _ => by simp [Op.eqItems]
  | j :: is, h => by
    obtain ⟨x, ex⟩ := hx j (h j (by simp))
    have ih := Cg.items_self hu d xs hx w is fun i hi => h i (by simp [hi])
    have ep : (part e xs j).run P w = .ok (.int .i64 x) w := by simp [part, isAgg, run_underlying hu, ex]
    have ee : (Op.equalIn (d + 1) e (.int .i64 x) (.int .i64 x)).run P w = .ok true w := by simp [Op.equalIn, run_underlying hu]
    simp only [Op.eqItems, Sem.run_bind, Nat.mul_one, ep, ee, Result.andThen_ok]
    simpa using ih
/-- Ten numbers are the same as themselves. -/
theorem eq10 (f : Nat → Int) (w : World) : (Op.equalIn 10000 61 (.agg (f10c f)) (.agg (f10c f))).run Tryd.prog w = .ok true w := by
  obtain ⟨i, hi⟩ : ∃ i, Tryd.prog.info? 2 = some i := Option.isSome_iff_exists.1 (by kernel_rfl)
  have hc : Tryd.prog.cellsOf 2 = 1 := by kernel_rfl
  rw [show (10000 : Nat) = 9999 + 1 from rfl, run_equalIn_array w 9999 _ _ Tryd.underlying61 hi, hc]
  exact Cg.items_self (d := 9998) Tryd.underlying2 _ (fun j hj => by
    have : j < 10 := hj
    rcases (by omega : j = 0 ∨ j = 1 ∨ j = 2 ∨ j = 3 ∨ j = 4 ∨ j = 5 ∨ j = 6 ∨ j = 7 ∨ j = 8 ∨ j = 9) with rfl | rfl | rfl | rfl | rfl | rfl | rfl | rfl | rfl | rfl <;> exact ⟨_, rfl⟩) w _ (fun j hj => by rw [List.mem_range] at hj; exact hj)

/-- The first i numbers that bytes hold, and the place behind them. -/
def rdS (b : List Int) : Nat → Option ((Nat → Int) × Nat)
  | 0 => some (fun _ => 0, 0)
  | i + 1 => match rdS b i with
    | none => none
    | some (f, p) => if (readX b p).2.2 then some (upF f i (readX b p).1, (readX b p).2.1.toNat) else none
def cf0 : Cf := ⟨0, 0, 0, 0, 0, 0, 0, 0, 0, false⟩
/-- What the document's Read answers. -/
def rdJ (b : List Int) : Cf × Int × Bool :=
  match rdS b 10 with
  | none => (cf0, 0, false)
  | some (f, p) => if wrongN (ofF f) = 0 ∧ f 9 ≤ 1 then (ofF f, (p : Int), true) else (cf0, 0, false)

theorem rdL_len : ∀ (k : Nat) (l : List Int) (x j : Nat) {y n : Nat}, rdL k l x j = some (y, n) → n ≤ j + l.length
  | 0, _, _, _, _, _, h => by cases h
  | _ + 1, [], _, _, _, _, h => by cases h
  | k + 1, c :: l, x, j, y, n, h => by
    rw [rdL_cons] at h
    by_cases hc : c < 128
    · rw [if_pos hc] at h; cases h; simp only [List.length_cons]; omega
    · rw [if_neg hc] at h
      have := rdL_len k l _ _ h
      simp only [List.length_cons]; omega
theorem readX_le {b : List Int} {p : Nat} (hp : p ≤ b.length) (h : (readX b p).2.2 = true) : 0 ≤ (readX b p).1 ∧ ∃ q : Nat, (readX b p).2.1 = (q : Int) ∧ q ≤ b.length := by
  unfold readX at *
  cases e : rdL 8 (b.drop p) 0 0 with
  | none => rw [e] at h; cases h
  | some r =>
    obtain ⟨x, n⟩ := r
    have := rdL_len _ _ _ _ e
    rw [List.length_drop] at this
    exact ⟨Int.natCast_nonneg _, p + n, rfl, by omega⟩
theorem rdS_none {b : List Int} {i : Nat} (h : rdS b i = none) : ∀ k, rdS b (i + k) = none
  | 0 => h
  | k + 1 => by rw [← Nat.add_assoc, rdS, rdS_none h k]

/-- A result that lies in a block of its own, two that do not. -/
theorem results_cell_slots {P : Program} {fn : Func} {p u u2 : Tmp} {ty : TypeId} (h : fn.results = #[.cell p ty, .tmp u, .tmp u2]) (tmps : Array Value) (w : World) (g : Nat) (t : TypeId) (cs : Array Value) (fr : Nat × Nat) (d : TypeDesc)
    (hp : tmps.getD p undef = .pointer (some ⟨g, 0, none⟩)) (hg : w.heap[g]? = some (.cells cs t fr)) (hu : P.underlying ty = some d) (hd : (match d with | .struct _ | .array _ _ => true | _ => false) = true) (hi : (P.info? ty).map (·.size) = some cs.size)
    (v v2 : Value) (hv : tmps.getD u undef = v) (hv2 : tmps.getD u2 undef = v2) :
    (results fn tmps).run P w = .ok (.tuple #[.agg cs, v, v2]) w := by
  have hp' : tmps[p]?.getD undef = .pointer (some ⟨g, 0, none⟩) := by simpa using hp
  have hv' : tmps[u]?.getD undef = v := by simpa using hv
  have hv2' : tmps[u2]?.getD undef = v2 := by simpa using hv2
  simp [results, h, hp', hv', hv2', asAddr, run_loadVar_row w g t ty cs fr d hg hu hd hi]

set_option maxRecDepth 100000 in
set_option maxHeartbeats 2000000 in
theorem rRead_any (b : List Int) (ao : Option Addr) (cap : Nat) (w : World) (hs : encB.Sl w ao cap b) (h8 : In8 b) (hl : b.length ≤ 140737488355328) :
    Calls Tryd.prog 15 #[.slice ao b.length cap] w fun e w' => e = .returned (.tuple #[cfv (rdJ b).1, .int .i64 (rdJ b).2.1, .bool (rdJ b).2.2]) ∧ Calm w w' := by
  have CR : Hid (∀ (p : Nat) (W : World), p ≤ b.length → Calm w W → Calls Tryd.prog 35 #[.slice ao b.length cap, .int .i64 (p : Int)] W fun e w' => e = .returned (.tuple #[.int .i64 (readX b p).1, .int .i64 (readX b p).2.1, .bool (readX b p).2.2]) ∧ Calm W w') := hide fun p W hp hW => rread_any b ao cap p W (Rc.Sl.calm hs hW) h8 hp hl
  have CO : Hid (∀ f W, Calls Tryd.prog 36 #[.agg (f10c f)] W fun e w' => e = .returned (cfv (ofF f)) ∧ Calm W w') := hide rof_any
  have CW : Hid (∀ c W, Calls Tryd.prog 9 #[cfv c] W fun e w' => e = .returned (.int .i64 (wrongN c : Nat)) ∧ Calm W w') := hide rwrong_any
  have CF : Hid (∀ c W, Calls Tryd.prog 37 #[cfv c] W fun e w' => e = .returned (.agg (f10c (fldF c))) ∧ Calm W w') := hide rfields_any
  have RJ0 : Hid (∀ i, i ≤ 10 → rdS b i = none → rdJ b = (cf0, 0, false)) := hide fun i hi h => by
    have := rdS_none h (10 - i)
    rw [show i + (10 - i) = 10 by omega] at this
    unfold rdJ; rw [this]
  have RJ1 : Hid (∀ f p, rdS b 10 = some (f, p) → rdJ b = if wrongN (ofF f) = 0 ∧ f 9 ≤ 1 then (ofF f, (p : Int), true) else (cf0, 0, false)) := hide fun f p h => by
    unfold rdJ; rw [h]
  have NX : Hid (∀ i f p, rdS b i = some (f, p) → rdS b (i + 1) = if (readX b p).2.2 then some (upF f i (readX b p).1, (readX b p).2.1.toNat) else none) := hide fun i f p h => by
    rw [rdS, h]
  have LE : Hid (∀ p, p ≤ b.length → (readX b p).2.2 = true → 0 ≤ (readX b p).1 ∧ ∃ q : Nat, (readX b p).2.1 = (q : Int) ∧ q ≤ b.length) := hide fun p hp h => readX_le hp h
  have S0 : Hid (rdS b 0 = some (fun _ => 0, 0)) := hide rfl
  have hi10 : (Tryd.prog.info? 24).map (·.size) = some 10 := by kernel_rfl
  have h1z : Hid ((cfc cf0).all (·.oneCell') = true) := hide (by simp [Value.oneCell'])
  have A0 := hide (al_old (al_new w (.cells (cfc cf0) 24)) (.cells (f10c fun _ => 0) 61))
  have A1 : Hid (((w.alloc (.cells (cfc cf0) 24)).alloc (.cells (f10c fun _ => 0) 61)).heap[w.heap.size + 1]? = some (.cells (f10c fun _ => 0) 61 (0, 0))) := hide (by
    have := al_new (w.alloc (.cells (cfc cf0) 24)) (.cells (f10c fun _ => 0) 61)
    rwa [al_size] at this)
  have T0 := hide (((Touch.refl (fun _ => False) w).alloc (.cells (cfc cf0) 24)).alloc (.cells (f10c fun _ => 0) 61))
  have HZ : Hid (∀ (W : World) (D : Nat), w.heap.size ≤ D → Calm w W → W.heap[D]? = some (.cells (cfc cf0) 24 (0, 0)) → ∀ cs, (W.setRow D cs).heap[D]? = some (.cells cs 24 (0, 0)) ∧ Calm w (W.setRow D cs)) := hide fun W D hD hW hg cs =>
    ⟨setRow_heap _ _ _ _ _ _ hg, hW.trans (S' := fun g => g = D) ⟨rfl, rfl, rfl, by simp, fun j _ hj => setRow_other _ _ j _ hj⟩ (fun g hg e => by omega)⟩
  generalize rdJ b = X at *
  generalize b.length = n at *
  clear hs h8
  go_enter Tryd.func15, Tryd.ntmps15
  go_wp2_with fail
  have hD : Hid (w.heap.size ≤ w.heap.size) := hide (Nat.le_refl _)
  generalize hDe : w.heap.size = D at *
  go_loopw [6, 7] (fun s6 s7 wr => ∃ (i p : Nat) (f : Nat → Int), s6 = .int .i64 (p : Int) ∧ s7 = .int .i64 (i : Int) ∧ i ≤ 10 ∧ p ≤ n ∧ Hid (rdS b i = some (f, p)) ∧ (∀ k, 0 ≤ f k) ∧ wr.heap[D]? = some (.cells (cfc cf0) 24 (0, 0)) ∧ wr.heap[D + 1]? = some (.cells (f10c f) 61 (0, 0)) ∧ Calm w wr) (fun _ s7 _ => 10 - (intOf s7).toNat)
  case atStart => exact ⟨0, 0, fun _ => 0, rfl, rfl, by omega, by omega, S0, fun _ => Int.le_refl _, A0.out, A1.out, T0.out⟩
  case round =>
    obtain ⟨i, p, f, rfl, rfl, hi, hp, HS, hf0, AD, AE, TL⟩ := hrel
    by_cases hlt : i < 10
    · have hltz : (i : Int) < 10 := by omega
      have C1 := hide (CR.out p wr hp TL)
      have NX1 := hide (NX.out i f p HS.out)
      have LE1 := hide (LE.out p hp)
      have HAD := hide AD
      have HAE := hide AE
      have HTL := hide TL
      clear AD AE TL NX LE HS CR CO CW CF S0 A0 A1 T0 RJ1
      generalize readX b p = R at *
      obtain ⟨x, q, ok⟩ := R
      cases ok with
      | false =>
        have HX := hide (RJ0.out (i + 1) (by omega) (by rw [NX1.out]; rfl))
        clear NX1 LE1 RJ0
        go_wp2_with fail
        refine C1.out.mono ?_
        rintro e w2 ⟨rfl, T2⟩
        have A2 := T2.at HAD.out
        have TL2 := HTL.out.tr T2
        have hw2 := hide (HZ.out w2 D hD.out TL2 A2 (cfc cf0))
        have HA2 := hide A2
        clear T2 TL2 A2 C1 HAD HAE HTL HZ
        go_wp2_with (refine wpList_store_rowTo rfl 24 (.tmp 2) (.tmp 25) rfl rfl D (cfc cf0) rfl rfl 24 _ HA2.out hi10 rfl h1z.out ?_)
        refine bodyPost_ret (results_cell_slots rfl _ _ _ _ _ _ _ rfl hw2.out.1 Tryd.underlying24 rfl (by kernel_rfl) _ _ rfl rfl) rfl ?_
        exact ⟨by rw [HX.out]; rfl, hw2.out.2⟩
      | true =>
        obtain ⟨hx0, q', hq, hqn⟩ := LE1.out rfl
        simp only at hx0 hq
        subst hq
        have HS2 : Hid (rdS b (i + 1) = some (upF f i x, q')) := hide (by rw [NX1.out]; rfl)
        clear NX1 LE1 RJ0
        go_wp2_with fail
        refine C1.out.mono ?_
        rintro e w2 ⟨rfl, T2⟩
        have A2 := T2.at HAD.out
        have E2 := T2.at HAE.out
        have TL2 := HTL.out.tr T2
        have hcell := f10_cells E2 i hlt
        have A3 := hide (heap_far (i := i) A2 (show D ≠ D + 1 by omega) (.int .i64 x))
        have E3 := hide (heap_put (i := i) E2 (.int .i64 x))
        have TL3 := hide (TL2.setCell (p := ⟨D + 1, i, none⟩) (fun h => by simp only at h; omega) (.int .i64 x))
        have hfr : w2.frozen? ⟨D + 1, i, none⟩ = false := by simp [World.frozen?, E2]
        clear T2 TL2 A2 C1 HAD HAE HTL HZ E2
        go_wp2_with fail
        go_roundw
        case rel => exact ⟨i + 1, q', upF f i x, rfl, by go_num, by omega, hqn, HS2, fun k => by unfold upF; split; exact hx0; exact hf0 k, A3.out, by rw [← f10c_up f i x hlt]; exact E3.out, TL3.out⟩
        case measure => simp [intOf]; omega
    · have hltz : ¬ (i : Int) < 10 := by omega
      obtain rfl : i = 10 := by omega
      have RX := hide (RJ1.out f p HS.out)
      have C1 := hide (CO.out f)
      have C2 := hide (CW.out (ofF f))
      have C3 := hide (CF.out (ofF f))
      have HAD := hide AD
      have HAE := hide AE
      have HTL := hide TL
      obtain ⟨⟨k0, k1, k2, k3, k4⟩, k5, k6, k7, k8, k9⟩ := f10_all AE
      clear AD AE TL NX LE HS CR CO CW CF S0 A0 A1 T0 RJ1 RJ0
      go_wp2_with fail
      refine (C1.out _).mono ?_
      rintro e w2 ⟨rfl, T2⟩
      have A2 := T2.at HAD.out
      have E2 := T2.at HAE.out
      have HA3 := hide (al_old A2 (.cells (cfc (ofF f)) 24))
      have HE3 := hide (al_old E2 (.cells (cfc (ofF f)) 24))
      have HF3 := hide (al_new w2 (.cells (cfc (ofF f)) 24))
      have HT3 := hide ((HTL.out.tr T2).alloc (.cells (cfc (ofF f)) 24))
      have hf9 := hf0 9
      have h1c : Hid ((cfc (ofF f)).all (·.oneCell') = true) := hide (by simp [Value.oneCell'])
      have HE : Hid (f 9 ≤ 1 → f10c (fldF (ofF f)) = f10c f) := hide fun h => by
        have e : fldF (ofF f) 9 = f 9 := by
          rcases (by omega : f 9 = 0 ∨ f 9 = 1) with h | h <;> simp [fldF, ofF, h]
        show #[Value.int .i64 (f 0), .int .i64 (f 1), .int .i64 (f 2), .int .i64 (f 3), .int .i64 (f 4), .int .i64 (f 5), .int .i64 (f 6), .int .i64 (f 7), .int .i64 (f 8), .int .i64 (fldF (ofF f) 9)] = _
        rw [e]
      clear T2 A2 E2 HAD HAE HTL k0 k1 k2 k3 k4 k5 k6 k7 k8 k9 C1 hf0
      go_wp2_with fail
      generalize w2.alloc (.cells (cfc (ofF f)) 24) = w3 at *
      generalize w2.heap.size = E at *
      refine wp_region_held (S := Calm w3) (by kernel_rfl) ?_
      have hT0 : Calm w3 { w3 with drawn := w3.drawn + 1 } := (Touch.refl (fun _ => False) w3).drew
      refine wpAnyH_yield 0 32 (cfv (ofF f)) rfl rfl (by kernel_rfl) (by kernel_rfl) (by kernel_rfl) (fun _ _ _ h => h) (by kernel_rfl) (fun W hW => by obtain ⟨⟨k0, k1, k2, k3, k4, k5, k6⟩, k7, k8, k9⟩ := cf_cells (hW.at HF3.out); go_simp) (by assumption) rfl rfl ?_
      simp only [Act.put, List.setIfInBounds_toArray, List.set_cons_zero, List.set_cons_succ]
      refine wpAnyH_enter 1 33 9 #[cfv (ofF f)] rfl rfl (by kernel_rfl) (by kernel_rfl) (by kernel_rfl) ?_
      refine (C2.out _).mono ?_
      rintro r w4 ⟨rfl, T4⟩
      have hT4 : Calm w3 w4 := hT0.tr T4
      have HT4 := hide hT4
      refine ⟨_, rfl, hT4, ?_⟩
      simp only [Act.put, List.setIfInBounds_toArray, List.set_cons_zero, List.set_cons_succ]
      generalize hN : wrongN (ofF f) = N9 at *
      by_cases hN0 : N9 = 0
      · subst hN0
        by_cases h91 : f 9 ≤ 1
        · have h9d : decide (1 < f 9) = false := decide_eq_false (by omega)
          have HX := hide (RX.out.trans (if_pos ⟨rfl, h91⟩))
          have HEE := hide (HE.out h91)
          clear RX HE
          refine wpAnyH_yield 2 34 (.bool false) rfl rfl (by kernel_rfl) (by kernel_rfl) (by kernel_rfl) (fun _ _ _ h => h) (by kernel_rfl) (fun W hW => by kernel_rfl) (by assumption) rfl rfl ?_
          simp only [Act.put, List.setIfInBounds_toArray, List.set_cons_zero, List.set_cons_succ]
          refine wpAnyH_yield 3 35 (.bool false) rfl rfl (by kernel_rfl) (by kernel_rfl) (by kernel_rfl) (fun _ _ _ h => h) (by kernel_rfl) (fun W hW => by kernel_rfl) (by assumption) rfl rfl ?_
          simp only [Act.put, List.setIfInBounds_toArray, List.set_cons_zero, List.set_cons_succ]
          refine wpAnyH_yield 4 36 (.pointer (some ⟨D + 1, 9, none⟩)) rfl rfl (by kernel_rfl) (by kernel_rfl) (by kernel_rfl) (fun _ _ _ h => h) (by kernel_rfl) (fun W hW => by go_simp) (by assumption) rfl rfl ?_
          simp only [Act.put, List.setIfInBounds_toArray, List.set_cons_zero, List.set_cons_succ]
          refine wpAnyH_yield 5 37 (.int .i64 (f 9)) rfl rfl (by kernel_rfl) (by kernel_rfl) (by kernel_rfl) (fun _ _ _ h => h) (by kernel_rfl) (fun W hW => by obtain ⟨-, k5, k6, k7, k8, k9⟩ := f10_all (hW.at HE3.out); go_simp) (by assumption) rfl rfl ?_
          simp only [Act.put, List.setIfInBounds_toArray, List.set_cons_zero, List.set_cons_succ]
          refine wpAnyH_yield 6 38 (.bool false) rfl rfl (by kernel_rfl) (by kernel_rfl) (by kernel_rfl) (fun _ _ _ h => h) (by kernel_rfl) (fun W hW => by go_simp) (by assumption) rfl rfl ?_
          simp only [Act.put, List.setIfInBounds_toArray, List.set_cons_zero, List.set_cons_succ]
          refine wpAnyH_yield 7 39 (.bool false) rfl rfl (by kernel_rfl) (by kernel_rfl) (by kernel_rfl) (fun _ _ _ h => h) (by kernel_rfl) (fun W hW => by kernel_rfl) (by assumption) rfl rfl ?_
          simp only [Act.put, List.setIfInBounds_toArray, List.set_cons_zero, List.set_cons_succ]
          refine wpAnyH_yield 8 40 (.bool false) rfl rfl (by kernel_rfl) (by kernel_rfl) (by kernel_rfl) (fun _ _ _ h => h) (by kernel_rfl) (fun W hW => by kernel_rfl) (by assumption) rfl rfl ?_
          simp only [Act.put, List.setIfInBounds_toArray, List.set_cons_zero, List.set_cons_succ]
          refine wpAnyH_yield 9 41 (cfv (ofF f)) rfl rfl (by kernel_rfl) (by kernel_rfl) (by kernel_rfl) (fun _ _ _ h => h) (by kernel_rfl) (fun W hW => by obtain ⟨⟨k0, k1, k2, k3, k4, k5, k6⟩, k7, k8, k9⟩ := cf_cells (hW.at HF3.out); go_simp) (by assumption) rfl rfl ?_
          simp only [Act.put, List.setIfInBounds_toArray, List.set_cons_zero, List.set_cons_succ]
          refine wpAnyH_yield 11 43 (.agg (f10c f)) rfl rfl (by kernel_rfl) (by kernel_rfl) (by kernel_rfl) (fun _ _ _ h => h) (by kernel_rfl) (fun W hW => by obtain ⟨⟨k0, k1, k2, k3, k4⟩, k5, k6, k7, k8, k9⟩ := f10_all (hW.at HE3.out); go_simp) (by assumption) rfl rfl ?_
          simp only [Act.put, List.setIfInBounds_toArray, List.set_cons_zero, List.set_cons_succ]
          refine wpAnyH_enter 10 42 37 #[cfv (ofF f)] rfl rfl (by kernel_rfl) (by kernel_rfl) (by kernel_rfl) ?_
          refine (C3.out _).mono ?_
          rintro r w5 ⟨rfl, T5⟩
          have hT5 : Calm w3 w5 := hT4.tr T5
          refine ⟨_, rfl, hT5, ?_⟩
          rw [HEE.out]
          simp only [Act.put, List.setIfInBounds_toArray, List.set_cons_zero, List.set_cons_succ]
          refine wpAnyH_yield 12 44 (.bool false) rfl rfl (by kernel_rfl) (by kernel_rfl) (by kernel_rfl) (fun _ _ _ h => h) (by kernel_rfl) (fun W hW => by have q := eq10 f W; go_simp) (by assumption) rfl rfl ?_
          simp only [Act.put, List.setIfInBounds_toArray, List.set_cons_zero, List.set_cons_succ]
          refine wpAnyH_yield 13 45 (.bool false) rfl rfl (by kernel_rfl) (by kernel_rfl) (by kernel_rfl) (fun _ _ _ h => h) (by kernel_rfl) (fun W hW => by kernel_rfl) (by assumption) rfl rfl ?_
          simp only [Act.put, List.setIfInBounds_toArray, List.set_cons_zero, List.set_cons_succ]
          refine wpAnyH_done (by kernel_rfl) ?_ _
          have A5 := hT5.at HA3.out
          have hw5 := hide (HZ.out w5 D hD.out (HT3.out.tr hT5) A5 (cfc (ofF f)))
          have HA5 := hide A5
          obtain ⟨⟨k0, k1, k2, k3, k4, k5, k6⟩, k7, k8, k9⟩ := cf_cells (hT5.at HF3.out)
          clear hT0 A5 HA3 HE3 HF3 HT3 HT4 hT4 T4 HZ hT5 T5 HEE
          go_wp2_with (refine wpList_store_rowTo rfl 24 (.tmp 2) (.tmp 47) rfl rfl D (cfc (ofF f)) rfl rfl 24 _ HA5.out hi10 rfl h1c.out ?_)
          refine bodyPost_ret (results_cell_slots rfl _ _ _ _ _ _ _ rfl hw5.out.1 Tryd.underlying24 rfl (by kernel_rfl) _ _ rfl rfl) rfl ?_
          exact ⟨by rw [HX.out]; rfl, hw5.out.2⟩
        · have h9d : decide (1 < f 9) = true := decide_eq_true (by omega)
          have HX := hide (RX.out.trans (if_neg fun h => h91 h.2))
          clear RX HE
          refine wpAnyH_yield 2 34 (.bool false) rfl rfl (by kernel_rfl) (by kernel_rfl) (by kernel_rfl) (fun _ _ _ h => h) (by kernel_rfl) (fun W hW => by kernel_rfl) (by assumption) rfl rfl ?_
          simp only [Act.put, List.setIfInBounds_toArray, List.set_cons_zero, List.set_cons_succ]
          refine wpAnyH_yield 3 35 (.bool false) rfl rfl (by kernel_rfl) (by kernel_rfl) (by kernel_rfl) (fun _ _ _ h => h) (by kernel_rfl) (fun W hW => by kernel_rfl) (by assumption) rfl rfl ?_
          simp only [Act.put, List.setIfInBounds_toArray, List.set_cons_zero, List.set_cons_succ]
          refine wpAnyH_yield 4 36 (.pointer (some ⟨D + 1, 9, none⟩)) rfl rfl (by kernel_rfl) (by kernel_rfl) (by kernel_rfl) (fun _ _ _ h => h) (by kernel_rfl) (fun W hW => by go_simp) (by assumption) rfl rfl ?_
          simp only [Act.put, List.setIfInBounds_toArray, List.set_cons_zero, List.set_cons_succ]
          refine wpAnyH_yield 5 37 (.int .i64 (f 9)) rfl rfl (by kernel_rfl) (by kernel_rfl) (by kernel_rfl) (fun _ _ _ h => h) (by kernel_rfl) (fun W hW => by obtain ⟨-, k5, k6, k7, k8, k9⟩ := f10_all (hW.at HE3.out); go_simp) (by assumption) rfl rfl ?_
          simp only [Act.put, List.setIfInBounds_toArray, List.set_cons_zero, List.set_cons_succ]
          refine wpAnyH_yield 6 38 (.bool true) rfl rfl (by kernel_rfl) (by kernel_rfl) (by kernel_rfl) (fun _ _ _ h => h) (by kernel_rfl) (fun W hW => by go_simp) (by assumption) rfl rfl ?_
          simp only [Act.put, List.setIfInBounds_toArray, List.set_cons_zero, List.set_cons_succ]
          refine wpAnyH_yield 7 39 (.bool true) rfl rfl (by kernel_rfl) (by kernel_rfl) (by kernel_rfl) (fun _ _ _ h => h) (by kernel_rfl) (fun W hW => by kernel_rfl) (by assumption) rfl rfl ?_
          simp only [Act.put, List.setIfInBounds_toArray, List.set_cons_zero, List.set_cons_succ]
          refine wpAnyH_yield 8 40 (.bool true) rfl rfl (by kernel_rfl) (by kernel_rfl) (by kernel_rfl) (fun _ _ _ h => h) (by kernel_rfl) (fun W hW => by kernel_rfl) (by assumption) rfl rfl ?_
          simp only [Act.put, List.setIfInBounds_toArray, List.set_cons_zero, List.set_cons_succ]
          refine wpAnyH_skip 9 41 rfl rfl (by kernel_rfl) (by kernel_rfl) (by kernel_rfl) (fun _ _ _ h => h) (by kernel_rfl) (by assumption) rfl rfl ?_
          simp only [Act.put, List.setIfInBounds_toArray, List.set_cons_zero, List.set_cons_succ]
          refine wpAnyH_skip 10 42 rfl rfl (by kernel_rfl) (by kernel_rfl) (by kernel_rfl) (fun _ _ _ h => h) (by kernel_rfl) (by assumption) rfl rfl ?_
          simp only [Act.put, List.setIfInBounds_toArray, List.set_cons_zero, List.set_cons_succ]
          refine wpAnyH_skip 11 43 rfl rfl (by kernel_rfl) (by kernel_rfl) (by kernel_rfl) (fun _ _ _ h => h) (by kernel_rfl) (by assumption) rfl rfl ?_
          simp only [Act.put, List.setIfInBounds_toArray, List.set_cons_zero, List.set_cons_succ]
          refine wpAnyH_skip 12 44 rfl rfl (by kernel_rfl) (by kernel_rfl) (by kernel_rfl) (fun _ _ _ h => h) (by kernel_rfl) (by assumption) rfl rfl ?_
          simp only [Act.put, List.setIfInBounds_toArray, List.set_cons_zero, List.set_cons_succ]
          refine wpAnyH_yield 13 45 (.bool true) rfl rfl (by kernel_rfl) (by kernel_rfl) (by kernel_rfl) (fun _ _ _ h => h) (by kernel_rfl) (fun W hW => by kernel_rfl) (by assumption) rfl rfl ?_
          simp only [Act.put, List.setIfInBounds_toArray, List.set_cons_zero, List.set_cons_succ]
          refine wpAnyH_done (by kernel_rfl) ?_ _
          have A4 := HT4.out.at HA3.out
          have hw4 := hide (HZ.out w4 D hD.out (HT3.out.tr HT4.out) A4 (cfc cf0))
          have HA4 := hide A4
          clear hT0 A4 HA3 HE3 HF3 HT3 HT4 hT4 T4 HZ
          go_wp2_with (refine wpList_store_rowTo rfl 24 (.tmp 2) (.tmp 46) rfl rfl D (cfc cf0) rfl rfl 24 _ HA4.out hi10 rfl h1z.out ?_)
          refine bodyPost_ret (results_cell_slots rfl _ _ _ _ _ _ _ rfl hw4.out.1 Tryd.underlying24 rfl (by kernel_rfl) _ _ rfl rfl) rfl ?_
          exact ⟨by rw [HX.out]; rfl, hw4.out.2⟩
      · have hNz : ¬ (N9 : Int) = 0 := by omega
        have hNd : decide ((N9 : Int) = 0) = false := decide_eq_false hNz
        have HX := hide (RX.out.trans (if_neg fun h => hN0 h.1))
        clear RX HE
        refine wpAnyH_yield 2 34 (.bool true) rfl rfl (by kernel_rfl) (by kernel_rfl) (by kernel_rfl) (fun _ _ _ h => h) (by kernel_rfl) (fun W hW => by go_simp) (by assumption) rfl rfl ?_
        simp only [Act.put, List.setIfInBounds_toArray, List.set_cons_zero, List.set_cons_succ]
        refine wpAnyH_yield 3 35 (.bool true) rfl rfl (by kernel_rfl) (by kernel_rfl) (by kernel_rfl) (fun _ _ _ h => h) (by kernel_rfl) (fun W hW => by kernel_rfl) (by assumption) rfl rfl ?_
        simp only [Act.put, List.setIfInBounds_toArray, List.set_cons_zero, List.set_cons_succ]
        refine wpAnyH_skip 4 36 rfl rfl (by kernel_rfl) (by kernel_rfl) (by kernel_rfl) (fun _ _ _ h => h) (by kernel_rfl) (by assumption) rfl rfl ?_
        simp only [Act.put, List.setIfInBounds_toArray, List.set_cons_zero, List.set_cons_succ]
        refine wpAnyH_skip 5 37 rfl rfl (by kernel_rfl) (by kernel_rfl) (by kernel_rfl) (fun _ _ _ h => h) (by kernel_rfl) (by assumption) rfl rfl ?_
        simp only [Act.put, List.setIfInBounds_toArray, List.set_cons_zero, List.set_cons_succ]
        refine wpAnyH_skip 6 38 rfl rfl (by kernel_rfl) (by kernel_rfl) (by kernel_rfl) (fun _ _ _ h => h) (by kernel_rfl) (by assumption) rfl rfl ?_
        simp only [Act.put, List.setIfInBounds_toArray, List.set_cons_zero, List.set_cons_succ]
        refine wpAnyH_yield 7 39 (.bool true) rfl rfl (by kernel_rfl) (by kernel_rfl) (by kernel_rfl) (fun _ _ _ h => h) (by kernel_rfl) (fun W hW => by kernel_rfl) (by assumption) rfl rfl ?_
        simp only [Act.put, List.setIfInBounds_toArray, List.set_cons_zero, List.set_cons_succ]
        refine wpAnyH_yield 8 40 (.bool true) rfl rfl (by kernel_rfl) (by kernel_rfl) (by kernel_rfl) (fun _ _ _ h => h) (by kernel_rfl) (fun W hW => by kernel_rfl) (by assumption) rfl rfl ?_
        simp only [Act.put, List.setIfInBounds_toArray, List.set_cons_zero, List.set_cons_succ]
        refine wpAnyH_skip 9 41 rfl rfl (by kernel_rfl) (by kernel_rfl) (by kernel_rfl) (fun _ _ _ h => h) (by kernel_rfl) (by assumption) rfl rfl ?_
        simp only [Act.put, List.setIfInBounds_toArray, List.set_cons_zero, List.set_cons_succ]
        refine wpAnyH_skip 10 42 rfl rfl (by kernel_rfl) (by kernel_rfl) (by kernel_rfl) (fun _ _ _ h => h) (by kernel_rfl) (by assumption) rfl rfl ?_
        simp only [Act.put, List.setIfInBounds_toArray, List.set_cons_zero, List.set_cons_succ]
        refine wpAnyH_skip 11 43 rfl rfl (by kernel_rfl) (by kernel_rfl) (by kernel_rfl) (fun _ _ _ h => h) (by kernel_rfl) (by assumption) rfl rfl ?_
        simp only [Act.put, List.setIfInBounds_toArray, List.set_cons_zero, List.set_cons_succ]
        refine wpAnyH_skip 12 44 rfl rfl (by kernel_rfl) (by kernel_rfl) (by kernel_rfl) (fun _ _ _ h => h) (by kernel_rfl) (by assumption) rfl rfl ?_
        simp only [Act.put, List.setIfInBounds_toArray, List.set_cons_zero, List.set_cons_succ]
        refine wpAnyH_yield 13 45 (.bool true) rfl rfl (by kernel_rfl) (by kernel_rfl) (by kernel_rfl) (fun _ _ _ h => h) (by kernel_rfl) (fun W hW => by kernel_rfl) (by assumption) rfl rfl ?_
        simp only [Act.put, List.setIfInBounds_toArray, List.set_cons_zero, List.set_cons_succ]
        refine wpAnyH_done (by kernel_rfl) ?_ _
        have A4 := HT4.out.at HA3.out
        have hw4 := hide (HZ.out w4 D hD.out (HT3.out.tr HT4.out) A4 (cfc cf0))
        have HA4 := hide A4
        clear hT0 A4 HA3 HE3 HF3 HT3 HT4 hT4 T4 HZ
        go_wp2_with (refine wpList_store_rowTo rfl 24 (.tmp 2) (.tmp 46) rfl rfl D (cfc cf0) rfl rfl 24 _ HA4.out hi10 rfl h1z.out ?_)
        refine bodyPost_ret (results_cell_slots rfl _ _ _ _ _ _ _ rfl hw4.out.1 Tryd.underlying24 rfl (by kernel_rfl) _ _ rfl rfl) rfl ?_
        exact ⟨by rw [HX.out]; rfl, hw4.out.2⟩

end Go.Proofs.YtjambfncemlenaaDoor
