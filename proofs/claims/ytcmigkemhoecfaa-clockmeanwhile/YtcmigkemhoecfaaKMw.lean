/- ClockMeanwhile, walked. -/
import Derived.Test.YtcmigkemhoecfaaKMh
import Derived.Test.YtcmigkemhoecfaaKY
import Derived.Test.YtcmigkemhoecfaaSLy
import Derived.Sort.CutIn
namespace Go.Proofs.Ytcmigkemhoecfaa
open Go.RowKit
attribute [local go_sem] Oper.semAt_some

section
variable {Pk : World → Nat → (Nat → Prop) → List Int → List Hd → Prop}

theorem Mw.more {w W : World} {B3 B4 B5 B7 n m : Nat} {Bs : Nat → Prop} {mv : Value} {res : Bool} {p : Pr} (h : Mw Pk w B3 B4 B5 B7 Bs mv res p n W) (hm : n ≤ m) : Mw Pk w B3 B4 B5 B7 Bs mv res p m W := ⟨h.calm, h.b3, h.b4, h.b5, h.b7, okO_more h.ok hm, h.lo, h.fp, h.lt⟩

/-- While Holds is gone over: blocks from N0 to T are no clock's; those of the document's copy lie from N0 to N1. -/
structure Mr (Pk : World → Nat → (Nat → Prop) → List Int → List Hd → Prop) (w : World) (B3 B4 B5 B7 B10 B12 N0 N1 T : Nat) (mv : Value) (p0 : Pr) (qw : Nat) (lv : Value) (ho : Option Addr) (hc : Nat) (n0 k : Nat) (W : World) : Prop where
  ex : ∃ p : Pr, Mw Pk w B3 B4 B5 B7 (fun g => N0 ≤ g ∧ g < T) mv false p (n0 + k) W ∧ p.q = p0.q ∧ p.r = p0.r ∧ ∀ g, fpO (some p) g → fpO (some p0) g ∨ T ≤ g
  b10 : W.heap[B10]? = some (.cells #[cp qw] 30 (0, 0))
  b12 : W.heap[B12]? = some (.cells #[.int .i64 (k : Int)] 3 (0, 0))
  was : W.heap[qw]? = some (.cells #[lv, .slice ho p0.H.length hc] 55 (0, 0))
  row : encH.Own 57 W 0 (.slice ho p0.H.length hc) p0.H
  sz : T ≤ W.heap.size
  lt : N0 ≤ B10 ∧ B10 < N1 ∧ N0 ≤ B12 ∧ B12 < N1 ∧ N0 ≤ qw ∧ qw < N1 ∧ B10 ≠ B12 ∧ (∀ g, (Value.slice ho p0.H.length hc).ownBlock = some g → N0 ≤ g ∧ g < N1) ∧ N1 ≤ T
  lo : w.heap.size ≤ N0 ∧ B3 < N0 ∧ B4 < N0 ∧ B5 < N0 ∧ B7 < N0
  f0 : ∀ g, fpO (some p0) g → g < N0

theorem Mr.turn (I : Pki Pk) {w W W' : World} {B3 B4 B5 B7 B10 B12 N0 N1 T n0 k qw hc : Nat} {mv lv : Value} {p0 : Pr} {ho : Option Addr} {S : Nat → Prop} (h : Mr Pk w B3 B4 B5 B7 B10 B12 N0 N1 T mv p0 qw lv ho hc n0 k W) (ht : Touch S W W') (hS : ∀ g, S g → N1 ≤ g ∧ g < T) : Mr Pk w B3 B4 B5 B7 B10 B12 N0 N1 T mv p0 qw lv ho hc n0 k W' := by
  obtain ⟨p, m, e1, e2, e3⟩ := h.ex
  obtain ⟨l1, l2, l3, l4, l5, l6, l7, l8, l9⟩ := h.lt
  obtain ⟨k0, k1, k2, k3, k4⟩ := h.lo
  refine ⟨⟨p, m.turn I ht (fun g hg => ?_), e1, e2, e3⟩, ht.heap h.b10 (fun s => by have := hS _ s; omega), ht.heap h.b12 (fun s => by have := hS _ s; omega), ht.heap h.was (fun s => by have := hS _ s; omega), Rc.Own.touch h.row ht (fun g hg s => by have := hS _ s; have := l8 g hg; omega), Nat.le_trans h.sz ht.size, h.lt, h.lo, h.f0⟩
  have := hS g hg
  refine ⟨by omega, by omega, by omega, by omega, by omega, fun hf => ?_⟩
  rcases e3 g hf with hf | hf
  · have := h.f0 g hf; omega
  · omega
theorem Mr.still (I : Pki Pk) {w W W' : World} {B3 B4 B5 B7 B10 B12 N0 N1 T n0 k qw hc : Nat} {mv lv : Value} {p0 : Pr} {ho : Option Addr} (h : Mr Pk w B3 B4 B5 B7 B10 B12 N0 N1 T mv p0 qw lv ho hc n0 k W) (ht : Calm W W') : Mr Pk w B3 B4 B5 B7 B10 B12 N0 N1 T mv p0 qw lv ho hc n0 k W' := h.turn I ht fun _ h => h.elim
/-- A round is over: the clocks are as the step left them, and one more is told. -/
theorem Mr.next (I : Pki Pk) {w W W' : World} {B3 B4 B5 B7 B10 B12 N0 N1 T n0 k qw hc : Nat} {mv lv : Value} {p0 p p' : Pr} {ho : Option Addr} (h : Mr Pk w B3 B4 B5 B7 B10 B12 N0 N1 T mv p0 qw lv ho hc n0 k W)  (e3 : ∀ g, fpO (some p) g → fpO (some p0) g ∨ T ≤ g) (eq : p.q = p0.q) (er : p.r = p0.r)
    (ht : Touch (fpO (some p)) W W') (m' : Mw Pk w B3 B4 B5 B7 (fun g => N0 ≤ g ∧ g < T) mv false p' (n0 + k + 1) W') (e1 : p'.q = p.q) (e2 : p'.r = p.r) (hf : ∀ g, fpO (some p') g → fpO (some p) g ∨ W.heap.size ≤ g) : W'.heap[B12]? = some (.cells #[.int .i64 (k : Int)] 3 (0, 0)) ∧ Mr Pk w B3 B4 B5 B7 B10 B12 N0 N1 T mv p0 qw lv ho hc n0 (k + 1) (W'.setCell ⟨B12, 0, none⟩ (.int .i64 ((k + 1 : Nat) : Int))) ∧ Touch (fun g => (fpO (some p0) g ∨ g = B12) ∨ T ≤ g) W (W'.setCell ⟨B12, 0, none⟩ (.int .i64 ((k + 1 : Nat) : Int))) := by
  obtain ⟨l1, l2, l3, l4, l5, l6, l7, l8, l9⟩ := h.lt
  obtain ⟨k0, k1, k2, k3, k4⟩ := h.lo
  have out : ∀ g, fpO (some p) g → g < N0 ∨ T ≤ g := fun g hg => (e3 g hg).imp (h.f0 g) id
  have b12 := ht.heap h.b12 (fun s => by have := out _ s; omega)
  have tS : Touch (fun g => g = B12) W' (W'.setCell ⟨B12, 0, none⟩ (.int .i64 ((k + 1 : Nat) : Int))) := (Touch.refl (fun g => g = B12) W').setCell (p := ⟨B12, 0, none⟩) (fun _ => rfl) _
  have f' : ∀ g, fpO (some p') g → fpO (some p0) g ∨ T ≤ g := fun g hg => by
    rcases hf g hg with hg | hg
    · exact e3 g hg
    · exact .inr (Nat.le_trans h.sz hg)
  refine ⟨b12, ⟨⟨p', m'.turn I tS (fun g hg => ?_), e1.trans eq, e2.trans er, f'⟩, tS.heap (ht.heap h.b10 (fun s => by have := out _ s; omega)) l7, set_one _ b12, tS.heap (ht.heap h.was (fun s => by have := out _ s; omega)) (fun e => ?_), Rc.Own.touch (Rc.Own.touch h.row ht (fun g hg s => by have := out _ s; have := l8 g hg; omega)) tS (fun g hg e => ?_), Nat.le_trans h.sz (Nat.le_trans ht.size tS.size), h.lt, h.lo, h.f0⟩, ?_⟩
  · subst hg
    refine ⟨by omega, by omega, by omega, by omega, by omega, fun hh => ?_⟩
    rcases f' _ hh with hh | hh
    · have := h.f0 _ hh; omega
    · omega
  · have h1 := h.was
    rw [e, h.b12] at h1
    injection h1 with h1
    injection h1 with _ h1
    cases h1
  · obtain ⟨-, cur, hcur⟩ := Rc.own_block h.row hg
    rw [e, h.b12] at hcur
    injection hcur with hcur
    injection hcur with _ hcur
    cases hcur
  · refine (ht.mono fun g _ hg => ?_).trans (tS.mono (S' := fun g => (fpO (some p0) g ∨ g = B12) ∨ T ≤ g) fun g _ e => .inl (.inr e)) (fun _ _ h => h)
    rcases e3 g hg with h | h
    · exact .inl (.inl h)
    · exact .inr h

set_option maxRecDepth 100000 in
set_option maxHeartbeats 8000000 in
theorem meanwhile13_walk (I : Pki Pk) (J : Pkn (.pointer none)) (A : List Stp) (ao : Option Addr) (ac : Nat) (M : List Stp) (mo : Option Addr) (mc : Nat) (w : World) (hA : encS.Mem w ao A) (hAn : A.length ≤ 2300000000000) (hM : encS.Mem w mo M) (hMn : M.length ≤ 2300000000000) : Calls Try.prog 4 #[.slice ao A.length ac, .slice mo M.length mc] w fun e w' => e = .returned (.bool true) ∧ Calm w w' := by
  have HA := hide hA
  have HM := hide hM
  obtain ⟨n, hn⟩ : ∃ n, n = A.length := ⟨_, rfl⟩
  obtain ⟨m, hm⟩ : ∃ m, m = M.length := ⟨_, rfl⟩
  have HN := hide hn
  have HMN := hide hm
  have HNB : Hid (n ≤ 2300000000000) := hide (by omega)
  have HMB : Hid (m ≤ 2300000000000) := hide (by omega)
  rw [← hn, ← hm]
  clear hn hm hA hM hAn hMn
  refine (callsIn_wide (n := 3)).1 (callsIn_of_wp_marks Try.func4 rfl trivial ?_ rfl)
  simp only [Try.ntmps4, List.size_toArray, List.length_cons, List.length_nil, Nat.reduceAdd, Nat.reduceSub, Array.replicate_succ, Array.replicate_zero, List.push_toArray, List.append_toArray, List.nil_append, List.cons_append]
  gi_wp2
  obtain ⟨B3, e3⟩ : ∃ B3, B3 = w.heap.size := ⟨_, rfl⟩
  obtain ⟨B4, e4⟩ : ∃ B4, B4 = w.heap.size + 1 := ⟨_, rfl⟩
  obtain ⟨w0, ew0⟩ : ∃ w0, w0 = (w.alloc (.cells #[.slice mo m mc] 23)).alloc (.cells #[.bool false] 4) := ⟨_, rfl⟩
  have T0 : Hid (Calm w w0) := hide (by rw [ew0]; exact ((Touch.refl _ _).alloc _).alloc _)
  have K3 : Hid (w0.heap[B3]? = some (.cells #[.slice mo m mc] 23 (0, 0))) := hide (by rw [ew0, e3]; exact al_old (al_new _ _) _)
  have K4 : Hid (w0.heap[B4]? = some (.cells #[.bool false] 4 (0, 0))) := hide (by
    rw [ew0, e4]
    have := al_new (w.alloc (.cells #[.slice mo m mc] 23)) (.cells #[.bool false] 4)
    rwa [al_size] at this)
  have L34 : Hid (w.heap.size ≤ B3 ∧ w.heap.size ≤ B4 ∧ B3 < w0.heap.size ∧ B4 < w0.heap.size) := hide ⟨by omega, by omega, lt_of_heap K3.out, lt_of_heap K4.out⟩
  rw [← e4, ← e3, ← ew0]
  clear e3 e4 ew0
  have C1 := hide (I.new_ok 1 w0 (by omega) (by omega))
  refine ⟨trivial, (callsIn_wide.2 C1.out).mono ?_⟩
  rintro e w1 ⟨q, rfl, p1, t1⟩
  have P1 := hide p1
  have T1 := hide t1
  clear p1 t1 C1
  gi_wp2
  obtain ⟨B5, e5⟩ : ∃ B5, B5 = w1.heap.size := ⟨_, rfl⟩
  obtain ⟨w2, ew2⟩ : ∃ w2, w2 = w1.alloc (.cells #[cp q] 25) := ⟨_, rfl⟩
  have K5 : Hid (w2.heap[B5]? = some (.cells #[cp q] 25 (0, 0))) := hide (by rw [ew2, e5]; exact al_new _ _)
  have T2 : Hid (Calm w1 w2) := hide (by rw [ew2]; exact (Touch.refl _ _).alloc _)
  have L5 : Hid (B5 = w1.heap.size ∧ B5 < w2.heap.size) := hide ⟨e5, lt_of_heap K5.out⟩
  rw [← e5, ← ew2]
  clear e5 ew2
  have C2 := hide (rnew_ok 1 (by omega) (by omega) w2)
  refine ⟨trivial, (callsIn_wide.2 C2.out).mono ?_⟩
  rintro e w3 ⟨r, rfl, lr, r3, t3⟩
  have R3 := hide r3
  have T3 := hide t3
  clear lr r3 t3 C2
  gi_upto_region 3 with fail
  obtain ⟨B7, e7⟩ : ∃ B7, B7 = w3.heap.size := ⟨_, rfl⟩
  obtain ⟨w4, ew4⟩ : ∃ w4, w4 = w3.alloc (.cells #[cp r] 30) := ⟨_, rfl⟩
  have T4 : Hid (Calm w3 w4) := hide (by rw [ew4]; exact (Touch.refl _ _).alloc _)
  have K7 : Hid (w4.heap[B7]? = some (.cells #[cp r] 30 (0, 0))) := hide (by rw [ew4, e7]; exact al_new _ _)
  have L7 : Hid (B7 = w3.heap.size) := hide e7
  rw [← e7, ← ew4]
  clear e7 ew4
  have M4 : Hid (Mw Pk w B3 B4 B5 B7 (fun _ => False) (.slice mo m mc) false ⟨q, r, fun g => w0.heap.size ≤ g ∧ g < w1.heap.size, fun g => w2.heap.size ≤ g ∧ g < w3.heap.size, List.replicate 1 minT, []⟩ 0 w4) := hide (by
    have s0 := T0.out.size
    have s1 := T1.out.size
    have s2 := T2.out.size
    have s3 := T3.out.size
    have l34 := L34.out
    have l5 := L5.out
    have l7 := L7.out
    have c14 := (T2.out.tr T3.out).tr T4.out
    refine ⟨((T0.out.tr T1.out).tr c14), (T1.out.tr c14).at K3.out, (T1.out.tr c14).at K4.out, (T3.out.tr T4.out).at K5.out, K7.out, ⟨⟨I.calm P1.out c14, R3.out.calm T4.out, fun g h1 h2 => ?_⟩, by simp⟩, by omega, fun g hg => ?_, fun _ h => h.elim⟩
    · have := h1.2; have := h2.1; omega
    · rcases hg with hg | hg
      · have h1 := hg.1
        have h2 := hg.2
        exact ⟨by omega, by omega, by omega, by omega, by omega, fun h => h⟩
      · have h1 := hg.1
        have h2 := hg.2
        exact ⟨by omega, by omega, by omega, by omega, by omega, fun h => h⟩)
  clear T0 K3 K4 L34 P1 T1 K5 T2 L5 R3 T3 T4 K7 L7
  obtain ⟨c5, -⟩ := one_cell M4.out.b5
  have CN := hide (num13_any 0 w4)
  gi_wp2
  refine ⟨trivial, (callsIn_wide.2 CN.out).mono ?_⟩
  rintro e w5 ⟨rfl, hq⟩
  subst hq
  clear CN c5
  gi_wp2
  gi_loopw [9] (fun s9 wr => ∃ (i : Nat) (p : Pr), s9 = .int .i64 (i : Int) ∧ i ≤ n ∧ p.q = q ∧ p.r = r ∧ Hid (Mw Pk w B3 B4 B5 B7 (fun _ => False) (.slice mo m mc) false p i wr)) (fun s9 _ => n - (intOf s9).toNat)
  case atStart => exact ⟨0, _, rfl, by omega, rfl, rfl, M4⟩
  case round =>
    obtain ⟨i, p, rfl, hin, eq, er, MI⟩ := hrel
    clear M4
    by_cases hlt : i < n
    · have hltz : (i : Int) < (n : Int) := by omega
      have SEE : Hid (∀ W, Touch (fpO (some p)) wr W → W.heap[B5]? = some (.cells #[cp q] 25 (0, 0)) ∧ W.heap[B7]? = some (.cells #[cp r] 30 (0, 0)) ∧ Calm w W) := hide fun W hW => by
        have h5 := MI.out.b5
        have h7 := MI.out.b7
        rw [eq] at h5
        rw [er] at h7
        exact ⟨hW.heap h5 (fun s => (MI.out.fp _ s).2.2.2.1 rfl), hW.heap h7 (fun s => (MI.out.fp _ s).2.2.2.2.1 rfl), MI.out.calm.trans hW (fun g hg s => by have := (MI.out.fp g s).1; omega)⟩
      obtain ⟨b, off, eao, -⟩ := stp_at HA.out i (by have := HN.out; omega)
      have SEA : Hid (∀ W, Touch (fpO (some p)) wr W → W.cell? ⟨b, off + i * 7 + 5, none⟩ = some (.string (A.getD i stp0).nm) ∧ W.cell? ⟨b, off + i * 7 + 6, none⟩ = some (.int .i64 (A.getD i stp0).t)) := hide fun W hW => by
        obtain ⟨b', off', e', -, -, -, -, -, h5, h6⟩ := stp_at (Rc.Mem.calm HA.out (SEE.out W hW).2.2) i (by have := HN.out; omega)
        rw [eao] at e'
        injection e' with e'
        injection e' with e1 e2
        subst e1 e2
        exact ⟨h5, h6⟩
      subst eao
      have HOLD := hide (fun W (hW : Calm wr W) => hold_two I (n := i) (p := p) (A.getD i stp0).nm (A.getD i stp0).t ((MI.out.still I hW).ok) (by have := HNB.out; show i ≤ 4600000000000; omega) (A.getD i stp0).ok)
      have zw : wrap64 ((i : Int) + 1) = ((i + 1 : Nat) : Int) := by have := HNB.out; unfold wrap64; omega
      have HQ := hide eq
      have HR := hide er
      rw [eq, er] at HOLD
      generalize A.getD i stp0 = st at *
      clear eq er
      gi_upto_region 8 with fail
      refine wpIn_wide.2 ?_
      refine wp_only ?_
      refine wp_region_held (S := Touch (fpO (some p)) wr) (by kernel_rfl) ?_
      have hT0 : Touch (fpO (some p)) wr { wr with drawn := wr.drawn + 1 } := (Touch.refl _ wr).drew
      have hC0 : Calm wr { wr with drawn := wr.drawn + 1 } := (Touch.refl _ wr).drew
      refine wpAnyH_yield 0 36 (cp q) rfl rfl (by kernel_rfl) (by kernel_rfl) (by kernel_rfl) (fun _ _ _ h => h) (by kernel_rfl) (fun W hW => by have k0 := (one_cell (SEE.out W hW).1).1; go_simp) (by assumption) rfl rfl ?_
      simp only [Act.put, List.setIfInBounds_toArray, List.set_cons_zero, List.set_cons_succ]
      refine wpAnyH_yield 1 37 (.slice (some ⟨b, off, none⟩) n ac) rfl rfl (by kernel_rfl) (by kernel_rfl) (by kernel_rfl) (fun _ _ _ h => h) (by kernel_rfl) (fun W hW => by kernel_rfl) (by assumption) rfl rfl ?_
      simp only [Act.put, List.setIfInBounds_toArray, List.set_cons_zero, List.set_cons_succ]
      refine wpAnyH_yield 2 38 (.int .i64 (i : Int)) rfl rfl (by kernel_rfl) (by kernel_rfl) (by kernel_rfl) (fun _ _ _ h => h) (by kernel_rfl) (fun W hW => by kernel_rfl) (by assumption) rfl rfl ?_
      simp only [Act.put, List.setIfInBounds_toArray, List.set_cons_zero, List.set_cons_succ]
      refine wpAnyH_yield 3 39 (.pointer (some ⟨b, off + i * 7, none⟩)) rfl rfl (by kernel_rfl) (by kernel_rfl) (by kernel_rfl) (fun _ _ _ h => h) (by kernel_rfl) (fun W hW => by go_simp) (by assumption) rfl rfl ?_
      simp only [Act.put, List.setIfInBounds_toArray, List.set_cons_zero, List.set_cons_succ]
      refine wpAnyH_yield 4 40 (.pointer (some ⟨b, off + i * 7 + 5, none⟩)) rfl rfl (by kernel_rfl) (by kernel_rfl) (by kernel_rfl) (fun _ _ _ h => h) (by kernel_rfl) (fun W hW => by go_simp) (by assumption) rfl rfl ?_
      simp only [Act.put, List.setIfInBounds_toArray, List.set_cons_zero, List.set_cons_succ]
      refine wpAnyH_yield 5 41 (.string st.nm) rfl rfl (by kernel_rfl) (by kernel_rfl) (by kernel_rfl) (fun _ _ _ h => h) (by kernel_rfl) (fun W hW => by have k0 := (SEA.out W hW).1; go_simp) (by assumption) rfl rfl ?_
      simp only [Act.put, List.setIfInBounds_toArray, List.set_cons_zero, List.set_cons_succ]
      refine wpAnyH_yield 6 42 (.slice (some ⟨b, off, none⟩) n ac) rfl rfl (by kernel_rfl) (by kernel_rfl) (by kernel_rfl) (fun _ _ _ h => h) (by kernel_rfl) (fun W hW => by kernel_rfl) (by assumption) rfl rfl ?_
      simp only [Act.put, List.setIfInBounds_toArray, List.set_cons_zero, List.set_cons_succ]
      refine wpAnyH_yield 7 43 (.int .i64 (i : Int)) rfl rfl (by kernel_rfl) (by kernel_rfl) (by kernel_rfl) (fun _ _ _ h => h) (by kernel_rfl) (fun W hW => by kernel_rfl) (by assumption) rfl rfl ?_
      simp only [Act.put, List.setIfInBounds_toArray, List.set_cons_zero, List.set_cons_succ]
      refine wpAnyH_yield 8 44 (.pointer (some ⟨b, off + i * 7, none⟩)) rfl rfl (by kernel_rfl) (by kernel_rfl) (by kernel_rfl) (fun _ _ _ h => h) (by kernel_rfl) (fun W hW => by go_simp) (by assumption) rfl rfl ?_
      simp only [Act.put, List.setIfInBounds_toArray, List.set_cons_zero, List.set_cons_succ]
      refine wpAnyH_yield 9 45 (.pointer (some ⟨b, off + i * 7 + 6, none⟩)) rfl rfl (by kernel_rfl) (by kernel_rfl) (by kernel_rfl) (fun _ _ _ h => h) (by kernel_rfl) (fun W hW => by go_simp) (by assumption) rfl rfl ?_
      simp only [Act.put, List.setIfInBounds_toArray, List.set_cons_zero, List.set_cons_succ]
      refine wpAnyH_yield 10 46 (.int .i64 st.t) rfl rfl (by kernel_rfl) (by kernel_rfl) (by kernel_rfl) (fun _ _ _ h => h) (by kernel_rfl) (fun W hW => by have k0 := (SEA.out W hW).2; go_simp) (by assumption) rfl rfl ?_
      simp only [Act.put, List.setIfInBounds_toArray, List.set_cons_zero, List.set_cons_succ]
      refine wpAnyH_yield 13 49 (cp r) rfl rfl (by kernel_rfl) (by kernel_rfl) (by kernel_rfl) (fun _ _ _ h => h) (by kernel_rfl) (fun W hW => by have k0 := (one_cell (SEE.out W hW).2.1).1; go_simp) (by assumption) rfl rfl ?_
      simp only [Act.put, List.setIfInBounds_toArray, List.set_cons_zero, List.set_cons_succ]
      refine wpAnyH_yield 14 50 (.slice (some ⟨b, off, none⟩) n ac) rfl rfl (by kernel_rfl) (by kernel_rfl) (by kernel_rfl) (fun _ _ _ h => h) (by kernel_rfl) (fun W hW => by kernel_rfl) (by assumption) rfl rfl ?_
      simp only [Act.put, List.setIfInBounds_toArray, List.set_cons_zero, List.set_cons_succ]
      refine wpAnyH_yield 15 51 (.int .i64 (i : Int)) rfl rfl (by kernel_rfl) (by kernel_rfl) (by kernel_rfl) (fun _ _ _ h => h) (by kernel_rfl) (fun W hW => by kernel_rfl) (by assumption) rfl rfl ?_
      simp only [Act.put, List.setIfInBounds_toArray, List.set_cons_zero, List.set_cons_succ]
      refine wpAnyH_yield 16 52 (.pointer (some ⟨b, off + i * 7, none⟩)) rfl rfl (by kernel_rfl) (by kernel_rfl) (by kernel_rfl) (fun _ _ _ h => h) (by kernel_rfl) (fun W hW => by go_simp) (by assumption) rfl rfl ?_
      simp only [Act.put, List.setIfInBounds_toArray, List.set_cons_zero, List.set_cons_succ]
      refine wpAnyH_yield 17 53 (.pointer (some ⟨b, off + i * 7 + 5, none⟩)) rfl rfl (by kernel_rfl) (by kernel_rfl) (by kernel_rfl) (fun _ _ _ h => h) (by kernel_rfl) (fun W hW => by go_simp) (by assumption) rfl rfl ?_
      simp only [Act.put, List.setIfInBounds_toArray, List.set_cons_zero, List.set_cons_succ]
      refine wpAnyH_yield 18 54 (.string st.nm) rfl rfl (by kernel_rfl) (by kernel_rfl) (by kernel_rfl) (fun _ _ _ h => h) (by kernel_rfl) (fun W hW => by have k0 := (SEA.out W hW).1; go_simp) (by assumption) rfl rfl ?_
      simp only [Act.put, List.setIfInBounds_toArray, List.set_cons_zero, List.set_cons_succ]
      refine wpAnyH_yield 19 55 (.slice (some ⟨b, off, none⟩) n ac) rfl rfl (by kernel_rfl) (by kernel_rfl) (by kernel_rfl) (fun _ _ _ h => h) (by kernel_rfl) (fun W hW => by kernel_rfl) (by assumption) rfl rfl ?_
      simp only [Act.put, List.setIfInBounds_toArray, List.set_cons_zero, List.set_cons_succ]
      refine wpAnyH_yield 20 56 (.int .i64 (i : Int)) rfl rfl (by kernel_rfl) (by kernel_rfl) (by kernel_rfl) (fun _ _ _ h => h) (by kernel_rfl) (fun W hW => by kernel_rfl) (by assumption) rfl rfl ?_
      simp only [Act.put, List.setIfInBounds_toArray, List.set_cons_zero, List.set_cons_succ]
      refine wpAnyH_yield 21 57 (.pointer (some ⟨b, off + i * 7, none⟩)) rfl rfl (by kernel_rfl) (by kernel_rfl) (by kernel_rfl) (fun _ _ _ h => h) (by kernel_rfl) (fun W hW => by go_simp) (by assumption) rfl rfl ?_
      simp only [Act.put, List.setIfInBounds_toArray, List.set_cons_zero, List.set_cons_succ]
      refine wpAnyH_yield 22 58 (.pointer (some ⟨b, off + i * 7 + 6, none⟩)) rfl rfl (by kernel_rfl) (by kernel_rfl) (by kernel_rfl) (fun _ _ _ h => h) (by kernel_rfl) (fun W hW => by go_simp) (by assumption) rfl rfl ?_
      simp only [Act.put, List.setIfInBounds_toArray, List.set_cons_zero, List.set_cons_succ]
      refine wpAnyH_yield 23 59 (.int .i64 st.t) rfl rfl (by kernel_rfl) (by kernel_rfl) (by kernel_rfl) (fun _ _ _ h => h) (by kernel_rfl) (fun W hW => by have k0 := (SEA.out W hW).2; go_simp) (by assumption) rfl rfl ?_
      simp only [Act.put, List.setIfInBounds_toArray, List.set_cons_zero, List.set_cons_succ]
      obtain ⟨er, H1⟩ := HOLD.out _ hC0
      refine wpAnyH_enter 11 47 21 #[cp q, .string st.nm, .int .i64 st.t] rfl rfl (by kernel_rfl) (by kernel_rfl) (by kernel_rfl) ?_
      refine H1.mono ?_
      rintro e w6 ⟨rfl, t6, H2⟩
      have h6 := hT0.trans t6 (fun _ _ h => h)
      refine ⟨_, rfl, h6, ?_⟩
      simp only [Act.put, List.setIfInBounds_toArray, List.set_cons_zero, List.set_cons_succ]
      refine wpAnyH_enter 12 48 12 #[.int .i64 er] rfl rfl (by kernel_rfl) (by kernel_rfl) (by kernel_rfl) ?_
      refine (num13_any er w6).mono ?_
      rintro e w6' ⟨rfl, hq⟩
      subst hq
      refine ⟨_, rfl, h6, ?_⟩
      simp only [Act.put, List.setIfInBounds_toArray, List.set_cons_zero, List.set_cons_succ]
      refine wpAnyH_enter 24 60 22 #[cp r, .string st.nm, .int .i64 st.t] rfl rfl (by kernel_rfl) (by kernel_rfl) (by kernel_rfl) ?_
      refine (H2 _ (Touch.refl _ _)).mono ?_
      rintro e w7 ⟨rfl, t7, p', ok', c', r', f'⟩
      have h7 := hT0.trans t7 (fun _ _ h => h)
      refine ⟨_, rfl, h7, ?_⟩
      simp only [Act.put, List.setIfInBounds_toArray, List.set_cons_zero, List.set_cons_succ]
      refine wpAnyH_yield 25 61 (.bool false) rfl rfl (by kernel_rfl) (by kernel_rfl) (by kernel_rfl) (fun _ _ _ h => h) (by kernel_rfl) (fun W hW => by go_simp) (by assumption) rfl rfl ?_
      simp only [Act.put, List.setIfInBounds_toArray, List.set_cons_zero, List.set_cons_succ]
      refine wpAnyH_done (by kernel_rfl) ?_ _
      rw [onlyN_normal]
      have NX := hide ((MI.out.still I hC0).step t7 ok' c' r' f')
      have HQ' : Hid (p'.q = q ∧ p'.r = r) := hide (by
        have c1 : cp p'.q = cp p.q := c'
        have c2 : cp p'.r = cp p.r := r'
        simp only [Value.pointer.injEq, Option.some.injEq, Addr.mk.injEq, and_true] at c1 c2
        exact ⟨c1.trans HQ.out, c2.trans HR.out⟩)
      clear ok' c' r' f' t7 h7 H2 h6 t6 H1 HOLD hT0 hC0 SEE SEA MI
      gi_wp2
      go_roundw
      case rel => exact ⟨i + 1, p', by rw [zw], by omega, HQ'.out.1, HQ'.out.2, NX⟩
      case measure => rw [zw]; simp [intOf]; omega
    · have hltz : ¬ (i : Int) < (n : Int) := by omega
      obtain rfl : i = n := by omega
      have HQ := hide eq
      have HR := hide er
      have hLl : p.L.length ≤ 64 := I.len MI.out.ok.1.p
      have hHl : p.H.length ≤ 2300000000000 := Nat.le_trans MI.out.ok.2 HNB.out
      have CC := hide (rcopy_any p.r p.F p.L p.H wr MI.out.ok.1.r (by omega) (by omega))
      rw [er] at CC
      have c7 := (one_cell MI.out.b7).1
      rw [er] at c7
      have HHL := hide hHl
      clear hLl hHl
      gi_wp2
      refine ⟨trivial, (callsIn_wide.2 CC.out).mono ?_⟩
      rintro e w5 ⟨qw, rfl, lq, rk, t5⟩
      clear CC c7
      obtain ⟨lo, lc, ho, hc, rq, -, rh, -, rf⟩ := rk.ex
      obtain ⟨B10, e10⟩ : ∃ B10, B10 = w5.heap.size := ⟨_, rfl⟩
      obtain ⟨w6, ew6⟩ : ∃ w6, w6 = w5.alloc (.cells #[cp qw] 30) := ⟨_, rfl⟩
      have T6 : Calm w5 w6 := by rw [ew6]; exact (Touch.refl _ _).alloc _
      have K10 : Hid (w6.heap[B10]? = some (.cells #[cp qw] 30 (0, 0))) := hide (by rw [ew6, e10]; exact al_new _ _)
      have T56 : Hid (Calm wr w6) := hide (t5.tr T6)
      have KW : Hid (w6.heap[qw]? = some (.cells #[.slice lo p.L.length lc, .slice ho p.H.length hc] 55 (0, 0)) ∧ encH.Own 57 w6 0 (.slice ho p.H.length hc) p.H ∧ (∀ g, (Value.slice ho p.H.length hc).ownBlock = some g → wr.heap.size ≤ g ∧ g < w6.heap.size) ∧ wr.heap.size ≤ qw ∧ qw < w6.heap.size ∧ wr.heap.size ≤ B10) := hide ⟨T6.at rq, Rc.Own.calm rh T6, fun g hg => ⟨(rf g hg).1, Nat.lt_of_lt_of_le (rk.lt g (rf g hg)) T6.size⟩, lq, Nat.lt_of_lt_of_le (lt_of_heap rq) T6.size, by rw [e10]; exact t5.size⟩
      have c5 := (one_cell ((t5.tr T6).at MI.out.b5)).1
      rw [eq] at c5
      rw [ew6] at c5
      clear rk rq rh rf lq t5 T6
      gi_wp2
      rw [← e10, ← ew6]
      have CH := hide (I.holds (I.calm MI.out.ok.1.p T56.out) (show p.H.length ≤ 4600000000000 by have := HHL.out; omega))
      rw [eq] at CH
      clear c5 e10 ew6
      refine ⟨trivial, (callsIn_wide.2 CH.out).mono ?_⟩
      rintro e w7 ⟨fv, rfl, t7, gf, lb, rfl, eg, AA, hAA, sq⟩
      have hx := fun_not_nil gf lb w7
      have SQ := hide sq
      have EG := hide eg
      have HAA := hide hAA
      have T7 := hide t7
      clear sq eg hAA t7 CH eq er
      gi_wp2
      clear hx
      obtain ⟨B12, e12⟩ : ∃ B12, B12 = w7.heap.size := ⟨_, rfl⟩
      obtain ⟨w8, ew8⟩ : ∃ w8, w8 = w7.alloc (.cells #[.int .i64 0] 3) := ⟨_, rfl⟩
      have T8 : Calm w7 w8 := by rw [ew8]; exact (Touch.refl _ _).alloc _
      have K12 : w8.heap[B12]? = some (.cells #[.int .i64 0] 3 (0, 0)) := by rw [ew8, e12]; exact al_new _ _
      have M8 : Hid (∀ W, Calm w8 W → w8.heap.size + 2 ≤ W.heap.size → Mr Pk w B3 B4 B5 B7 B10 B12 wr.heap.size w8.heap.size W.heap.size (.slice mo m mc) p qw (.slice lo p.L.length lc) ho hc i 0 W) := hide fun W hW hz => by
        obtain ⟨kw1, kw2, kw3, kw4, kw5, kw6⟩ := KW.out
        have t68 : Calm w6 W := (T7.out.tr T8).tr hW
        have s7 := T7.out.size
        have s8 := T8.size
        have l12 := lt_of_heap K12
        have l10 := lt_of_heap K10.out
        have s56 := T56.out.size
        have cs := MI.out.calm.size
        refine ⟨⟨p, ?_, rfl, rfl, fun g hg => .inl hg⟩, t68.at K10.out, hW.at K12, t68.at kw1, Rc.Own.calm kw2 t68, Nat.le_refl _, ⟨kw6, by omega, by omega, l12, kw4, by omega, by omega, fun g hg => ⟨(kw3 g hg).1, by have := (kw3 g hg).2; omega⟩, by omega⟩, ⟨cs, lt_of_heap MI.out.b3, lt_of_heap MI.out.b4, lt_of_heap MI.out.b5, lt_of_heap MI.out.b7⟩, fun g hg => okO_lt I MI.out.ok g hg⟩
        exact MI.out.frame I (T56.out.tr t68) (fun g hg => .inr hg)
      have HA8 : Hid (∀ W, Calm w8 W → AA W) := hide fun W hW => HAA.out W (T8.tr hW)
      have HS8 : Hid (∀ g, fpO (some p) g ∨ g = B12 → g < w8.heap.size) := hide fun g hg => by
        rcases hg with hg | hg
        · have := okO_lt I MI.out.ok g hg
          have := T56.out.size
          have := T7.out.size
          have := T8.size
          omega
        · rw [hg]; exact lt_of_heap K12
      rw [← e12, ← ew8]
      clear e12 ew8 T8 K12 HAA KW T56 K10 T7 MI
      generalize hN0 : wr.heap.size = N0 at *
      clear hN0
      refine wpIn_rangeT (gf := gf) (lb := lb) rfl EG.out SQ.out (fun _ => rfl) (fun g => fpO (some p) g ∨ g = B12) (fun g h => HS8.out g h) (fun W h => HA8.out W h)
        (fun T k W => Mr Pk w B3 B4 B5 B7 B10 B12 N0 w8.heap.size T (.slice mo m mc) p qw (.slice lo p.L.length lc) ho hc i k W) (fun c k W => False)
        (fun T _ x a' W => ∃ f : Nat → Value, a' = { tmps := #[f 0, f 1, f 2, .pointer (some ⟨B3, 0, none⟩), .pointer (some ⟨B4, 0, none⟩), .pointer (some ⟨B5, 0, none⟩), f 6, .pointer (some ⟨B7, 0, none⟩), f 8, f 9, .pointer (some ⟨B10, 0, none⟩), f 11, .pointer (some ⟨B12, 0, none⟩), .string x.n, .int .i64 x.t, f 15, f 16, f 17, f 18, f 19, f 20, f 21, f 22, f 23, f 24, f 25, f 26, f 27, f 28, f 29, f 30, f 31, f 32, f 33, f 34, f 35, f 36, f 37, f 38, f 39, f 40, f 41, f 42, f 43, f 44, f 45, f 46, f 47, f 48, f 49, f 50, f 51, f 52, f 53, f 54, f 55, f 56, f 57, f 58, f 59, f 60, f 61, f 62, f 63, f 64, f 65, f 66, f 67, f 68, f 69, f 70, f 71, f 72, f 73, f 74, f 75, f 76, f 77, f 78, f 79, f 80, f 81, f 82, f 83, f 84, f 85, f 86, f 87, f 88, f 89, f 90, f 91, f 92, f 93, f 94, f 95, f 96, f 97, f 98, f 99, f 100, f 101, f 102, f 103, f 104, f 105, f 106, f 107, f 108, f 109, f 110, f 111, f 112, f 113, f 114, f 115, f 116, f 117, f 118, f 119, f 120, f 121, f 122, f 123, f 124, f 125, f 126, f 127, f 128, f 129, f 130, f 131, f 132, f 133, f 134, f 135, f 136, f 137], defers := [] })
        (fun W h hz => M8.out W h hz) (fun T k W W' h ht => h.still I ht)
        (fun T k W o hT h => h.turn I (touch_put W _ o) (fun g e => by omega)) (fun c k W o h => h.elim) (fun T k x a' W o _ h => h) ?assign ?body ?done ?stop
      case assign =>
        rintro l T k x W K hT hi hkm hx hK
        have HK := hide hK
        have HI := hide hi
        clear hK hi
        simp only [encY]
        gi_wp2
        exact HK.out _ _ (Touch.refl _ _) HI.out ⟨fun i => Array.getD #[_, _, _, undef, undef, undef, _, undef, _, _, undef, _, undef, undef, undef, _, _, _, _, _, _, _, _, _, _, _, _, _, _, _, _, _, _, _, _, _, _, _, _, _, _, _, _, _, _, _, _, _, _, _, _, _, _, _, _, _, _, _, _, _, _, _, _, _, _, _, _, _, _, _, _, _, _, _, _, _, _, _, _, _, _, _, _, _, _, _, _, _, _, _, _, _, _, _, _, _, _, _, _, _, _, _, _, _, _, _, _, _, _, _, _, _, _, _, _, _, _, _, _, _, _, _, _, _, _, _, _, _, _, _, _, _, _, _, _, _, _, _] i undef, rfl⟩
      case body =>
        rintro l T k x a' W hT hi hkm hx ⟨f, rfl⟩
        clear M8 SQ EG HA8
        obtain ⟨p9, mw, eq9, er9, f9⟩ := hi.ex
        have hxe : p.H.getD k hd0 = x := by rw [List.getD_eq_getElem?_getD, hx]; rfl
        obtain ⟨b, off, eho, -, -⟩ := hd_at (Rc.Own.mem hi.row).2.1 k hkm
        have SEE : Hid (∀ W', Calm W W' → W'.cell? ⟨B12, 0, none⟩ = some (.int .i64 (k : Int)) ∧ W'.cell? ⟨B10, 0, none⟩ = some (cp qw) ∧ W'.cell? ⟨qw, 1, none⟩ = some (.slice ho p.H.length hc) ∧ W'.cell? ⟨b, off + k * 2, none⟩ = some (.string x.n) ∧ W'.cell? ⟨b, off + k * 2 + 1, none⟩ = some (.int .i64 x.t)) := hide fun W' hW => by
          have h9 := hi.still I hW
          obtain ⟨b', off', e', d0, d1⟩ := hd_at (Rc.Own.mem h9.row).2.1 k hkm
          rw [eho] at e'
          injection e' with e'
          injection e' with e1 e2
          subst e1 e2
          rw [hxe] at d0 d1
          exact ⟨(one_cell h9.b12).1, (one_cell h9.b10).1, (rk_cells h9.was).2, d0, d1⟩
        have hki : (k : Int) < (p.H.length : Int) := by omega
        have hkd : decide ((p.H.length : Int) ≤ (k : Int)) = false := decide_eq_false (by omega)
        have HI := hide hi
        have HKB : Hid (i + k ≤ 4600000000000) := hide (by have := HHL.out; have := HNB.out; omega)
        have zw : wrap64 ((k : Int) + 1) = ((k + 1 : Nat) : Int) := by have := HHL.out; unfold wrap64; omega
        have HMW := hide mw
        have HE9 : Hid (p9.q = p.q ∧ p9.r = p.r ∧ ∀ g, fpO (some p9) g → fpO (some p) g ∨ T ≤ g) := hide ⟨eq9, er9, f9⟩
        have HKN := hide hkm
        subst eho
        clear hi hx hxe mw eq9 er9 f9 hkm
        gi_upto_region 18 with fail
        refine region_held_round (S := Calm W) (by kernel_rfl) (by kernel_rfl) ?_
        have hT0 : Calm W { W with drawn := W.drawn + 1 } := (Touch.refl _ W).drew
        refine wpAnyH_yield 0 71 (.int .i64 (k : Int)) rfl rfl (by kernel_rfl) (by kernel_rfl) (by kernel_rfl) (fun _ _ _ h => h) (by kernel_rfl) (fun W hW => by obtain ⟨k0, -⟩ := SEE.out _ hW; go_simp) (by assumption) rfl rfl ?_
        simp only [Act.put, List.setIfInBounds_toArray, List.set_cons_zero, List.set_cons_succ]
        refine wpAnyH_yield 1 72 (cp qw) rfl rfl (by kernel_rfl) (by kernel_rfl) (by kernel_rfl) (fun _ _ _ h => h) (by kernel_rfl) (fun W hW => by obtain ⟨-, k0, -⟩ := SEE.out _ hW; go_simp) (by assumption) rfl rfl ?_
        simp only [Act.put, List.setIfInBounds_toArray, List.set_cons_zero, List.set_cons_succ]
        refine wpAnyH_yield 2 73 (cp qw) rfl rfl (by kernel_rfl) (by kernel_rfl) (by kernel_rfl) (fun _ _ _ h => h) (by kernel_rfl) (fun W hW => by go_simp) (by assumption) rfl rfl ?_
        simp only [Act.put, List.setIfInBounds_toArray, List.set_cons_zero, List.set_cons_succ]
        refine wpAnyH_yield 3 74 (.pointer (some ⟨qw, 1, none⟩)) rfl rfl (by kernel_rfl) (by kernel_rfl) (by kernel_rfl) (fun _ _ _ h => h) (by kernel_rfl) (fun W hW => by go_simp) (by assumption) rfl rfl ?_
        simp only [Act.put, List.setIfInBounds_toArray, List.set_cons_zero, List.set_cons_succ]
        refine wpAnyH_yield 4 75 (.slice (some ⟨b, off, none⟩) p.H.length hc) rfl rfl (by kernel_rfl) (by kernel_rfl) (by kernel_rfl) (fun _ _ _ h => h) (by kernel_rfl) (fun W hW => by obtain ⟨-, -, k0, -⟩ := SEE.out _ hW; go_simp) (by assumption) rfl rfl ?_
        simp only [Act.put, List.setIfInBounds_toArray, List.set_cons_zero, List.set_cons_succ]
        refine wpAnyH_yield 5 76 (.int .i64 (p.H.length : Int)) rfl rfl (by kernel_rfl) (by kernel_rfl) (by kernel_rfl) (fun _ _ _ h => h) (by kernel_rfl) (fun W hW => by go_simp) (by assumption) rfl rfl ?_
        simp only [Act.put, List.setIfInBounds_toArray, List.set_cons_zero, List.set_cons_succ]
        refine wpAnyH_yield 6 77 (.bool false) rfl rfl (by kernel_rfl) (by kernel_rfl) (by kernel_rfl) (fun _ _ _ h => h) (by kernel_rfl) (fun W hW => by go_simp; exact HKN.out) (by assumption) rfl rfl ?_
        simp only [Act.put, List.setIfInBounds_toArray, List.set_cons_zero, List.set_cons_succ]
        refine wpAnyH_yield 7 78 (.bool false) rfl rfl (by kernel_rfl) (by kernel_rfl) (by kernel_rfl) (fun _ _ _ h => h) (by kernel_rfl) (fun W hW => by kernel_rfl) (by assumption) rfl rfl ?_
        simp only [Act.put, List.setIfInBounds_toArray, List.set_cons_zero, List.set_cons_succ]
        refine wpAnyH_yield 8 79 (.string x.n) rfl rfl (by kernel_rfl) (by kernel_rfl) (by kernel_rfl) (fun _ _ _ h => h) (by kernel_rfl) (fun W hW => by kernel_rfl) (by assumption) rfl rfl ?_
        simp only [Act.put, List.setIfInBounds_toArray, List.set_cons_zero, List.set_cons_succ]
        refine wpAnyH_yield 9 80 (cp qw) rfl rfl (by kernel_rfl) (by kernel_rfl) (by kernel_rfl) (fun _ _ _ h => h) (by kernel_rfl) (fun W hW => by obtain ⟨-, k0, -⟩ := SEE.out _ hW; go_simp) (by assumption) rfl rfl ?_
        simp only [Act.put, List.setIfInBounds_toArray, List.set_cons_zero, List.set_cons_succ]
        refine wpAnyH_yield 10 81 (cp qw) rfl rfl (by kernel_rfl) (by kernel_rfl) (by kernel_rfl) (fun _ _ _ h => h) (by kernel_rfl) (fun W hW => by go_simp) (by assumption) rfl rfl ?_
        simp only [Act.put, List.setIfInBounds_toArray, List.set_cons_zero, List.set_cons_succ]
        refine wpAnyH_yield 11 82 (.pointer (some ⟨qw, 1, none⟩)) rfl rfl (by kernel_rfl) (by kernel_rfl) (by kernel_rfl) (fun _ _ _ h => h) (by kernel_rfl) (fun W hW => by go_simp) (by assumption) rfl rfl ?_
        simp only [Act.put, List.setIfInBounds_toArray, List.set_cons_zero, List.set_cons_succ]
        refine wpAnyH_yield 12 83 (.slice (some ⟨b, off, none⟩) p.H.length hc) rfl rfl (by kernel_rfl) (by kernel_rfl) (by kernel_rfl) (fun _ _ _ h => h) (by kernel_rfl) (fun W hW => by obtain ⟨-, -, k0, -⟩ := SEE.out _ hW; go_simp) (by assumption) rfl rfl ?_
        simp only [Act.put, List.setIfInBounds_toArray, List.set_cons_zero, List.set_cons_succ]
        refine wpAnyH_yield 13 84 (.int .i64 (k : Int)) rfl rfl (by kernel_rfl) (by kernel_rfl) (by kernel_rfl) (fun _ _ _ h => h) (by kernel_rfl) (fun W hW => by obtain ⟨k0, -⟩ := SEE.out _ hW; go_simp) (by assumption) rfl rfl ?_
        simp only [Act.put, List.setIfInBounds_toArray, List.set_cons_zero, List.set_cons_succ]
        refine wpAnyH_yield 14 85 (.pointer (some ⟨b, off + k * 2, none⟩)) rfl rfl (by kernel_rfl) (by kernel_rfl) (by kernel_rfl) (fun _ _ _ h => h) (by kernel_rfl) (fun W hW => by go_simp) (by assumption) rfl rfl ?_
        simp only [Act.put, List.setIfInBounds_toArray, List.set_cons_zero, List.set_cons_succ]
        refine wpAnyH_yield 15 86 (.pointer (some ⟨b, off + k * 2, none⟩)) rfl rfl (by kernel_rfl) (by kernel_rfl) (by kernel_rfl) (fun _ _ _ h => h) (by kernel_rfl) (fun W hW => by go_simp) (by assumption) rfl rfl ?_
        simp only [Act.put, List.setIfInBounds_toArray, List.set_cons_zero, List.set_cons_succ]
        refine wpAnyH_yield 16 87 (.string x.n) rfl rfl (by kernel_rfl) (by kernel_rfl) (by kernel_rfl) (fun _ _ _ h => h) (by kernel_rfl) (fun W hW => by obtain ⟨-, -, -, k0, -⟩ := SEE.out _ hW; go_simp) (by assumption) rfl rfl ?_
        simp only [Act.put, List.setIfInBounds_toArray, List.set_cons_zero, List.set_cons_succ]
        refine wpAnyH_yield 17 88 (.bool false) rfl rfl (by kernel_rfl) (by kernel_rfl) (by kernel_rfl) (fun _ _ _ h => h) (by kernel_rfl) (fun W hW => by go_simp) (by assumption) rfl rfl ?_
        simp only [Act.put, List.setIfInBounds_toArray, List.set_cons_zero, List.set_cons_succ]
        refine wpAnyH_yield 18 89 (.bool false) rfl rfl (by kernel_rfl) (by kernel_rfl) (by kernel_rfl) (fun _ _ _ h => h) (by kernel_rfl) (fun W hW => by kernel_rfl) (by assumption) rfl rfl ?_
        simp only [Act.put, List.setIfInBounds_toArray, List.set_cons_zero, List.set_cons_succ]
        refine wpAnyH_yield 19 90 (.bool false) rfl rfl (by kernel_rfl) (by kernel_rfl) (by kernel_rfl) (fun _ _ _ h => h) (by kernel_rfl) (fun W hW => by kernel_rfl) (by assumption) rfl rfl ?_
        simp only [Act.put, List.setIfInBounds_toArray, List.set_cons_zero, List.set_cons_succ]
        refine wpAnyH_yield 20 91 (.int .i64 x.t) rfl rfl (by kernel_rfl) (by kernel_rfl) (by kernel_rfl) (fun _ _ _ h => h) (by kernel_rfl) (fun W hW => by kernel_rfl) (by assumption) rfl rfl ?_
        simp only [Act.put, List.setIfInBounds_toArray, List.set_cons_zero, List.set_cons_succ]
        refine wpAnyH_yield 21 92 (cp qw) rfl rfl (by kernel_rfl) (by kernel_rfl) (by kernel_rfl) (fun _ _ _ h => h) (by kernel_rfl) (fun W hW => by obtain ⟨-, k0, -⟩ := SEE.out _ hW; go_simp) (by assumption) rfl rfl ?_
        simp only [Act.put, List.setIfInBounds_toArray, List.set_cons_zero, List.set_cons_succ]
        refine wpAnyH_yield 22 93 (cp qw) rfl rfl (by kernel_rfl) (by kernel_rfl) (by kernel_rfl) (fun _ _ _ h => h) (by kernel_rfl) (fun W hW => by go_simp) (by assumption) rfl rfl ?_
        simp only [Act.put, List.setIfInBounds_toArray, List.set_cons_zero, List.set_cons_succ]
        refine wpAnyH_yield 23 94 (.pointer (some ⟨qw, 1, none⟩)) rfl rfl (by kernel_rfl) (by kernel_rfl) (by kernel_rfl) (fun _ _ _ h => h) (by kernel_rfl) (fun W hW => by go_simp) (by assumption) rfl rfl ?_
        simp only [Act.put, List.setIfInBounds_toArray, List.set_cons_zero, List.set_cons_succ]
        refine wpAnyH_yield 24 95 (.slice (some ⟨b, off, none⟩) p.H.length hc) rfl rfl (by kernel_rfl) (by kernel_rfl) (by kernel_rfl) (fun _ _ _ h => h) (by kernel_rfl) (fun W hW => by obtain ⟨-, -, k0, -⟩ := SEE.out _ hW; go_simp) (by assumption) rfl rfl ?_
        simp only [Act.put, List.setIfInBounds_toArray, List.set_cons_zero, List.set_cons_succ]
        refine wpAnyH_yield 25 96 (.int .i64 (k : Int)) rfl rfl (by kernel_rfl) (by kernel_rfl) (by kernel_rfl) (fun _ _ _ h => h) (by kernel_rfl) (fun W hW => by obtain ⟨k0, -⟩ := SEE.out _ hW; go_simp) (by assumption) rfl rfl ?_
        simp only [Act.put, List.setIfInBounds_toArray, List.set_cons_zero, List.set_cons_succ]
        refine wpAnyH_yield 26 97 (.pointer (some ⟨b, off + k * 2, none⟩)) rfl rfl (by kernel_rfl) (by kernel_rfl) (by kernel_rfl) (fun _ _ _ h => h) (by kernel_rfl) (fun W hW => by go_simp) (by assumption) rfl rfl ?_
        simp only [Act.put, List.setIfInBounds_toArray, List.set_cons_zero, List.set_cons_succ]
        refine wpAnyH_yield 27 98 (.pointer (some ⟨b, off + k * 2 + 1, none⟩)) rfl rfl (by kernel_rfl) (by kernel_rfl) (by kernel_rfl) (fun _ _ _ h => h) (by kernel_rfl) (fun W hW => by go_simp) (by assumption) rfl rfl ?_
        simp only [Act.put, List.setIfInBounds_toArray, List.set_cons_zero, List.set_cons_succ]
        refine wpAnyH_yield 28 99 (.int .i64 x.t) rfl rfl (by kernel_rfl) (by kernel_rfl) (by kernel_rfl) (fun _ _ _ h => h) (by kernel_rfl) (fun W hW => by obtain ⟨-, -, -, -, k0⟩ := SEE.out _ hW; go_simp) (by assumption) rfl rfl ?_
        simp only [Act.put, List.setIfInBounds_toArray, List.set_cons_zero, List.set_cons_succ]
        refine wpAnyH_yield 29 100 (.bool false) rfl rfl (by kernel_rfl) (by kernel_rfl) (by kernel_rfl) (fun _ _ _ h => h) (by kernel_rfl) (fun W hW => by go_simp) (by assumption) rfl rfl ?_
        simp only [Act.put, List.setIfInBounds_toArray, List.set_cons_zero, List.set_cons_succ]
        refine wpAnyH_yield 30 101 (.bool false) rfl rfl (by kernel_rfl) (by kernel_rfl) (by kernel_rfl) (fun _ _ _ h => h) (by kernel_rfl) (fun W hW => by kernel_rfl) (by assumption) rfl rfl ?_
        simp only [Act.put, List.setIfInBounds_toArray, List.set_cons_zero, List.set_cons_succ]
        refine wpAnyH_done (by kernel_rfl) (plainly_mk ?_) _
        have HD := hide (HI.out.still I hT0)
        have HMD := hide (HMW.out.still I hT0)
        have TD := hide hT0
        generalize ({ W with drawn := W.drawn + 1 } : World) = wD at *
        clear SEE HI HMW hT0 hki hkd
        gi_upto_region 20 with fail
        have hOUT : Hid (∀ g, fpO (some p9) g → g < N0 ∨ T ≤ g) := hide fun g hg => (HE9.out.2.2 g hg).imp (HD.out.f0 g) id
        have SEE : Hid (∀ W', Touch (fpO (some p9)) wD W' → W'.cell? ⟨B12, 0, none⟩ = some (.int .i64 (k : Int)) ∧ W'.cell? ⟨B3, 0, none⟩ = some (.slice mo m mc) ∧ W'.cell? ⟨B5, 0, none⟩ = some (cp q) ∧ W'.cell? ⟨B7, 0, none⟩ = some (cp r) ∧ Calm w W') := hide fun W' hW => by
          obtain ⟨l1, l2, l3, l4, l5, l6, l7, l8, l9⟩ := HD.out.lt
          have h5 := HMD.out.b5
          have h7 := HMD.out.b7
          rw [HE9.out.1, HQ.out] at h5
          rw [HE9.out.2.1, HR.out] at h7
          exact ⟨(one_cell (hW.heap HD.out.b12 (fun s => by have := hOUT.out _ s; omega))).1, (one_cell (hW.heap HMD.out.b3 (fun s => (HMD.out.fp _ s).2.1 rfl))).1, (one_cell (hW.heap h5 (fun s => (HMD.out.fp _ s).2.2.2.1 rfl))).1, (one_cell (hW.heap h7 (fun s => (HMD.out.fp _ s).2.2.2.2.1 rfl))).1, HMD.out.calm.trans hW (fun g hg s => by have := (HMD.out.fp g s).1; omega)⟩
        by_cases hkm : k < m
        · have hkmz : (k : Int) < (m : Int) := by omega
          obtain ⟨mb, moff, emo, -⟩ := stp_at HM.out k (by have := HMN.out; omega)
          have SEA : Hid (∀ W', Touch (fpO (some p9)) wD W' → W'.cell? ⟨mb, moff + k * 7, none⟩ = some (.int .i64 (M.getD k stp0).k) ∧ W'.cell? ⟨mb, moff + k * 7 + 1, none⟩ = some (.int .i64 (M.getD k stp0).who) ∧ W'.cell? ⟨mb, moff + k * 7 + 2, none⟩ = some (.int .i64 (M.getD k stp0).to) ∧ W'.cell? ⟨mb, moff + k * 7 + 3, none⟩ = some (.int .i64 (M.getD k stp0).src) ∧ W'.cell? ⟨mb, moff + k * 7 + 4, none⟩ = some (.int .i64 (M.getD k stp0).lv) ∧ W'.cell? ⟨mb, moff + k * 7 + 5, none⟩ = some (.string (M.getD k stp0).nm) ∧ W'.cell? ⟨mb, moff + k * 7 + 6, none⟩ = some (.int .i64 (M.getD k stp0).t)) := hide fun W' hW => by
            obtain ⟨b', off', e', h9⟩ := stp_at (Rc.Mem.calm HM.out (SEE.out W' hW).2.2.2.2) k (by have := HMN.out; omega)
            rw [emo] at e'
            injection e' with e'
            injection e' with e1 e2
            subst e1 e2
            exact h9
          subst emo
          have PL := hide (fun W' (hW : Calm wD W') => playsO I J (some p9) (M.getD k stp0) W' ((HMD.out.still I hW).ok) (show i + k ≤ 4600000000000 from HKB.out))
          have ecv : cvO (some p9) = cp q := by show cp p9.q = cp q; rw [HE9.out.1, HQ.out]
          have erv : rvO (some p9) = cp r := by show cp p9.r = cp r; rw [HE9.out.2.1, HR.out]
          rw [ecv, erv] at PL
          generalize M.getD k stp0 = st at *
          refine region_held_round (S := Touch (fpO (some p9)) wD) (by kernel_rfl) (by kernel_rfl) ?_
          have hT0 : Touch (fpO (some p9)) wD { wD with drawn := wD.drawn + 1 } := (Touch.refl _ wD).drew
          have hC0 : Calm wD { wD with drawn := wD.drawn + 1 } := (Touch.refl _ wD).drew
          refine wpAnyH_yield 0 102 (.int .i64 (k : Int)) rfl rfl (by kernel_rfl) (by kernel_rfl) (by kernel_rfl) (fun _ _ _ h => h) (by kernel_rfl) (fun W hW => by obtain ⟨k0, -⟩ := SEE.out _ hW; go_simp) (by assumption) rfl rfl ?_
          simp only [Act.put, List.setIfInBounds_toArray, List.set_cons_zero, List.set_cons_succ]
          refine wpAnyH_yield 1 103 (.slice (some ⟨mb, moff, none⟩) m mc) rfl rfl (by kernel_rfl) (by kernel_rfl) (by kernel_rfl) (fun _ _ _ h => h) (by kernel_rfl) (fun W hW => by obtain ⟨-, k0, -⟩ := SEE.out _ hW; go_simp) (by assumption) rfl rfl ?_
          simp only [Act.put, List.setIfInBounds_toArray, List.set_cons_zero, List.set_cons_succ]
          refine wpAnyH_yield 2 104 (.int .i64 (m : Int)) rfl rfl (by kernel_rfl) (by kernel_rfl) (by kernel_rfl) (fun _ _ _ h => h) (by kernel_rfl) (fun W hW => by go_simp) (by assumption) rfl rfl ?_
          simp only [Act.put, List.setIfInBounds_toArray, List.set_cons_zero, List.set_cons_succ]
          refine wpAnyH_yield 3 105 (.bool true) rfl rfl (by kernel_rfl) (by kernel_rfl) (by kernel_rfl) (fun _ _ _ h => h) (by kernel_rfl) (fun W hW => by go_simp) (by assumption) rfl rfl ?_
          simp only [Act.put, List.setIfInBounds_toArray, List.set_cons_zero, List.set_cons_succ]
          refine wpAnyH_yield 4 106 (.bool true) rfl rfl (by kernel_rfl) (by kernel_rfl) (by kernel_rfl) (fun _ _ _ h => h) (by kernel_rfl) (fun W hW => by kernel_rfl) (by assumption) rfl rfl ?_
          simp only [Act.put, List.setIfInBounds_toArray, List.set_cons_zero, List.set_cons_succ]
          refine wpAnyH_yield 5 107 (cp q) rfl rfl (by kernel_rfl) (by kernel_rfl) (by kernel_rfl) (fun _ _ _ h => h) (by kernel_rfl) (fun W hW => by obtain ⟨-, -, k0, -⟩ := SEE.out _ hW; go_simp) (by assumption) rfl rfl ?_
          simp only [Act.put, List.setIfInBounds_toArray, List.set_cons_zero, List.set_cons_succ]
          refine wpAnyH_yield 6 108 (cp r) rfl rfl (by kernel_rfl) (by kernel_rfl) (by kernel_rfl) (fun _ _ _ h => h) (by kernel_rfl) (fun W hW => by obtain ⟨-, -, -, k0, -⟩ := SEE.out _ hW; go_simp) (by assumption) rfl rfl ?_
          simp only [Act.put, List.setIfInBounds_toArray, List.set_cons_zero, List.set_cons_succ]
          refine wpAnyH_yield 7 109 (.slice (some ⟨mb, moff, none⟩) m mc) rfl rfl (by kernel_rfl) (by kernel_rfl) (by kernel_rfl) (fun _ _ _ h => h) (by kernel_rfl) (fun W hW => by obtain ⟨-, k0, -⟩ := SEE.out _ hW; go_simp) (by assumption) rfl rfl ?_
          simp only [Act.put, List.setIfInBounds_toArray, List.set_cons_zero, List.set_cons_succ]
          refine wpAnyH_yield 8 110 (.int .i64 (k : Int)) rfl rfl (by kernel_rfl) (by kernel_rfl) (by kernel_rfl) (fun _ _ _ h => h) (by kernel_rfl) (fun W hW => by obtain ⟨k0, -⟩ := SEE.out _ hW; go_simp) (by assumption) rfl rfl ?_
          simp only [Act.put, List.setIfInBounds_toArray, List.set_cons_zero, List.set_cons_succ]
          refine wpAnyH_yield 9 111 (.pointer (some ⟨mb, moff + k * 7, none⟩)) rfl rfl (by kernel_rfl) (by kernel_rfl) (by kernel_rfl) (fun _ _ _ h => h) (by kernel_rfl) (fun W hW => by go_simp) (by assumption) rfl rfl ?_
          simp only [Act.put, List.setIfInBounds_toArray, List.set_cons_zero, List.set_cons_succ]
          refine wpAnyH_yield 10 112 (.agg (stpc st)) rfl rfl (by kernel_rfl) (by kernel_rfl) (by kernel_rfl) (fun _ _ _ h => h) (by kernel_rfl) (fun W hW => by obtain ⟨k0, k1, k2, k3, k4, k5, k6⟩ := SEA.out _ hW; go_simp) (by assumption) rfl rfl ?_
          simp only [Act.put, List.setIfInBounds_toArray, List.set_cons_zero, List.set_cons_succ]
          refine wpAnyH_enter 11 113 17 #[cp q, cp r, .agg (stpc st)] rfl rfl (by kernel_rfl) (by kernel_rfl) (by kernel_rfl) ?_
          refine (PL.out _ hC0).mono ?_
          rintro e w2 ⟨rfl, t2, o2, ok2, c2, r2, f2⟩
          have h2 := hT0.trans t2 (fun _ _ h => h)
          refine ⟨_, rfl, h2, ?_⟩
          simp only [Act.put, List.setIfInBounds_toArray, List.set_cons_zero, List.set_cons_succ]
          refine wpAnyH_yield 12 114 (.bool false) rfl rfl (by kernel_rfl) (by kernel_rfl) (by kernel_rfl) (fun _ _ _ h => h) (by kernel_rfl) (fun W hW => by go_simp) (by assumption) rfl rfl ?_
          simp only [Act.put, List.setIfInBounds_toArray, List.set_cons_zero, List.set_cons_succ]
          refine wpAnyH_yield 13 115 (.bool false) rfl rfl (by kernel_rfl) (by kernel_rfl) (by kernel_rfl) (fun _ _ _ h => h) (by kernel_rfl) (fun W hW => by kernel_rfl) (by assumption) rfl rfl ?_
          simp only [Act.put, List.setIfInBounds_toArray, List.set_cons_zero, List.set_cons_succ]
          refine wpAnyH_done (by kernel_rfl) (plainly_mk ?_) _
          cases o2 with
          | none => cases c2
          | some p2 =>
            have c2' : cp p2.q = cp q := c2
            have r2' : cp p2.r = cp r := r2
            simp only [Value.pointer.injEq, Option.some.injEq, Addr.mk.injEq, and_true] at c2' r2'
            have M2 := (HMD.out.still I hC0).step t2 ok2 (by show cp p2.q = cp p9.q; rw [c2', HE9.out.1, HQ.out]) (by show cp p2.r = cp p9.r; rw [r2', HE9.out.2.1, HR.out]) f2
            have NX := HD.out.next I HE9.out.2.2 HE9.out.1 HE9.out.2.1 h2 M2 (by rw [c2', HE9.out.1, HQ.out]) (by rw [r2', HE9.out.2.1, HR.out]) (fun g hg => (f2 g hg).imp id fun h => Nat.le_trans hC0.size h)
            have k12 := (one_cell NX.1).1
            have f12 := (one_cell NX.1).2
            have HX : Hid (Mr Pk w B3 B4 B5 B7 B10 B12 N0 w8.heap.size T (.slice (some ⟨mb, moff, none⟩) m mc) p qw (.slice lo p.L.length lc) (some ⟨b, off, none⟩) hc i (k + 1) (w2.setCell ⟨B12, 0, none⟩ (.int .i64 ((k + 1 : Nat) : Int))) ∧ Touch (fun g => (fpO (some p) g ∨ g = B12) ∨ T ≤ g) W (w2.setCell ⟨B12, 0, none⟩ (.int .i64 ((k + 1 : Nat) : Int)))) := hide ⟨NX.2.1, (TD.out.mono fun _ _ h => h.elim).trans NX.2.2 (fun _ _ h => h)⟩
            clear NX M2 c2 r2 c2' r2' f2 ok2 t2 h2 hT0 hC0 PL SEA SEE HD HMD TD
            gi_wp2
            exact ⟨HX.out.2, HX.out.1⟩
        · have hkmz : ¬ (k : Int) < (m : Int) := by omega
          refine region_held_round (S := Touch (fpO (some p9)) wD) (by kernel_rfl) (by kernel_rfl) ?_
          have hT0 : Touch (fpO (some p9)) wD { wD with drawn := wD.drawn + 1 } := (Touch.refl _ wD).drew
          have hC0 : Calm wD { wD with drawn := wD.drawn + 1 } := (Touch.refl _ wD).drew
          refine wpAnyH_yield 0 102 (.int .i64 (k : Int)) rfl rfl (by kernel_rfl) (by kernel_rfl) (by kernel_rfl) (fun _ _ _ h => h) (by kernel_rfl) (fun W hW => by obtain ⟨k0, -⟩ := SEE.out _ hW; go_simp) (by assumption) rfl rfl ?_
          simp only [Act.put, List.setIfInBounds_toArray, List.set_cons_zero, List.set_cons_succ]
          refine wpAnyH_yield 1 103 (.slice mo m mc) rfl rfl (by kernel_rfl) (by kernel_rfl) (by kernel_rfl) (fun _ _ _ h => h) (by kernel_rfl) (fun W hW => by obtain ⟨-, k0, -⟩ := SEE.out _ hW; go_simp) (by assumption) rfl rfl ?_
          simp only [Act.put, List.setIfInBounds_toArray, List.set_cons_zero, List.set_cons_succ]
          refine wpAnyH_yield 2 104 (.int .i64 (m : Int)) rfl rfl (by kernel_rfl) (by kernel_rfl) (by kernel_rfl) (fun _ _ _ h => h) (by kernel_rfl) (fun W hW => by go_simp) (by assumption) rfl rfl ?_
          simp only [Act.put, List.setIfInBounds_toArray, List.set_cons_zero, List.set_cons_succ]
          refine wpAnyH_yield 3 105 (.bool false) rfl rfl (by kernel_rfl) (by kernel_rfl) (by kernel_rfl) (fun _ _ _ h => h) (by kernel_rfl) (fun W hW => by go_simp) (by assumption) rfl rfl ?_
          simp only [Act.put, List.setIfInBounds_toArray, List.set_cons_zero, List.set_cons_succ]
          refine wpAnyH_yield 4 106 (.bool false) rfl rfl (by kernel_rfl) (by kernel_rfl) (by kernel_rfl) (fun _ _ _ h => h) (by kernel_rfl) (fun W hW => by kernel_rfl) (by assumption) rfl rfl ?_
          simp only [Act.put, List.setIfInBounds_toArray, List.set_cons_zero, List.set_cons_succ]
          refine wpAnyH_skip 5 107 rfl rfl (by kernel_rfl) (by kernel_rfl) (by kernel_rfl) (fun _ _ _ h => h) (by kernel_rfl) (by assumption) rfl rfl ?_
          simp only [Act.put, List.setIfInBounds_toArray, List.set_cons_zero, List.set_cons_succ]
          refine wpAnyH_skip 6 108 rfl rfl (by kernel_rfl) (by kernel_rfl) (by kernel_rfl) (fun _ _ _ h => h) (by kernel_rfl) (by assumption) rfl rfl ?_
          simp only [Act.put, List.setIfInBounds_toArray, List.set_cons_zero, List.set_cons_succ]
          refine wpAnyH_skip 7 109 rfl rfl (by kernel_rfl) (by kernel_rfl) (by kernel_rfl) (fun _ _ _ h => h) (by kernel_rfl) (by assumption) rfl rfl ?_
          simp only [Act.put, List.setIfInBounds_toArray, List.set_cons_zero, List.set_cons_succ]
          refine wpAnyH_skip 8 110 rfl rfl (by kernel_rfl) (by kernel_rfl) (by kernel_rfl) (fun _ _ _ h => h) (by kernel_rfl) (by assumption) rfl rfl ?_
          simp only [Act.put, List.setIfInBounds_toArray, List.set_cons_zero, List.set_cons_succ]
          refine wpAnyH_skip 9 111 rfl rfl (by kernel_rfl) (by kernel_rfl) (by kernel_rfl) (fun _ _ _ h => h) (by kernel_rfl) (by assumption) rfl rfl ?_
          simp only [Act.put, List.setIfInBounds_toArray, List.set_cons_zero, List.set_cons_succ]
          refine wpAnyH_skip 10 112 rfl rfl (by kernel_rfl) (by kernel_rfl) (by kernel_rfl) (fun _ _ _ h => h) (by kernel_rfl) (by assumption) rfl rfl ?_
          simp only [Act.put, List.setIfInBounds_toArray, List.set_cons_zero, List.set_cons_succ]
          refine wpAnyH_skip 11 113 rfl rfl (by kernel_rfl) (by kernel_rfl) (by kernel_rfl) (fun _ _ _ h => h) (by kernel_rfl) (by assumption) rfl rfl ?_
          simp only [Act.put, List.setIfInBounds_toArray, List.set_cons_zero, List.set_cons_succ]
          refine wpAnyH_skip 12 114 rfl rfl (by kernel_rfl) (by kernel_rfl) (by kernel_rfl) (fun _ _ _ h => h) (by kernel_rfl) (by assumption) rfl rfl ?_
          simp only [Act.put, List.setIfInBounds_toArray, List.set_cons_zero, List.set_cons_succ]
          refine wpAnyH_yield 13 115 (.bool false) rfl rfl (by kernel_rfl) (by kernel_rfl) (by kernel_rfl) (fun _ _ _ h => h) (by kernel_rfl) (fun W hW => by kernel_rfl) (by assumption) rfl rfl ?_
          simp only [Act.put, List.setIfInBounds_toArray, List.set_cons_zero, List.set_cons_succ]
          refine wpAnyH_done (by kernel_rfl) (plainly_mk ?_) _
          have NX := HD.out.next I HE9.out.2.2 HE9.out.1 HE9.out.2.1 hT0 ((HMD.out.still I hC0).more (Nat.le_succ _)) rfl rfl (fun g hg => .inl hg)
          have k12 := (one_cell NX.1).1
          have f12 := (one_cell NX.1).2
          have NX2 := And.intro NX.2.1 ((TD.out.mono fun _ _ h => h.elim).trans NX.2.2 (fun _ _ h => h))
          generalize ({ wD with drawn := wD.drawn + 1 } : World) = w2 at *
          have HX := hide NX2
          clear NX NX2 hT0 hC0 SEE HD HMD TD
          gi_wp2
          exact ⟨HX.out.2, HX.out.1⟩
      case done =>
        rintro T W hT hi hd
        clear M8 SQ EG HA8
        obtain ⟨p9, mw, eq9, er9, f9⟩ := hi.ex
        have HKB : Hid (i + p.H.length ≤ 4600000000000) := hide (by have := HHL.out; have := HNB.out; omega)
        have ok9 : ∀ W', Touch (fun g => g = B4) W W' → okO Pk (i + p.H.length) W' (some p9) := fun W' hW => okO_touch I mw.ok hW (fun g hg s => (mw.fp g hg).2.2.1 s)
        have ecv : cvO (some p9) = cp q := by show cp p9.q = cp q; rw [eq9, HQ.out]
        have erv : rvO (some p9) = cp r := by show cp p9.r = cp r; rw [er9, HR.out]
        have TL := hide (fun W' (hW : Touch (fun g => g = B4) W W') => tellsO I J (some p9) W' (ok9 W' hW) (show i + p.H.length ≤ 4600000000000 from HKB.out))
        have GO := hide (fun W' (hW : Touch (fun g => g = B4) W W') => goesO I J (some p9) 0 W' (ok9 W' hW) (show i + p.H.length ≤ 4600000000000 from HKB.out))
        rw [ecv, erv] at TL GO
        have KN := hide (fun W' => known13_any I W')
        have SEE : Hid (∀ W', Touch (fun g => g = B4) W W' → W'.cell? ⟨B12, 0, none⟩ = some (.int .i64 (p.H.length : Int)) ∧ W'.cell? ⟨B10, 0, none⟩ = some (cp qw) ∧ W'.cell? ⟨qw, 1, none⟩ = some (.slice ho p.H.length hc) ∧ W'.cell? ⟨B5, 0, none⟩ = some (cp q) ∧ W'.cell? ⟨B7, 0, none⟩ = some (cp r)) := hide fun W' hW => by
          obtain ⟨l1, l2, l3, l4, l5, l6, l7, l8, l9⟩ := hi.lt
          obtain ⟨k0, k1, k2, k3, k4⟩ := hi.lo
          have h5 := mw.b5
          have h7 := mw.b7
          rw [eq9, HQ.out] at h5
          rw [er9, HR.out] at h7
          exact ⟨(one_cell (hW.heap hi.b12 (by omega))).1, (one_cell (hW.heap hi.b10 (by omega))).1, (rk_cells (hW.heap hi.was (by omega))).2, (one_cell (hW.heap h5 (tags h5 mw.b4 (by decide)))).1, (one_cell (hW.heap h7 (tags h7 mw.b4 (by decide)))).1⟩
        have K4 : Hid (∀ W', Calm W W' → W'.heap[B4]? = some (.cells #[.bool false] 4 (0, 0))) := hide fun W' hW => hW.at mw.b4
        have FIN : Hid (∀ W', Calm W W' → Calm w (W'.setCell ⟨B4, 0, none⟩ (.bool true)) ∧ (W'.setCell ⟨B4, 0, none⟩ (.bool true)).heap[w8.heap.size]? = some (.deferred (some [])) ∧ (W'.setCell ⟨B4, 0, none⟩ (.bool true)).heap[B4]? = some (.cells #[.bool true] 4 (0, 0)) ∧ w.heap.size ≤ w8.heap.size ∧ B4 ≠ w8.heap.size) := hide fun W' hW => by
          have tS : Touch (fun g => g = B4) W' (W'.setCell ⟨B4, 0, none⟩ (.bool true)) := (Touch.refl (fun g => g = B4) W').setCell (p := ⟨B4, 0, none⟩) (fun _ => rfl) _
          obtain ⟨l1, l2, l3, l4, l5, l6, l7, l8, l9⟩ := hi.lt
          obtain ⟨k0, k1, k2, k3, k4⟩ := hi.lo
          have h4 := hW.at mw.b4
          have := mw.lo
          exact ⟨(mw.calm.tr hW).trans tS (fun g hg e => by omega), tS.heap (hW.at hd) (by omega), set_one _ h4, by omega, by omega⟩
        clear hi hd mw eq9 er9 f9 ok9 ecv erv
        gi_upto_region 23 with fail
        refine wpIn_wide.2 ?_
        refine wp_only ?_
        refine wp_region_held (S := Touch (fun g => g = B4) W) (by kernel_rfl) ?_
        have hT0 : Touch (fun g => g = B4) W { W with drawn := W.drawn + 1 } := (Touch.refl _ W).drew
        have hC0 : Calm W { W with drawn := W.drawn + 1 } := (Touch.refl _ W).drew
        refine wpAnyH_yield 0 118 (.int .i64 (p.H.length : Int)) rfl rfl (by kernel_rfl) (by kernel_rfl) (by kernel_rfl) (fun _ _ _ h => h) (by kernel_rfl) (fun W hW => by obtain ⟨k0, -⟩ := SEE.out _ hW; go_simp) (by assumption) rfl rfl ?_
        simp only [Act.put, List.setIfInBounds_toArray, List.set_cons_zero, List.set_cons_succ]
        refine wpAnyH_yield 1 119 (cp qw) rfl rfl (by kernel_rfl) (by kernel_rfl) (by kernel_rfl) (fun _ _ _ h => h) (by kernel_rfl) (fun W hW => by obtain ⟨-, k0, -⟩ := SEE.out _ hW; go_simp) (by assumption) rfl rfl ?_
        simp only [Act.put, List.setIfInBounds_toArray, List.set_cons_zero, List.set_cons_succ]
        refine wpAnyH_yield 2 120 (cp qw) rfl rfl (by kernel_rfl) (by kernel_rfl) (by kernel_rfl) (fun _ _ _ h => h) (by kernel_rfl) (fun W hW => by go_simp) (by assumption) rfl rfl ?_
        simp only [Act.put, List.setIfInBounds_toArray, List.set_cons_zero, List.set_cons_succ]
        refine wpAnyH_yield 3 121 (.pointer (some ⟨qw, 1, none⟩)) rfl rfl (by kernel_rfl) (by kernel_rfl) (by kernel_rfl) (fun _ _ _ h => h) (by kernel_rfl) (fun W hW => by go_simp) (by assumption) rfl rfl ?_
        simp only [Act.put, List.setIfInBounds_toArray, List.set_cons_zero, List.set_cons_succ]
        refine wpAnyH_yield 4 122 (.slice ho p.H.length hc) rfl rfl (by kernel_rfl) (by kernel_rfl) (by kernel_rfl) (fun _ _ _ h => h) (by kernel_rfl) (fun W hW => by obtain ⟨-, -, k0, -⟩ := SEE.out _ hW; go_simp) (by assumption) rfl rfl ?_
        simp only [Act.put, List.setIfInBounds_toArray, List.set_cons_zero, List.set_cons_succ]
        refine wpAnyH_yield 5 123 (.int .i64 (p.H.length : Int)) rfl rfl (by kernel_rfl) (by kernel_rfl) (by kernel_rfl) (fun _ _ _ h => h) (by kernel_rfl) (fun W hW => by go_simp) (by assumption) rfl rfl ?_
        simp only [Act.put, List.setIfInBounds_toArray, List.set_cons_zero, List.set_cons_succ]
        refine wpAnyH_yield 6 124 (.bool true) rfl rfl (by kernel_rfl) (by kernel_rfl) (by kernel_rfl) (fun _ _ _ h => h) (by kernel_rfl) (fun W hW => by go_simp) (by assumption) rfl rfl ?_
        simp only [Act.put, List.setIfInBounds_toArray, List.set_cons_zero, List.set_cons_succ]
        refine wpAnyH_yield 7 125 (.bool true) rfl rfl (by kernel_rfl) (by kernel_rfl) (by kernel_rfl) (fun _ _ _ h => h) (by kernel_rfl) (fun W hW => by kernel_rfl) (by assumption) rfl rfl ?_
        simp only [Act.put, List.setIfInBounds_toArray, List.set_cons_zero, List.set_cons_succ]
        refine wpAnyH_yield 8 126 (cp q) rfl rfl (by kernel_rfl) (by kernel_rfl) (by kernel_rfl) (fun _ _ _ h => h) (by kernel_rfl) (fun W hW => by obtain ⟨-, -, -, k0, -⟩ := SEE.out _ hW; go_simp) (by assumption) rfl rfl ?_
        simp only [Act.put, List.setIfInBounds_toArray, List.set_cons_zero, List.set_cons_succ]
        refine wpAnyH_yield 9 127 (cp r) rfl rfl (by kernel_rfl) (by kernel_rfl) (by kernel_rfl) (fun _ _ _ h => h) (by kernel_rfl) (fun W hW => by obtain ⟨-, -, -, -, k0⟩ := SEE.out _ hW; go_simp) (by assumption) rfl rfl ?_
        simp only [Act.put, List.setIfInBounds_toArray, List.set_cons_zero, List.set_cons_succ]
        refine wpAnyH_enter 10 128 18 #[cp q, cp r] rfl rfl (by kernel_rfl) (by kernel_rfl) (by kernel_rfl) ?_
        refine (TL.out _ hT0).mono ?_
        rintro e y1 ⟨rfl, t1⟩
        have hT1 := hT0.trans (t1.mono (S' := fun g => g = B4) fun _ _ h => h.elim) (fun _ _ h => h)
        have hC1 := hC0.tr t1
        refine ⟨_, rfl, hT1, ?_⟩
        simp only [Act.put, List.setIfInBounds_toArray, List.set_cons_zero, List.set_cons_succ]
        refine wpAnyH_yield 11 129 (.bool true) rfl rfl (by kernel_rfl) (by kernel_rfl) (by kernel_rfl) (fun _ _ _ h => h) (by kernel_rfl) (fun W hW => by kernel_rfl) (by assumption) rfl rfl ?_
        simp only [Act.put, List.setIfInBounds_toArray, List.set_cons_zero, List.set_cons_succ]
        refine wpAnyH_yield 12 130 (.bool true) rfl rfl (by kernel_rfl) (by kernel_rfl) (by kernel_rfl) (fun _ _ _ h => h) (by kernel_rfl) (fun W hW => by kernel_rfl) (by assumption) rfl rfl ?_
        simp only [Act.put, List.setIfInBounds_toArray, List.set_cons_zero, List.set_cons_succ]
        refine wpAnyH_yield 13 131 (cp q) rfl rfl (by kernel_rfl) (by kernel_rfl) (by kernel_rfl) (fun _ _ _ h => h) (by kernel_rfl) (fun W hW => by obtain ⟨-, -, -, k0, -⟩ := SEE.out _ hW; go_simp) (by assumption) rfl rfl ?_
        simp only [Act.put, List.setIfInBounds_toArray, List.set_cons_zero, List.set_cons_succ]
        refine wpAnyH_yield 14 132 (cp r) rfl rfl (by kernel_rfl) (by kernel_rfl) (by kernel_rfl) (fun _ _ _ h => h) (by kernel_rfl) (fun W hW => by obtain ⟨-, -, -, -, k0⟩ := SEE.out _ hW; go_simp) (by assumption) rfl rfl ?_
        simp only [Act.put, List.setIfInBounds_toArray, List.set_cons_zero, List.set_cons_succ]
        refine wpAnyH_enter 15 133 19 #[cp q, cp r, .int .i64 0] rfl rfl (by kernel_rfl) (by kernel_rfl) (by kernel_rfl) ?_
        refine (GO.out _ hT1).mono ?_
        rintro e y2 ⟨rfl, t2⟩
        have hT2 := hT1.trans (t2.mono (S' := fun g => g = B4) fun _ _ h => h.elim) (fun _ _ h => h)
        have hC2 := hC1.tr t2
        refine ⟨_, rfl, hT2, ?_⟩
        simp only [Act.put, List.setIfInBounds_toArray, List.set_cons_zero, List.set_cons_succ]
        refine wpAnyH_yield 16 134 (.bool true) rfl rfl (by kernel_rfl) (by kernel_rfl) (by kernel_rfl) (fun _ _ _ h => h) (by kernel_rfl) (fun W hW => by kernel_rfl) (by assumption) rfl rfl ?_
        simp only [Act.put, List.setIfInBounds_toArray, List.set_cons_zero, List.set_cons_succ]
        refine wpAnyH_yield 17 135 (.bool true) rfl rfl (by kernel_rfl) (by kernel_rfl) (by kernel_rfl) (fun _ _ _ h => h) (by kernel_rfl) (fun W hW => by kernel_rfl) (by assumption) rfl rfl ?_
        simp only [Act.put, List.setIfInBounds_toArray, List.set_cons_zero, List.set_cons_succ]
        refine wpAnyH_enter 18 136 20 #[] rfl rfl (by kernel_rfl) (by kernel_rfl) (by kernel_rfl) ?_
        refine (KN.out _).mono ?_
        rintro e y3 ⟨rfl, t3⟩
        have hT3 := hT2.trans (t3.mono (S' := fun g => g = B4) fun _ _ h => h.elim) (fun _ _ h => h)
        have hC3 := hC2.tr t3
        refine ⟨_, rfl, hT3, ?_⟩
        simp only [Act.put, List.setIfInBounds_toArray, List.set_cons_zero, List.set_cons_succ]
        refine wpAnyH_yield 19 137 (.bool true) rfl rfl (by kernel_rfl) (by kernel_rfl) (by kernel_rfl) (fun _ _ _ h => h) (by kernel_rfl) (fun W hW => by kernel_rfl) (by assumption) rfl rfl ?_
        simp only [Act.put, List.setIfInBounds_toArray, List.set_cons_zero, List.set_cons_succ]
        obtain ⟨c4, f4⟩ := one_cell (K4.out _ hC3)
        have FX := hide (FIN.out _ hC3)
        have hT4 : Touch (fun g => g = B4) W (y3.setCell ⟨B4, 0, none⟩ (.bool true)) := hT3.setCell (p := ⟨B4, 0, none⟩) (fun _ => rfl) _
        clear TL GO KN SEE K4 FIN hT0 hC0 t1 hT1 hC1 t2 hT2 hC2 t3 hT3 hC3
        refine wpAnyH_do 20 (y3.setCell ⟨B4, 0, none⟩ (.bool true)) rfl (by kernel_rfl) (by kernel_rfl) (fun K hK => ?_) hT4 ?_
        · unfold Oper.wp
          go_simp
          exact hK
        refine wpAnyH_done (by kernel_rfl) ?_ _
        rw [onlyN_normal]
        clear hT4 c4 f4
        generalize y3.setCell ⟨B4, 0, none⟩ (.bool true) = y4 at *
        gi_wp2
        refine leaves_marks [w8.heap.size] _ (fun D hD => by rw [List.mem_singleton.1 hD]; exact FX.out.2.1) (by simp) (fun W2 tw => ?_)
        have r4 := (one_cell (tw.heap FX.out.2.2.1 (fun hm => FX.out.2.2.2.2 (List.mem_singleton.1 hm)))).1
        exact ⟨.bool true, by simp [results, Try.results4, go_sem, r4], rfl, FX.out.1.trans tw (fun g hg hm => by have := List.mem_singleton.1 hm; have := FX.out.2.2.2.1; omega)⟩
      case stop =>
        rintro c k W hk hi
        exact hi.elim

end
end Go.Proofs.Ytcmigkemhoecfaa
