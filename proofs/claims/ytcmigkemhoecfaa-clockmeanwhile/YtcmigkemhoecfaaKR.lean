/- The law's goes: all holds, left behind some turns, and gone over once more. -/
import Derived.Test.YtcmigkemhoecfaaKQ
import Derived.Test.YtcmigkemhoecfaaSMk
import Derived.Test.YtcmigkemhoecfaaSRngT
import Derived.Sort.CutIn
namespace Go.Proofs.Ytcmigkemhoecfaa
open Go.RowKit
attribute [local go_sem] Oper.semAt_some

/-- A hold as it is told. -/
def encY (x : Hd) : Array Value := #[.string x.n, .int .i64 x.t]
/-- The document's holds, where they lie. -/
def Want (w : World) (rv : Value) (ho : Option Addr) (hc : Nat) (H : List Hd) : Prop := encH.Sl w ho hc H ∧ ((rv = .pointer none ∧ H = [] ∧ ho = none ∧ hc = 0) ∨ ∃ r, rv = .pointer (some ⟨r, 0, none⟩) ∧ ∀ W, Calm w W → W.cell? ⟨r, 1, none⟩ = some (.slice ho H.length hc))
/-- What Holds must tell. -/
def Tells (w : World) (fv : Value) (H : List Hd) : Prop := ∃ gf lb, fv = .func (.func gf) #[] lb ∧ (∀ args V, (callFunc gf args).run Try.prog V = .ok (.enter gf args) V) ∧ ∃ A : World → Prop, (∀ V, Calm w V → A V) ∧ SeqT Try.prog gf lb encY H.length (fun k x => H[k]? = some x) A
theorem fun_not_nil (gf : Nat) (lb : Array Value) (w : World) : (binOp .eql 51 (.func (.func gf) #[] lb) .nilFunc).run Try.prog w = .ok (.bool false) w := by kernel_rfl

/-- What goes keeps in memory. -/
structure Gt (w : World) (B5 B6 B8 B9 : Nat) (sv : Value) (leave tv : Int) (r : Bool) (W : World) : Prop where
  calm : Calm w W
  b5 : W.heap[B5]? = some (.cells #[.int .i64 leave] 3 (0, 0))
  b6 : W.heap[B6]? = some (.cells #[.bool r] 4 (0, 0))
  b8 : W.heap[B8]? = some (.cells #[sv] 53 (0, 0))
  b9 : W.heap[B9]? = some (.cells #[.int .i64 tv] 3 (0, 0))
  lo : w.heap.size ≤ B5 ∧ w.heap.size ≤ B6 ∧ w.heap.size ≤ B8 ∧ w.heap.size ≤ B9 ∧ B5 ≠ B9
theorem Gt.turn {S : Nat → Prop} {w W W' : World} {B5 B6 B8 B9 : Nat} {sv : Value} {leave tv : Int} {r : Bool} (h : Gt w B5 B6 B8 B9 sv leave tv r W) (ht : Touch S W W') (hS : ∀ g, S g → w.heap.size ≤ g ∧ g ≠ B5 ∧ g ≠ B6 ∧ g ≠ B8 ∧ g ≠ B9) : Gt w B5 B6 B8 B9 sv leave tv r W' :=
  ⟨h.calm.trans ht (fun g hg s => by have := (hS g s).1; omega), ht.heap h.b5 (fun s => (hS _ s).2.1 rfl), ht.heap h.b6 (fun s => (hS _ s).2.2.1 rfl), ht.heap h.b8 (fun s => (hS _ s).2.2.2.1 rfl), ht.heap h.b9 (fun s => (hS _ s).2.2.2.2 rfl), h.lo⟩
theorem Gt.still {w W W' : World} {B5 B6 B8 B9 : Nat} {sv : Value} {leave tv : Int} {r : Bool} (h : Gt w B5 B6 B8 B9 sv leave tv r W) (ht : Calm W W') : Gt w B5 B6 B8 B9 sv leave tv r W' := h.turn ht fun _ h => h.elim
theorem Gt.say {w W : World} {B5 B6 B8 B9 : Nat} {sv : Value} {leave tv : Int} {r : Bool} (h : Gt w B5 B6 B8 B9 sv leave tv r W) (x : Bool) : Gt w B5 B6 B8 B9 sv leave tv x (W.setCell ⟨B6, 0, none⟩ (.bool x)) ∧ Touch (fun g => g = B6) W (W.setCell ⟨B6, 0, none⟩ (.bool x)) := by
  have ht : Touch (fun g => g = B6) W (W.setCell ⟨B6, 0, none⟩ (.bool x)) := (Touch.refl (fun g => g = B6) W).setCell (p := ⟨B6, 0, none⟩) (fun _ => rfl) _
  exact ⟨⟨h.calm.trans ht (fun g hg s => by have := h.lo; omega), ht.heap h.b5 (fun e => tags h.b5 h.b6 (by decide) e), set_one _ h.b6, ht.heap h.b8 (fun e => tags h.b8 h.b6 (by decide) e), ht.heap h.b9 (fun e => tags h.b9 h.b6 (by decide) e), h.lo⟩, ht⟩

/-- .. and while it ranges. -/
structure Gr (w w1 : World) (B5 B6 B8 B9 B10 N9 : Nat) (sv : Value) (leave tv : Int) (Ds : List Nat) (k : Nat) (W : World) : Prop where
  gt : Gt w B5 B6 B8 B9 sv leave tv false W
  cw : Calm w1 W
  b10 : W.heap[B10]? = some (.cells #[.int .i64 (k : Int)] 3 (0, 0))
  ds : ∀ D ∈ Ds, W.heap[D]? = some (.deferred (some []))
  lt : B5 < N9 ∧ B6 < N9 ∧ B8 < N9 ∧ B9 < N9 ∧ B10 < N9 ∧ (∀ D ∈ Ds, D < N9) ∧ w.heap.size ≤ N9 ∧ w1.heap.size ≤ N9
  ne : B10 ≠ B5 ∧ B10 ≠ B6 ∧ B10 ≠ B8 ∧ B10 ≠ B9 ∧ w.heap.size ≤ B10 ∧ w1.heap.size ≤ B10
theorem Gr.turn {S : Nat → Prop} {w w1 W W' : World} {B5 B6 B8 B9 B10 N9 k : Nat} {sv : Value} {leave tv : Int} {Ds : List Nat} (h : Gr w w1 B5 B6 B8 B9 B10 N9 sv leave tv Ds k W) (ht : Touch S W W') (hS : ∀ g, S g → N9 ≤ g) : Gr w w1 B5 B6 B8 B9 B10 N9 sv leave tv Ds k W' := by
  obtain ⟨l5, l6, l8, l9, l10, ld, lw, lw1⟩ := h.lt
  exact ⟨h.gt.turn ht (fun g s => by have := hS g s; refine ⟨by omega, ?_, ?_, ?_, ?_⟩ <;> omega), h.cw.trans ht (fun g hg s => by have := hS g s; omega), ht.heap h.b10 (fun s => by have := hS _ s; omega), fun D hD => ht.heap (h.ds D hD) (fun s => by have := hS _ s; have := ld D hD; omega), h.lt, h.ne⟩
theorem Gr.still {w w1 W W' : World} {B5 B6 B8 B9 B10 N9 k : Nat} {sv : Value} {leave tv : Int} {Ds : List Nat} (h : Gr w w1 B5 B6 B8 B9 B10 N9 sv leave tv Ds k W) (ht : Calm W W') : Gr w w1 B5 B6 B8 B9 B10 N9 sv leave tv Ds k W' := h.turn ht fun _ h => h.elim
theorem Gr.next {w w1 W : World} {B5 B6 B8 B9 B10 N9 k : Nat} {sv : Value} {leave tv : Int} {Ds : List Nat} (h : Gr w w1 B5 B6 B8 B9 B10 N9 sv leave tv Ds k W) (m : Nat) : Gr w w1 B5 B6 B8 B9 B10 N9 sv leave tv Ds m (W.setCell ⟨B10, 0, none⟩ (.int .i64 (m : Int))) ∧ Touch (fun g => g = B10) W (W.setCell ⟨B10, 0, none⟩ (.int .i64 (m : Int))) := by
  have ht : Touch (fun g => g = B10) W (W.setCell ⟨B10, 0, none⟩ (.int .i64 (m : Int))) := (Touch.refl (fun g => g = B10) W).setCell (p := ⟨B10, 0, none⟩) (fun _ => rfl) _
  obtain ⟨n5, n6, n8, n9, nw, nw1⟩ := h.ne
  refine ⟨⟨h.gt.turn ht (fun g s => by subst s; exact ⟨nw, n5, n6, n8, n9⟩), h.cw.trans ht (fun g hg s => by omega), set_one _ h.b10, fun D hD => ht.heap (h.ds D hD) (fun s => by have h1 := h.ds D hD; rw [s, h.b10] at h1; cases h1), h.lt, h.ne⟩, ht⟩

/-- Between two turns. -/
def TurnI (w w1 : World) (B5 B6 B8 : Nat) (cv rv sv fv : Value) (leave : Int) (a' : Act) (W' : World) : Prop := ∃ (j B9 : Nat) (Ds : List Nat) (f : Nat → Value), (j ≤ 2 ∧ Gt w B5 B6 B8 B9 sv leave (j : Int) false W' ∧ Calm w1 W' ∧ w1.heap.size ≤ B9 ∧ (∀ D ∈ Ds, W'.heap[D]? = some (.deferred (some []))) ∧ (∀ D ∈ Ds, w.heap.size ≤ D) ∧ Ds.Nodup ∧ Ds.length = j) ∧ a' = { tmps := #[cv, rv, .int .i64 leave, undef, undef, .pointer (some ⟨B5, 0, none⟩), .pointer (some ⟨B6, 0, none⟩), fv, .pointer (some ⟨B8, 0, none⟩), .pointer (some ⟨B9, 0, none⟩), f 10, f 11, f 12, f 13, f 14, f 15, f 16, f 17, f 18, f 19, f 20, f 21, f 22, f 23, f 24, f 25, f 26, f 27, f 28, f 29, f 30, f 31, f 32, f 33, f 34, f 35, f 36, f 37, f 38, f 39, f 40, f 41, f 42, f 43, f 44, f 45, f 46, f 47, f 48, f 49, f 50, f 51, f 52, f 53, f 54, f 55, f 56, f 57, f 58, f 59, f 60, f 61, f 62, f 63, f 64, f 65, f 66, f 67, f 68, f 69, f 70, f 71, f 72, f 73, f 74, f 75, f 76, f 77, f 78, f 79, f 80, f 81, f 82, f 83, f 84, f 85, f 86, f 87, f 88, f 89], defers := Ds.map mark }

set_option maxRecDepth 100000 in
set_option maxHeartbeats 4000000 in
theorem goes_any (cv rv : Value) (leave : Int) (ho : Option Addr) (hc : Nat) (H : List Hd) (w : World) (hh : ∀ W, Calm w W → Calls Try.prog 23 #[cv] W fun e w' => ∃ fv, e = .returned fv ∧ Calm W w' ∧ Tells w' fv H) (hw : Want w rv ho hc H) (hl : H.length ≤ 4700000000000) :
    Calls Try.prog 19 #[cv, rv, .int .i64 leave] w fun e w' => e = .returned (.bool true) ∧ Calm w w' := by
  refine (callsIn_wide (n := 3)).1 (callsIn_of_wp_marks Try.func19 rfl trivial ?_ rfl)
  simp only [Try.ntmps19, List.size_toArray, List.length_cons, List.length_nil, Nat.reduceAdd, Nat.reduceSub, Array.replicate_succ, Array.replicate_zero, List.push_toArray, List.append_toArray, List.nil_append, List.cons_append]
  have HH := hide hh
  have HW := hide hw
  have HL := hide hl
  clear hh hw hl
  gi_wp2
  refine ⟨trivial, (callsIn_wide.2 (HH.out _ (((Touch.refl _ _).alloc _).alloc _))).mono ?_⟩
  rintro e w1 ⟨fv, rfl, t1, gf, lb, rfl, eg, A, hA, sq⟩
  obtain ⟨B5, e5⟩ : ∃ B5, B5 = w.heap.size := ⟨_, rfl⟩
  obtain ⟨B6, e6⟩ : ∃ B6, B6 = w.heap.size + 1 := ⟨_, rfl⟩
  have K5 : Hid (w1.heap[B5]? = some (.cells #[.int .i64 leave] 3 (0, 0))) := hide (by rw [e5]; exact t1.at (al_old (al_new _ _) _))
  have K6 : Hid (w1.heap[B6]? = some (.cells #[.bool false] 4 (0, 0))) := hide (by
    rw [e6]
    have := al_new (w.alloc (.cells #[.int .i64 leave] 3)) (.cells #[.bool false] 4)
    rw [al_size] at this
    exact t1.at this)
  have T1 : Hid (Calm w w1) := hide ((((Touch.refl _ _).alloc _).alloc _).tr t1)
  have L56 : Hid (w.heap.size ≤ B5 ∧ w.heap.size ≤ B6) := hide (by omega)
  have SQ := hide sq
  have HA := hide hA
  have EG := hide eg
  have hx := fun_not_nil gf lb w1
  rw [← e6, ← e5]
  clear t1 e5 e6 sq hA eg HH
  gi_upto_region 5 with fail
  clear hx
  obtain ⟨B8, e8⟩ : ∃ B8, B8 = w1.heap.size := ⟨_, rfl⟩
  obtain ⟨w2, ew2⟩ : ∃ w2, w2 = w1.alloc (.cells #[.slice none 0 0] 53) := ⟨_, rfl⟩
  have A2 : Hid (Calm w1 w2) := hide (by rw [ew2]; exact (Touch.refl _ _).alloc _)
  have K8 : Hid (w2.heap[B8]? = some (.cells #[.slice none 0 0] 53 (0, 0))) := hide (by rw [ew2, e8]; exact al_new _ _)
  have L8 : Hid (w.heap.size ≤ B8 ∧ w1.heap.size ≤ B8) := hide (by have := T1.out.size; omega)
  rw [← e8, ← ew2]
  clear e8 ew2
  obtain ⟨rb, hrb, hrv⟩ : ∃ rb : Bool, (∀ W, (eqGuard .neq 30 (.tmp 17) (.const (.pointer none)) rv (.pointer none)).run Try.prog W = .ok () W ∧ (binOp .neq 30 rv (.pointer none)).run Try.prog W = .ok (.bool rb) W) ∧ ((rb = false ∧ H = [] ∧ ho = none ∧ hc = 0) ∨ (rb = true ∧ ∃ r, rv = .pointer (some ⟨r, 0, none⟩) ∧ ∀ W, Calm w W → W.cell? ⟨r, 1, none⟩ = some (.slice ho H.length hc))) := by
    obtain ⟨-, ⟨rfl, h1⟩ | ⟨r, rfl, h1⟩⟩ := HW.out
    · exact ⟨false, fun W => ⟨by kernel_rfl, by kernel_rfl⟩, .inl ⟨rfl, h1⟩⟩
    · exact ⟨true, fun W => ⟨by kernel_rfl, by kernel_rfl⟩, .inr ⟨rfl, r, rfl, h1⟩⟩
  obtain ⟨hr1, hr2⟩ := hrb w2
  have HRV := hide hrv
  clear hrb hrv
  gi_upto_if 18 with fail
  clear hr1 hr2
  gi_cut [] from 17 (fun wx => Calm w1 wx ∧ wx.heap[B8]? = some (.cells #[.slice ho H.length hc] 53 (0, 0)))
  case first =>
    rcases HRV.out with ⟨rfl, hn⟩ | ⟨rfl, r, hr, hcell⟩
    · obtain ⟨rfl, rfl, rfl⟩ := hn
      gi_wp2
      gi_meet
      case rel => exact ⟨A2.out, K8.out⟩
    · subst hr
      have k1 := hcell w2 (T1.out.tr A2.out)
      obtain ⟨c8, f8⟩ := one_cell K8.out
      have S8 := hide (set_one (.slice ho H.length hc) K8.out)
      have T8 : Hid (Calm w1 (w2.setCell ⟨B8, 0, none⟩ (.slice ho H.length hc))) := hide (A2.out.trans ((Touch.refl (fun g => g = B8) w2).setCell (p := ⟨B8, 0, none⟩) (fun _ => rfl) _) (fun g hg e => by have := L8.out; omega))
      clear hcell HRV
      generalize H.length = n at *
      gi_wp2
      gi_meet
      case rel => exact ⟨T8.out, S8.out⟩
  case rest =>
    obtain ⟨t2, k8⟩ := hcut
    generalize hn : H.length = n at *
    gi_wp2
    obtain ⟨B9, e9⟩ : ∃ B9, B9 = wc.heap.size := ⟨_, rfl⟩
    obtain ⟨w3, ew3⟩ : ∃ w3, w3 = wc.alloc (.cells #[.int .i64 0] 3) := ⟨_, rfl⟩
    have tA : Calm wc w3 := by rw [ew3]; exact (Touch.refl _ _).alloc _
    have G0 : Hid (Gt w B5 B6 B8 B9 (.slice ho n hc) leave 0 false w3) := hide (by
      have l5 := lt_of_heap K5.out
      have s2 := t2.size
      refine ⟨T1.out.tr (t2.tr tA), tA.at (t2.at K5.out), tA.at (t2.at K6.out), tA.at k8, by rw [ew3, e9]; exact al_new _ _, ⟨L56.out.1, L56.out.2, L8.out.1, ?_, by omega⟩⟩
      have := T1.out.size
      omega)
    have C0 : Hid (Calm w1 w3) := hide (t2.tr tA)
    have L9 : Hid (w1.heap.size ≤ B9) := hide (by rw [e9]; exact t2.size)
    rw [← e9, ← ew3]
    clear e9 ew3 tA t2 k8 K5 K6 K8 A2 HRV
    refine wpIn_loop (TurnI w w1 B5 B6 B8 cv rv (.slice ho n hc) (.func (.func gf) #[] lb) leave) (fun a' _ => 2 - a'.defers.length) ?h0 ?round
    case h0 =>
      exact ⟨0, B9, [], fun i => Array.getD #[undef, undef, undef, undef, undef, undef, undef, undef, undef, undef, _, _, _, _, _, _, _, _, _, _, _, _, _, _, _, _, _, _, _, _, _, _, _, _, _, _, _, _, _, _, _, _, _, _, _, _, _, _, _, _, _, _, _, _, _, _, _, _, _, _, _, _, _, _, _, _, _, _, _, _, _, _, _, _, _, _, _, _, _, _, _, _, _, _, _, _, _, _, _, _] i undef, ⟨by omega, G0.out, C0.out, L9.out, fun _ h => (nomatch h), fun _ h => (nomatch h), List.nodup_nil, rfl⟩, rfl⟩
    case round =>
      clear G0 C0 L9
      rintro a' V0 ⟨j, B9, Ds, f, ⟨hj, gt, cw, l9, hds, hdw, hdn, hdl⟩, rfl⟩
      obtain ⟨c9, f9⟩ := one_cell gt.b9
      by_cases hj2 : j < 2
      · have hjl : (j : Int) < 2 := by omega
        have GG := hide gt
        have CW := hide cw
        have HDS := hide hds
        have HDW := hide hdw
        have HDN := hide hdn
        have HDL := hide hdl
        have L9 := hide l9
        clear gt cw hds hdw hdn hdl l9 f9
        gi_wp2
        obtain ⟨B10, e10⟩ : ∃ B10, B10 = V0.heap.size := ⟨_, rfl⟩
        obtain ⟨W9, eW9⟩ : ∃ W9, W9 = V0.alloc (.cells #[.int .i64 0] 3) := ⟨_, rfl⟩
        have tA : Calm V0 W9 := by rw [eW9]; exact (Touch.refl _ _).alloc _
        have G9 : Hid (Gr w w1 B5 B6 B8 B9 B10 W9.heap.size (.slice ho n hc) leave (j : Int) Ds 0 W9) := hide (by
          have s9 : W9.heap.size = B10 + 1 := by rw [eW9, al_size, e10]
          have l5 := lt_of_heap GG.out.b5
          have l6 := lt_of_heap GG.out.b6
          have l8 := lt_of_heap GG.out.b8
          have l9 := lt_of_heap GG.out.b9
          have sw := GG.out.calm.size
          have sw1 := CW.out.size
          refine ⟨GG.out.still tA, CW.out.tr tA, by rw [eW9, e10]; exact al_new _ _, fun D hD => tA.at (HDS.out D hD), ⟨by omega, by omega, by omega, by omega, by omega, fun D hD => by have := lt_of_heap (HDS.out D hD); omega, by omega, by omega⟩, ⟨by omega, by omega, by omega, by omega, by omega, by omega⟩⟩)
        rw [← e10, ← eW9]
        clear e10 eW9 tA c9 GG CW HDS
        refine wpIn_rangeT (gf := gf) (lb := lb) rfl EG.out SQ.out (fun _ => rfl) (fun g => g = B10) ?hs (fun W h => HA.out W (G9.out.cw.tr h))
          (fun T k W => Gr w w1 B5 B6 B8 B9 B10 W9.heap.size (.slice ho n hc) leave (j : Int) Ds k W ∧ (j = 0 → leave ≤ 0 ∨ (k : Int) < leave))
          (fun c k W => c = .exit 2 ∧ Gr w w1 B5 B6 B8 B9 B10 W9.heap.size (.slice ho n hc) leave (j : Int) Ds k W ∧ j = 0 ∧ (k : Int) = leave ∧ 1 ≤ k)
          (fun T _ x a' W => a' = { tmps := #[cv, rv, .int .i64 leave, undef, undef, .pointer (some ⟨B5, 0, none⟩), .pointer (some ⟨B6, 0, none⟩), .func (.func gf) #[] lb, .pointer (some ⟨B8, 0, none⟩), .pointer (some ⟨B9, 0, none⟩), .pointer (some ⟨B10, 0, none⟩), .string x.n, .int .i64 x.t, f 13, f 14, f 15, f 16, f 17, f 18, f 19, f 20, f 21, f 22, .int .i64 (j : Int), .bool true, f 25, f 26, .func (.func gf) #[] lb, .string x.n, .int .i64 x.t, f 30, f 31, f 32, f 33, f 34, f 35, f 36, f 37, f 38, f 39, f 40, f 41, f 42, f 43, f 44, f 45, f 46, f 47, f 48, f 49, f 50, f 51, f 52, f 53, f 54, f 55, f 56, f 57, f 58, f 59, f 60, f 61, f 62, f 63, f 64, f 65, f 66, f 67, f 68, f 69, f 70, f 71, f 72, f 73, f 74, f 75, f 76, f 77, f 78, f 79, f 80, f 81, f 82, f 83, f 84, f 85, f 86, f 87, f 88, f 89], defers := [] })
          (fun W h hz => ⟨G9.out.still h, fun _ => by omega⟩)
          (fun T k W W' h ht => ⟨h.1.still ht, h.2⟩)
          (fun T k W o _ h => ⟨h.1.turn (touch_put W _ o) (fun g e => by omega), h.2⟩)
          (fun c k W o h => ⟨h.1, h.2.1.turn (touch_put W _ o) (fun g e => by omega), h.2.2⟩)
          (fun T k x a' W o _ h => h) ?assign ?body ?done ?stop
        case hs => rintro g rfl; exact lt_of_heap G9.out.b10
        case assign =>
          rintro l T k x W K hT hi hkm hx hK
          have HK := hide hK
          have HI := hide hi
          clear hK hi
          simp only [encY]
          gi_wp2
          exact HK.out _ _ (Touch.refl _ _) HI.out rfl
        case body =>
          rintro l T k x a' W hT hi hkm hx rfl
          obtain ⟨hg, hinv⟩ := hi
          have hkH : k < H.length := by omega
          have hxe : H.getD k hd0 = x := by rw [List.getD_eq_getElem?_getD, hx]; rfl
          obtain ⟨b, off, eho, p0, p1⟩ := hd_at (Rc.Mem.calm HW.out.1.mem hg.gt.calm) k hkH
          rw [hxe] at p0 p1
          subst eho
          obtain ⟨c8, -⟩ := one_cell hg.gt.b8
          obtain ⟨c10, f10⟩ := one_cell hg.b10
          have hki : (k : Int) < (n : Int) := by omega
          have hd : decide ((n : Int) ≤ (k : Int)) = false := decide_eq_false (by omega)
          have hk2 : wrap64 ((k : Int) + 1) = (k : Int) + 1 := by have := HL.out; unfold wrap64; omega
          obtain ⟨g2, t2⟩ := hg.next (k + 1)
          have ek : ((k + 1 : Nat) : Int) = (k : Int) + 1 := by omega
          rw [ek] at g2 t2
          have G2 := hide g2
          have T2 : Hid (Touch (fun g => g = B10 ∨ T ≤ g) W (W.setCell ⟨B10, 0, none⟩ (.int .i64 ((k : Int) + 1)))) := hide (t2.mono fun g _ e => .inl e)
          obtain ⟨d9, -⟩ := one_cell g2.gt.b9
          obtain ⟨d10, -⟩ := one_cell g2.b10
          obtain ⟨d5, -⟩ := one_cell g2.gt.b5
          rw [ek] at d10
          have HINV := hide hinv
          clear hx hxe hg hinv g2 t2 ek hkH G9 SQ HA EG
          gi_wp2
          · have hj0 : j = 0 := by assumption
            have hq : (((k : Int) + 1) == leave) = true := by assumption
            rw [beq_iff_eq] at hq
            exact ⟨T2.out, rfl, G2.out, hj0, by omega, by omega⟩
          · have hj0 : j = 0 := by assumption
            have hq : (((k : Int) + 1) == leave) = false := by assumption
            rw [beq_eq_false_iff_ne] at hq
            exact ⟨T2.out, G2.out, fun _ => by have := HINV.out hj0; omega⟩
          · have hj0 : ¬ j = 0 := by assumption
            exact ⟨T2.out, G2.out, fun h => absurd h hj0⟩
        case done =>
          rintro T W hT hi hd
          obtain ⟨hg, hinv⟩ := hi
          have GR := hide hg
          obtain ⟨c9, -⟩ := one_cell hg.gt.b9
          obtain ⟨c5, -⟩ := one_cell hg.gt.b5
          obtain ⟨c8, -⟩ := one_cell hg.gt.b8
          obtain ⟨c10, -⟩ := one_cell hg.b10
          have HDD := hide hd
          have GN : Hid (∀ tv : Int, Gt w B5 B6 B8 W.heap.size (.slice ho n hc) leave tv false (W.alloc (.cells #[.int .i64 tv] 3)) ∧ Calm w1 (W.alloc (.cells #[.int .i64 tv] 3)) ∧ w1.heap.size ≤ W.heap.size ∧ ∀ D ∈ W9.heap.size :: Ds, (W.alloc (.cells #[.int .i64 tv] 3)).heap[D]? = some (.deferred (some []))) := hide fun tv => by
            have tN : Calm W (W.alloc (.cells #[.int .i64 tv] 3)) := (Touch.refl _ _).alloc _
            have l5 := lt_of_heap hg.gt.b5
            have sw := hg.gt.calm.size
            have g1 := hg.gt.still tN
            refine ⟨⟨g1.calm, g1.b5, g1.b6, g1.b8, al_new W _, ⟨g1.lo.1, g1.lo.2.1, g1.lo.2.2.1, sw, by omega⟩⟩, hg.cw.tr tN, hg.cw.size, fun D hD => tN.at ?_⟩
            rcases List.mem_cons.1 hD with rfl | hD
            · exact hd
            · exact hg.ds D hD
          have HN9 : Hid ((W9.heap.size :: Ds).Nodup) := hide (List.nodup_cons.2 ⟨fun h => by have := hg.lt.2.2.2.2.2.1 _ h; omega, HDN.out⟩)
          have HW9 : Hid (∀ D ∈ W9.heap.size :: Ds, w.heap.size ≤ D) := hide fun D hD => by
            rcases List.mem_cons.1 hD with rfl | hD
            · exact hg.lt.2.2.2.2.2.2.1
            · exact HDW.out D hD
          have hwj : wrap64 ((j : Int) + 1) = (j : Int) + 1 := by unfold wrap64; omega
          obtain ⟨d9, y9⟩ := one_cell (al_new W (.cells #[.int .i64 (j : Int)] 3))
          have HINV := hide hinv
          clear hg hinv hd G9 SQ HA EG HW
          by_cases hj0 : j = 0
          · have hb0 : ((j : Int) == 0) = true := by rw [beq_iff_eq]; omega
            have hz0 : ¬ 0 < (j : Int) := by omega
            have HJ0 := hide hj0
            by_cases hlp : 0 < leave
            · have hmin : min leave (n : Int) = (n : Int) := by have := HINV.out hj0; omega
              have hlz : ¬ leave ≤ 0 := by omega
              clear hj0
              gi_wp2
              refine ⟨?_, by have h := HDL.out; have h2 := HJ0.out; simp; omega⟩
              unfold TurnI
              exact ⟨1, W.heap.size, W9.heap.size :: Ds, fun i => Array.getD #[undef, undef, undef, undef, undef, undef, undef, undef, undef, undef, _, _, _, _, _, _, _, _, _, _, _, _, _, _, _, _, _, _, _, _, _, _, _, _, _, _, _, _, _, _, _, _, _, _, _, _, _, _, _, _, _, _, _, _, _, _, _, _, _, _, _, _, _, _, _, _, _, _, _, _, _, _, _, _, _, _, _, _, _, _, _, _, _, _, _, _, _, _, _, _] i undef, ⟨by omega, by simpa using (GN.out (1)).1, (GN.out _).2.1, (GN.out 0).2.2.1, (GN.out _).2.2.2, HW9.out, HN9.out, by rw [List.length_cons, HDL.out]; have h2 := HJ0.out; omega⟩, rfl⟩
            · have hlz : leave ≤ 0 := by omega
              clear hj0
              gi_wp2
              refine ⟨?_, by have h := HDL.out; have h2 := HJ0.out; simp; omega⟩
              unfold TurnI
              exact ⟨1, W.heap.size, W9.heap.size :: Ds, fun i => Array.getD #[undef, undef, undef, undef, undef, undef, undef, undef, undef, undef, _, _, _, _, _, _, _, _, _, _, _, _, _, _, _, _, _, _, _, _, _, _, _, _, _, _, _, _, _, _, _, _, _, _, _, _, _, _, _, _, _, _, _, _, _, _, _, _, _, _, _, _, _, _, _, _, _, _, _, _, _, _, _, _, _, _, _, _, _, _, _, _, _, _, _, _, _, _, _, _] i undef, ⟨by omega, by simpa using (GN.out (1)).1, (GN.out _).2.1, (GN.out 0).2.2.1, (GN.out _).2.2.2, HW9.out, HN9.out, by rw [List.length_cons, HDL.out]; have h2 := HJ0.out; omega⟩, rfl⟩
          · have hb0 : ((j : Int) == 0) = false := by rw [beq_eq_false_iff_ne]; omega
            have hz0 : 0 < (j : Int) := by omega
            have HJ0 := hide hj0
            clear hj0
            gi_wp2
            refine ⟨?_, by have h := HDL.out; have h2 := HJ0.out; simp; omega⟩
            unfold TurnI
            exact ⟨j + 1, W.heap.size, W9.heap.size :: Ds, fun i => Array.getD #[undef, undef, undef, undef, undef, undef, undef, undef, undef, undef, _, _, _, _, _, _, _, _, _, _, _, _, _, _, _, _, _, _, _, _, _, _, _, _, _, _, _, _, _, _, _, _, _, _, _, _, _, _, _, _, _, _, _, _, _, _, _, _, _, _, _, _, _, _, _, _, _, _, _, _, _, _, _, _, _, _, _, _, _, _, _, _, _, _, _, _, _, _, _, _] i undef, ⟨by omega, by simpa using (GN.out ((j : Int) + 1)).1, (GN.out _).2.1, (GN.out 0).2.2.1, (GN.out _).2.2.2, HW9.out, HN9.out, by rw [List.length_cons, HDL.out]⟩, rfl⟩
        case stop =>
          rintro c k W hkm hi hd
          obtain ⟨rfl, hg, hj0, hkl, hk1⟩ := hi
          have GR := hide hg
          obtain ⟨c9, -⟩ := one_cell hg.gt.b9
          obtain ⟨c5, -⟩ := one_cell hg.gt.b5
          obtain ⟨c8, -⟩ := one_cell hg.gt.b8
          obtain ⟨c10, -⟩ := one_cell hg.b10
          have HDD := hide hd
          have GN : Hid (∀ tv : Int, Gt w B5 B6 B8 W.heap.size (.slice ho n hc) leave tv false (W.alloc (.cells #[.int .i64 tv] 3)) ∧ Calm w1 (W.alloc (.cells #[.int .i64 tv] 3)) ∧ w1.heap.size ≤ W.heap.size ∧ ∀ D ∈ W9.heap.size :: Ds, (W.alloc (.cells #[.int .i64 tv] 3)).heap[D]? = some (.deferred (some []))) := hide fun tv => by
            have tN : Calm W (W.alloc (.cells #[.int .i64 tv] 3)) := (Touch.refl _ _).alloc _
            have l5 := lt_of_heap hg.gt.b5
            have sw := hg.gt.calm.size
            have g1 := hg.gt.still tN
            refine ⟨⟨g1.calm, g1.b5, g1.b6, g1.b8, al_new W _, ⟨g1.lo.1, g1.lo.2.1, g1.lo.2.2.1, sw, by omega⟩⟩, hg.cw.tr tN, hg.cw.size, fun D hD => tN.at ?_⟩
            rcases List.mem_cons.1 hD with rfl | hD
            · exact hd
            · exact hg.ds D hD
          have HN9 : Hid ((W9.heap.size :: Ds).Nodup) := hide (List.nodup_cons.2 ⟨fun h => by have := hg.lt.2.2.2.2.2.1 _ h; omega, HDN.out⟩)
          have HW9 : Hid (∀ D ∈ W9.heap.size :: Ds, w.heap.size ≤ D) := hide fun D hD => by
            rcases List.mem_cons.1 hD with rfl | hD
            · exact hg.lt.2.2.2.2.2.2.1
            · exact HDW.out D hD
          have hwj : wrap64 ((j : Int) + 1) = (j : Int) + 1 := by unfold wrap64; omega
          obtain ⟨d9, y9⟩ := one_cell (al_new W (.cells #[.int .i64 (j : Int)] 3))
          clear hg hd G9 SQ HA EG HW
          have hb0 : ((j : Int) == 0) = true := by rw [beq_iff_eq]; omega
          have hz0 : ¬ 0 < (j : Int) := by omega
          have hlp : 0 < leave := by omega
          have hmin : min leave (n : Int) = (k : Int) := by omega
          have hlz : ¬ leave ≤ 0 := by omega
          have HJ0 := hide hj0
          clear hj0 hkl
          gi_wp2
          refine ⟨?_, by have h := HDL.out; have h2 := HJ0.out; simp; omega⟩
          unfold TurnI
          exact ⟨1, W.heap.size, W9.heap.size :: Ds, fun i => Array.getD #[undef, undef, undef, undef, undef, undef, undef, undef, undef, undef, _, _, _, _, _, _, _, _, _, _, _, _, _, _, _, _, _, _, _, _, _, _, _, _, _, _, _, _, _, _, _, _, _, _, _, _, _, _, _, _, _, _, _, _, _, _, _, _, _, _, _, _, _, _, _, _, _, _, _, _, _, _, _, _, _, _, _, _, _, _, _, _, _, _, _, _, _, _, _, _] i undef, ⟨by omega, by simpa using (GN.out (1)).1, (GN.out _).2.1, (GN.out 0).2.2.1, (GN.out _).2.2.2, HW9.out, HN9.out, by rw [List.length_cons, HDL.out]; have h2 := HJ0.out; omega⟩, rfl⟩
      · obtain rfl : j = 2 := by omega
        have GG := hide gt
        have HDS := hide hds
        have HDW := hide hdw
        have HDN := hide hdn
        obtain ⟨c6, f6⟩ := one_cell gt.b6
        obtain ⟨g6, t6⟩ := gt.say true
        have G6 := hide g6
        have HD6 : Hid (∀ D ∈ Ds, (V0.setCell ⟨B6, 0, none⟩ (.bool true)).heap[D]? = some (.deferred (some []))) := hide fun D hD => t6.heap (HDS.out D hD) (fun e => by
          have h1 := HDS.out D hD
          rw [e, GG.out.b6] at h1
          cases h1)
        clear gt cw hds hdw hdn hdl l9 f9 g6 t6 SQ HA EG
        gi_wp2
        refine leaves_marks Ds _ HD6.out HDN.out (fun W2 tw => ?_)
        have r6 := (one_cell (tw.heap G6.out.b6 (fun hm => by
          have h1 := HD6.out _ hm
          rw [G6.out.b6] at h1
          cases h1))).1
        exact ⟨.bool true, by simp [results, Try.results19, go_sem, r6], rfl, G6.out.calm.trans tw (fun g hg hm => by have := HDW.out g hm; omega)⟩

end Go.Proofs.Ytcmigkemhoecfaa
