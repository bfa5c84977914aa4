/- A drawn region: operations in a row that may change the world, and a making that comes up anywhere among them; behind them such as only read, then the making, if it has not come up. The program's lay of panes by panes: a key put into a tree. The program's maps: isThere, Len, Put, Take, Copy, New, Of. The program's way: the nodes on the way to the nearest key that is within. -/
import Derived.Test.YtamfcmmhmfhhkaaGreatDoorG7
import Derived.Test.YtamfcmmhmfhhkaaGreatDoorG1
import Derived.Test.YtamfcmmhmfhhkaaGreatDoorG28
import Derived.Test.YtamfcmmhmfhhkaaGreatDoorG20
import Derived.Test.YtamfcmmhmfhhkaaGreatDoorG21
import Derived.Deep.CutRange
import Derived.Great.BuildSlice
import Derived.Test.YtamfcmmhmfhhkaaGreatDoorG22
namespace Go.Proofs.YtamfcmmhmfhhkaaGreatDoor

/-- What lies from n on stays. -/
def KeepUp (n : Nat) (w w' : World) : Prop := ∀ q ob, n ≤ q → w.heap[q]? = some ob → w'.heap[q]? = some ob
theorem wpAnyH_float7 {P : Program} {ops : Array Oper} {Q : Exit → Act → World → Prop} {S : World → Prop} {md : Region.Mode} {fuel m : Nat} (i : Nat → Nat) (f df : Nat) {of : Oper} (o : Obj) (F : (Nat → Value) → Value → Act) (p0 : Value) (L : Nat → Bool → Array Bool) (I : Nat → (Nat → Value) → World → Prop) (n0 : Nat)
    (hof : ops[f]? = some of) (hdf : of.dst = some df) (hwf : ∀ vs p, Region.wanted of (yielded ops (F vs p).tmps) = true) (hrf : ∀ vs W, (execOp (F vs p0).eval of).run P W = .ok (.value (.pointer (some ⟨W.heap.size, 0, none⟩))) (W.alloc o))
    (hFp : ∀ vs x, (F vs p0).put (some df) x = F vs x) (hLf : ∀ k, k < m → (L k false).setIfInBounds f true = L k true) (hLi : ∀ k b, k < m → (L k b).setIfInBounds (i k) true = L (k + 1) b)
    (r0 : ∀ k, k < m → Region.ready md ops (L k false) = [i k, f]) (r1 : ∀ k, k < m → Region.ready md ops (L k true) = [i k])
    (hI : ∀ k vs W, I k vs W → I k vs (W.alloc o)) (hS : ∀ k vs W, I k vs W → S W) (hB : ∀ k vs W, I k vs W → n0 ≤ W.heap.size)
    (stp : ∀ k vs p W (K : Act → World → Prop), k < m → I k vs W → (∀ x W', KeepUp n0 W W' → I (k + 1) (fun j => if j = k then x else vs j) W' → K (F (fun j => if j = k then x else vs j) p) W') → wpOp P ops Q (i k) K (F vs p) W)
    (tail : ∀ vs p W, I m vs W → n0 ≤ p → W.heap[p]? = some o → wpAnyH P md ops Q S fuel (L m true) (F vs (.pointer (some ⟨p, 0, none⟩))) W)
    (tail0 : ∀ vs W, I m vs W → wpAnyH P md ops Q S (fuel + 1) (L m false) (F vs p0) W)
    (vs0 : Nat → Value) (w : World) (h0 : I 0 vs0 w) : wpAnyH P md ops Q S (fuel + (m + 1)) (L 0 false) (F vs0 p0) w := by
  have one : ∀ d k vs p W, k + d = m → I k vs W → n0 ≤ p → W.heap[p]? = some o → wpAnyH P md ops Q S (fuel + d) (L k true) (F vs (.pointer (some ⟨p, 0, none⟩))) W := by
    intro d
    induction d with
    | zero => intro k vs p W hk hi hp hh; obtain rfl : k = m := by omega
              exact tail vs p W hi hp hh
    | succ d ih =>
      intro k vs p W hk hi hp hh
      have hlt : k < m := by omega
      refine wpAnyH_all (r1 k hlt) (by simp) fun j hj => ?_
      obtain rfl : j = i k := by simpa using hj
      refine stp k vs _ W _ hlt hi fun x W' hW hi' => ⟨hS _ _ _ hi', ?_⟩
      rw [hLi k true hlt]
      exact ih (k + 1) _ p W' (by omega) hi' hp (hW p o hp hh)
  have two : ∀ d k vs W, k + d = m → I k vs W → wpAnyH P md ops Q S (fuel + (d + 1)) (L k false) (F vs p0) W := by
    intro d
    induction d with
    | zero => intro k vs W hk hi; obtain rfl : k = m := by omega
              exact tail0 vs W hi
    | succ d ih =>
      intro k vs W hk hi
      have hlt : k < m := by omega
      refine wpAnyH_all (r0 k hlt) (by simp) fun j hj => ?_
      rcases (by simpa using hj : j = i k ∨ j = f) with rfl | rfl
      · refine stp k vs _ W _ hlt hi fun x W' hW hi' => ⟨hS _ _ _ hi', ?_⟩
        rw [hLi k false hlt]
        exact ih (k + 1) _ W' (by omega) hi'
      · refine wpOp_value j df (.pointer (some ⟨W.heap.size, 0, none⟩)) (w' := W.alloc o) hof hdf (hwf vs p0) (hrf vs W) ?_
        rw [hFp, hLf k hlt]
        exact ⟨hS _ _ _ (hI k vs W hi), one (d + 1) k vs _ _ hk (hI k vs W hi) (hB k vs W hi) (al_new W o)⟩
  exact two m 0 vs0 w (by omega) h0
theorem wpAnyH_float8 {P : Program} {ops : Array Oper} {Q : Exit → Act → World → Prop} {S : World → Prop} {md : Region.Mode} {fuel m : Nat} (r : Nat) (i : Nat → Nat) (f df : Nat) {of : Oper} (o : Obj) (F FB : (Nat → Value) → Value → Act) (p0 : Value) (L : Nat → Bool → Array Bool) (LB : Bool → Array Bool) (I : Nat → (Nat → Value) → World → Prop) (n0 : Nat)
    (hof : ops[f]? = some of) (hdf : of.dst = some df) (hwf : ∀ vs p, Region.wanted of (yielded ops (F vs p).tmps) = true) (hrf : ∀ vs W, (execOp (F vs p0).eval of).run P W = .ok (.value (.pointer (some ⟨W.heap.size, 0, none⟩))) (W.alloc o))
    (hFp : ∀ vs x, (F vs p0).put (some df) x = F vs x) (hLf : ∀ k, k < m → (L k false).setIfInBounds f true = L k true) (hLi : ∀ k b, k < m → (L k b).setIfInBounds (i k) true = L (k + 1) b)
    (r0 : ∀ k, k < m → Region.ready md ops (L k false) = [i k, f]) (r1 : ∀ k, k < m → Region.ready md ops (L k true) = [i k])
    (hI : ∀ k vs W, I k vs W → I k vs (W.alloc o)) (hS : ∀ k vs W, I k vs W → S W) (hB : ∀ k vs W, I k vs W → n0 ≤ W.heap.size)
    (stp : ∀ k vs p W (K : Act → World → Prop), k < m → I k vs W → (∀ x W', KeepUp n0 W W' → I (k + 1) (fun j => if j = k then x else vs j) W' → K (F (fun j => if j = k then x else vs j) p) W') → wpOp P ops Q (i k) K (F vs p) W)
    (takes : ∀ n vs p b W, I m vs W → wpAnyH P md ops Q S n (LB b) (FB vs p) W → wpAnyH P md ops Q S (n + r) (L m b) (F vs p) W)
    (rf : Region.ready md ops (LB false) = [f]) (hLB : (LB false).setIfInBounds f true = LB true) (hFB : ∀ vs x, (FB vs p0).put (some df) x = FB vs x) (hwB : ∀ vs p, Region.wanted of (yielded ops (FB vs p).tmps) = true) (hrB : ∀ vs W, (execOp (FB vs p0).eval of).run P W = .ok (.value (.pointer (some ⟨W.heap.size, 0, none⟩))) (W.alloc o))
    (fin : ∀ vs p W, I m vs W → n0 ≤ p → W.heap[p]? = some o → wpAnyH P md ops Q S fuel (LB true) (FB vs (.pointer (some ⟨p, 0, none⟩))) W)
    (vs0 : Nat → Value) (w : World) (h0 : I 0 vs0 w) : wpAnyH P md ops Q S (fuel + r + (m + 1)) (L 0 false) (F vs0 p0) w := by
  refine wpAnyH_float7 i f df o F p0 L I n0 hof hdf hwf hrf hFp hLf hLi r0 r1 hI hS hB stp (fun vs p W hi hp hh => takes fuel vs _ true W hi (fin vs p W hi hp hh)) (fun vs W hi => ?_) vs0 w h0
  rw [show fuel + r + 1 = fuel + 1 + r by omega]
  refine takes (fuel + 1) vs _ false W hi ?_
  refine wpAnyH_all rf (by simp) fun j hj => ?_
  obtain rfl : j = f := by simpa using hj
  refine wpOp_value j df (.pointer (some ⟨W.heap.size, 0, none⟩)) (w' := W.alloc o) hof hdf (hwB vs p0) (hrB vs W) ?_
  rw [hFB, hLB]
  exact ⟨hS _ _ _ (hI m vs W hi), fin vs _ _ (hI m vs W hi) (hB m vs W hi) (al_new W o)⟩

end Go.Proofs.YtamfcmmhmfhhkaaGreatDoor

namespace Go.Proofs.YtamfcmmhmfhhkaaGreatDoor.PM
open Go.RowKit

/-- A function that compares, with what it holds. -/
structure Cmp (f : Nat) (lb : Array Value) (c : Pn → Pn → Int) (X : World → Prop) : Prop where
  enter : ∀ args w, (callFunc f args).run Tryz.prog w = .ok (.enter f args) w
  calls : ∀ a b w, X w → Calls Tryz.prog f (#[pnv a, pnv b] ++ lb) w fun e w' => e = .returned (.int .i64 (c a b)) ∧ Calm w w'
  calm : ∀ w w', X w → Calm w w' → X w'

/-- A map's own cells. -/
def Mp (w : World) (m : Nat) (f : Nat) (lb : Array Value) (r : Option Addr) : Prop := w.heap[m]? = some (.cells #[.func (.func f) #[] lb, .pointer r] 112 (0, 0))

/-- The value that was there. -/
def was (f : Pn → Int) (X : List (Pn × Pn)) : Pn := ((it f X).map (·.2)).getD pn0

theorem results_scs {P : Program} {fn : Func} {p u u2 : Tmp} {ty : TypeId} (h : fn.results = #[.tmp u, .cell p ty, .tmp u2]) (tmps : Array Value) (w : World) (g : Nat) (t : TypeId) (cs : Array Value) (fr : Nat × Nat) (d : TypeDesc)
    (hp : tmps.getD p undef = .pointer (some ⟨g, 0, none⟩)) (hg : w.heap[g]? = some (.cells cs t fr)) (hu : P.underlying ty = some d) (hd : (match d with | .struct _ | .array _ _ => true | _ => false) = true) (hi : (P.info? ty).map (·.size) = some cs.size) (v v2 : Value) (hv : tmps.getD u undef = v) (hv2 : tmps.getD u2 undef = v2) :
    (results fn tmps).run P w = .ok (.tuple #[v, .agg cs, v2]) w := by
  have hp' : tmps[p]?.getD undef = .pointer (some ⟨g, 0, none⟩) := by simpa using hp
  have hv' : tmps[u]?.getD undef = v := by simpa using hv
  have hv2' : tmps[u2]?.getD undef = v2 := by simpa using hv2
  simp [results, h, hp', hv', hv2', asAddr, run_loadVar_row w g t ty cs fr d hg hu hd hi]

abbrev cellsW (k v : Pn) (n : Int) (p q : Option Addr) : Array Value := #[.string k.k, .int .i64 k.a, .int .i64 k.b, .int .i64 k.d, .int .i64 k.n, .int .i64 k.t.c, .int .i64 k.t.s, .int .i64 k.t.m, .int .i64 k.t.x, .string v.k, .int .i64 v.a, .int .i64 v.b, .int .i64 v.d, .int .i64 v.n, .int .i64 v.t.c, .int .i64 v.t.s, .int .i64 v.t.m, .int .i64 v.t.x, .int .i64 n, .pointer p, .pointer q]

theorem TL.touch {S : Nat → Prop} {w w' : World} {p : Value} {X : List (Pn × Pn)} (h : TL w p X) (ht : Touch S w w') (hS : ∀ b cs fr, S b → w.heap[b]? ≠ some (.cells cs 133 fr)) : TL w' p X := by
  induction h with
  | nil => exact .nil
  | node hb _ _ il ir => exact .node (ht.heap hb fun hs => hS _ _ _ hs hb) il ir

def tupW (v : Value) : Value := match v with | .tuple xs => xs.getD 0 undef | _ => undef

set_option maxRecDepth 100000 in
set_option maxHeartbeats 4000000 in
theorem lay_any {f : Nat} {lb : Array Value} {c : Pn → Pn → Int} {Y : World → Prop} (hC : Cmp f lb c Y) (m : Nat) (ro : Option Addr) (key : Pn) (val : Pn)
    {w : World} {p : Value} {X : List (Pn × Pn)} (h : TL w p X) (hm : Mp w m f lb ro) (hY : Y w) (hd : Dec (c key) X) (low : Low (X.length + 1)) :
    ∀ w1, Calm w w1 → Calls Tryz.prog 64 #[.pointer (some ⟨m, 0, none⟩), p, pnv key, pnv val] w1 fun e w' =>
      ∃ b', e = .returned (.tuple #[.pointer (some ⟨b', 0, none⟩), pnv (was (c key) X), .bool (it (c key) X).isSome]) ∧ TL w' (.pointer (some ⟨b', 0, none⟩)) (lput (c key) key val X) ∧ Calm w1 w' := by
  have hi9 : (Tryz.prog.info? 40).map (·.size) = some 9 := by kernel_rfl
  induction h with
  | nil =>
    intro w1 t1
    have K6 := hide (al_old (al_old (al_old (al_new w1 (.cells (pnc key) 40)) (.cells (pnc val) 40)) (.cells #[.string ⟨#[]⟩, .int .i64 0, .int .i64 0, .int .i64 0, .int .i64 0, .int .i64 0, .int .i64 0, .int .i64 0, .int .i64 0] 40)) (.cells #[.string ⟨#[]⟩, .int .i64 0, .int .i64 0, .int .i64 0, .int .i64 0, .int .i64 0, .int .i64 0, .int .i64 0, .int .i64 0] 40))
    have K7 := hide (al_old (al_old (al_new (w1.alloc (.cells (pnc key) 40)) (.cells (pnc val) 40)) (.cells #[.string ⟨#[]⟩, .int .i64 0, .int .i64 0, .int .i64 0, .int .i64 0, .int .i64 0, .int .i64 0, .int .i64 0, .int .i64 0] 40)) (.cells #[.string ⟨#[]⟩, .int .i64 0, .int .i64 0, .int .i64 0, .int .i64 0, .int .i64 0, .int .i64 0, .int .i64 0, .int .i64 0] 40))
    have K9 := hide (al_old (al_new ((w1.alloc (.cells (pnc key) 40)).alloc (.cells (pnc val) 40)) (.cells #[.string ⟨#[]⟩, .int .i64 0, .int .i64 0, .int .i64 0, .int .i64 0, .int .i64 0, .int .i64 0, .int .i64 0, .int .i64 0] 40)) (.cells #[.string ⟨#[]⟩, .int .i64 0, .int .i64 0, .int .i64 0, .int .i64 0, .int .i64 0, .int .i64 0, .int .i64 0, .int .i64 0] 40))
    have K11 := hide (al_new (((w1.alloc (.cells (pnc key) 40)).alloc (.cells (pnc val) 40)).alloc (.cells #[.string ⟨#[]⟩, .int .i64 0, .int .i64 0, .int .i64 0, .int .i64 0, .int .i64 0, .int .i64 0, .int .i64 0, .int .i64 0] 40)) (.cells #[.string ⟨#[]⟩, .int .i64 0, .int .i64 0, .int .i64 0, .int .i64 0, .int .i64 0, .int .i64 0, .int .i64 0, .int .i64 0] 40))
    simp only [al_size] at K7 K9 K11
    have T0 := hide (((((Touch.refl (fun _ => False) w1).alloc (.cells (pnc key) 40)).alloc (.cells (pnc val) 40)).alloc (.cells #[.string ⟨#[]⟩, .int .i64 0, .int .i64 0, .int .i64 0, .int .i64 0, .int .i64 0, .int .i64 0, .int .i64 0, .int .i64 0] 40)).alloc (.cells #[.string ⟨#[]⟩, .int .i64 0, .int .i64 0, .int .i64 0, .int .i64 0, .int .i64 0, .int .i64 0, .int .i64 0, .int .i64 0] 40))
    clear t1 hd low hY hC hm
    go_enter Tryz.func64, Tryz.ntmps64
    go_wp2_with fail
    have HD : Hid (w1.heap.size ≤ w1.heap.size) := hide (Nat.le_refl _)
    generalize (((w1.alloc (.cells (pnc key) 40)).alloc (.cells (pnc val) 40)).alloc (.cells #[.string ⟨#[]⟩, .int .i64 0, .int .i64 0, .int .i64 0, .int .i64 0, .int .i64 0, .int .i64 0, .int .i64 0, .int .i64 0] 40)).alloc (.cells #[.string ⟨#[]⟩, .int .i64 0, .int .i64 0, .int .i64 0, .int .i64 0, .int .i64 0, .int .i64 0, .int .i64 0, .int .i64 0] 40) = ws at *
    generalize hDD : w1.heap.size = D at K6 K7 K9 K11 ⊢
    refine wp_region_held (S := Touch (fun g => g = D + 1 + 1) ws) (by kernel_rfl) ?_
    have hT0 : Touch (fun g => g = D + 1 + 1) ws { ws with drawn := ws.drawn + 1 } := (Touch.refl _ ws).drew
    refine wpAnyH_yield 0 19 (pnv key) rfl rfl (by kernel_rfl) (by kernel_rfl) (by kernel_rfl) (fun _ _ _ h => h) (by kernel_rfl) (fun W hW => by obtain ⟨⟨c0, c1, c2, c3, c4⟩, c5, c6, c7, c8⟩ := pn_cells (hW.heap K6.out (by omega)); go_simp) (by assumption) rfl rfl ?_
    simp only [Act.put, List.setIfInBounds_toArray, List.set_cons_zero, List.set_cons_succ]
    refine wpAnyH_yield 1 20 (pnv val) rfl rfl (by kernel_rfl) (by kernel_rfl) (by kernel_rfl) (fun _ _ _ h => h) (by kernel_rfl) (fun W hW => by obtain ⟨⟨c0, c1, c2, c3, c4⟩, c5, c6, c7, c8⟩ := pn_cells (hW.heap K7.out (by omega)); go_simp) (by assumption) rfl rfl ?_
    simp only [Act.put, List.setIfInBounds_toArray, List.set_cons_zero, List.set_cons_succ]
    refine wpAnyH_yield 2 21 (.agg (cellsW key val 1 none none)) rfl rfl (by kernel_rfl) (by kernel_rfl) (by kernel_rfl) (fun _ _ _ h => h) (by kernel_rfl) (fun W hW => by go_simp) (by assumption) rfl rfl ?_
    simp only [Act.put, List.setIfInBounds_toArray, List.set_cons_zero, List.set_cons_succ]
    refine wpAnyH_yield 4 23 (pnv pn0) rfl rfl (by kernel_rfl) (by kernel_rfl) (by kernel_rfl) (fun _ _ _ h => h) (by kernel_rfl) (fun W hW => by obtain ⟨⟨c0, c1, c2, c3, c4⟩, c5, c6, c7, c8⟩ := pn_cells (x := pn0) (hW.heap K11.out (by omega)); go_simp) (by assumption) rfl rfl ?_
    simp only [Act.put, List.setIfInBounds_toArray, List.set_cons_zero, List.set_cons_succ]
    refine wpAnyH_value 3 22 (.pointer (some ⟨ws.heap.size, 0, none⟩)) (w' := ws.drew.alloc (.cells (cellsW key val 1 none none) 133)) rfl rfl (by kernel_rfl) (by kernel_rfl) (by go_simp) (hT0.alloc _) ?_
    simp only [Act.put, List.setIfInBounds_toArray, List.set_cons_zero, List.set_cons_succ]
    have hT2 : Touch (fun g => g = D + 1 + 1) ws (ws.drew.alloc (.cells (cellsW key val 1 none none) 133)) := hT0.alloc _
    have hN2 : (ws.drew.alloc (.cells (cellsW key val 1 none none) 133)).heap[ws.heap.size]? = some (.cells (cellsW key val 1 none none) 133 (0, 0)) := heap_alloc_last ws.drew _
    have hC2 : Calm ws (ws.drew.alloc (.cells (cellsW key val 1 none none) 133)) := ((Touch.refl (fun _ => False) ws).drew).alloc _
    generalize ws.drew.alloc (.cells (cellsW key val 1 none none) 133) = w5 at *
    refine wpAnyH_yield 5 8 (.pointer (some ⟨ws.heap.size, 0, none⟩)) rfl rfl (by kernel_rfl) (by kernel_rfl) (by kernel_rfl) (fun _ _ _ h => h) (by kernel_rfl) (fun W hW => by kernel_rfl) (by assumption) rfl rfl ?_
    simp only [Act.put, List.setIfInBounds_toArray, List.set_cons_zero, List.set_cons_succ]
    have hh := hC2.at K9.out
    have hlt := lt_of_heap K9.out
    have tR : Touch (fun g => g = D + 1 + 1) w5 (w5.setRow (D + 1 + 1) (pnc pn0)) := ⟨rfl, rfl, rfl, by simp, fun j _ hj => setRow_other _ _ j _ hj⟩
    refine wpAnyH_do 6 (w5.setRow (D + 1 + 1) (pnc pn0)) rfl (by kernel_rfl) (by kernel_rfl) ?_ (hT2.trans tR fun _ _ h => h) ?_
    · intro K hK
      exact wp_store_row 40 (.tmp 9) (.tmp 23) rfl (D + 1 + 1) (pnc pn0) rfl rfl 40 _ hh hi9 rfl (by simp [Value.oneCell']) hK
    have H9 := hide (setRow_heap _ _ _ (pnc pn0) _ _ hh)
    have HN := hide (tR.heap hN2 (by omega))
    have HT := hide (((T0.out).tr hC2).trans tR fun g hg e => by omega)
    have hS5 : Touch (fun g => g = D + 1 + 1) ws (w5.setRow (D + 1 + 1) (pnc pn0)) := hT2.trans tR fun _ _ h => h
    generalize w5.setRow (D + 1 + 1) (pnc pn0) = w6 at *
    refine wpAnyH_yield 7 10 (.bool false) rfl rfl (by kernel_rfl) (by kernel_rfl) (by kernel_rfl) (fun _ _ _ h => h) (by kernel_rfl) (fun W hW => by kernel_rfl) (by assumption) rfl rfl ?_
    simp only [Act.put, List.setIfInBounds_toArray, List.set_cons_zero, List.set_cons_succ]
    refine wpAnyH_done (by kernel_rfl) ?_ _
    clear hS5 tR hh hlt hC2 hT2 hN2 hT0
    go_wp2_with fail
    refine bodyPost_ret (results_scs rfl _ _ (D + 1 + 1) _ (pnc pn0) _ _ rfl H9.out Tryz.underlying40 rfl (by kernel_rfl) _ _ rfl rfl) rfl ?_
    exact ⟨ws.heap.size, rfl, .node (L := []) (R := []) HN.out .nil .nil, HT.out⟩
  | @node b k v p q L R hb h1 h2 i1 i2 =>
  intro w1 t1
  have LOW : Hid (Low (L.length + 1 + R.length + 1)) := hide (by refine low_of low ?_; simp; omega)
  have hi9 : (Tryz.prog.info? 40).map (·.size) = some 9 := by kernel_rfl
  have K6 := hide (al_old (al_old (al_new w1 (.cells (pnc key) 40)) (.cells (pnc val) 40)) (.cells #[.string ⟨#[]⟩, .int .i64 0, .int .i64 0, .int .i64 0, .int .i64 0, .int .i64 0, .int .i64 0, .int .i64 0, .int .i64 0] 40))
  have K7 := hide (al_old (al_new (w1.alloc (.cells (pnc key) 40)) (.cells (pnc val) 40)) (.cells #[.string ⟨#[]⟩, .int .i64 0, .int .i64 0, .int .i64 0, .int .i64 0, .int .i64 0, .int .i64 0, .int .i64 0, .int .i64 0] 40))
  have K9 := hide (al_new ((w1.alloc (.cells (pnc key) 40)).alloc (.cells (pnc val) 40)) (.cells #[.string ⟨#[]⟩, .int .i64 0, .int .i64 0, .int .i64 0, .int .i64 0, .int .i64 0, .int .i64 0, .int .i64 0, .int .i64 0] 40))
  simp only [al_size] at K7 K9
  have T0 := hide ((((Touch.refl (fun _ => False) w1).alloc (.cells (pnc key) 40)).alloc (.cells (pnc val) 40)).alloc (.cells #[.string ⟨#[]⟩, .int .i64 0, .int .i64 0, .int .i64 0, .int .i64 0, .int .i64 0, .int .i64 0, .int .i64 0, .int .i64 0] 40))
  have hD0 : w1.heap.size ≤ w1.heap.size := Nat.le_refl _
  have HB := hide (t1.at hb)
  have HN : Hid (Nd w1 b k v p q) := hide ⟨_, t1.at hb⟩
  have HM := hide (t1.at hm)
  have H1 := hide (h1.calm t1)
  have H2 := hide (h2.calm t1)
  have HC := hide hC
  have HY := hide (hC.calm _ _ hY t1)
  have HD := hide hd
  have CA := hide (fun W (h : Calm w1 W) => hC.calls key k W (hC.calm _ _ HY.out h))
  have I1 := hide (fun W (h : Calm w1 W) => i1 hd.parts.1 (low_of LOW.out (by omega)) W (t1.tr h))
  have I2 := hide (fun W (h : Calm w1 W) => i2 hd.parts.2.1 (low_of LOW.out (by omega)) W (t1.tr h))
  have hsign : (c key k < 0 ∧ sd (c key k) = 0) ∨ c key k = 0 ∨ (0 < c key k ∧ sd (c key k) = 1) := by
    unfold sd
    rcases Int.lt_trichotomy (c key k) 0 with h | h | h
    · exact .inl ⟨h, if_pos h⟩
    · exact .inr (.inl h)
    · exact .inr (.inr ⟨h, if_neg (by omega)⟩)
  have hne : ∀ z : Int, z < 0 → ¬ z = 0 := fun z h => by omega
  have hne' : ∀ z : Int, 0 < z → ¬ z = 0 := fun z h => by omega
  clear i1 i2 h1 h2 hb hd low hY hm hC t1 hD0
  generalize hcz : c key k = cz at *
  have HCZ := hide hcz
  clear hcz
  go_enter Tryz.func64, Tryz.ntmps64
  go_wp2_with fail
  generalize ((w1.alloc (.cells (pnc key) 40)).alloc (.cells (pnc val) 40)).alloc (.cells #[.string ⟨#[]⟩, .int .i64 0, .int .i64 0, .int .i64 0, .int .i64 0, .int .i64 0, .int .i64 0, .int .i64 0, .int .i64 0] 40) = ws at *
  obtain ⟨D, hDD⟩ : ∃ D, w1.heap.size = D := ⟨_, rfl⟩
  rw [hDD] at K6 K7 K9 ⊢
  have HDD := hide hDD
  clear hDD
  refine wp_region_held (S := Calm ws) (by kernel_rfl) ?_
  have hT0 : Calm ws { ws with drawn := ws.drawn + 1 } := (Touch.refl (fun _ => False) ws).drew
  refine wpAnyH_yield 0 24 (.pointer (some ⟨m, 0, none⟩)) rfl rfl (by kernel_rfl) (by kernel_rfl) (by kernel_rfl) (fun _ _ _ h => h) (by kernel_rfl) (fun W hW => by kernel_rfl) (by assumption) rfl rfl ?_
  simp only [Act.put, List.setIfInBounds_toArray, List.set_cons_zero, List.set_cons_succ]
  refine wpAnyH_yield 1 25 (.pointer (some ⟨m, 0, none⟩)) rfl rfl (by kernel_rfl) (by kernel_rfl) (by kernel_rfl) (fun _ _ _ h => h) (by kernel_rfl) (fun W hW => by kernel_rfl) (by assumption) rfl rfl ?_
  simp only [Act.put, List.setIfInBounds_toArray, List.set_cons_zero, List.set_cons_succ]
  refine wpAnyH_yield 2 26 (.pointer (some ⟨m, 0, none⟩)) rfl rfl (by kernel_rfl) (by kernel_rfl) (by kernel_rfl) (fun _ _ _ h => h) (by kernel_rfl) (fun W hW => by go_simp) (by assumption) rfl rfl ?_
  simp only [Act.put, List.setIfInBounds_toArray, List.set_cons_zero, List.set_cons_succ]
  refine wpAnyH_yield 3 27 (.func (.func f) #[] lb) rfl rfl (by kernel_rfl) (by kernel_rfl) (by kernel_rfl) (fun _ _ _ h => h) (by kernel_rfl) (fun W hW => by obtain ⟨c0, c1⟩ := cells2 (hW.at (T0.out.at HM.out)); go_simp) (by assumption) rfl rfl ?_
  simp only [Act.put, List.setIfInBounds_toArray, List.set_cons_zero, List.set_cons_succ]
  refine wpAnyH_yield 4 28 (pnv key) rfl rfl (by kernel_rfl) (by kernel_rfl) (by kernel_rfl) (fun _ _ _ h => h) (by kernel_rfl) (fun W hW => by obtain ⟨⟨c0, c1, c2, c3, c4⟩, c5, c6, c7, c8⟩ := pn_cells (hW.at K6.out); go_simp) (by assumption) rfl rfl ?_
  simp only [Act.put, List.setIfInBounds_toArray, List.set_cons_zero, List.set_cons_succ]
  refine wpAnyH_yield 5 29 (.pointer (some ⟨b, 0, none⟩)) rfl rfl (by kernel_rfl) (by kernel_rfl) (by kernel_rfl) (fun _ _ _ h => h) (by kernel_rfl) (fun W hW => by kernel_rfl) (by assumption) rfl rfl ?_
  simp only [Act.put, List.setIfInBounds_toArray, List.set_cons_zero, List.set_cons_succ]
  refine wpAnyH_yield 6 30 (.pointer (some ⟨b, 0, none⟩)) rfl rfl (by kernel_rfl) (by kernel_rfl) (by kernel_rfl) (fun _ _ _ h => h) (by kernel_rfl) (fun W hW => by kernel_rfl) (by assumption) rfl rfl ?_
  simp only [Act.put, List.setIfInBounds_toArray, List.set_cons_zero, List.set_cons_succ]
  refine wpAnyH_yield 7 31 (.pointer (some ⟨b, 0, none⟩)) rfl rfl (by kernel_rfl) (by kernel_rfl) (by kernel_rfl) (fun _ _ _ h => h) (by kernel_rfl) (fun W hW => by go_simp) (by assumption) rfl rfl ?_
  simp only [Act.put, List.setIfInBounds_toArray, List.set_cons_zero, List.set_cons_succ]
  refine wpAnyH_yield 8 32 (pnv k) rfl rfl (by kernel_rfl) (by kernel_rfl) (by kernel_rfl) (fun _ _ _ h => h) (by kernel_rfl) (fun W hW => by obtain ⟨⟨⟨kc0, kc1, kc2, kc3, kc4⟩, kc5, kc6, kc7, kc8⟩, ⟨⟨vc0, vc1, vc2, vc3, vc4⟩, vc5, vc6, vc7, vc8⟩, c2, c3, c4⟩ := cells21 (hW.at (T0.out.at HB.out)); go_simp) (by assumption) rfl rfl ?_
  simp only [Act.put, List.setIfInBounds_toArray, List.set_cons_zero, List.set_cons_succ]
  refine wpAnyH_enter 9 33 f (#[pnv key, pnv k] ++ lb) rfl rfl (by kernel_rfl) (by kernel_rfl) (by have e := HC.out.enter; go_simp) ?_
  refine (CA.out _ (T0.out.tr hT0)).mono ?_
  rintro r w2 ⟨rfl, TC⟩
  have hT1 : Calm ws w2 := hT0.tr TC
  refine ⟨_, rfl, hT1, ?_⟩
  simp only [Act.put, List.setIfInBounds_toArray, List.set_cons_zero, List.set_cons_succ]
  refine wpAnyH_yield 10 12 (.int .i64 cz) rfl rfl (by kernel_rfl) (by kernel_rfl) (by kernel_rfl) (fun _ _ _ h => h) (by kernel_rfl) (fun W hW => by kernel_rfl) (by assumption) rfl rfl ?_
  simp only [Act.put, List.setIfInBounds_toArray, List.set_cons_zero, List.set_cons_succ]
  refine wpAnyH_done (by kernel_rfl) ?_ _
  have T1 := hide (T0.out.tr hT1)
  have HB1 := hide (T1.out.at HB.out)
  have N1 := hide (HN.out.calm T1.out)
  have A6 := hide (hT1.at K6.out)
  have A7 := hide (hT1.at K7.out)
  have A9 := hide (hT1.at K9.out)
  have K1 := hide (H1.out.calm T1.out)
  have K2 := hide (H2.out.calm T1.out)
  clear hT0 hT1 TC CA K6 K7 K9 T0 HB HN H1 H2
  rcases hsign with ⟨hz, hs⟩ | hz | ⟨hz, hs⟩
  rotate_left 0
  · have hz' := hne cz hz
    have SO := hide (sideOf_any cz)
    rw [hs] at SO
    have IH := I1.out
    have hw := hide (neg_way HD.out (x := (k, v)) (by show c key k < 0; rw [HCZ.out]; exact hz))
    have hll := hide (lput_neg (k := key) (v := val) HD.out (x := (k, v)) (by show c key k < 0; rw [HCZ.out]; exact hz))
    obtain ⟨wv, hwv⟩ : ∃ wv, was (c key) L = wv := ⟨_, rfl⟩
    obtain ⟨bv, hbv⟩ : ∃ bv, (it (c key) L).isSome = bv := ⟨_, rfl⟩
    rw [hwv, hbv] at IH
    have HIH := hide IH
    have HWV := hide hwv
    have HBV := hide hbv
    have HLP := hide (lput_len (k := key) (v := val) (show Dec (c key) L from by first | exact HD.out.parts.1 | exact HD.out.parts.2.1)).1
    clear IH hwv hbv I1 I2 hz hs
    go_wp2_with fail
    refine (SO.out _).mono ?_
    rintro e w' ⟨rfl, hq⟩
    obtain rfl := hq.symm
    clear hq
    go_wp2_with fail
    refine wp_region_held (S := Calm w2) (by kernel_rfl) ?_
    have hT0 : Calm w2 { w2 with drawn := w2.drawn + 1 } := (Touch.refl (fun _ => False) w2).drew
    refine wpAnyH_yield 0 58 (.pointer (some ⟨m, 0, none⟩)) rfl rfl (by kernel_rfl) (by kernel_rfl) (by kernel_rfl) (fun _ _ _ h => h) (by kernel_rfl) (fun W hW => by kernel_rfl) (by assumption) rfl rfl ?_
    simp only [Act.put, List.setIfInBounds_toArray, List.set_cons_zero, List.set_cons_succ]
    refine wpAnyH_yield 1 59 (.pointer (some ⟨b, 0, none⟩)) rfl rfl (by kernel_rfl) (by kernel_rfl) (by kernel_rfl) (fun _ _ _ h => h) (by kernel_rfl) (fun W hW => by kernel_rfl) (by assumption) rfl rfl ?_
    simp only [Act.put, List.setIfInBounds_toArray, List.set_cons_zero, List.set_cons_succ]
    refine wpAnyH_yield 2 60 (.int .i64 0) rfl rfl (by kernel_rfl) (by kernel_rfl) (by kernel_rfl) (fun _ _ _ h => h) (by kernel_rfl) (fun W hW => by kernel_rfl) (by assumption) rfl rfl ?_
    simp only [Act.put, List.setIfInBounds_toArray, List.set_cons_zero, List.set_cons_succ]
    refine wpAnyH_yield 3 61 (.pointer (some ⟨b, 0, none⟩)) rfl rfl (by kernel_rfl) (by kernel_rfl) (by kernel_rfl) (fun _ _ _ h => h) (by kernel_rfl) (fun W hW => by kernel_rfl) (by assumption) rfl rfl ?_
    simp only [Act.put, List.setIfInBounds_toArray, List.set_cons_zero, List.set_cons_succ]
    refine wpAnyH_yield 4 62 (.pointer (some ⟨b, 19, none⟩)) rfl rfl (by kernel_rfl) (by kernel_rfl) (by kernel_rfl) (fun _ _ _ h => h) (by kernel_rfl) (fun W hW => by go_simp) (by assumption) rfl rfl ?_
    simp only [Act.put, List.setIfInBounds_toArray, List.set_cons_zero, List.set_cons_succ]
    refine wpAnyH_yield 5 63 (.pointer (some ⟨b, 19, none⟩)) rfl rfl (by kernel_rfl) (by kernel_rfl) (by kernel_rfl) (fun _ _ _ h => h) (by kernel_rfl) (fun W hW => by go_simp) (by assumption) rfl rfl ?_
    simp only [Act.put, List.setIfInBounds_toArray, List.set_cons_zero, List.set_cons_succ]
    refine wpAnyH_yield 6 64 (.pointer p) rfl rfl (by kernel_rfl) (by kernel_rfl) (by kernel_rfl) (fun _ _ _ h => h) (by kernel_rfl) (fun W hW => by obtain ⟨-, -, -, c3, c4⟩ := cells21 (hW.at HB1.out); go_simp) (by assumption) rfl rfl ?_
    simp only [Act.put, List.setIfInBounds_toArray, List.set_cons_zero, List.set_cons_succ]
    refine wpAnyH_yield 7 65 (pnv key) rfl rfl (by kernel_rfl) (by kernel_rfl) (by kernel_rfl) (fun _ _ _ h => h) (by kernel_rfl) (fun W hW => by obtain ⟨⟨c0, c1, c2, c3, c4⟩, c5, c6, c7, c8⟩ := pn_cells (hW.at A6.out); go_simp) (by assumption) rfl rfl ?_
    simp only [Act.put, List.setIfInBounds_toArray, List.set_cons_zero, List.set_cons_succ]
    refine wpAnyH_yield 8 66 (pnv val) rfl rfl (by kernel_rfl) (by kernel_rfl) (by kernel_rfl) (fun _ _ _ h => h) (by kernel_rfl) (fun W hW => by obtain ⟨⟨c0, c1, c2, c3, c4⟩, c5, c6, c7, c8⟩ := pn_cells (hW.at A7.out); go_simp) (by assumption) rfl rfl ?_
    simp only [Act.put, List.setIfInBounds_toArray, List.set_cons_zero, List.set_cons_succ]
    refine wpAnyH_names fun ops Q a0 hops hQ ha => ?_
    obtain ⟨F, hFd⟩ : ∃ F : (Nat → Value) → Value → Act, F = fun vs p => (a0.put (some 67) (vs 0)).put (some 15) p := ⟨_, rfl⟩
    obtain ⟨FB, hFB⟩ : ∃ FB : (Nat → Value) → Value → Act, FB = fun vs p => (((((a0.put (some 67) (vs 0)).put (some 57) (vs 0)).put (some 68) (tupW (vs 0))).put (some 69) (pnv wv)).put (some 70) (.bool bv)).put (some 15) p := ⟨_, rfl⟩
    have f0 : a0 = F (fun _ => undef) undef := by rw [hFd, ha]; kernel_rfl
    have g0 : ∀ vs p x, (F vs p).put (some 67) x = F (fun j => if j = 0 then x else vs j) p := fun vs p x => by rw [hFd, ha]; kernel_rfl
    have g4 : ∀ vs x, (F vs undef).put (some 15) x = F vs x := fun vs x => by rw [hFd, ha]; kernel_rfl
    have g5 : ∀ vs x, (FB vs undef).put (some 15) x = FB vs x := fun vs x => by rw [hFB, ha]; kernel_rfl
    rw [f0]
    refine wpAnyH_float8 (m := 1) (fuel := 3) 4 (fun _ => 9) 14 15 (.cells #[.string ⟨#[]⟩, .int .i64 0, .int .i64 0, .int .i64 0, .int .i64 0, .int .i64 0, .int .i64 0, .int .i64 0, .int .i64 0] 40) F FB undef (fun k b => #[true, true, true, true, true, true, true, true, true, decide (1 ≤ k), false, false, false, false, b, false, false, false]) (fun b => #[true, true, true, true, true, true, true, true, true, true, true, true, true, true, b, false, false, false])
      (fun j vs W => Calm w2 W ∧ (1 ≤ j → ∃ b3, vs 0 = .tuple #[.pointer (some ⟨b3, 0, none⟩), pnv wv, .bool bv] ∧ TL W (.pointer (some ⟨b3, 0, none⟩)) (lput (c key) key val L))) w2.heap.size
      (by rw [hops]; rfl) rfl (fun vs p => by rw [hops]; kernel_rfl) (fun vs W => by kernel_rfl) g4 ?hLf ?hLi ?r0 ?r1 ?hI (fun j vs W h => h.1) (fun j vs W h => h.1.size) ?stp ?takes ?rf ?hLB g5 (fun vs p => by rw [hops]; kernel_rfl) (fun vs W => by kernel_rfl) ?fin _ _ ⟨hT0, fun h => absurd h (by omega)⟩
    case hLf => intro k hk; obtain rfl : k = 0 := by omega
                rfl
    case hLi => intro k b hk; obtain rfl : k = 0 := by omega
                rfl
    case r0 => intro k hk; subst hops; obtain rfl : k = 0 := by omega
               kernel_rfl
    case r1 => intro k hk; subst hops; obtain rfl : k = 0 := by omega
               kernel_rfl
    case rf => subst hops; kernel_rfl
    case hLB => rfl
    case hI =>
      rintro j vs W ⟨h1, h2⟩
      have hA : Calm W (W.alloc (.cells #[.string ⟨#[]⟩, .int .i64 0, .int .i64 0, .int .i64 0, .int .i64 0, .int .i64 0, .int .i64 0, .int .i64 0, .int .i64 0] 40)) := (Touch.refl _ W).alloc _
      exact ⟨h1.tr hA, fun h => by obtain ⟨b3, e, t⟩ := h2 h; exact ⟨b3, e, t.calm hA⟩⟩
    case stp =>
      rintro j vs p' W K hk ⟨h1, h2⟩ hK
      subst hops
      obtain rfl : j = 0 := by omega
      refine wpOp_enter 9 67 64 #[.pointer (some ⟨m, 0, none⟩), .pointer p, pnv key, pnv val] rfl rfl (by kernel_rfl) (by rw [hFd, ha]; kernel_rfl) ?_
      refine (HIH.out W (T1.out.tr h1)).mono ?_
      rintro r W' ⟨b3, rfl, tl3, T2⟩
      exact ⟨_, rfl, by rw [g0]; exact hK _ _ (fun q ob hq hh => T2.at hh) ⟨h1.tr T2, fun _ => ⟨b3, rfl, tl3⟩⟩⟩
    case takes =>
      rintro n' vs p' bb W ⟨h1, h2⟩ hK
      obtain ⟨b3, e1, o2⟩ := h2 (by omega)
      have eF : F vs p' = (a0.put (some 67) (.tuple #[.pointer (some ⟨b3, 0, none⟩), pnv wv, .bool bv])).put (some 15) p' := by rw [hFd]; simp only [e1]
      have eB : FB vs p' = (((((a0.put (some 67) (.tuple #[.pointer (some ⟨b3, 0, none⟩), pnv wv, .bool bv])).put (some 15) p').put (some 57) (.tuple #[.pointer (some ⟨b3, 0, none⟩), pnv wv, .bool bv])).put (some 68) (.pointer (some ⟨b3, 0, none⟩))).put (some 69) (pnv wv)).put (some 70) (.bool bv) := by rw [hFB, ha]; simp only [e1]; kernel_rfl
      rw [eF]
      rw [eB] at hK
      subst hops hQ
      have hcS : Calm w2 W := h1
      refine wpAnyH_yield 10 57 (.tuple #[.pointer (some ⟨b3, 0, none⟩), pnv wv, .bool bv]) rfl rfl (by kernel_rfl) (by cases bb <;> kernel_rfl) (by cases bb <;> kernel_rfl) (fun _ _ _ h => h) (by kernel_rfl) (fun W hW => by rw [ha]; kernel_rfl) hcS rfl rfl ?_
      refine wpAnyH_yield 11 68 (.pointer (some ⟨b3, 0, none⟩)) rfl rfl (by kernel_rfl) (by cases bb <;> kernel_rfl) (by cases bb <;> kernel_rfl) (fun _ _ _ h => h) (by kernel_rfl) (fun W hW => by rw [ha]; kernel_rfl) hcS rfl rfl ?_
      refine wpAnyH_yield 12 69 (pnv wv) rfl rfl (by kernel_rfl) (by cases bb <;> kernel_rfl) (by cases bb <;> kernel_rfl) (fun _ _ _ h => h) (by kernel_rfl) (fun W hW => by rw [ha]; kernel_rfl) hcS rfl rfl ?_
      refine wpAnyH_yield 13 70 (.bool bv) rfl rfl (by kernel_rfl) (by cases bb <;> kernel_rfl) (by cases bb <;> kernel_rfl) (fun _ _ _ h => h) (by kernel_rfl) (fun W hW => by rw [ha]; kernel_rfl) hcS rfl rfl ?_
      exact hK
    case fin =>
      rintro vs p1 W ⟨h1, h2⟩ hp1 hh
      obtain ⟨b3, e1, tl3⟩ := h2 (by omega)
      have eB : FB vs (.pointer (some ⟨p1, 0, none⟩)) = (((((a0.put (some 67) (.tuple #[.pointer (some ⟨b3, 0, none⟩), pnv wv, .bool bv])).put (some 57) (.tuple #[.pointer (some ⟨b3, 0, none⟩), pnv wv, .bool bv])).put (some 68) (.pointer (some ⟨b3, 0, none⟩))).put (some 69) (pnv wv)).put (some 70) (.bool bv)).put (some 15) (.pointer (some ⟨p1, 0, none⟩)) := by rw [hFB]; simp only [e1]; kernel_rfl
      rw [eB, ha]
      subst hops hQ
      clear eB hFd hFB ha f0 g0 g4 g5 h2 e1
      simp only [Act.put, List.setIfInBounds_toArray, List.set_cons_zero, List.set_cons_succ]
      refine wpAnyH_yield 15 14 (.pointer (some ⟨b3, 0, none⟩)) rfl rfl (by kernel_rfl) (by kernel_rfl) (by kernel_rfl) (fun _ _ _ h => h) (by kernel_rfl) (fun W hW => by kernel_rfl) (by assumption) rfl rfl ?_
      simp only [Act.put, List.setIfInBounds_toArray, List.set_cons_zero, List.set_cons_succ]
      have tR : Touch (fun x => x = p1) W (W.setRow p1 (pnc wv)) := ⟨rfl, rfl, rfl, by simp, fun j _ hj => setRow_other _ _ j _ hj⟩
      have SS : Calm w2 (W.setRow p1 (pnc wv)) := h1.trans tR (fun x hx e => by omega)
      refine wpAnyH_do 16 (W.setRow p1 (pnc wv)) rfl (by kernel_rfl) (by kernel_rfl) ?_ SS ?_
      · intro K hK
        exact wp_store_row 40 (.tmp 15) (.tmp 69) rfl p1 (pnc wv) rfl rfl 40 _ hh hi9 rfl (by simp [Value.oneCell']) hK
      have P15 := hide (setRow_heap _ _ _ (pnc wv) _ _ hh)
      have tl4 : TL (W.setRow p1 (pnc wv)) (.pointer (some ⟨b3, 0, none⟩)) (lput (c key) key val L) := TL.touch tl3 tR fun bb cs fr hb e => by
        subst hb
        rw [hh] at e
        injection e with e
        injection e with _ e
        exact absurd e (by decide)
      have HP1 : Hid (w2.heap.size ≤ p1) := hide hp1
      generalize W.setRow p1 (pnc wv) = w13 at *
      refine wpAnyH_yield 17 16 (.bool bv) rfl rfl (by kernel_rfl) (by kernel_rfl) (by kernel_rfl) (fun _ _ _ h => h) (by kernel_rfl) (fun W hW => by kernel_rfl) (by assumption) rfl rfl ?_
      simp only [Act.put, List.setIfInBounds_toArray, List.set_cons_zero, List.set_cons_succ]
      refine wpAnyH_done (by kernel_rfl) ?_ _
      have T3 := hide (T1.out.tr SS)
      have B6 := hide (SS.at A6.out)
      have B9 := hide (SS.at A9.out)
      have HLT9 := hide (lt_of_heap A9.out)
      have WA := hide (fun W' (h : Calm w13 W') => with0_any b k v p q (some ⟨b3, 0, none⟩) _ R W' ((N1.out.calm SS).calm h) (tl4.calm h) ((K2.out.calm SS).calm h) (low_of LOW.out (by have := HLP.out; omega)))
      clear tR SS hT0 h1 hh hp1 tl3 tl4 A6 A7 A9 HB1 K1 K2 N1 T1 SO HIH
      go_wp2_with fail
      refine wp_region_held (S := Touch (fun g => g = D + 1 + 1) w13) (by kernel_rfl) ?_
      have hU0 : Touch (fun g => g = D + 1 + 1) w13 { w13 with drawn := w13.drawn + 1 } := (Touch.refl _ w13).drew
      refine wpAnyH_yield 0 71 (.pointer (some ⟨b, 0, none⟩)) rfl rfl (by kernel_rfl) (by kernel_rfl) (by kernel_rfl) (fun _ _ _ h => h) (by kernel_rfl) (fun W hW => by kernel_rfl) (by assumption) rfl rfl ?_
      simp only [Act.put, List.setIfInBounds_toArray, List.set_cons_zero, List.set_cons_succ]
      refine wpAnyH_yield 1 72 (.int .i64 0) rfl rfl (by kernel_rfl) (by kernel_rfl) (by kernel_rfl) (fun _ _ _ h => h) (by kernel_rfl) (fun W hW => by kernel_rfl) (by assumption) rfl rfl ?_
      simp only [Act.put, List.setIfInBounds_toArray, List.set_cons_zero, List.set_cons_succ]
      refine wpAnyH_yield 2 73 (.pointer (some ⟨b3, 0, none⟩)) rfl rfl (by kernel_rfl) (by kernel_rfl) (by kernel_rfl) (fun _ _ _ h => h) (by kernel_rfl) (fun W hW => by kernel_rfl) (by assumption) rfl rfl ?_
      simp only [Act.put, List.setIfInBounds_toArray, List.set_cons_zero, List.set_cons_succ]
      refine wpAnyH_yield 4 75 (pnv wv) rfl rfl (by kernel_rfl) (by kernel_rfl) (by kernel_rfl) (fun _ _ _ h => h) (by kernel_rfl) (fun W hW => by obtain ⟨⟨c0, c1, c2, c3, c4⟩, c5, c6, c7, c8⟩ := pn_cells (hW.heap P15.out (by have := HP1.out; have := HLT9.out; omega)); go_simp) (by assumption) rfl rfl ?_
      simp only [Act.put, List.setIfInBounds_toArray, List.set_cons_zero, List.set_cons_succ]
      refine wpAnyH_yield 5 76 (.bool bv) rfl rfl (by kernel_rfl) (by kernel_rfl) (by kernel_rfl) (fun _ _ _ h => h) (by kernel_rfl) (fun W hW => by kernel_rfl) (by assumption) rfl rfl ?_
      simp only [Act.put, List.setIfInBounds_toArray, List.set_cons_zero, List.set_cons_succ]
      refine wpAnyH_enter 3 74 75 #[.pointer (some ⟨b, 0, none⟩), .int .i64 0, .pointer (some ⟨b3, 0, none⟩)] rfl rfl (by kernel_rfl) (by kernel_rfl) (by kernel_rfl) ?_
      refine (WA.out _ ((Touch.refl (fun _ => False) w13).drew)).mono ?_
      rintro r w14 ⟨b4, rfl, tl4, t4⟩
      have t04 : Calm w13 w14 := ((Touch.refl (fun _ => False) w13).drew).tr t4
      have hU4 : Touch (fun g => g = D + 1 + 1) w13 w14 := t04.mono fun _ _ h => h.elim
      refine ⟨_, rfl, hU4, ?_⟩
      simp only [Act.put, List.setIfInBounds_toArray, List.set_cons_zero, List.set_cons_succ]
      refine wpAnyH_yield 6 8 (.pointer (some ⟨b4, 0, none⟩)) rfl rfl (by kernel_rfl) (by kernel_rfl) (by kernel_rfl) (fun _ _ _ h => h) (by kernel_rfl) (fun W hW => by kernel_rfl) (by assumption) rfl rfl ?_
      simp only [Act.put, List.setIfInBounds_toArray, List.set_cons_zero, List.set_cons_succ]
      have hh := t04.at B9.out
      have tR : Touch (fun g => g = D + 1 + 1) w14 (w14.setRow (D + 1 + 1) (pnc wv)) := ⟨rfl, rfl, rfl, by simp, fun j _ hj => setRow_other _ _ j _ hj⟩
      have hU5 : Touch (fun g => g = D + 1 + 1) w13 (w14.setRow (D + 1 + 1) (pnc wv)) := hU4.trans tR fun _ _ h => h
      refine wpAnyH_do 7 (w14.setRow (D + 1 + 1) (pnc wv)) rfl (by kernel_rfl) (by kernel_rfl) ?_ hU5 ?_
      · intro K hK
        exact wp_store_row 40 (.tmp 9) (.tmp 75) rfl (D + 1 + 1) (pnc wv) rfl rfl 40 _ hh hi9 rfl (by simp [Value.oneCell']) hK
      have H9 := hide (setRow_heap _ _ _ (pnc wv) _ _ hh)
      have TL5 := hide (TL.touch tl4 tR fun bb cs fr hb e => by
        subst hb
        rw [hh] at e
        injection e with e
        injection e with _ e
        exact absurd e (by decide))
      have HT := hide ((T3.out.tr t04).trans tR fun g hg e => by have := HDD.out; omega)
      generalize w14.setRow (D + 1 + 1) (pnc wv) = w15 at *
      refine wpAnyH_yield 8 10 (.bool bv) rfl rfl (by kernel_rfl) (by kernel_rfl) (by kernel_rfl) (fun _ _ _ h => h) (by kernel_rfl) (fun W hW => by kernel_rfl) (by assumption) rfl rfl ?_
      simp only [Act.put, List.setIfInBounds_toArray, List.set_cons_zero, List.set_cons_succ]
      refine wpAnyH_done (by kernel_rfl) ?_ _
      clear hU0 hU4 hU5 tR hh tl4 t4 t04 B9 B6 P15 WA
      go_wp2_with fail
      refine bodyPost_ret (results_scs rfl _ _ (D + 1 + 1) _ (pnc wv) _ _ rfl H9.out Tryz.underlying40 rfl (by kernel_rfl) _ _ rfl rfl) rfl ?_
      refine ⟨b4, ?_, ?_, HT.out⟩
      · rw [hw.out.2.2, HBV.out]
        unfold was
        rw [hw.out.2.2]
        have e := HWV.out
        unfold was at e
        rw [e]
        rfl
      · rw [hll.out]; exact TL5.out
  rotate_left 1
  · have hz' := hne' cz hz
    have SO := hide (sideOf_any cz)
    rw [hs] at SO
    have IH := I2.out
    have hw := hide (pos_way HD.out (x := (k, v)) (by show 0 < c key k; rw [HCZ.out]; exact hz))
    have hll := hide (lput_pos (k := key) (v := val) HD.out (x := (k, v)) (by show 0 < c key k; rw [HCZ.out]; exact hz))
    obtain ⟨wv, hwv⟩ : ∃ wv, was (c key) R = wv := ⟨_, rfl⟩
    obtain ⟨bv, hbv⟩ : ∃ bv, (it (c key) R).isSome = bv := ⟨_, rfl⟩
    rw [hwv, hbv] at IH
    have HIH := hide IH
    have HWV := hide hwv
    have HBV := hide hbv
    have HLP := hide (lput_len (k := key) (v := val) (show Dec (c key) R from by first | exact HD.out.parts.1 | exact HD.out.parts.2.1)).1
    clear IH hwv hbv I1 I2 hz hs
    go_wp2_with fail
    refine (SO.out _).mono ?_
    rintro e w' ⟨rfl, hq⟩
    obtain rfl := hq.symm
    clear hq
    go_wp2_with fail
    refine wp_region_held (S := Calm w2) (by kernel_rfl) ?_
    have hT0 : Calm w2 { w2 with drawn := w2.drawn + 1 } := (Touch.refl (fun _ => False) w2).drew
    refine wpAnyH_yield 0 58 (.pointer (some ⟨m, 0, none⟩)) rfl rfl (by kernel_rfl) (by kernel_rfl) (by kernel_rfl) (fun _ _ _ h => h) (by kernel_rfl) (fun W hW => by kernel_rfl) (by assumption) rfl rfl ?_
    simp only [Act.put, List.setIfInBounds_toArray, List.set_cons_zero, List.set_cons_succ]
    refine wpAnyH_yield 1 59 (.pointer (some ⟨b, 0, none⟩)) rfl rfl (by kernel_rfl) (by kernel_rfl) (by kernel_rfl) (fun _ _ _ h => h) (by kernel_rfl) (fun W hW => by kernel_rfl) (by assumption) rfl rfl ?_
    simp only [Act.put, List.setIfInBounds_toArray, List.set_cons_zero, List.set_cons_succ]
    refine wpAnyH_yield 2 60 (.int .i64 1) rfl rfl (by kernel_rfl) (by kernel_rfl) (by kernel_rfl) (fun _ _ _ h => h) (by kernel_rfl) (fun W hW => by kernel_rfl) (by assumption) rfl rfl ?_
    simp only [Act.put, List.setIfInBounds_toArray, List.set_cons_zero, List.set_cons_succ]
    refine wpAnyH_yield 3 61 (.pointer (some ⟨b, 0, none⟩)) rfl rfl (by kernel_rfl) (by kernel_rfl) (by kernel_rfl) (fun _ _ _ h => h) (by kernel_rfl) (fun W hW => by kernel_rfl) (by assumption) rfl rfl ?_
    simp only [Act.put, List.setIfInBounds_toArray, List.set_cons_zero, List.set_cons_succ]
    refine wpAnyH_yield 4 62 (.pointer (some ⟨b, 19, none⟩)) rfl rfl (by kernel_rfl) (by kernel_rfl) (by kernel_rfl) (fun _ _ _ h => h) (by kernel_rfl) (fun W hW => by go_simp) (by assumption) rfl rfl ?_
    simp only [Act.put, List.setIfInBounds_toArray, List.set_cons_zero, List.set_cons_succ]
    refine wpAnyH_yield 5 63 (.pointer (some ⟨b, 20, none⟩)) rfl rfl (by kernel_rfl) (by kernel_rfl) (by kernel_rfl) (fun _ _ _ h => h) (by kernel_rfl) (fun W hW => by go_simp) (by assumption) rfl rfl ?_
    simp only [Act.put, List.setIfInBounds_toArray, List.set_cons_zero, List.set_cons_succ]
    refine wpAnyH_yield 6 64 (.pointer q) rfl rfl (by kernel_rfl) (by kernel_rfl) (by kernel_rfl) (fun _ _ _ h => h) (by kernel_rfl) (fun W hW => by obtain ⟨-, -, -, c3, c4⟩ := cells21 (hW.at HB1.out); go_simp) (by assumption) rfl rfl ?_
    simp only [Act.put, List.setIfInBounds_toArray, List.set_cons_zero, List.set_cons_succ]
    refine wpAnyH_yield 7 65 (pnv key) rfl rfl (by kernel_rfl) (by kernel_rfl) (by kernel_rfl) (fun _ _ _ h => h) (by kernel_rfl) (fun W hW => by obtain ⟨⟨c0, c1, c2, c3, c4⟩, c5, c6, c7, c8⟩ := pn_cells (hW.at A6.out); go_simp) (by assumption) rfl rfl ?_
    simp only [Act.put, List.setIfInBounds_toArray, List.set_cons_zero, List.set_cons_succ]
    refine wpAnyH_yield 8 66 (pnv val) rfl rfl (by kernel_rfl) (by kernel_rfl) (by kernel_rfl) (fun _ _ _ h => h) (by kernel_rfl) (fun W hW => by obtain ⟨⟨c0, c1, c2, c3, c4⟩, c5, c6, c7, c8⟩ := pn_cells (hW.at A7.out); go_simp) (by assumption) rfl rfl ?_
    simp only [Act.put, List.setIfInBounds_toArray, List.set_cons_zero, List.set_cons_succ]
    refine wpAnyH_names fun ops Q a0 hops hQ ha => ?_
    obtain ⟨F, hFd⟩ : ∃ F : (Nat → Value) → Value → Act, F = fun vs p => (a0.put (some 67) (vs 0)).put (some 15) p := ⟨_, rfl⟩
    obtain ⟨FB, hFB⟩ : ∃ FB : (Nat → Value) → Value → Act, FB = fun vs p => (((((a0.put (some 67) (vs 0)).put (some 57) (vs 0)).put (some 68) (tupW (vs 0))).put (some 69) (pnv wv)).put (some 70) (.bool bv)).put (some 15) p := ⟨_, rfl⟩
    have f0 : a0 = F (fun _ => undef) undef := by rw [hFd, ha]; kernel_rfl
    have g0 : ∀ vs p x, (F vs p).put (some 67) x = F (fun j => if j = 0 then x else vs j) p := fun vs p x => by rw [hFd, ha]; kernel_rfl
    have g4 : ∀ vs x, (F vs undef).put (some 15) x = F vs x := fun vs x => by rw [hFd, ha]; kernel_rfl
    have g5 : ∀ vs x, (FB vs undef).put (some 15) x = FB vs x := fun vs x => by rw [hFB, ha]; kernel_rfl
    rw [f0]
    refine wpAnyH_float8 (m := 1) (fuel := 3) 4 (fun _ => 9) 14 15 (.cells #[.string ⟨#[]⟩, .int .i64 0, .int .i64 0, .int .i64 0, .int .i64 0, .int .i64 0, .int .i64 0, .int .i64 0, .int .i64 0] 40) F FB undef (fun k b => #[true, true, true, true, true, true, true, true, true, decide (1 ≤ k), false, false, false, false, b, false, false, false]) (fun b => #[true, true, true, true, true, true, true, true, true, true, true, true, true, true, b, false, false, false])
      (fun j vs W => Calm w2 W ∧ (1 ≤ j → ∃ b3, vs 0 = .tuple #[.pointer (some ⟨b3, 0, none⟩), pnv wv, .bool bv] ∧ TL W (.pointer (some ⟨b3, 0, none⟩)) (lput (c key) key val R))) w2.heap.size
      (by rw [hops]; rfl) rfl (fun vs p => by rw [hops]; kernel_rfl) (fun vs W => by kernel_rfl) g4 ?hLf ?hLi ?r0 ?r1 ?hI (fun j vs W h => h.1) (fun j vs W h => h.1.size) ?stp ?takes ?rf ?hLB g5 (fun vs p => by rw [hops]; kernel_rfl) (fun vs W => by kernel_rfl) ?fin _ _ ⟨hT0, fun h => absurd h (by omega)⟩
    case hLf => intro k hk; obtain rfl : k = 0 := by omega
                rfl
    case hLi => intro k b hk; obtain rfl : k = 0 := by omega
                rfl
    case r0 => intro k hk; subst hops; obtain rfl : k = 0 := by omega
               kernel_rfl
    case r1 => intro k hk; subst hops; obtain rfl : k = 0 := by omega
               kernel_rfl
    case rf => subst hops; kernel_rfl
    case hLB => rfl
    case hI =>
      rintro j vs W ⟨h1, h2⟩
      have hA : Calm W (W.alloc (.cells #[.string ⟨#[]⟩, .int .i64 0, .int .i64 0, .int .i64 0, .int .i64 0, .int .i64 0, .int .i64 0, .int .i64 0, .int .i64 0] 40)) := (Touch.refl _ W).alloc _
      exact ⟨h1.tr hA, fun h => by obtain ⟨b3, e, t⟩ := h2 h; exact ⟨b3, e, t.calm hA⟩⟩
    case stp =>
      rintro j vs p' W K hk ⟨h1, h2⟩ hK
      subst hops
      obtain rfl : j = 0 := by omega
      refine wpOp_enter 9 67 64 #[.pointer (some ⟨m, 0, none⟩), .pointer q, pnv key, pnv val] rfl rfl (by kernel_rfl) (by rw [hFd, ha]; kernel_rfl) ?_
      refine (HIH.out W (T1.out.tr h1)).mono ?_
      rintro r W' ⟨b3, rfl, tl3, T2⟩
      exact ⟨_, rfl, by rw [g0]; exact hK _ _ (fun q ob hq hh => T2.at hh) ⟨h1.tr T2, fun _ => ⟨b3, rfl, tl3⟩⟩⟩
    case takes =>
      rintro n' vs p' bb W ⟨h1, h2⟩ hK
      obtain ⟨b3, e1, o2⟩ := h2 (by omega)
      have eF : F vs p' = (a0.put (some 67) (.tuple #[.pointer (some ⟨b3, 0, none⟩), pnv wv, .bool bv])).put (some 15) p' := by rw [hFd]; simp only [e1]
      have eB : FB vs p' = (((((a0.put (some 67) (.tuple #[.pointer (some ⟨b3, 0, none⟩), pnv wv, .bool bv])).put (some 15) p').put (some 57) (.tuple #[.pointer (some ⟨b3, 0, none⟩), pnv wv, .bool bv])).put (some 68) (.pointer (some ⟨b3, 0, none⟩))).put (some 69) (pnv wv)).put (some 70) (.bool bv) := by rw [hFB, ha]; simp only [e1]; kernel_rfl
      rw [eF]
      rw [eB] at hK
      subst hops hQ
      have hcS : Calm w2 W := h1
      refine wpAnyH_yield 10 57 (.tuple #[.pointer (some ⟨b3, 0, none⟩), pnv wv, .bool bv]) rfl rfl (by kernel_rfl) (by cases bb <;> kernel_rfl) (by cases bb <;> kernel_rfl) (fun _ _ _ h => h) (by kernel_rfl) (fun W hW => by rw [ha]; kernel_rfl) hcS rfl rfl ?_
      refine wpAnyH_yield 11 68 (.pointer (some ⟨b3, 0, none⟩)) rfl rfl (by kernel_rfl) (by cases bb <;> kernel_rfl) (by cases bb <;> kernel_rfl) (fun _ _ _ h => h) (by kernel_rfl) (fun W hW => by rw [ha]; kernel_rfl) hcS rfl rfl ?_
      refine wpAnyH_yield 12 69 (pnv wv) rfl rfl (by kernel_rfl) (by cases bb <;> kernel_rfl) (by cases bb <;> kernel_rfl) (fun _ _ _ h => h) (by kernel_rfl) (fun W hW => by rw [ha]; kernel_rfl) hcS rfl rfl ?_
      refine wpAnyH_yield 13 70 (.bool bv) rfl rfl (by kernel_rfl) (by cases bb <;> kernel_rfl) (by cases bb <;> kernel_rfl) (fun _ _ _ h => h) (by kernel_rfl) (fun W hW => by rw [ha]; kernel_rfl) hcS rfl rfl ?_
      exact hK
    case fin =>
      rintro vs p1 W ⟨h1, h2⟩ hp1 hh
      obtain ⟨b3, e1, tl3⟩ := h2 (by omega)
      have eB : FB vs (.pointer (some ⟨p1, 0, none⟩)) = (((((a0.put (some 67) (.tuple #[.pointer (some ⟨b3, 0, none⟩), pnv wv, .bool bv])).put (some 57) (.tuple #[.pointer (some ⟨b3, 0, none⟩), pnv wv, .bool bv])).put (some 68) (.pointer (some ⟨b3, 0, none⟩))).put (some 69) (pnv wv)).put (some 70) (.bool bv)).put (some 15) (.pointer (some ⟨p1, 0, none⟩)) := by rw [hFB]; simp only [e1]; kernel_rfl
      rw [eB, ha]
      subst hops hQ
      clear eB hFd hFB ha f0 g0 g4 g5 h2 e1
      simp only [Act.put, List.setIfInBounds_toArray, List.set_cons_zero, List.set_cons_succ]
      refine wpAnyH_yield 15 14 (.pointer (some ⟨b3, 0, none⟩)) rfl rfl (by kernel_rfl) (by kernel_rfl) (by kernel_rfl) (fun _ _ _ h => h) (by kernel_rfl) (fun W hW => by kernel_rfl) (by assumption) rfl rfl ?_
      simp only [Act.put, List.setIfInBounds_toArray, List.set_cons_zero, List.set_cons_succ]
      have tR : Touch (fun x => x = p1) W (W.setRow p1 (pnc wv)) := ⟨rfl, rfl, rfl, by simp, fun j _ hj => setRow_other _ _ j _ hj⟩
      have SS : Calm w2 (W.setRow p1 (pnc wv)) := h1.trans tR (fun x hx e => by omega)
      refine wpAnyH_do 16 (W.setRow p1 (pnc wv)) rfl (by kernel_rfl) (by kernel_rfl) ?_ SS ?_
      · intro K hK
        exact wp_store_row 40 (.tmp 15) (.tmp 69) rfl p1 (pnc wv) rfl rfl 40 _ hh hi9 rfl (by simp [Value.oneCell']) hK
      have P15 := hide (setRow_heap _ _ _ (pnc wv) _ _ hh)
      have tl4 : TL (W.setRow p1 (pnc wv)) (.pointer (some ⟨b3, 0, none⟩)) (lput (c key) key val R) := TL.touch tl3 tR fun bb cs fr hb e => by
        subst hb
        rw [hh] at e
        injection e with e
        injection e with _ e
        exact absurd e (by decide)
      have HP1 : Hid (w2.heap.size ≤ p1) := hide hp1
      generalize W.setRow p1 (pnc wv) = w13 at *
      refine wpAnyH_yield 17 16 (.bool bv) rfl rfl (by kernel_rfl) (by kernel_rfl) (by kernel_rfl) (fun _ _ _ h => h) (by kernel_rfl) (fun W hW => by kernel_rfl) (by assumption) rfl rfl ?_
      simp only [Act.put, List.setIfInBounds_toArray, List.set_cons_zero, List.set_cons_succ]
      refine wpAnyH_done (by kernel_rfl) ?_ _
      have T3 := hide (T1.out.tr SS)
      have B6 := hide (SS.at A6.out)
      have B9 := hide (SS.at A9.out)
      have HLT9 := hide (lt_of_heap A9.out)
      have WA := hide (fun W' (h : Calm w13 W') => with1_any b k v p q (some ⟨b3, 0, none⟩) L _ W' ((N1.out.calm SS).calm h) ((K1.out.calm SS).calm h) (tl4.calm h) (low_of LOW.out (by have := HLP.out; omega)))
      clear tR SS hT0 h1 hh hp1 tl3 tl4 A6 A7 A9 HB1 K1 K2 N1 T1 SO HIH
      go_wp2_with fail
      refine wp_region_held (S := Touch (fun g => g = D + 1 + 1) w13) (by kernel_rfl) ?_
      have hU0 : Touch (fun g => g = D + 1 + 1) w13 { w13 with drawn := w13.drawn + 1 } := (Touch.refl _ w13).drew
      refine wpAnyH_yield 0 71 (.pointer (some ⟨b, 0, none⟩)) rfl rfl (by kernel_rfl) (by kernel_rfl) (by kernel_rfl) (fun _ _ _ h => h) (by kernel_rfl) (fun W hW => by kernel_rfl) (by assumption) rfl rfl ?_
      simp only [Act.put, List.setIfInBounds_toArray, List.set_cons_zero, List.set_cons_succ]
      refine wpAnyH_yield 1 72 (.int .i64 1) rfl rfl (by kernel_rfl) (by kernel_rfl) (by kernel_rfl) (fun _ _ _ h => h) (by kernel_rfl) (fun W hW => by kernel_rfl) (by assumption) rfl rfl ?_
      simp only [Act.put, List.setIfInBounds_toArray, List.set_cons_zero, List.set_cons_succ]
      refine wpAnyH_yield 2 73 (.pointer (some ⟨b3, 0, none⟩)) rfl rfl (by kernel_rfl) (by kernel_rfl) (by kernel_rfl) (fun _ _ _ h => h) (by kernel_rfl) (fun W hW => by kernel_rfl) (by assumption) rfl rfl ?_
      simp only [Act.put, List.setIfInBounds_toArray, List.set_cons_zero, List.set_cons_succ]
      refine wpAnyH_yield 4 75 (pnv wv) rfl rfl (by kernel_rfl) (by kernel_rfl) (by kernel_rfl) (fun _ _ _ h => h) (by kernel_rfl) (fun W hW => by obtain ⟨⟨c0, c1, c2, c3, c4⟩, c5, c6, c7, c8⟩ := pn_cells (hW.heap P15.out (by have := HP1.out; have := HLT9.out; omega)); go_simp) (by assumption) rfl rfl ?_
      simp only [Act.put, List.setIfInBounds_toArray, List.set_cons_zero, List.set_cons_succ]
      refine wpAnyH_yield 5 76 (.bool bv) rfl rfl (by kernel_rfl) (by kernel_rfl) (by kernel_rfl) (fun _ _ _ h => h) (by kernel_rfl) (fun W hW => by kernel_rfl) (by assumption) rfl rfl ?_
      simp only [Act.put, List.setIfInBounds_toArray, List.set_cons_zero, List.set_cons_succ]
      refine wpAnyH_enter 3 74 75 #[.pointer (some ⟨b, 0, none⟩), .int .i64 1, .pointer (some ⟨b3, 0, none⟩)] rfl rfl (by kernel_rfl) (by kernel_rfl) (by kernel_rfl) ?_
      refine (WA.out _ ((Touch.refl (fun _ => False) w13).drew)).mono ?_
      rintro r w14 ⟨b4, rfl, tl4, t4⟩
      have t04 : Calm w13 w14 := ((Touch.refl (fun _ => False) w13).drew).tr t4
      have hU4 : Touch (fun g => g = D + 1 + 1) w13 w14 := t04.mono fun _ _ h => h.elim
      refine ⟨_, rfl, hU4, ?_⟩
      simp only [Act.put, List.setIfInBounds_toArray, List.set_cons_zero, List.set_cons_succ]
      refine wpAnyH_yield 6 8 (.pointer (some ⟨b4, 0, none⟩)) rfl rfl (by kernel_rfl) (by kernel_rfl) (by kernel_rfl) (fun _ _ _ h => h) (by kernel_rfl) (fun W hW => by kernel_rfl) (by assumption) rfl rfl ?_
      simp only [Act.put, List.setIfInBounds_toArray, List.set_cons_zero, List.set_cons_succ]
      have hh := t04.at B9.out
      have tR : Touch (fun g => g = D + 1 + 1) w14 (w14.setRow (D + 1 + 1) (pnc wv)) := ⟨rfl, rfl, rfl, by simp, fun j _ hj => setRow_other _ _ j _ hj⟩
      have hU5 : Touch (fun g => g = D + 1 + 1) w13 (w14.setRow (D + 1 + 1) (pnc wv)) := hU4.trans tR fun _ _ h => h
      refine wpAnyH_do 7 (w14.setRow (D + 1 + 1) (pnc wv)) rfl (by kernel_rfl) (by kernel_rfl) ?_ hU5 ?_
      · intro K hK
        exact wp_store_row 40 (.tmp 9) (.tmp 75) rfl (D + 1 + 1) (pnc wv) rfl rfl 40 _ hh hi9 rfl (by simp [Value.oneCell']) hK
      have H9 := hide (setRow_heap _ _ _ (pnc wv) _ _ hh)
      have TL5 := hide (TL.touch tl4 tR fun bb cs fr hb e => by
        subst hb
        rw [hh] at e
        injection e with e
        injection e with _ e
        exact absurd e (by decide))
      have HT := hide ((T3.out.tr t04).trans tR fun g hg e => by have := HDD.out; omega)
      generalize w14.setRow (D + 1 + 1) (pnc wv) = w15 at *
      refine wpAnyH_yield 8 10 (.bool bv) rfl rfl (by kernel_rfl) (by kernel_rfl) (by kernel_rfl) (fun _ _ _ h => h) (by kernel_rfl) (fun W hW => by kernel_rfl) (by assumption) rfl rfl ?_
      simp only [Act.put, List.setIfInBounds_toArray, List.set_cons_zero, List.set_cons_succ]
      refine wpAnyH_done (by kernel_rfl) ?_ _
      clear hU0 hU4 hU5 tR hh tl4 t4 t04 B9 B6 P15 WA
      go_wp2_with fail
      refine bodyPost_ret (results_scs rfl _ _ (D + 1 + 1) _ (pnc wv) _ _ rfl H9.out Tryz.underlying40 rfl (by kernel_rfl) _ _ rfl rfl) rfl ?_
      refine ⟨b4, ?_, ?_, HT.out⟩
      · rw [hw.out.2.2, HBV.out]
        unfold was
        rw [hw.out.2.2]
        have e := HWV.out
        unfold was at e
        rw [e]
        rfl
      · rw [hll.out]; exact TL5.out
  · subst hz
    have hw := hide (at_way HD.out (x := (k, v)) HCZ.out)
    have hlp := hide (lput_at (k := key) (v := val) HD.out (x := (k, v)) HCZ.out)
    clear I1 I2
    generalize hmm : L.length + 1 + R.length = mm at *
    have HMM := hide hmm
    clear hmm
    go_wp2_with fail
    refine wp_region_held (S := Touch (fun g => g = D + 1 + 1) w2) (by kernel_rfl) ?_
    have hT0 : Touch (fun g => g = D + 1 + 1) w2 { w2 with drawn := w2.drawn + 1 } := (Touch.refl _ w2).drew
    have HNE : Hid (¬ b = D + 1 + 1) := hide fun e => by
      subst e
      have e1 := HB1.out
      rw [A9.out] at e1
      injection e1 with e1
      injection e1 with _ e1
      exact absurd e1 (by decide)
    refine wpAnyH_yield 0 36 (.pointer (some ⟨b, 0, none⟩)) rfl rfl (by kernel_rfl) (by kernel_rfl) (by kernel_rfl) (fun _ _ _ h => h) (by kernel_rfl) (fun W hW => by kernel_rfl) (by assumption) rfl rfl ?_
    simp only [Act.put, List.setIfInBounds_toArray, List.set_cons_zero, List.set_cons_succ]
    refine wpAnyH_yield 1 37 (.pointer (some ⟨b, 0, none⟩)) rfl rfl (by kernel_rfl) (by kernel_rfl) (by kernel_rfl) (fun _ _ _ h => h) (by kernel_rfl) (fun W hW => by kernel_rfl) (by assumption) rfl rfl ?_
    simp only [Act.put, List.setIfInBounds_toArray, List.set_cons_zero, List.set_cons_succ]
    refine wpAnyH_yield 2 38 (.pointer (some ⟨b, 0, none⟩)) rfl rfl (by kernel_rfl) (by kernel_rfl) (by kernel_rfl) (fun _ _ _ h => h) (by kernel_rfl) (fun W hW => by go_simp) (by assumption) rfl rfl ?_
    simp only [Act.put, List.setIfInBounds_toArray, List.set_cons_zero, List.set_cons_succ]
    refine wpAnyH_yield 3 39 (pnv k) rfl rfl (by kernel_rfl) (by kernel_rfl) (by kernel_rfl) (fun _ _ _ h => h) (by kernel_rfl) (fun W hW => by obtain ⟨⟨⟨kc0, kc1, kc2, kc3, kc4⟩, kc5, kc6, kc7, kc8⟩, ⟨⟨vc0, vc1, vc2, vc3, vc4⟩, vc5, vc6, vc7, vc8⟩, c2, c3, c4⟩ := cells21 (hW.heap HB1.out HNE.out); go_simp) (by assumption) rfl rfl ?_
    simp only [Act.put, List.setIfInBounds_toArray, List.set_cons_zero, List.set_cons_succ]
    refine wpAnyH_yield 4 40 (pnv val) rfl rfl (by kernel_rfl) (by kernel_rfl) (by kernel_rfl) (fun _ _ _ h => h) (by kernel_rfl) (fun W hW => by obtain ⟨⟨c0, c1, c2, c3, c4⟩, c5, c6, c7, c8⟩ := pn_cells (hW.heap A7.out (by omega)); go_simp) (by assumption) rfl rfl ?_
    simp only [Act.put, List.setIfInBounds_toArray, List.set_cons_zero, List.set_cons_succ]
    refine wpAnyH_yield 5 41 (.pointer (some ⟨b, 0, none⟩)) rfl rfl (by kernel_rfl) (by kernel_rfl) (by kernel_rfl) (fun _ _ _ h => h) (by kernel_rfl) (fun W hW => by kernel_rfl) (by assumption) rfl rfl ?_
    simp only [Act.put, List.setIfInBounds_toArray, List.set_cons_zero, List.set_cons_succ]
    refine wpAnyH_yield 6 42 (.pointer (some ⟨b, 0, none⟩)) rfl rfl (by kernel_rfl) (by kernel_rfl) (by kernel_rfl) (fun _ _ _ h => h) (by kernel_rfl) (fun W hW => by kernel_rfl) (by assumption) rfl rfl ?_
    simp only [Act.put, List.setIfInBounds_toArray, List.set_cons_zero, List.set_cons_succ]
    refine wpAnyH_yield 7 43 (.pointer (some ⟨b, 18, none⟩)) rfl rfl (by kernel_rfl) (by kernel_rfl) (by kernel_rfl) (fun _ _ _ h => h) (by kernel_rfl) (fun W hW => by go_simp) (by assumption) rfl rfl ?_
    simp only [Act.put, List.setIfInBounds_toArray, List.set_cons_zero, List.set_cons_succ]
    refine wpAnyH_yield 8 44 (.int .i64 (mm : Int)) rfl rfl (by kernel_rfl) (by kernel_rfl) (by kernel_rfl) (fun _ _ _ h => h) (by kernel_rfl) (fun W hW => by obtain ⟨⟨⟨kc0, kc1, kc2, kc3, kc4⟩, kc5, kc6, kc7, kc8⟩, ⟨⟨vc0, vc1, vc2, vc3, vc4⟩, vc5, vc6, vc7, vc8⟩, c2, c3, c4⟩ := cells21 (hW.heap HB1.out HNE.out); go_simp) (by assumption) rfl rfl ?_
    simp only [Act.put, List.setIfInBounds_toArray, List.set_cons_zero, List.set_cons_succ]
    refine wpAnyH_yield 9 45 (.pointer (some ⟨b, 0, none⟩)) rfl rfl (by kernel_rfl) (by kernel_rfl) (by kernel_rfl) (fun _ _ _ h => h) (by kernel_rfl) (fun W hW => by kernel_rfl) (by assumption) rfl rfl ?_
    simp only [Act.put, List.setIfInBounds_toArray, List.set_cons_zero, List.set_cons_succ]
    refine wpAnyH_yield 10 46 (.pointer (some ⟨b, 0, none⟩)) rfl rfl (by kernel_rfl) (by kernel_rfl) (by kernel_rfl) (fun _ _ _ h => h) (by kernel_rfl) (fun W hW => by kernel_rfl) (by assumption) rfl rfl ?_
    simp only [Act.put, List.setIfInBounds_toArray, List.set_cons_zero, List.set_cons_succ]
    refine wpAnyH_yield 11 47 (.pointer (some ⟨b, 19, none⟩)) rfl rfl (by kernel_rfl) (by kernel_rfl) (by kernel_rfl) (fun _ _ _ h => h) (by kernel_rfl) (fun W hW => by go_simp) (by assumption) rfl rfl ?_
    simp only [Act.put, List.setIfInBounds_toArray, List.set_cons_zero, List.set_cons_succ]
    refine wpAnyH_yield 12 48 (.agg #[.pointer p, .pointer q]) rfl rfl (by kernel_rfl) (by kernel_rfl) (by kernel_rfl) (fun _ _ _ h => h) (by kernel_rfl) (fun W hW => by obtain ⟨⟨⟨kc0, kc1, kc2, kc3, kc4⟩, kc5, kc6, kc7, kc8⟩, ⟨⟨vc0, vc1, vc2, vc3, vc4⟩, vc5, vc6, vc7, vc8⟩, c2, c3, c4⟩ := cells21 (hW.heap HB1.out HNE.out); go_simp) (by assumption) rfl rfl ?_
    simp only [Act.put, List.setIfInBounds_toArray, List.set_cons_zero, List.set_cons_succ]
    refine wpAnyH_yield 13 49 (.agg (cellsW k val (mm : Int) p q)) rfl rfl (by kernel_rfl) (by kernel_rfl) (by kernel_rfl) (fun _ _ _ h => h) (by kernel_rfl) (fun W hW => by go_simp) (by assumption) rfl rfl ?_
    simp only [Act.put, List.setIfInBounds_toArray, List.set_cons_zero, List.set_cons_succ]
    refine wpAnyH_yield 15 51 (.pointer (some ⟨b, 0, none⟩)) rfl rfl (by kernel_rfl) (by kernel_rfl) (by kernel_rfl) (fun _ _ _ h => h) (by kernel_rfl) (fun W hW => by kernel_rfl) (by assumption) rfl rfl ?_
    simp only [Act.put, List.setIfInBounds_toArray, List.set_cons_zero, List.set_cons_succ]
    refine wpAnyH_yield 16 52 (.pointer (some ⟨b, 0, none⟩)) rfl rfl (by kernel_rfl) (by kernel_rfl) (by kernel_rfl) (fun _ _ _ h => h) (by kernel_rfl) (fun W hW => by kernel_rfl) (by assumption) rfl rfl ?_
    simp only [Act.put, List.setIfInBounds_toArray, List.set_cons_zero, List.set_cons_succ]
    refine wpAnyH_yield 17 53 (.pointer (some ⟨b, 9, none⟩)) rfl rfl (by kernel_rfl) (by kernel_rfl) (by kernel_rfl) (fun _ _ _ h => h) (by kernel_rfl) (fun W hW => by go_simp) (by assumption) rfl rfl ?_
    simp only [Act.put, List.setIfInBounds_toArray, List.set_cons_zero, List.set_cons_succ]
    refine wpAnyH_yield 18 54 (pnv v) rfl rfl (by kernel_rfl) (by kernel_rfl) (by kernel_rfl) (fun _ _ _ h => h) (by kernel_rfl) (fun W hW => by obtain ⟨⟨⟨kc0, kc1, kc2, kc3, kc4⟩, kc5, kc6, kc7, kc8⟩, ⟨⟨vc0, vc1, vc2, vc3, vc4⟩, vc5, vc6, vc7, vc8⟩, c2, c3, c4⟩ := cells21 (hW.heap HB1.out HNE.out); go_simp) (by assumption) rfl rfl ?_
    simp only [Act.put, List.setIfInBounds_toArray, List.set_cons_zero, List.set_cons_succ]
    refine wpAnyH_value 14 50 (.pointer (some ⟨w2.heap.size, 0, none⟩)) (w' := w2.drew.alloc (.cells (cellsW k val (mm : Int) p q) 133)) rfl rfl (by kernel_rfl) (by kernel_rfl) (by go_simp) (hT0.alloc _) ?_
    simp only [Act.put, List.setIfInBounds_toArray, List.set_cons_zero, List.set_cons_succ]
    have hT2 : Touch (fun g => g = D + 1 + 1) w2 (w2.drew.alloc (.cells (cellsW k val (mm : Int) p q) 133)) := hT0.alloc _
    have hC2 : Calm w2 (w2.drew.alloc (.cells (cellsW k val (mm : Int) p q) 133)) := ((Touch.refl (fun _ => False) w2).drew).alloc _
    have hN2 : (w2.drew.alloc (.cells (cellsW k val (mm : Int) p q) 133)).heap[w2.heap.size]? = some (.cells (cellsW k val (mm : Int) p q) 133 (0, 0)) := heap_alloc_last w2.drew _
    generalize w2.drew.alloc (.cells (cellsW k val (mm : Int) p q) 133) = w3 at *
    refine wpAnyH_yield 19 8 (.pointer (some ⟨w2.heap.size, 0, none⟩)) rfl rfl (by kernel_rfl) (by kernel_rfl) (by kernel_rfl) (fun _ _ _ h => h) (by kernel_rfl) (fun W hW => by kernel_rfl) (by assumption) rfl rfl ?_
    simp only [Act.put, List.setIfInBounds_toArray, List.set_cons_zero, List.set_cons_succ]
    have hh := hC2.at A9.out
    have hlt := lt_of_heap A9.out
    have tR : Touch (fun g => g = D + 1 + 1) w3 (w3.setRow (D + 1 + 1) (pnc v)) := ⟨rfl, rfl, rfl, by simp, fun j _ hj => setRow_other _ _ j _ hj⟩
    have hS3 : Touch (fun g => g = D + 1 + 1) w2 (w3.setRow (D + 1 + 1) (pnc v)) := hT2.trans tR fun _ _ h => h
    refine wpAnyH_do 20 (w3.setRow (D + 1 + 1) (pnc v)) rfl (by kernel_rfl) (by kernel_rfl) ?_ hS3 ?_
    · intro K hK
      exact wp_store_row 40 (.tmp 9) (.tmp 54) rfl (D + 1 + 1) (pnc v) rfl rfl 40 _ hh hi9 rfl (by simp [Value.oneCell']) hK
    have H9 := hide (setRow_heap _ _ _ (pnc v) _ _ hh)
    have HN3 := hide (tR.heap hN2 (by omega))
    have hNo : ∀ bb cs fr, bb = D + 1 + 1 → w3.heap[bb]? ≠ some (.cells cs 133 fr) := fun bb cs fr hb e => by
      subst hb
      rw [hh] at e
      injection e with e
      injection e with _ e
      exact absurd e (by decide)
    have J1 := hide (TL.touch (K1.out.calm hC2) tR hNo)
    have J2 := hide (TL.touch (K2.out.calm hC2) tR hNo)
    have HT := hide ((T1.out.tr hC2).trans tR fun g hg e => by have := HDD.out; omega)
    generalize w3.setRow (D + 1 + 1) (pnc v) = w4 at *
    refine wpAnyH_yield 21 10 (.bool true) rfl rfl (by kernel_rfl) (by kernel_rfl) (by kernel_rfl) (fun _ _ _ h => h) (by kernel_rfl) (fun W hW => by kernel_rfl) (by assumption) rfl rfl ?_
    simp only [Act.put, List.setIfInBounds_toArray, List.set_cons_zero, List.set_cons_succ]
    refine wpAnyH_done (by kernel_rfl) ?_ _
    clear hS3 tR hh hlt hC2 hT2 hN2 hT0 hNo HB1 A6 A7 A9 K1 K2 N1 T1
    go_wp2_with fail
    refine bodyPost_ret (results_scs rfl _ _ (D + 1 + 1) _ (pnc v) _ _ rfl H9.out Tryz.underlying40 rfl (by kernel_rfl) _ _ rfl rfl) rfl ?_
    refine ⟨w2.heap.size, ?_, ?_, HT.out⟩
    · unfold was; rw [hw.out.2.2]; rfl
    · rw [hlp.out]
      refine .node ?_ J1.out J2.out
      rw [HMM.out]
      exact HN3.out

end Go.Proofs.YtamfcmmhmfhhkaaGreatDoor.PM

namespace Go.Proofs.YtamfcmmhmfhhkaaGreatDoor.PM
open Go.RowKit

/-- A map in memory, told by what it holds in order. -/
def Mt (w : World) (m f : Nat) (lb : Array Value) (X : List (Pn × Pn)) : Prop := ∃ ro, Mp w m f lb ro ∧ TL w (.pointer ro) X

theorem Mt.touch {S : Nat → Prop} {w w' : World} {m f : Nat} {lb : Array Value} {X : List (Pn × Pn)} (h : Mt w m f lb X) (ht : Touch S w w') (hm : ¬ S m) (hS : ∀ b cs fr, S b → w.heap[b]? ≠ some (.cells cs 133 fr)) : Mt w' m f lb X := by
  obtain ⟨ro, h1, h2⟩ := h
  refine ⟨ro, ht.heap h1 hm, ?_⟩
  clear h1
  generalize hp : Value.pointer ro = p at h2
  clear hp
  induction h2 with
  | nil => exact .nil
  | node hb _ _ il ir => exact .node (ht.heap hb fun hs => hS _ _ _ hs hb) il ir

theorem Mt.calm {w w' : World} {m f : Nat} {lb : Array Value} {X : List (Pn × Pn)} (h : Mt w m f lb X) (ht : Calm w w') : Mt w' m f lb X := h.touch ht (fun h => h) (fun _ _ _ h => h.elim)

/-- How many keys a tree has, by its own count. -/
def cnt (w : World) : Value → Nat
  | .pointer (some a) => match w.heap[a.block]? with
    | some (.cells cs _ _) => (intOf (cs.getD 18 undef)).toNat
    | _ => 0
  | _ => 0

theorem TL.cnt {w : World} {p : Value} {X : List (Pn × Pn)} (h : TL w p X) : cnt w p = X.length := by
  cases h with
  | nil => rfl
  | node hb _ _ => unfold PM.cnt; simp only [hb]; simp [intOf]; omega

theorem fn_neq (fn : Fn) (lb : Array Value) (W : World) : (binOp .neq 60 (.func fn #[] lb) .nilFunc).run Tryz.prog W = .ok (.bool true) W := by
  have e : binOp .neq 60 (.func fn #[] lb) .nilFunc = (do pure (.bool (!(← Op.equalIn (9999 + 1) 60 (.func fn #[] lb) .nilFunc)))) := rfl
  rw [e]
  unfold Op.equalIn
  simp only [Sem.run_bind, run_underlying Tryz.underlying60, Result.andThen_ok, Sem.run_pure, Bool.not_false]

theorem nil_neq (W : World) : (binOp .neq 60 .nilFunc .nilFunc).run Tryz.prog W = .ok (.bool false) W := by
  have e : binOp .neq 60 .nilFunc .nilFunc = (do pure (.bool (!(← Op.equalIn (9999 + 1) 60 .nilFunc .nilFunc)))) := rfl
  rw [e]
  unfold Op.equalIn
  simp only [Sem.run_bind, run_underlying Tryz.underlying60, Result.andThen_ok, Sem.run_pure, Bool.not_true]

theorem fn_eql (fn : Fn) (lb : Array Value) (W : World) : (binOp .eql 60 (.func fn #[] lb) .nilFunc).run Tryz.prog W = .ok (.bool false) W := by
  have e : binOp .eql 60 (.func fn #[] lb) .nilFunc = (do pure (.bool ((← Op.equalIn (9999 + 1) 60 (.func fn #[] lb) .nilFunc)))) := rfl
  rw [e]
  unfold Op.equalIn
  simp only [Sem.run_bind, run_underlying Tryz.underlying60, Result.andThen_ok, Sem.run_pure]

theorem nil_eql (W : World) : (binOp .eql 60 .nilFunc .nilFunc).run Tryz.prog W = .ok (.bool true) W := by
  have e : binOp .eql 60 .nilFunc .nilFunc = (do pure (.bool ((← Op.equalIn (9999 + 1) 60 .nilFunc .nilFunc)))) := rfl
  rw [e]
  unfold Op.equalIn
  simp only [Sem.run_bind, run_underlying Tryz.underlying60, Result.andThen_ok, Sem.run_pure]

set_option maxRecDepth 100000 in
theorem there_any (w : World) (m f : Nat) (lb : Array Value) (ro : Option Addr) (h : Mp w m f lb ro) : Calls Tryz.prog 63 #[.pointer (some ⟨m, 0, none⟩)] w fun e w' => e = .returned (.bool true) ∧ w' = w := by
  obtain ⟨c0, c1⟩ := cells2 h
  go_enter Tryz.func63, Tryz.ntmps63
  have hx := fn_neq (.func f) lb w
  go_wp2_with fail
  go_ret
  exact ⟨rfl, rfl⟩

set_option maxRecDepth 100000 in
theorem there_nil (w : World) : Calls Tryz.prog 63 #[.pointer none] w fun e w' => e = .returned (.bool false) ∧ w' = w := by
  go_enter Tryz.func63, Tryz.ntmps63
  go_wp2_with fail
  go_ret
  exact ⟨rfl, rfl⟩

set_option maxRecDepth 100000 in
theorem there_zero (w : World) (m : Nat) (h : w.heap[m]? = some (.cells #[.nilFunc, .pointer none] 112 (0, 0))) : Calls Tryz.prog 63 #[.pointer (some ⟨m, 0, none⟩)] w fun e w' => e = .returned (.bool false) ∧ w' = w := by
  obtain ⟨c0, c1⟩ := cells2 h
  go_enter Tryz.func63, Tryz.ntmps63
  have hx := nil_neq w
  go_wp2_with fail
  go_ret
  exact ⟨rfl, rfl⟩


/-- The root turned. -/
theorem Mt.root {w w' : World} {m f : Nat} {lb : Array Value} {ro r : Option Addr} {X : List (Pn × Pn)} (h : Mp w m f lb ro) (ht : Calm w w') (hr : TL w' (.pointer r) X) :
    Mt (w'.setCell ⟨m, 1, none⟩ (.pointer r)) m f lb X ∧ Touch (fun g => g = m) w (w'.setCell ⟨m, 1, none⟩ (.pointer r)) := by
  have h' : Mp w' m f lb ro := ht.at h
  have t2 : Touch (fun g => g = m) w' (w'.setCell ⟨m, 1, none⟩ (.pointer r)) := (Touch.refl (fun g => g = m) w').setCell (p := ⟨m, 1, none⟩) (fun _ => rfl) _
  have m0 : Mt w' m f lb X → True := fun _ => trivial
  clear m0
  refine ⟨⟨r, ?_, ?_⟩, (ht.mono (fun _ _ h => h.elim)).trans t2 fun _ _ h => h⟩
  · have := heap_setCell_row (i := 1) h' (.pointer r)
    simpa [Mp] using this
  · generalize w'.setCell ⟨m, 1, none⟩ (.pointer r) = w'' at t2 ⊢
    generalize hp : Value.pointer r = p at hr ⊢
    clear hp
    induction hr with
    | nil => exact .nil
    | node hb _ _ il ir => exact .node (t2.heap hb fun hs => tags hb h' (by decide) hs) il ir

theorem results_css {P : Program} {fn : Func} {p u u2 : Tmp} {ty : TypeId} (h : fn.results = #[.cell p ty, .tmp u, .tmp u2]) (tmps : Array Value) (w : World) (g : Nat) (t : TypeId) (cs : Array Value) (fr : Nat × Nat) (d : TypeDesc)
    (hp : tmps.getD p undef = .pointer (some ⟨g, 0, none⟩)) (hg : w.heap[g]? = some (.cells cs t fr)) (hu : P.underlying ty = some d) (hd : (match d with | .struct _ | .array _ _ => true | _ => false) = true) (hi : (P.info? ty).map (·.size) = some cs.size) (v v2 : Value) (hv : tmps.getD u undef = v) (hv2 : tmps.getD u2 undef = v2) :
    (results fn tmps).run P w = .ok (.tuple #[.agg cs, v, v2]) w := by
  have hp' : tmps[p]?.getD undef = .pointer (some ⟨g, 0, none⟩) := by simpa using hp
  have hv' : tmps[u]?.getD undef = v := by simpa using hv
  have hv2' : tmps[u2]?.getD undef = v2 := by simpa using hv2
  simp [results, h, hp', hv', hv2', asAddr, run_loadVar_row w g t ty cs fr d hg hu hd hi]

set_option maxRecDepth 100000 in
set_option maxHeartbeats 4000000 in
theorem put_any {f : Nat} {lb : Array Value} {c : Pn → Pn → Int} {Y : World → Prop} (hC : Cmp f lb c Y) (m : Nat) (key : Pn) (val : Pn)
    (w : World) (X : List (Pn × Pn)) (h : Mt w m f lb X) (hY : Y w) (hd : Dec (c key) X) (low : Low (X.length + 1)) :
    Calls Tryz.prog 42 #[.pointer (some ⟨m, 0, none⟩), pnv key, pnv val] w fun e w' =>
      e = .returned (.tuple #[pnv (was (c key) X), .bool (it (c key) X).isSome, .int .i64 0]) ∧ Mt w' m f lb (lput (c key) key val X) ∧ Touch (fun g => g = m) w w' := by
  have hi9 : (Tryz.prog.info? 40).map (·.size) = some 9 := by kernel_rfl
  obtain ⟨ro, h1, h2⟩ := h
  have TH := hide (fun W (h : Calm w W) => there_any W m f lb ro (h.at h1))
  have LA := hide (lay_any hC m ro key val h2 h1 hY hd low)
  obtain ⟨wv, hwv⟩ : ∃ wv, was (c key) X = wv := ⟨_, rfl⟩
  obtain ⟨bv, hbv⟩ : ∃ bv, (it (c key) X).isSome = bv := ⟨_, rfl⟩
  obtain ⟨XX, hXX⟩ : ∃ XX, lput (c key) key val X = XX := ⟨_, rfl⟩
  rw [hwv, hbv, hXX] at LA
  rw [hwv, hbv, hXX]
  have K4 := hide (al_old (al_old (al_new w (.cells (pnc key) 40)) (.cells (pnc val) 40)) (.cells #[.string ⟨#[]⟩, .int .i64 0, .int .i64 0, .int .i64 0, .int .i64 0, .int .i64 0, .int .i64 0, .int .i64 0, .int .i64 0] 40))
  have K5 := hide (al_old (al_new (w.alloc (.cells (pnc key) 40)) (.cells (pnc val) 40)) (.cells #[.string ⟨#[]⟩, .int .i64 0, .int .i64 0, .int .i64 0, .int .i64 0, .int .i64 0, .int .i64 0, .int .i64 0, .int .i64 0] 40))
  have K6 := hide (al_new ((w.alloc (.cells (pnc key) 40)).alloc (.cells (pnc val) 40)) (.cells #[.string ⟨#[]⟩, .int .i64 0, .int .i64 0, .int .i64 0, .int .i64 0, .int .i64 0, .int .i64 0, .int .i64 0, .int .i64 0] 40))
  simp only [al_size] at K5 K6
  have T0 := hide ((((Touch.refl (fun _ => False) w).alloc (.cells (pnc key) 40)).alloc (.cells (pnc val) 40)).alloc (.cells #[.string ⟨#[]⟩, .int .i64 0, .int .i64 0, .int .i64 0, .int .i64 0, .int .i64 0, .int .i64 0, .int .i64 0, .int .i64 0] 40))
  have HM := hide h1
  have HLm := hide (lt_of_heap h1)
  clear h1 h2 hd hY low hC hwv hbv hXX
  go_enter Tryz.func42, Tryz.ntmps42
  go_wp2_with fail
  generalize ((w.alloc (.cells (pnc key) 40)).alloc (.cells (pnc val) 40)).alloc (.cells #[.string ⟨#[]⟩, .int .i64 0, .int .i64 0, .int .i64 0, .int .i64 0, .int .i64 0, .int .i64 0, .int .i64 0, .int .i64 0] 40) = ws at *
  obtain ⟨D, hDD⟩ : ∃ D, w.heap.size = D := ⟨_, rfl⟩
  rw [hDD] at K4 K5 K6 HLm ⊢
  have HDD := hide hDD
  clear hDD
  refine (TH.out _ T0.out).mono ?_
  rintro e w' ⟨rfl, hq⟩
  obtain rfl := hq.symm
  clear hq TH
  go_wp2_with fail
  refine wp_region_held (S := Calm ws) (by kernel_rfl) ?_
  have hT0 : Calm ws { ws with drawn := ws.drawn + 1 } := (Touch.refl (fun _ => False) ws).drew
  refine wpAnyH_yield 0 18 (.pointer (some ⟨m, 0, none⟩)) rfl rfl (by kernel_rfl) (by kernel_rfl) (by kernel_rfl) (fun _ _ _ h => h) (by kernel_rfl) (fun W hW => by kernel_rfl) (by assumption) rfl rfl ?_
  simp only [Act.put, List.setIfInBounds_toArray, List.set_cons_zero, List.set_cons_succ]
  refine wpAnyH_yield 1 19 (.pointer (some ⟨m, 0, none⟩)) rfl rfl (by kernel_rfl) (by kernel_rfl) (by kernel_rfl) (fun _ _ _ h => h) (by kernel_rfl) (fun W hW => by kernel_rfl) (by assumption) rfl rfl ?_
  simp only [Act.put, List.setIfInBounds_toArray, List.set_cons_zero, List.set_cons_succ]
  refine wpAnyH_yield 2 20 (.pointer (some ⟨m, 0, none⟩)) rfl rfl (by kernel_rfl) (by kernel_rfl) (by kernel_rfl) (fun _ _ _ h => h) (by kernel_rfl) (fun W hW => by kernel_rfl) (by assumption) rfl rfl ?_
  simp only [Act.put, List.setIfInBounds_toArray, List.set_cons_zero, List.set_cons_succ]
  refine wpAnyH_yield 3 21 (.pointer (some ⟨m, 1, none⟩)) rfl rfl (by kernel_rfl) (by kernel_rfl) (by kernel_rfl) (fun _ _ _ h => h) (by kernel_rfl) (fun W hW => by go_simp) (by assumption) rfl rfl ?_
  simp only [Act.put, List.setIfInBounds_toArray, List.set_cons_zero, List.set_cons_succ]
  refine wpAnyH_yield 4 22 (.pointer ro) rfl rfl (by kernel_rfl) (by kernel_rfl) (by kernel_rfl) (fun _ _ _ h => h) (by kernel_rfl) (fun W hW => by obtain ⟨c0, c1⟩ := cells2 (hW.at (T0.out.at HM.out)); go_simp) (by assumption) rfl rfl ?_
  simp only [Act.put, List.setIfInBounds_toArray, List.set_cons_zero, List.set_cons_succ]
  refine wpAnyH_yield 5 23 (pnv key) rfl rfl (by kernel_rfl) (by kernel_rfl) (by kernel_rfl) (fun _ _ _ h => h) (by kernel_rfl) (fun W hW => by obtain ⟨⟨c0, c1, c2, c3, c4⟩, c5, c6, c7, c8⟩ := pn_cells (hW.at K4.out); go_simp) (by assumption) rfl rfl ?_
  simp only [Act.put, List.setIfInBounds_toArray, List.set_cons_zero, List.set_cons_succ]
  refine wpAnyH_yield 6 24 (pnv val) rfl rfl (by kernel_rfl) (by kernel_rfl) (by kernel_rfl) (fun _ _ _ h => h) (by kernel_rfl) (fun W hW => by obtain ⟨⟨c0, c1, c2, c3, c4⟩, c5, c6, c7, c8⟩ := pn_cells (hW.at K5.out); go_simp) (by assumption) rfl rfl ?_
  simp only [Act.put, List.setIfInBounds_toArray, List.set_cons_zero, List.set_cons_succ]
  refine wpAnyH_names fun ops Q a0 hops hQ ha => ?_
  obtain ⟨F, hFd⟩ : ∃ F : (Nat → Value) → Value → Act, F = fun vs p => (a0.put (some 25) (vs 0)).put (some 11) p := ⟨_, rfl⟩
  obtain ⟨FB, hFB⟩ : ∃ FB : (Nat → Value) → Value → Act, FB = fun vs p => (((((a0.put (some 25) (vs 0)).put (some 17) (vs 0)).put (some 26) (tupW (vs 0))).put (some 27) (pnv wv)).put (some 28) (.bool bv)).put (some 11) p := ⟨_, rfl⟩
  have f0 : a0 = F (fun _ => undef) undef := by rw [hFd, ha]; kernel_rfl
  have g0 : ∀ vs p x, (F vs p).put (some 25) x = F (fun j => if j = 0 then x else vs j) p := fun vs p x => by rw [hFd, ha]; kernel_rfl
  have g4 : ∀ vs x, (F vs undef).put (some 11) x = F vs x := fun vs x => by rw [hFd, ha]; kernel_rfl
  have g5 : ∀ vs x, (FB vs undef).put (some 11) x = FB vs x := fun vs x => by rw [hFB, ha]; kernel_rfl
  rw [f0]
  refine wpAnyH_float8 (m := 1) (fuel := 3) 4 (fun _ => 7) 12 11 (.cells #[.string ⟨#[]⟩, .int .i64 0, .int .i64 0, .int .i64 0, .int .i64 0, .int .i64 0, .int .i64 0, .int .i64 0, .int .i64 0] 40) F FB undef (fun k b => #[true, true, true, true, true, true, true, decide (1 ≤ k), false, false, false, false, b, false, false, false]) (fun b => #[true, true, true, true, true, true, true, true, true, true, true, true, b, false, false, false])
    (fun j vs W => Calm ws W ∧ (1 ≤ j → ∃ b3, vs 0 = .tuple #[.pointer (some ⟨b3, 0, none⟩), pnv wv, .bool bv] ∧ TL W (.pointer (some ⟨b3, 0, none⟩)) XX)) ws.heap.size
    (by rw [hops]; rfl) rfl (fun vs p => by rw [hops]; kernel_rfl) (fun vs W => by kernel_rfl) g4 ?hLf ?hLi ?r0 ?r1 ?hI (fun j vs W h => h.1) (fun j vs W h => h.1.size) ?stp ?takes ?rf ?hLB g5 (fun vs p => by rw [hops]; kernel_rfl) (fun vs W => by kernel_rfl) ?fin _ _ ⟨hT0, fun h => absurd h (by omega)⟩
  case hLf => intro k hk; obtain rfl : k = 0 := by omega
              rfl
  case hLi => intro k b hk; obtain rfl : k = 0 := by omega
              rfl
  case r0 => intro k hk; subst hops; obtain rfl : k = 0 := by omega
             kernel_rfl
  case r1 => intro k hk; subst hops; obtain rfl : k = 0 := by omega
             kernel_rfl
  case rf => subst hops; kernel_rfl
  case hLB => rfl
  case hI =>
    rintro j vs W ⟨h1, h2⟩
    have hA : Calm W (W.alloc (.cells #[.string ⟨#[]⟩, .int .i64 0, .int .i64 0, .int .i64 0, .int .i64 0, .int .i64 0, .int .i64 0, .int .i64 0, .int .i64 0] 40)) := (Touch.refl _ W).alloc _
    exact ⟨h1.tr hA, fun h => by obtain ⟨b3, e, t⟩ := h2 h; exact ⟨b3, e, t.calm hA⟩⟩
  case stp =>
    rintro j vs p' W K hk ⟨h1, h2⟩ hK
    subst hops
    obtain rfl : j = 0 := by omega
    refine wpOp_enter 7 25 64 #[.pointer (some ⟨m, 0, none⟩), .pointer ro, pnv key, pnv val] rfl rfl (by kernel_rfl) (by rw [hFd, ha]; kernel_rfl) ?_
    refine (LA.out W (T0.out.tr h1)).mono ?_
    rintro r W' ⟨b3, rfl, tl3, T2⟩
    exact ⟨_, rfl, by rw [g0]; exact hK _ _ (fun q ob hq hh => T2.at hh) ⟨h1.tr T2, fun _ => ⟨b3, rfl, tl3⟩⟩⟩
  case takes =>
    rintro n' vs p' bb W ⟨h1, h2⟩ hK
    obtain ⟨b3, e1, o2⟩ := h2 (by omega)
    have eF : F vs p' = (a0.put (some 25) (.tuple #[.pointer (some ⟨b3, 0, none⟩), pnv wv, .bool bv])).put (some 11) p' := by rw [hFd]; simp only [e1]
    have eB : FB vs p' = (((((a0.put (some 25) (.tuple #[.pointer (some ⟨b3, 0, none⟩), pnv wv, .bool bv])).put (some 11) p').put (some 17) (.tuple #[.pointer (some ⟨b3, 0, none⟩), pnv wv, .bool bv])).put (some 26) (.pointer (some ⟨b3, 0, none⟩))).put (some 27) (pnv wv)).put (some 28) (.bool bv) := by rw [hFB, ha]; simp only [e1]; kernel_rfl
    rw [eF]
    rw [eB] at hK
    subst hops hQ
    have hcS : Calm ws W := h1
    refine wpAnyH_yield 8 17 (.tuple #[.pointer (some ⟨b3, 0, none⟩), pnv wv, .bool bv]) rfl rfl (by kernel_rfl) (by cases bb <;> kernel_rfl) (by cases bb <;> kernel_rfl) (fun _ _ _ h => h) (by kernel_rfl) (fun W hW => by rw [ha]; kernel_rfl) hcS rfl rfl ?_
    refine wpAnyH_yield 9 26 (.pointer (some ⟨b3, 0, none⟩)) rfl rfl (by kernel_rfl) (by cases bb <;> kernel_rfl) (by cases bb <;> kernel_rfl) (fun _ _ _ h => h) (by kernel_rfl) (fun W hW => by rw [ha]; kernel_rfl) hcS rfl rfl ?_
    refine wpAnyH_yield 10 27 (pnv wv) rfl rfl (by kernel_rfl) (by cases bb <;> kernel_rfl) (by cases bb <;> kernel_rfl) (fun _ _ _ h => h) (by kernel_rfl) (fun W hW => by rw [ha]; kernel_rfl) hcS rfl rfl ?_
    refine wpAnyH_yield 11 28 (.bool bv) rfl rfl (by kernel_rfl) (by cases bb <;> kernel_rfl) (by cases bb <;> kernel_rfl) (fun _ _ _ h => h) (by kernel_rfl) (fun W hW => by rw [ha]; kernel_rfl) hcS rfl rfl ?_
    exact hK
  case fin =>
    rintro vs p1 W ⟨h1, h2⟩ hp1 hh
    obtain ⟨b3, e1, tl3⟩ := h2 (by omega)
    have eB : FB vs (.pointer (some ⟨p1, 0, none⟩)) = (((((a0.put (some 25) (.tuple #[.pointer (some ⟨b3, 0, none⟩), pnv wv, .bool bv])).put (some 17) (.tuple #[.pointer (some ⟨b3, 0, none⟩), pnv wv, .bool bv])).put (some 26) (.pointer (some ⟨b3, 0, none⟩))).put (some 27) (pnv wv)).put (some 28) (.bool bv)).put (some 11) (.pointer (some ⟨p1, 0, none⟩)) := by rw [hFB]; simp only [e1]; kernel_rfl
    rw [eB, ha]
    subst hops hQ
    clear eB hFd hFB ha f0 g0 g4 g5 h2 e1
    simp only [Act.put, List.setIfInBounds_toArray, List.set_cons_zero, List.set_cons_succ]
    refine wpAnyH_yield 13 10 (.pointer (some ⟨b3, 0, none⟩)) rfl rfl (by kernel_rfl) (by kernel_rfl) (by kernel_rfl) (fun _ _ _ h => h) (by kernel_rfl) (fun W hW => by kernel_rfl) (by assumption) rfl rfl ?_
    simp only [Act.put, List.setIfInBounds_toArray, List.set_cons_zero, List.set_cons_succ]
    have tR : Touch (fun x => x = p1) W (W.setRow p1 (pnc wv)) := ⟨rfl, rfl, rfl, by simp, fun j _ hj => setRow_other _ _ j _ hj⟩
    have SS : Calm ws (W.setRow p1 (pnc wv)) := h1.trans tR (fun x hx e => by omega)
    refine wpAnyH_do 14 (W.setRow p1 (pnc wv)) rfl (by kernel_rfl) (by kernel_rfl) ?_ SS ?_
    · intro K hK
      exact wp_store_row 40 (.tmp 11) (.tmp 27) rfl p1 (pnc wv) rfl rfl 40 _ hh hi9 rfl (by simp [Value.oneCell']) hK
    have P11 := hide (setRow_heap _ _ _ (pnc wv) _ _ hh)
    have TL4 := hide (TL.touch tl3 tR fun bb cs fr hb e => by
      subst hb
      rw [hh] at e
      injection e with e
      injection e with _ e
      exact absurd e (by decide))
    have HP1 : Hid (ws.heap.size ≤ p1) := hide hp1
    generalize W.setRow p1 (pnc wv) = w13 at *
    refine wpAnyH_yield 15 12 (.bool bv) rfl rfl (by kernel_rfl) (by kernel_rfl) (by kernel_rfl) (fun _ _ _ h => h) (by kernel_rfl) (fun W hW => by kernel_rfl) (by assumption) rfl rfl ?_
    simp only [Act.put, List.setIfInBounds_toArray, List.set_cons_zero, List.set_cons_succ]
    refine wpAnyH_done (by kernel_rfl) ?_ _
    have T3 := hide (T0.out.tr SS)
    have B6 := hide (SS.at K6.out)
    have HLT6 := hide (lt_of_heap K6.out)
    have HM3 := T3.out.at HM.out
    obtain ⟨f0, f1⟩ := Mt.root HM3 (Touch.refl _ _) TL4.out
    obtain ⟨d0, d1⟩ := cells2 HM3
    have fz : w13.frozen? ⟨m, 1, none⟩ = false := by simp [World.frozen?, HM3]
    have F0 := hide f0
    have F1 := hide f1
    clear tR SS hT0 h1 hh hp1 tl3 K4 K5 K6 LA HM3 f0 f1
    go_upto_region 6 with fail
    have q11 := F1.out.heap P11.out (show ¬ p1 = m from by have := HP1.out; have := HLT6.out; have := HLm.out; omega)
    have q6 := F1.out.heap B6.out (show ¬ D + 1 + 1 = m from by have := HLm.out; omega)
    have Q11 := hide q11
    have Q6 := hide q6
    clear q11 q6 d0 d1 fz P11 B6
    generalize w13.setCell ⟨m, 1, none⟩ (.pointer (some ⟨b3, 0, none⟩)) = w14 at *
    obtain ⟨⟨c0, c1, c2, c3, c4⟩, c5, c6, c7, c8⟩ := pn_cells Q11.out
    have H9 := hide (setRow_heap _ _ _ (pnc wv) _ _ Q6.out)
    have tR : Touch (fun g => g = D + 1 + 1) w14 (w14.setRow (D + 1 + 1) (pnc wv)) := ⟨rfl, rfl, rfl, by simp, fun j _ hj => setRow_other _ _ j _ hj⟩
    have HF0 := hide (F0.out.touch tR (show ¬ m = D + 1 + 1 from by have := HLm.out; omega) (fun bb cs fr hb e => by
      subst hb
      rw [Q6.out] at e
      injection e with e
      injection e with _ e
      exact absurd e (by decide)))
    have HT := hide (((T3.out.mono (S' := fun g => g = m) fun _ _ h => h.elim).trans F1.out fun _ _ h => h).trans tR fun g hg e => by have := HDD.out; omega)
    have hq1 : Hid ((pnc wv).all (·.oneCell') = true) := hide (by simp [Value.oneCell'])
    go_wp2_with (refine wpList_store_rowTo rfl 40 (.tmp 6) (.tmp 33) rfl rfl (D + 1 + 1) (pnc wv) rfl rfl 40 _ Q6.out hi9 rfl hq1.out ?_)
    refine bodyPost_ret (results_css rfl _ _ (D + 1 + 1) _ (pnc wv) _ _ rfl H9.out Tryz.underlying40 rfl (by kernel_rfl) _ _ rfl rfl) rfl ?_
    exact ⟨rfl, HF0.out, HT.out⟩

end Go.Proofs.YtamfcmmhmfhhkaaGreatDoor.PM

namespace Go.Proofs.YtamfcmmhmfhhkaaGreatDoor.PM
open Go.RowKit

/-- So many keys fit into a row of pointers. -/
structure Few (n : Nat) : Prop where
  le : n ≤ 8796093022208

theorem Few.low {n : Nat} (h : Few n) : Low n := ⟨Nat.le_trans h.le (by omega)⟩

/-- In the order in which a walk from side s tells. -/
def dir (s : Nat) (X : List (Pn × Pn)) : List (Pn × Pn) := if s = 0 then X else X.reverse

theorem dir0 (X : List (Pn × Pn)) : dir 0 X = X := rfl
theorem dir1 (X : List (Pn × Pn)) : dir 1 X = X.reverse := rfl

/-- Where one is within, so are all behind it. -/
def Mon (g : Pn → Bool) (X : List (Pn × Pn)) : Prop := X.Pairwise fun a b => g a.1 = true → g b.1 = true

theorem Mon.in {g : Pn → Bool} {A B : List (Pn × Pn)} {x : Pn × Pn} (h : Mon g (A ++ x :: B)) (hx : g x.1 = true) : Mon g A ∧ (A ++ x :: B).filter (fun a => g a.1) = A.filter (fun a => g a.1) ++ x :: B := by
  unfold Mon at *
  rw [List.pairwise_append, List.pairwise_cons] at h
  refine ⟨h.1, ?_⟩
  rw [List.filter_append, List.filter_cons, if_pos hx, List.filter_eq_self.2 fun b hb => h.2.1.1 b hb hx]

theorem Mon.out {g : Pn → Bool} {A B : List (Pn × Pn)} {x : Pn × Pn} (h : Mon g (A ++ x :: B)) (hx : g x.1 = false) : Mon g B ∧ (A ++ x :: B).filter (fun a => g a.1) = B.filter (fun a => g a.1) := by
  unfold Mon at *
  rw [List.pairwise_append, List.pairwise_cons] at h
  refine ⟨h.2.1.2, ?_⟩
  rw [List.filter_append, List.filter_cons, if_neg (by simp [hx]), List.filter_eq_nil_iff.2 fun a ha => ?_]
  · rfl
  · intro hg
    have := h.2.2 a ha x (by simp) hg
    rw [hx] at this
    cases this

/-- A function that tells whether a key is within, with what it holds. -/
structure Wi (f : Nat) (lb : Array Value) (g : Pn → Bool) (Y : World → Prop) : Prop where
  enter : ∀ args w, (callFunc f args).run Tryz.prog w = .ok (.enter f args) w
  calls : ∀ a w, Y w → Calls Tryz.prog f (#[pnv a] ++ lb) w fun e w' => e = .returned (.bool (g a)) ∧ Calm w w'
  calm : ∀ w w', Y w → Calm w w' → Y w'

/-- A stack of nodes, the next one last, told by what a walk has yet to tell. -/
inductive Stk (w : World) (s : Nat) : List Value → List (Pn × Pn) → Prop
  | nil : Stk w s [] []
  | push {b : Nat} {k : Pn} {v : Pn} {p q : Option Addr} {F A : List (Pn × Pn)} {vs : List Value}
      (hn : Nd w b k v p q) (hf : TL w (.pointer (if s = 0 then q else p)) F) (hs : Stk w s vs A) : Stk w s (vs ++ [.pointer (some ⟨b, 0, none⟩)]) ((k, v) :: dir s F ++ A)

theorem Stk.len {w : World} {s : Nat} {vs : List Value} {A : List (Pn × Pn)} (h : Stk w s vs A) : vs.length ≤ A.length := by
  induction h with
  | nil => simp
  | push _ _ _ ih => simp; omega

theorem infoPtr : (Tryz.prog.info? 110).map (fun i => (i.zero, i.size, i.bytes)) = some (some (.pointer none), 1, 8) := by kernel_rfl

set_option maxRecDepth 100000 in
set_option maxHeartbeats 1000000 in
theorem way0_any {f : Nat} {lb : Array Value} {g : Pn → Bool} {Y : World → Prop} (hW : Wi f lb g Y) (w : World) (p : Option Addr) (X : List (Pn × Pn)) (h : TL w (.pointer p) X) (hY : Y w) (mon : Mon g (dir 0 X)) (few : Few X.length) :
    Calls Tryz.prog 67 #[.pointer p, .int .i64 0, .func (.func f) #[] lb] w fun e w' =>
      ∃ ao n cap vs, e = .returned (.slice ao n cap) ∧ w'.ownsRow w.heap.size 110 1 (.slice ao n cap) n vs ∧ Stk w 0 vs ((dir 0 X).filter fun a => g a.1) ∧ Calm w w' := by
  obtain ⟨i1, hj, hy0, hy1, hy2⟩ := info_parts2 infoPtr
  have HW := hide hW
  have HY := hide hY
  have H := hide h
  have MON := hide mon
  have FEW := hide few
  clear hW hY h mon few
  go_enter Tryz.func67, Tryz.ntmps67
  go_wp2_with fail
  go_loopw [0, 7] (fun i j wr => ∃ (o : Option Addr) (Z A : List (Pn × Pn)) (ao : Option Addr) (n cap : Nat) (vs : List Value), i = .pointer o ∧ j = .slice ao n cap ∧ TL w (.pointer o) Z ∧ Mon g (dir 0 Z) ∧
    wr.ownsRow w.heap.size 110 1 (.slice ao n cap) n vs ∧ Stk w 0 vs A ∧ (dir 0 X).filter (fun a => g a.1) = (dir 0 Z).filter (fun a => g a.1) ++ A ∧ Calm w wr) (fun i _ _ => cnt w i)
  case atStart => exact ⟨p, X, [], none, 0, 0, [], rfl, rfl, H.out, MON.out, World.ownsRow_nil _ _ _ _, .nil, by simp, Touch.refl _ _⟩
  case round =>
    obtain ⟨o, Z, A, ao, n, cap, vs, rfl, rfl, htl, hmon, own, stk, hfil, tr⟩ := hrel
    have FIL := hide hfil
    have TR := hide tr
    have OWN := hide own
    have STK := hide stk
    have HMON := hide hmon
    clear hfil tr own stk hmon
    cases htl with
    | nil =>
      go_wp2_with fail
      go_ret
      refine ⟨ao, n, cap, vs, rfl, OWN.out, ?_, TR.out⟩
      have e := FIL.out
      simp only [dir] at e
      simp at e
      simp only [dir]
      simp
      rw [e]
      exact STK.out
    | @node b k v p1 q1 L R hb g1 g2 =>
      obtain ⟨⟨⟨kc0, kc1, kc2, kc3, kc4⟩, kc5, kc6, kc7, kc8⟩, -, -, c3, c4⟩ := cells21 (TR.out.at hb)
      have CA := hide (HW.out.calls k wr (HW.out.calm _ _ HY.out TR.out))
      have EN := HW.out.enter
      have HB := hide hb
      have G1 := hide g1
      have G2 := hide g2
      have CN := hide (TL.node hb g1 g2).cnt
      have hdz : dir 0 (L ++ (k, v) :: R) = dir 0 L ++ (k, v) :: dir 0 R := by simp [dir]
      have HDZ := hide hdz
      have MZ : Hid (Mon g (dir 0 L ++ (k, v) :: dir 0 R)) := hide (by rw [← HDZ.out]; exact HMON.out)
      have FZ : Hid ((dir 0 X).filter (fun a => g a.1) = (dir 0 L ++ (k, v) :: dir 0 R).filter (fun a => g a.1) ++ A) := hide (by rw [← HDZ.out]; exact FIL.out)
      clear hb g1 g2 hdz
      cases hg : g k with
      | true =>
        rw [hg] at CA
        have hin := hide (MZ.out.in (x := (k, v)) hg)
        have hx1 : Hid (n + 1 ≤ maxLen) := hide (by
          have h1 := STK.out.len
          have h2 := OWN.out.1
          have h3 := congrArg List.length FZ.out
          have h4 := List.length_filter_le (fun a : Pn × Pn => g a.1) (dir 0 X)
          have h5 : (dir 0 X).length = X.length := by simp [dir]
          have h6 := FEW.out.le
          simp only [List.length_append] at h3
          unfold maxLen; omega)
        have hx2 : Hid ((n + 1) * 8 ≤ 140737488355328) := hide (by
          have h1 := STK.out.len
          have h2 := OWN.out.1
          have h3 := congrArg List.length FZ.out
          have h4 := List.length_filter_le (fun a : Pn × Pn => g a.1) (dir 0 X)
          have h5 : (dir 0 X).length = X.length := by simp [dir]
          have h6 := FEW.out.le
          simp only [List.length_append] at h3
          omega)
        have HG := hide hg
        clear hg c3 c4
        go_wp2_with fail
        refine CA.out.mono ?_
        rintro e w2 ⟨rfl, t2⟩
        have T2 := hide (TR.out.tr t2)
        have own2 := own_touch OWN.out t2 (fun _ _ h => h)
        have OW2 : Hid ((w2.alloc (.cells #[.pointer (some ⟨b, 0, none⟩)] 110)).ownsRow w.heap.size 110 1 (.slice ao n cap) n vs) := hide (own_touch own2 ((Touch.refl (fun _ => False) w2).alloc _) (fun _ _ h => h))
        have TZ := hide (T2.out.alloc (.cells #[.pointer (some ⟨b, 0, none⟩)] 110))
        clear own2 t2 kc0 kc1 kc2 kc3 kc4 kc5 kc6 kc7 kc8
        go_wp2_with (at_builtin; refine wpList_append_sep _ rfl (.tmp 19) (.tmp 21) 119 rfl w.heap.size 110 i1 (.pointer none) 1 8 Tryz.underlying119 hj hy0 hy1 hy2 rfl (by decide) _ n vs rfl OW2.out ⟨w2.heap.size, 0, none⟩ 1 1 [.pointer (some ⟨b, 0, none⟩)] rfl rfl (new_cells1 w2 _ _) (one_cells1 rfl) hx1.out hx2.out TZ.out.size (by omega) ?ny)
        case ny =>
          intro ao3 c3' w3 own3 t3 _
          have T3 := hide (TZ.out.trans t3 (fun g' hg' hs => by have := (own_block OW2.out hs).1; omega))
          obtain ⟨-, -, -, d3, d4⟩ := cells21 (T3.out.at HB.out)
          have OW3 := hide own3
          clear own3 t3
          go_wp2_with fail
          go_roundw
          case rel => exact ⟨p1, L, _, _, _, _, _, rfl, rfl, G1.out, hin.out.1, OW3.out, .push (s := 0) ⟨_, HB.out⟩ G2.out STK.out, by rw [FZ.out, hin.out.2]; simp, T3.out⟩
          case measure =>
            rw [CN.out, G1.out.cnt]
            simp only [List.length_append, List.length_cons]
            omega
      | false =>
        rw [hg] at CA
        have hout := hide (MZ.out.out (x := (k, v)) hg)
        clear hg c3 c4
        go_wp2_with fail
        refine CA.out.mono ?_
        rintro e w2 ⟨rfl, t2⟩
        have T2 := hide (TR.out.tr t2)
        have OW2 := hide (own_touch OWN.out t2 (fun _ _ h => h))
        obtain ⟨-, -, -, d3, d4⟩ := cells21 (T2.out.at HB.out)
        clear t2 kc0 kc1 kc2 kc3 kc4 kc5 kc6 kc7 kc8
        go_wp2_with fail
        go_roundw
        case rel => exact ⟨q1, R, A, ao, n, cap, vs, rfl, rfl, G2.out, hout.out.1, OW2.out, STK.out, by rw [FZ.out, hout.out.2], T2.out⟩
        case measure =>
          rw [CN.out, G2.out.cnt]
          simp only [List.length_append, List.length_cons]
          omega

set_option maxRecDepth 100000 in
set_option maxHeartbeats 1000000 in
theorem way1_any {f : Nat} {lb : Array Value} {g : Pn → Bool} {Y : World → Prop} (hW : Wi f lb g Y) (w : World) (p : Option Addr) (X : List (Pn × Pn)) (h : TL w (.pointer p) X) (hY : Y w) (mon : Mon g (dir 1 X)) (few : Few X.length) :
    Calls Tryz.prog 67 #[.pointer p, .int .i64 1, .func (.func f) #[] lb] w fun e w' =>
      ∃ ao n cap vs, e = .returned (.slice ao n cap) ∧ w'.ownsRow w.heap.size 110 1 (.slice ao n cap) n vs ∧ Stk w 1 vs ((dir 1 X).filter fun a => g a.1) ∧ Calm w w' := by
  obtain ⟨i1, hj, hy0, hy1, hy2⟩ := info_parts2 infoPtr
  have HW := hide hW
  have HY := hide hY
  have H := hide h
  have MON := hide mon
  have FEW := hide few
  clear hW hY h mon few
  go_enter Tryz.func67, Tryz.ntmps67
  go_wp2_with fail
  go_loopw [0, 7] (fun i j wr => ∃ (o : Option Addr) (Z A : List (Pn × Pn)) (ao : Option Addr) (n cap : Nat) (vs : List Value), i = .pointer o ∧ j = .slice ao n cap ∧ TL w (.pointer o) Z ∧ Mon g (dir 1 Z) ∧
    wr.ownsRow w.heap.size 110 1 (.slice ao n cap) n vs ∧ Stk w 1 vs A ∧ (dir 1 X).filter (fun a => g a.1) = (dir 1 Z).filter (fun a => g a.1) ++ A ∧ Calm w wr) (fun i _ _ => cnt w i)
  case atStart => exact ⟨p, X, [], none, 0, 0, [], rfl, rfl, H.out, MON.out, World.ownsRow_nil _ _ _ _, .nil, by simp, Touch.refl _ _⟩
  case round =>
    obtain ⟨o, Z, A, ao, n, cap, vs, rfl, rfl, htl, hmon, own, stk, hfil, tr⟩ := hrel
    have FIL := hide hfil
    have TR := hide tr
    have OWN := hide own
    have STK := hide stk
    have HMON := hide hmon
    clear hfil tr own stk hmon
    cases htl with
    | nil =>
      go_wp2_with fail
      go_ret
      refine ⟨ao, n, cap, vs, rfl, OWN.out, ?_, TR.out⟩
      have e := FIL.out
      simp only [dir] at e
      simp at e
      simp only [dir]
      simp
      rw [e]
      exact STK.out
    | @node b k v p1 q1 L R hb g1 g2 =>
      obtain ⟨⟨⟨kc0, kc1, kc2, kc3, kc4⟩, kc5, kc6, kc7, kc8⟩, -, -, c3, c4⟩ := cells21 (TR.out.at hb)
      have CA := hide (HW.out.calls k wr (HW.out.calm _ _ HY.out TR.out))
      have EN := HW.out.enter
      have HB := hide hb
      have G1 := hide g1
      have G2 := hide g2
      have CN := hide (TL.node hb g1 g2).cnt
      have hdz : dir 1 (L ++ (k, v) :: R) = dir 1 R ++ (k, v) :: dir 1 L := by simp [dir]
      have HDZ := hide hdz
      have MZ : Hid (Mon g (dir 1 R ++ (k, v) :: dir 1 L)) := hide (by rw [← HDZ.out]; exact HMON.out)
      have FZ : Hid ((dir 1 X).filter (fun a => g a.1) = (dir 1 R ++ (k, v) :: dir 1 L).filter (fun a => g a.1) ++ A) := hide (by rw [← HDZ.out]; exact FIL.out)
      clear hb g1 g2 hdz
      cases hg : g k with
      | true =>
        rw [hg] at CA
        have hin := hide (MZ.out.in (x := (k, v)) hg)
        have hx1 : Hid (n + 1 ≤ maxLen) := hide (by
          have h1 := STK.out.len
          have h2 := OWN.out.1
          have h3 := congrArg List.length FZ.out
          have h4 := List.length_filter_le (fun a : Pn × Pn => g a.1) (dir 1 X)
          have h5 : (dir 1 X).length = X.length := by simp [dir]
          have h6 := FEW.out.le
          simp only [List.length_append] at h3
          unfold maxLen; omega)
        have hx2 : Hid ((n + 1) * 8 ≤ 140737488355328) := hide (by
          have h1 := STK.out.len
          have h2 := OWN.out.1
          have h3 := congrArg List.length FZ.out
          have h4 := List.length_filter_le (fun a : Pn × Pn => g a.1) (dir 1 X)
          have h5 : (dir 1 X).length = X.length := by simp [dir]
          have h6 := FEW.out.le
          simp only [List.length_append] at h3
          omega)
        have HG := hide hg
        clear hg c3 c4
        go_wp2_with fail
        refine CA.out.mono ?_
        rintro e w2 ⟨rfl, t2⟩
        have T2 := hide (TR.out.tr t2)
        have own2 := own_touch OWN.out t2 (fun _ _ h => h)
        have OW2 : Hid ((w2.alloc (.cells #[.pointer (some ⟨b, 0, none⟩)] 110)).ownsRow w.heap.size 110 1 (.slice ao n cap) n vs) := hide (own_touch own2 ((Touch.refl (fun _ => False) w2).alloc _) (fun _ _ h => h))
        have TZ := hide (T2.out.alloc (.cells #[.pointer (some ⟨b, 0, none⟩)] 110))
        clear own2 t2 kc0 kc1 kc2 kc3 kc4 kc5 kc6 kc7 kc8
        go_wp2_with (at_builtin; refine wpList_append_sep _ rfl (.tmp 19) (.tmp 21) 119 rfl w.heap.size 110 i1 (.pointer none) 1 8 Tryz.underlying119 hj hy0 hy1 hy2 rfl (by decide) _ n vs rfl OW2.out ⟨w2.heap.size, 0, none⟩ 1 1 [.pointer (some ⟨b, 0, none⟩)] rfl rfl (new_cells1 w2 _ _) (one_cells1 rfl) hx1.out hx2.out TZ.out.size (by omega) ?ny)
        case ny =>
          intro ao3 c3' w3 own3 t3 _
          have T3 := hide (TZ.out.trans t3 (fun g' hg' hs => by have := (own_block OW2.out hs).1; omega))
          obtain ⟨-, -, -, d3, d4⟩ := cells21 (T3.out.at HB.out)
          have OW3 := hide own3
          clear own3 t3
          go_wp2_with fail
          go_roundw
          case rel => exact ⟨q1, R, _, _, _, _, _, rfl, rfl, G2.out, hin.out.1, OW3.out, .push (s := 1) ⟨_, HB.out⟩ G1.out STK.out, by rw [FZ.out, hin.out.2]; simp, T3.out⟩
          case measure =>
            rw [CN.out, G2.out.cnt]
            simp only [List.length_append, List.length_cons]
            omega
      | false =>
        rw [hg] at CA
        have hout := hide (MZ.out.out (x := (k, v)) hg)
        clear hg c3 c4
        go_wp2_with fail
        refine CA.out.mono ?_
        rintro e w2 ⟨rfl, t2⟩
        have T2 := hide (TR.out.tr t2)
        have OW2 := hide (own_touch OWN.out t2 (fun _ _ h => h))
        obtain ⟨-, -, -, d3, d4⟩ := cells21 (T2.out.at HB.out)
        clear t2 kc0 kc1 kc2 kc3 kc4 kc5 kc6 kc7 kc8
        go_wp2_with fail
        go_roundw
        case rel => exact ⟨p1, L, A, ao, n, cap, vs, rfl, rfl, G1.out, hout.out.1, OW2.out, STK.out, by rw [FZ.out, hout.out.2], T2.out⟩
        case measure =>
          rw [CN.out, G1.out.cnt]
          simp only [List.length_append, List.length_cons]
          omega

end Go.Proofs.YtamfcmmhmfhhkaaGreatDoor.PM
