/- The program's Mark. -/
import Derived.Test.YtfmlbcddomggaaaQN
import Derived.Test.YtfmlbcddomggaaaVK
namespace Go.Proofs.Ytfmlbcddomggaaa
open Go.RowKit

/-- The panes that are told, in the windows' order. -/
def toldL (k : ByteArray) (f t : Int) (L : List Wn) : List Pn := (L.filter fun x => onT x f t).map fun x => tellP k x 2

theorem told_next (k : ByteArray) (f t : Int) (L : List Wn) (i : Nat) (hi : i < L.length) : toldL k f t (L.take (i + 1)) = toldL k f t (L.take i) ++ (if onT (L.getD i wn0) f t then [tellP k (L.getD i wn0) 2] else []) := by
  unfold toldL
  rw [List.take_succ_eq_append_getElem hi, List.filter_append, List.map_append, List.getD_eq_getElem?_getD, List.getElem?_eq_getElem hi]
  simp only [Option.getD_some, List.filter_cons, List.filter_nil]
  split <;> rfl
theorem out_next (f t lt : Int) (di : Bool) (L : List Wn) (i : Nat) (hi : i < L.length) : outM f t lt di (L.take (i + 1)) = outM f t lt di (L.take i) ++ (if overB (L.getD i wn0).b lt t then [] else [markedW f t di (L.getD i wn0)]) := by
  rw [outM_eq, outM_eq, List.take_succ_eq_append_getElem hi, List.filter_append, List.map_append, List.getD_eq_getElem?_getD, List.getElem?_eq_getElem hi]
  simp only [Option.getD_some, List.filter_cons, List.filter_nil]
  cases overB L[i].b lt t <;> rfl
theorem told_le (k : ByteArray) (f t : Int) (L : List Wn) (i : Nat) : (toldL k f t (L.take i)).length ≤ i := by
  unfold toldL
  rw [List.length_map]
  exact Nat.le_trans (List.length_filter_le _ _) (List.length_take_le _ _)
theorem out_le (f t lt : Int) (di : Bool) (L : List Wn) (i : Nat) : (outM f t lt di (L.take i)).length ≤ i := by
  rw [outM_eq, List.length_map]
  exact Nat.le_trans (List.length_filter_le _ _) (List.length_take_le _ _)

theorem putE_at_ {P : List Pn} {p : Pn} (h : P.Pairwise fun q r => q.b ≤ r.b) (e : Int) : Sb.at_ endP e (putE P p) = Sb.at_ endP e (P ++ [p]) := by
  rw [putE_rise h, Sb.at_append, Sb.at_append, Sb.at_append]
  have key : Sb.at_ endP e P = Sb.at_ endP e (P.filter fun q => decide (q.b ≤ p.b)) ++ Sb.at_ endP e (P.filter fun q => !decide (q.b ≤ p.b)) := by
    unfold Sb.at_ endP
    by_cases he : e ≤ p.b
    · have e1 : (P.filter fun q => !decide (q.b ≤ p.b)).filter (fun x => decide (x.b = e)) = [] := List.filter_eq_nil_iff.2 fun q hq hc => by
        have h1 := (List.mem_filter.1 hq).2
        simp at h1 hc
        omega
      rw [e1, List.append_nil, List.filter_filter]
      refine List.filter_congr fun q _ => ?_
      by_cases h1 : q.b = e
      · have h2 : e ≤ p.b := he
        simp [h1, h2]
      · simp [h1]
    · have e1 : (P.filter fun q => decide (q.b ≤ p.b)).filter (fun x => decide (x.b = e)) = [] := List.filter_eq_nil_iff.2 fun q hq hc => by
        have h1 := (List.mem_filter.1 hq).2
        simp at h1 hc
        omega
      rw [e1, List.nil_append, List.filter_filter]
      refine List.filter_congr fun q _ => ?_
      by_cases h1 : q.b = e
      · simp [h1]; omega
      · simp [h1]
  rw [key]
  by_cases hp : p.b = e
  · have e2 : Sb.at_ endP e (P.filter fun q => !decide (q.b ≤ p.b)) = [] := List.filter_eq_nil_iff.2 fun q hq hc => by
      have h1 := (List.mem_filter.1 hq).2
      simp [endP] at h1 hc
      omega
    rw [e2, List.append_nil, List.append_nil]
  · have e2 : Sb.at_ endP e [p] = [] := by unfold Sb.at_ endP; simp [hp]
    rw [e2, List.append_nil, List.append_nil]

theorem fold_at (k : ByteArray) (e : Int) : ∀ (l : List Wn) (P : List Pn), (P.Pairwise fun q r => q.b ≤ r.b) → Sb.at_ endP e (l.foldl (fun P x => putE P (tellP k x 2)) P) = Sb.at_ endP e (P ++ l.map fun x => tellP k x 2)
  | [], P, _ => by simp
  | x :: l, P, h => by
    rw [List.foldl_cons, fold_at k e l _ (putE_keeps h), Sb.at_append, putE_at_ h, ← Sb.at_append]
    simp

theorem panes_at (k : ByteArray) (f t : Int) (L : List Wn) (e : Int) : Sb.at_ endP e (panesM k f t L) = Sb.at_ endP e (toldL k f t L) := by
  unfold panesM toldL
  rw [fold_at k e _ [] List.Pairwise.nil, List.nil_append]

/-- The job, the windows that are left so far, the panes so far, in memory. -/
structure Mk (w : World) (B : Nat) (c : Cf) (oo : Option Addr) (oc : Nat) (O : List Wn) (po : Option Addr) (pc : Nat) (P : List Pn) (wr : World) : Prop where
  cf : wr.heap[B]? = some (.cells (cfc c) 24 (0, 0))
  left : encW.Own 30 wr (B + 1) (.slice oo O.length oc) O
  told : encP.Own 37 wr (B + 1) (.slice po P.length pc) P
  calm : Calm w wr

theorem Mk.step {w : World} {B : Nat} {c : Cf} {oo : Option Addr} {oc : Nat} {O : List Wn} {po : Option Addr} {pc : Nat} {P : List Pn} {wr wr' : World} (h : Mk w B c oo oc O po pc P wr) (ht : Calm wr wr') : Mk w B c oo oc O po pc P wr' :=
  ⟨ht.at h.cf, Rc.Own.calm h.left ht, Rc.Own.calm h.told ht, h.calm.tr ht⟩

/-- Rows of windows and of panes are never one. -/
theorem own_apart {w : World} {b b' : Nat} {v v' : Value} {O : List Wn} {P : List Pn} (h : encW.Own 30 w b v O) (h' : encP.Own 37 w b' v' P) {g : Nat} (hg : v.ownBlock = some g) (hg' : v'.ownBlock = some g) : False := by
  obtain ⟨-, cur, hc⟩ := Rc.own_block h hg
  obtain ⟨-, cur', hc'⟩ := Rc.own_block h' hg'
  rw [hc] at hc'
  injection hc' with hc'
  injection hc' with _ e
  cases e

/-- An 'append' whose outcome is known, as an operation. -/
theorem exec_app {P : Program} {w w' : World} {o : Oper} {a : Act} (s x : Operand) (t tx : TypeId) (ho : o.op = .call { callee := .builtin .append, args := #[s, x], argTypes := #[t, tx] }) (v y r : Value) (hv : a.eval s = v) (hy : a.eval x = y)
    (hr : (Builtin.append_ #[t, tx] o.type #[v, y]).run P w = .ok r w') : (execOp a.eval o).run P w = .ok (.value r) w' := by
  unfold execOp
  simp only [ho, resolve, invoke, builtin, Sem.run_bind, Sem.run_pure, Result.andThen_ok, List.map_toArray, List.map_cons, List.map_nil, hv, hy, hr]

set_option maxRecDepth 100000 in
set_option maxHeartbeats 8000000 in
theorem mark_any (c : Cf) (k : ByteArray) (ao : Option Addr) (cap : Nat) (L : List Wn) (f t : Int) (w : World) (hsl : encW.Sl w ao cap L) (hn : L.length ≤ 2000000000000) (hok : ∀ x ∈ L, x.Ok) (hlt : I64 c.lt) (ht : I64 t) :
    Calls Try.prog 20 #[cfv c, .string k, .slice ao L.length cap, .int .i64 f, .int .i64 t] w fun e w' => RetM w e w' (outM f t c.lt c.di L) (panesM k f t L) := by
  have CO : Hid (∀ (x : Wn) (W : World), Calls Try.prog 10 #[wnv x, .int .i64 f, .int .i64 t] W fun e w' => e = .returned (.bool (onT x f t)) ∧ Calm W w') := hide fun x W => ontime_any x f t W
  have CT : Hid (∀ (x : Wn) (W : World), x.Ok → Calls Try.prog 12 #[.string k, wnv x, .int .i64 2, .bool c.di] W fun e w' => e = .returned (.tuple #[pnv (tellP k x 2), wnv (tellW x c.di), .int .i64 0]) ∧ Calm W w') := hide fun x W hx => tell_yes k x 2 c.di hx.p (by omega) (by omega) W
  have CV : Hid (∀ (x : Wn) (W : World), I64 x.b → Calls Try.prog 30 #[wnv x, .int .i64 c.lt, .int .i64 t] W fun e w' => e = .returned (.bool (overB x.b c.lt t)) ∧ Calm W w') := hide fun x W hb => over_any x c.lt t hb hlt ht W
  have HAt : Hid (∀ j, j < L.length → ∃ b off, ao = some ⟨b, off, none⟩ ∧ (L.getD j wn0).Ok ∧ ∀ W, Calm w W → wcell W b (off + j * 9) (L.getD j wn0)) := hide fun j hj => by
    obtain ⟨b, off, e, -⟩ := wn_at hsl.mem j hj
    refine ⟨b, off, e, hok _ (by rw [List.getD_eq_getElem?_getD, List.getElem?_eq_getElem hj]; exact List.getElem_mem hj), fun W hW => ?_⟩
    obtain ⟨b', off', e', cc⟩ := wn_at (Rc.Mem.calm hsl.mem hW) j hj
    rw [e] at e'
    injection e' with e'
    injection e' with e1 e2
    subst e1 e2
    exact cc
  have TN := hide (told_next k f t L)
  have ON := hide (out_next f t c.lt c.di L)
  have TL := hide (told_le k f t L)
  have OL := hide (out_le f t c.lt c.di L)
  have MB := hide (fun x => marked_b f t c.di x)
  have FO : Hid (outM f t c.lt c.di (L.take L.length) = outM f t c.lt c.di L) := hide (by rw [List.take_length])
  have FT : Hid (toldL k f t (L.take L.length) = toldL k f t L) := hide (by rw [List.take_length])
  have PA := hide (panes_at k f t L)
  have PR := hide (panesM_rise k f t L)
  have PL : Hid ((panesM k f t L).length = (toldL k f t L).length) := hide (by rw [(panesM_rise k f t L).2]; unfold toldL; rw [List.length_map])
  obtain ⟨n, hN⟩ : ∃ n, n = L.length := ⟨_, rfl⟩
  rw [← hN] at HAt FO FT hn ⊢
  have HN := hide hN
  have A0 := al_new w (.cells (cfc c) 24)
  have T0 : Calm w (w.alloc (.cells (cfc c) 24)) := (Touch.refl _ _).alloc _
  have K0 : Hid (Mk w w.heap.size c none 0 [] none 0 [] (w.alloc (.cells (cfc c) 24))) := hide ⟨A0, Rc.Own.nil _ _ _, Rc.Own.nil _ _ _, T0⟩
  obtain ⟨B, hB⟩ : ∃ B, B = w.heap.size := ⟨_, rfl⟩
  rw [← hB] at K0
  have HB := hide hB
  have RM : Hid (∀ e w', RetM w e w' (outM f t c.lt c.di L) (panesM k f t L) ↔ RetM w e w' (outM f t c.lt c.di L) (panesM k f t L)) := hide fun _ _ => Iff.rfl
  clear hsl hok hlt ht hN A0 T0
  go_enter Try.func20, Try.ntmps20
  go_wp2_with fail
  rw [← hB]
  clear hB
  generalize w.alloc (.cells (cfc c) 24) = wS at *
  go_loopw [12, 13, 21] (fun a b i wr => ∃ (j : Nat) (oo : Option Addr) (oc ol : Nat) (po : Option Addr) (pc pl : Nat), i = .int .i64 j ∧ j ≤ n ∧ a = .slice oo ol oc ∧ b = .slice po pl pc ∧ ol = (outM f t c.lt c.di (L.take j)).length ∧ pl = (toldL k f t (L.take j)).length ∧ Mk w B c oo oc (outM f t c.lt c.di (L.take j)) po pc (toldL k f t (L.take j)) wr) (fun _ _ i _ => n - (intOf i).toNat)
  case atStart => exact ⟨0, none, 0, 0, none, 0, 0, rfl, Nat.zero_le _, rfl, rfl, rfl, rfl, K0.out⟩
  case round =>
    obtain ⟨j, oo, oc, ol, po, pc, pl, rfl, hj, rfl, rfl, hol, hpl, hMk⟩ := hrel
    have HOl := hide hol
    have HPl := hide hpl
    by_cases hlt : j < n
    · obtain ⟨vb, vf, rfl, hxo, hxc⟩ := HAt.out j hlt
      have TN1 := hide (TN.out j (by have := HN.out; omega))
      have ON1 := hide (ON.out j (by have := HN.out; omega))
      have hoN : ol ≤ 2000000000000 := by have := OL.out j; omega
      have hpN : pl ≤ 2000000000000 := by have := TL.out j; omega
      have HMk := hide hMk
      generalize outM f t c.lt c.di (L.take j) = O at *
      generalize toldL k f t (L.take j) = P at *
      generalize L.getD j wn0 = x at *
      obtain ⟨⟨c0, c1, c2⟩, ⟨c3, c4, c5, c6⟩, c7, c8⟩ := hxc wr hMk.calm
      have hji : (j : Int) < (n : Int) := by omega
      clear hol hpl hMk hxc
      have E1 := hide (al_new wr (.cells (wnc x) 30))
      have K1 := hide (HMk.out.step ((Touch.refl _ wr).alloc (.cells (wnc x) 30)))
      have hBE : B < wr.heap.size := lt_of_heap HMk.out.cf
      have HBE := hide hBE
      have LB : Hid (∀ g, (Value.slice oo O.length oc).ownBlock = some g → g < wr.heap.size) := hide fun g hg => by
        obtain ⟨-, cur, hc⟩ := Rc.own_block HMk.out.left hg
        exact lt_of_heap hc
      clear HMk hBE
      go_wp2_with fail
      refine (CO.out x _).mono ?_
      rintro e w2 ⟨rfl, T2⟩
      have K2 := hide (K1.out.step T2)
      have E2 := hide (T2.at E1.out)
      clear T2 K1 E1 c0 c1 c2 c3 c4 c5 c6 c7 c8
      generalize wr.heap.size = E at *
      have MD : Hid (markedW f t c.di x = if onT x f t then tellW x c.di else x) := hide rfl
      have CVx : Hid (∀ (y : Wn) (W : World), y.b = x.b → Calls Try.prog 30 #[wnv y, .int .i64 c.lt, .int .i64 t] W fun e w' => e = .returned (.bool (overB x.b c.lt t)) ∧ Calm W w') := hide fun y W h => by rw [← h]; exact CV.out y W (by rw [h]; exact hxo.b)
      generalize onT x f t = on at *
      generalize overB x.b c.lt t = ov at *
      obtain ⟨⟨c0, c1, c2⟩, ⟨c3, c4, c5, c6⟩, c7, c8⟩ := wn_cells E2.out
      obtain ⟨⟨g0, g1, g2, g3, g4, g5, g6⟩, g7, g8, g9⟩ := cf_cells K2.out.cf
      cases on with
      | false =>
        have TNt : Hid (toldL k f t (L.take (j + 1)) = P) := hide (by have := TN1.out; simpa using this)
        have MDt : Hid (markedW f t c.di x = x) := hide (by have := MD.out; simpa using this)
        have CVy := hide (CVx.out x · rfl)
        go_wp2_with fail
        refine (CVy.out _).mono ?_
        rintro e w7 ⟨rfl, T7⟩
        have K7 := hide (K2.out.step T7)
        have E7 := hide (T7.at E2.out)
        clear T7 K2 E2 c0 c1 c2 c3 c4 c5 c6 c7 c8 g0 g1 g2 g3 g4 g5 g6 g7 g8 g9
        cases ov with
        | true =>
          have ONt : Hid (outM f t c.lt c.di (L.take (j + 1)) = O) := hide (by have := ON1.out; simpa using this)
          go_wp2_with fail
          go_roundw
          case rel => exact ⟨j + 1, oo, oc, ol, po, pc, pl, by go_num, by omega, rfl, rfl, by rw [ONt.out]; exact HOl.out, by rw [TNt.out]; exact HPl.out, by rw [ONt.out, TNt.out]; exact K7.out⟩
          case measure => simp [intOf]; omega
        | false =>
          have ONt : Hid (outM f t c.lt c.di (L.take (j + 1)) = O ++ [x]) := hide (by have := ON1.out; rw [MDt.out] at this; simpa using this)
          obtain ⟨a3, p3, w8, hr3, ow3, t3⟩ := wn_app x K7.out.left (by have := lt_of_heap K7.out.cf; omega) (by have := HOl.out; omega)
          rw [← HOl.out] at hr3 t3
          have K8 : Hid (Mk w B c a3 p3 (O ++ [x]) po pc P w8) := hide (by
            have hw := HB.out
            have hl := K7.out.left
            rw [← HOl.out] at hl
            have nb : ∀ d, d ≤ B → ¬ (Value.slice oo ol oc).ownBlock = some d := fun d hd h => by
              have := (Rc.own_block hl h).1
              omega
            exact ⟨t3.heap K7.out.cf (nb _ (Nat.le_refl _)), ow3, Rc.Own.touch K7.out.told t3 (fun g hg h => own_apart hl K7.out.told h hg), Touch.trans K7.out.calm t3 (fun d hd h => nb d (by omega) h)⟩)
          obtain ⟨⟨c0, c1, c2⟩, ⟨c3, c4, c5, c6⟩, c7, c8⟩ := wn_cells E7.out
          clear ow3 t3 K7 E7
          go_wp2_with (at_builtin; refine Rc.wpList_appR rfl (.tmp 49) (.tmp 51) 50 50 rfl _ _ _ rfl rfl hr3 ?_)
          go_roundw
          case rel => exact ⟨j + 1, a3, p3, ol + 1, po, pc, pl, by go_num, by omega, rfl, rfl, by rw [ONt.out]; simp; exact HOl.out, by rw [TNt.out]; exact HPl.out, by rw [ONt.out, TNt.out]; exact K8.out⟩
          case measure => simp [intOf]; omega
      | true =>
        have C3 := hide (CT.out x w2 hxo)
        have MDt : Hid (markedW f t c.di x = tellW x c.di) := hide (by have := MD.out; simpa using this)
        have TNt : Hid (toldL k f t (L.take (j + 1)) = P ++ [tellP k x 2]) := hide (by have := TN1.out; simpa using this)
        have CVy := hide (CVx.out (tellW x c.di) · rfl)
        generalize tellW x c.di = y at *
        generalize tellP k x 2 = q at *
        go_wp2_with fail
        refine C3.out.mono ?_
        rintro e w3 ⟨rfl, T3⟩
        have K3 := hide (K2.out.step T3)
        have E3 := hide (T3.at E2.out)
        clear T3 K2 E2 C3 c0 c1 c2 c3 c4 c5 c6 c7 c8 g0 g1 g2 g3 g4 g5 g6 g7 g8 g9
        obtain ⟨wA, eA⟩ : ∃ wA, (w3.alloc (.cells #[.string q.k, .int .i64 q.a, .int .i64 q.b, .int .i64 q.d, .int .i64 q.n, .int .i64 q.t.c, .int .i64 q.t.s, .int .i64 q.t.m, .int .i64 q.t.x] 37)).alloc (.cells #[.int .i64 y.a, .int .i64 y.b, .int .i64 y.h, .int .i64 y.t.c, .int .i64 y.t.s, .int .i64 y.t.m, .int .i64 y.t.x, .int .i64 y.n, .int .i64 y.p] 30) = wA := ⟨_, rfl⟩
        have TA : Calm w3 wA := by rw [← eA]; exact ((Touch.refl _ _).alloc _).alloc _
        have B16 : Hid (wA.heap[w3.heap.size]? = some (.cells (pnc q) 37 (0, 0))) := hide (by rw [← eA]; exact al_old (al_new w3 _) _)
        have B17 : Hid (wA.heap[w3.heap.size + 1]? = some (.cells (wnc y) 30 (0, 0))) := hide (by
          rw [← eA]
          have := al_new (w3.alloc (.cells (pnc q) 37)) (.cells (wnc y) 30)
          rwa [al_size] at this)
        have KA := hide (K3.out.step TA)
        have EA := hide (TA.at E3.out)
        have hE3 : E < w3.heap.size := lt_of_heap E3.out
        have NB : Hid (∀ d, (Value.slice po pl pc).ownBlock = some d → d < w3.heap.size) := hide fun d hd => by
          have h := K3.out.told
          rw [← HPl.out] at h
          obtain ⟨-, cur, hc⟩ := Rc.own_block h hd
          exact lt_of_heap hc
        clear TA
        go_wp2_with fail
        clear eA
        have R16 : Hid (∀ W, Touch (fun d => (Value.slice po pl pc).ownBlock = some d ∨ d = E) wA W → W.heap[w3.heap.size]? = some (.cells (pnc q) 37 (0, 0))) := hide fun W hW => hW.heap B16.out (fun h => by
          rcases h with h | h
          · have := NB.out _ h; omega
          · omega)
        have R17 : Hid (∀ W, Touch (fun d => (Value.slice po pl pc).ownBlock = some d ∨ d = E) wA W → W.heap[w3.heap.size + 1]? = some (.cells (wnc y) 30 (0, 0))) := hide fun W hW => hW.heap B17.out (fun h => by
          rcases h with h | h
          · have := NB.out _ h; omega
          · omega)
        refine wp_region_held (S := Touch (fun d => (Value.slice po pl pc).ownBlock = some d ∨ d = E) wA) (by kernel_rfl) ?_
        have hT0 : Touch (fun d => (Value.slice po pl pc).ownBlock = some d ∨ d = E) wA { wA with drawn := wA.drawn + 1 } := (Touch.refl _ wA).drew
        refine wpAnyH_yield 0 38 (.slice po pl pc) rfl rfl (by kernel_rfl) (by kernel_rfl) (by kernel_rfl) (fun _ _ _ h => h) (by kernel_rfl) (fun W hW => by kernel_rfl) (by assumption) rfl rfl ?_
        simp only [Act.put, List.setIfInBounds_toArray, List.set_cons_zero, List.set_cons_succ]
        refine wpAnyH_yield 1 39 (pnv q) rfl rfl (by kernel_rfl) (by kernel_rfl) (by kernel_rfl) (fun _ _ _ h => h) (by kernel_rfl) (fun W hW => by obtain ⟨⟨d0, d1, d2, d3, d4⟩, d5, d6, d7, d8⟩ := pn_cells (R16.out W hW); go_simp) (by assumption) rfl rfl ?_
        simp only [Act.put, List.setIfInBounds_toArray, List.set_cons_zero, List.set_cons_succ]
        refine wpAnyH_yield 4 42 (wnv y) rfl rfl (by kernel_rfl) (by kernel_rfl) (by kernel_rfl) (fun _ _ _ h => h) (by kernel_rfl) (fun W hW => by obtain ⟨⟨c0, c1, c2⟩, ⟨c3, c4, c5, c6⟩, c7, c8⟩ := wn_cells (R17.out W hW); go_simp) (by assumption) rfl rfl ?_
        simp only [Act.put, List.setIfInBounds_toArray, List.set_cons_zero, List.set_cons_succ]
        have KD : Mk w B c oo oc O po pc P { wA with drawn := wA.drawn + 1 } := KA.out.step (Touch.refl _ wA).drew
        have ED : ({ wA with drawn := wA.drawn + 1 } : World).heap[E]? = some (.cells (wnc x) 30 (0, 0)) := EA.out
        generalize ({ wA with drawn := wA.drawn + 1 } : World) = wD at *
        obtain ⟨a2, p2, w5, hr, ow, t2, hg2⟩ := pn_app q KD.told (by have := lt_of_heap KD.cf; omega) (by have := HPl.out; omega)
        rw [← HPl.out] at hr t2
        have hTB : Touch (fun d => (Value.slice po pl pc).ownBlock = some d ∨ d = E) wA (wD.alloc (.cells (pnc q) 37)) := hT0.alloc _
        have hT5 : Touch (fun d => (Value.slice po pl pc).ownBlock = some d ∨ d = E) wA w5 := Touch.trans hT0 t2 (fun d _ h => .inl h)
        refine wpAnyH_value 2 40 (.slice (some ⟨wD.heap.size, 0, none⟩) 1 1) (w' := wD.alloc (.cells (pnc q) 37)) rfl rfl (by kernel_rfl) (by kernel_rfl) (by go_simp) hTB ?_
        simp only [Act.put, List.setIfInBounds_toArray, List.set_cons_zero, List.set_cons_succ]
        refine wpAnyH_value 3 41 (.slice a2 (pl + 1) p2) (w' := w5) rfl rfl (by kernel_rfl) (by kernel_rfl) (exec_app (.tmp 38) (.tmp 40) 46 46 rfl _ _ _ rfl rfl hr) hT5 ?_
        simp only [Act.put, List.setIfInBounds_toArray, List.set_cons_zero, List.set_cons_succ]
        refine wpAnyH_yield 5 13 (.slice a2 (pl + 1) p2) rfl rfl (by kernel_rfl) (by kernel_rfl) (by kernel_rfl) (fun _ _ _ h => h) (by kernel_rfl) (fun W hW => by kernel_rfl) (by assumption) rfl rfl ?_
        simp only [Act.put, List.setIfInBounds_toArray, List.set_cons_zero, List.set_cons_succ]
        have nE : ¬ (Value.slice po pl pc).ownBlock = some E := fun h => by
          have hh := KD.told
          rw [← HPl.out] at hh
          obtain ⟨-, cur, hc⟩ := Rc.own_block hh h
          rw [ED] at hc
          injection hc with hc
          injection hc with _ e
          cases e
        have E5 : w5.heap[E]? = some (.cells (wnc x) 30 (0, 0)) := t2.heap ED nE
        obtain ⟨F6, t6⟩ := wn_all y E5
        have hT6 := Touch.trans hT5 t6 (fun d _ h => .inr h)
        refine wpAnyH_do 6 ((((((((((w5.setCell ⟨E, 0, none⟩ (.int .i64 y.a)).setCell ⟨E, 1, none⟩ (.int .i64 y.b)).setCell ⟨E, 2, none⟩ (.int .i64 y.h)).setCell ⟨E, 3, none⟩ (.int .i64 y.t.c)).setCell ⟨E, 4, none⟩ (.int .i64 y.t.s)).setCell ⟨E, 5, none⟩ (.int .i64 y.t.m)).setCell ⟨E, 6, none⟩ (.int .i64 y.t.x)).setCell ⟨E, 7, none⟩ (.int .i64 y.n)).setCell ⟨E, 8, none⟩ (.int .i64 y.p))) rfl (by kernel_rfl) (by kernel_rfl) ?_ hT6 ?_
        · intro K hK
          obtain ⟨⟨i0, i1, i2⟩, ⟨i3, i4, i5, i6⟩, i7, i8⟩ := wn_cells E5
          have y0 := wn_frozen E5 0
          have y1 := wn_frozen E5 1
          have y2 := wn_frozen E5 2
          have y3 := wn_frozen E5 3
          have y4 := wn_frozen E5 4
          have y5 := wn_frozen E5 5
          have y6 := wn_frozen E5 6
          have y7 := wn_frozen E5 7
          have y8 := wn_frozen E5 8
          unfold Oper.wp
          go_simp
          exact hK
        have hBE' := HBE.out
        have K6 : Mk w B c oo oc O a2 p2 (P ++ [q]) ((((((((((w5.setCell ⟨E, 0, none⟩ (.int .i64 y.a)).setCell ⟨E, 1, none⟩ (.int .i64 y.b)).setCell ⟨E, 2, none⟩ (.int .i64 y.h)).setCell ⟨E, 3, none⟩ (.int .i64 y.t.c)).setCell ⟨E, 4, none⟩ (.int .i64 y.t.s)).setCell ⟨E, 5, none⟩ (.int .i64 y.t.m)).setCell ⟨E, 6, none⟩ (.int .i64 y.t.x)).setCell ⟨E, 7, none⟩ (.int .i64 y.n)).setCell ⟨E, 8, none⟩ (.int .i64 y.p))) := by
          have hw := HB.out
          have nb : ∀ d, d ≤ B → ¬ (Value.slice po pl pc).ownBlock = some d := fun d hd h => by
            have hh := KD.told
            rw [← HPl.out] at hh
            have := (Rc.own_block hh h).1
            omega
          have oa : ∀ g, (Value.slice oo O.length oc).ownBlock = some g → ¬ (Value.slice po pl pc).ownBlock = some g := fun g hg h => by
            have hh := KD.told
            rw [← HPl.out] at hh
            exact own_apart KD.left hh hg h
          have l5 := Rc.Own.touch KD.left t2 oa
          refine ⟨t6.heap (t2.heap KD.cf (nb _ (Nat.le_refl _))) (by omega), Rc.Own.touch l5 t6 (fun g hg e => ?_), Rc.Own.touch ow t6 (fun g hg e => ?_), Touch.trans (Touch.trans KD.calm t2 (fun d hd h => nb d (by omega) h)) t6 (fun d hd e => by omega)⟩
          · have := LB.out g hg
            omega
          · subst e
            obtain ⟨-, cur, hc⟩ := Rc.own_block ow hg
            rw [E5] at hc
            injection hc with hc
            injection hc with _ e
            cases e
        generalize (((((((((w5.setCell ⟨E, 0, none⟩ (.int .i64 y.a)).setCell ⟨E, 1, none⟩ (.int .i64 y.b)).setCell ⟨E, 2, none⟩ (.int .i64 y.h)).setCell ⟨E, 3, none⟩ (.int .i64 y.t.c)).setCell ⟨E, 4, none⟩ (.int .i64 y.t.s)).setCell ⟨E, 5, none⟩ (.int .i64 y.t.m)).setCell ⟨E, 6, none⟩ (.int .i64 y.t.x)).setCell ⟨E, 7, none⟩ (.int .i64 y.n)).setCell ⟨E, 8, none⟩ (.int .i64 y.p)) = w6 at *
        refine wpAnyH_done (by kernel_rfl) ?_ _
        have HK6 := hide K6
        have HE6 := hide F6
        clear hT0 hTB hT5 hT6 t6 F6 K6 E5 nE hr ow t2 hg2 KD ED KA EA B16 B17 NB K3 E3 hBE' hE3
        obtain ⟨⟨c0, c1, c2⟩, ⟨c3, c4, c5, c6⟩, c7, c8⟩ := wn_cells HE6.out
        obtain ⟨⟨g0, g1, g2, g3, g4, g5, g6⟩, g7, g8, g9⟩ := cf_cells HK6.out.cf
        go_wp2_with fail
        refine (CVy.out _).mono ?_
        rintro e w7 ⟨rfl, T7⟩
        have K7 := hide (HK6.out.step T7)
        have E7 := hide (T7.at HE6.out)
        clear T7 HK6 HE6 c0 c1 c2 c3 c4 c5 c6 c7 c8 g0 g1 g2 g3 g4 g5 g6 g7 g8 g9
        cases ov with
        | true =>
          have ONt : Hid (outM f t c.lt c.di (L.take (j + 1)) = O) := hide (by have := ON1.out; simpa using this)
          go_wp2_with fail
          go_roundw
          case rel => exact ⟨j + 1, oo, oc, ol, a2, p2, pl + 1, by go_num, by omega, rfl, rfl, by rw [ONt.out]; exact HOl.out, by rw [TNt.out]; simp; exact HPl.out, by rw [ONt.out, TNt.out]; exact K7.out⟩
          case measure => simp [intOf]; omega
        | false =>
          have ONt : Hid (outM f t c.lt c.di (L.take (j + 1)) = O ++ [y]) := hide (by have := ON1.out; rw [MDt.out] at this; simpa using this)
          obtain ⟨a3, p3, w8, hr3, ow3, t3⟩ := wn_app y K7.out.left (by have := lt_of_heap K7.out.cf; omega) (by have := HOl.out; omega)
          rw [← HOl.out] at hr3 t3
          have K8 : Hid (Mk w B c a3 p3 (O ++ [y]) a2 p2 (P ++ [q]) w8) := hide (by
            have hw := HB.out
            have hl := K7.out.left
            rw [← HOl.out] at hl
            have nb : ∀ d, d ≤ B → ¬ (Value.slice oo ol oc).ownBlock = some d := fun d hd h => by
              have := (Rc.own_block hl h).1
              omega
            exact ⟨t3.heap K7.out.cf (nb _ (Nat.le_refl _)), ow3, Rc.Own.touch K7.out.told t3 (fun g hg h => own_apart hl K7.out.told h hg), Touch.trans K7.out.calm t3 (fun d hd h => nb d (by omega) h)⟩)
          obtain ⟨⟨c0, c1, c2⟩, ⟨c3, c4, c5, c6⟩, c7, c8⟩ := wn_cells E7.out
          clear ow3 t3 K7 E7
          go_wp2_with (at_builtin; refine Rc.wpList_appR rfl (.tmp 49) (.tmp 51) 50 50 rfl _ _ _ rfl rfl hr3 ?_)
          go_roundw
          case rel => exact ⟨j + 1, a3, p3, ol + 1, a2, p2, pl + 1, by go_num, by omega, rfl, rfl, by rw [ONt.out]; simp; exact HOl.out, by rw [TNt.out]; simp; exact HPl.out, by rw [ONt.out, TNt.out]; exact K8.out⟩
          case measure => simp [intOf]; omega
    · obtain rfl : j = n := by omega
      have hji : decide ((j : Int) < (j : Int)) = false := decide_eq_false (by omega)
      rw [FO.out] at hMk hol
      rw [FT.out] at hMk hpl
      have FIN : Hid (∀ (po' : Option Addr) (pc' : Nat) (w' : World), encW.Own 30 w' (B + 1) (.slice oo (outM f t c.lt c.di L).length oc) (outM f t c.lt c.di L) → encP.Own 37 w' (B + 1) (.slice po' (panesM k f t L).length pc') (panesM k f t L) → Calm w w' → RetM w (.returned (.tuple #[.slice oo ol oc, .slice po' pl pc'])) w' (outM f t c.lt c.di L) (panesM k f t L)) := hide fun po' pc' w' h1 h2 h3 =>
        ⟨oo, oc, po', pc', by rw [hol, hpl, PL.out], Rc.Own.base h1 (by have := HB.out; omega), Rc.Own.base h2 (by have := HB.out; omega), h3⟩
      have HMk := hide hMk
      by_cases hp0 : pl = 0
      · subst hp0
        have C1 := fun w => hide (sortP_none po pc (.func (.func 32) #[] #[]) w)
        have E0 : Hid (panesM k f t L = toldL k f t L) := hide (by
          have e1 : toldL k f t L = [] := List.eq_nil_of_length_eq_zero hpl.symm
          have e2 : panesM k f t L = [] := List.eq_nil_of_length_eq_zero (by have := PL.out; omega)
          rw [e1, e2])
        clear hMk hol hpl HOl HPl TN ON TL OL CO CT CV HAt
        go_wp2_with fail
        refine (C1 _).out.mono ?_
        rintro e w2 ⟨rfl, hq⟩
        subst hq
        go_wp2_with fail
        go_ret2
        exact FIN.out po pc _ HMk.out.left (by rw [E0.out]; exact HMk.out.told) HMk.out.calm
      · have hne : toldL k f t L ≠ [] := fun h => hp0 (by rw [hpl, h]; rfl)
        obtain ⟨g, hg⟩ : ∃ g, po = some ⟨g, 0, none⟩ := by
          obtain ⟨_, hm, _, _, _, ha⟩ := Rc.Own.mem hMk.told
          obtain ⟨b, off, e, -⟩ := pn_at hm 0 (List.length_pos_iff.2 hne)
          obtain ⟨_, h2, _⟩ := ha _ e
          have h2' : off = 0 := h2
          subst h2'
          exact ⟨b, e⟩
        subst hg
        have C1 := hide (sortP_any (panesM k f t L) PR.out.1 PA.out PL.out hMk.told (by have := TL.out j; rw [FT.out] at this; omega))
        rw [← hpl] at C1
        clear hMk hol hpl HOl HPl TN ON TL OL CO CT CV HAt hne
        go_wp2_with fail
        refine C1.out.mono ?_
        rintro e w2 ⟨rfl, ow, T2⟩
        have HF := hide (FIN.out (some ⟨g, 0, none⟩) pc w2 (Rc.Own.touch HMk.out.left T2 (fun d hd e => own_apart HMk.out.left HMk.out.told hd (by rw [e]; rfl))) ow (Touch.trans HMk.out.calm T2 (fun d hd e => by
          have := (Rc.own_block HMk.out.told (g := g) rfl).1
          have := HB.out
          omega)))
        clear ow T2
        go_wp2_with fail
        go_ret2
        exact HF.out

end Go.Proofs.Ytfmlbcddomggaaa
