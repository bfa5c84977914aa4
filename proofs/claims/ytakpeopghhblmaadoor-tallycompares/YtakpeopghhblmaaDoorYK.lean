/- How two tallies compare. -/
import Derived.Test.YtakpeopghhblmaaDoorYW
import Derived.Test.YtakpeopghhblmaaDoorYS
import Derived.Test.YtakpeopghhblmaaDoorYRw
import Derived.ChangeKeysEq
namespace Go.Proofs.YtakpeopghhblmaaDoor
open Go.RowKit Go.Lib

/-- Two numbers compared. -/
def cmpI (a b : Int) : Int := if a < b then -1 else if b < a then 1 else 0

set_option maxRecDepth 100000 in
theorem isNaN_any (a : Int) (w : World) : Calls Tryd.prog 38 #[.int .i64 a] w fun e w' => e = .returned (.bool false) ∧ w' = w := by
  go_enter Tryd.func38, Tryd.ntmps38
  go_wp2_with fail
  go_ret
  exact ⟨by simp, rfl⟩

set_option maxRecDepth 100000 in
set_option maxHeartbeats 1000000 in
theorem cmp64_any (a b : Int) (w : World) : Calls Tryd.prog 34 #[.int .i64 a, .int .i64 b] w fun e w' => e = .returned (.int .i64 (cmpI a b)) ∧ w' = w := by
  have N := fun a w => hide (isNaN_any a w)
  unfold cmpI
  rcases (by omega : a < b ∨ (¬ a < b ∧ b < a) ∨ (¬ a < b ∧ ¬ b < a)) with h | ⟨h1, h2⟩ | ⟨h1, h2⟩
  · rw [if_pos h]
    go_enter Tryd.func34, Tryd.ntmps34
    go_wp2_with (refine (N _ _).out.mono ?_; rintro e w' ⟨rfl, hq⟩; subst hq)
    go_ret
    exact ⟨rfl, rfl⟩
  · rw [if_neg h1, if_pos h2]
    go_enter Tryd.func34, Tryd.ntmps34
    go_wp2_with (refine (N _ _).out.mono ?_; rintro e w' ⟨rfl, hq⟩; subst hq)
    go_ret
    exact ⟨rfl, rfl⟩
  · rw [if_neg h1, if_neg h2]
    go_enter Tryd.func34, Tryd.ntmps34
    go_wp2_with (refine (N _ _).out.mono ?_; rintro e w' ⟨rfl, hq⟩; subst hq)
    go_ret
    exact ⟨rfl, rfl⟩

set_option maxRecDepth 100000 in
theorem numbers_any (t : Tl) (w : World) : Calls Tryd.prog 33 #[tlv t] w fun e w' => e = .returned (.agg (tlc t)) ∧ Calm w w' := by
  go_enter Tryd.func33, Tryd.ntmps33
  go_wp2_with fail
  have A := al_new (w.alloc (.cells (tlc t) 24)) (.cells (tlc t) 54)
  rw [al_size] at A
  refine bodyPost_ret (results_cell_row rfl _ _ _ _ _ _ _ rfl A Tryd.underlying54 rfl (by kernel_rfl)) rfl ?_
  exact ⟨rfl, (((Touch.refl (fun _ => False) w).alloc _).alloc _)⟩

/-- A tally's numbers, in the order in which they count. -/
def fld (t : Tl) (k : Nat) : Int := [t.c, t.s, t.m, t.x].getD k 0
/-- The one, or, if it is nought, the other. -/
def thn (a b : Int) : Int := if a = 0 then b else a
/-- The comparison from a place on; so many are left. -/
def restC (t u : Tl) : Nat → Nat → Int
  | 0, _ => 0
  | n + 1, k => thn (cmpI (fld t k) (fld u k)) (restC t u n (k + 1))
/-- How two tallies compare. -/
def cmpT (t u : Tl) : Int := restC t u 4 0

theorem fld_cell {w : World} {b : Nat} {t : Tl} {ty : TypeId} (h : w.heap[b]? = some (.cells (tlc t) ty (0, 0))) (k : Nat) (hk : k < 4) : w.cell? ⟨b, k, none⟩ = some (.int .i64 (fld t k)) := by
  obtain ⟨a, b, c, d⟩ := tl_cells h
  match k, hk with
  | 0, _ => exact a
  | 1, _ => exact b
  | 2, _ => exact c
  | 3, _ => exact d

theorem arr_eq (t u : Tl) (w : World) : (Op.equalIn 10000 54 (.agg (tlc t)) (.agg (tlc u))).run Tryd.prog w = .ok (t.c == u.c && (t.s == u.s && (t.m == u.m && t.x == u.x))) w := by
  obtain ⟨i, hi, -⟩ := info_parts2 (show (Tryd.prog.info? 2).map (fun i => (i.zero, i.size, i.bytes)) = some (some (.int .i64 0), 1, 8) by kernel_rfl)
  have hc : Tryd.prog.cellsOf 2 = 1 := by kernel_rfl
  have he := Tryd.underlying2
  rw [show (10000 : Nat) = 9999 + 1 from rfl, run_equalIn_array w 9999 _ _ Tryd.underlying54 hi, hc]
  have p : ∀ (xs : Array Value) (j : Nat) (x : Int), xs[j]? = some (.int .i64 x) → (part 2 xs j).run Tryd.prog w = .ok (.int .i64 x) w := fun xs j x h => by simp [part, isAgg, run_underlying he, h]
  have q : ∀ (x y : Int), (Op.equalIn 9999 2 (.int .i64 x) (.int .i64 y)).run Tryd.prog w = .ok (x == y) w := fun x y => run_equalIn_int w 9998 2 .i64 .i64 x y he
  have r4 : List.range 4 = [0, 1, 2, 3] := by decide
  rw [r4]
  have a0 := p (tlc t) 0 t.c rfl
  have b0 := p (tlc u) 0 u.c rfl
  have a1 := p (tlc t) 1 t.s rfl
  have b1 := p (tlc u) 1 u.s rfl
  have a2 := p (tlc t) 2 t.m rfl
  have b2 := p (tlc u) 2 u.m rfl
  have a3 := p (tlc t) 3 t.x rfl
  have b3 := p (tlc u) 3 u.x rfl
  have q0 := q t.c u.c
  have q1 := q t.s u.s
  have q2 := q t.m u.m
  have q3 := q t.x u.x
  generalize (t.c == u.c) = e0 at *
  generalize (t.s == u.s) = e1 at *
  generalize (t.m == u.m) = e2 at *
  generalize (t.x == u.x) = e3 at *
  cases e0 <;> cases e1 <;> cases e2 <;> cases e3 <;> simp [Op.eqItems, a0, b0, a1, b1, a2, b2, a3, b3, q0, q1, q2, q3]

/-- What has come up of the two calls and the two makings. -/
structure Rel (t u : Tl) (w0 : World) (F : Value → Value → Value → Value → Act) (b1 b3 b4 b5 : Bool) (v1 v3 v4 v5 : Value) (n : Nat) (L : Array Bool) (a : Act) (w : World) : Prop where
  ord : b3 = true → b1 = true
  left : n = (!b1).toNat + (!b3).toNat + (!b4).toNat + (!b5).toNat
  list : L = #[true, b1, true, b3, b4, b5, false, false]
  act : a = F v1 v3 v4 v5
  e1 : v1 = if b1 then .agg (tlc t) else undef
  e3 : v3 = if b3 then .agg (tlc u) else undef
  u4 : b4 = false → v4 = undef
  y4 : b4 = true → ∃ p, v4 = .pointer (some ⟨p, 0, none⟩) ∧ w0.heap.size ≤ p ∧ w.heap[p]? = some (.cells (tlc tl0) 54 (0, 0))
  u5 : b5 = false → v5 = undef
  y5 : b5 = true → ∃ p, v5 = .pointer (some ⟨p, 0, none⟩) ∧ w0.heap.size ≤ p ∧ w.heap[p]? = some (.cells (tlc tl0) 54 (0, 0))
  ne : ∀ p q, v4 = .pointer (some ⟨p, 0, none⟩) → v5 = .pointer (some ⟨q, 0, none⟩) → p ≠ q
  calm : Calm w0 w

/-- Which of them may come up. -/
def rd (b1 b3 b4 b5 : Bool) : List Nat := (if b1 then (if b3 then [] else [3]) else [1]) ++ (if b4 then [] else [4]) ++ (if b5 then [] else [5])

theorem rd_ne {b1 b3 b4 b5 : Bool} {n : Nat} (h : n + 1 = (!b1).toNat + (!b3).toNat + (!b4).toNat + (!b5).toNat) : rd b1 b3 b4 b5 ≠ [] := by
  cases b1 <;> cases b3 <;> cases b4 <;> cases b5 <;> simp [rd] at h ⊢

theorem rd_mem {b1 b3 b4 b5 : Bool} {i : Nat} (h : i ∈ rd b1 b3 b4 b5) : (i = 1 ∧ b1 = false) ∨ (i = 3 ∧ b1 = true ∧ b3 = false) ∨ (i = 4 ∧ b4 = false) ∨ (i = 5 ∧ b5 = false) := by
  cases b1 <;> cases b3 <;> cases b4 <;> cases b5 <;> simp [rd] at h ⊢ <;> omega

theorem undef_ptr {a : Addr} (h : undef = .pointer (some a)) : False := by cases h

theorem restC_same (t : Tl) : ∀ n k, restC t t n k = 0
  | 0, _ => rfl
  | n + 1, k => by unfold restC thn; rw [if_pos (by unfold cmpI; simp)]; exact restC_same t n (k + 1)

theorem restC_step (t u : Tl) (k : Nat) (hk : k < 4) : restC t u (4 - k) k = thn (cmpI (fld t k) (fld u k)) (restC t u (4 - (k + 1)) (k + 1)) := by
  have e : 4 - k = (4 - (k + 1)) + 1 := by omega
  rw [e]; rfl

theorem tl_ext {t u : Tl} (h : (t.c == u.c && (t.s == u.s && (t.m == u.m && t.x == u.x))) = true) : t = u := by
  obtain ⟨a, b, c, d⟩ := t
  obtain ⟨a', b', c', d'⟩ := u
  simp at h
  obtain ⟨rfl, rfl, rfl, rfl⟩ := h
  rfl

set_option maxRecDepth 100000 in
set_option maxHeartbeats 2000000 in
theorem compare_any (t u : Tl) (w : World) : Calls Tryd.prog 24 #[tlv t, tlv u] w fun e w' => e = .returned (.int .i64 (cmpT t u)) ∧ Calm w w' := by
  have CN := fun t w => hide (numbers_any t w)
  have CC := fun a b w => hide (cmp64_any a b w)
  go_enter Tryd.func24, Tryd.ntmps24
  go_wp2_with fail
  obtain ⟨A0, A1⟩ := al1 w (.cells (tlc t) 24) (.cells (tlc u) 24)
  have T0 : Calm w ((w.alloc (.cells (tlc t) 24)).alloc (.cells (tlc u) 24)) := ((Touch.refl (fun _ => False) w).alloc _).alloc _
  generalize ((w.alloc (.cells (tlc t) 24)).alloc (.cells (tlc u) 24)) = w1 at *
  generalize w.heap.size = B at *
  have hB0 := lt_of_heap A0
  have hB1 := lt_of_heap A1
  refine wp_region_held (S := Touch (fun k => w1.heap.size ≤ k) w1) (by kernel_rfl) ?_
  have hT0 : Touch (fun k => w1.heap.size ≤ k) w1 { w1 with drawn := w1.drawn + 1 } := (Touch.refl _ w1).drew
  have hC0 : Calm w1 { w1 with drawn := w1.drawn + 1 } := (Touch.refl _ w1).drew
  refine wpAnyH_yield 0 9 (tlv t) rfl rfl (by kernel_rfl) (by kernel_rfl) (by kernel_rfl) (fun _ _ _ h => h) (by kernel_rfl) (fun W hW => by obtain ⟨c0, c1, c2, c3⟩ := tl_cells (hW.heap A0 (by omega)); go_simp) (by assumption) rfl rfl ?_
  simp only [Act.put, List.setIfInBounds_toArray, List.set_cons_zero, List.set_cons_succ]
  refine wpAnyH_yield 2 11 (tlv u) rfl rfl (by kernel_rfl) (by kernel_rfl) (by kernel_rfl) (fun _ _ _ h => h) (by kernel_rfl) (fun W hW => by obtain ⟨c0, c1, c2, c3⟩ := tl_cells (hW.heap A1 (by omega)); go_simp) (by assumption) rfl rfl ?_
  simp only [Act.put, List.setIfInBounds_toArray, List.set_cons_zero, List.set_cons_succ]
  refine wpAnyH_names fun ops Q a0 hops hQ ha => ?_
  have F0 : ∃ F : Value → Value → Value → Value → Act, F = fun v1 v3 v4 v5 => (((a0.put (some 10) v1).put (some 12) v3).put (some 5) v4).put (some 6) v5 := ⟨_, rfl⟩
  obtain ⟨F, hF⟩ := F0
  have f0 : a0 = F undef undef undef undef := by rw [hF, ha]; kernel_rfl
  have f1 : ∀ v1 v3 v4 v5 x, (F v1 v3 v4 v5).put (some 10) x = F x v3 v4 v5 := fun v1 v3 v4 v5 x => by rw [hF, ha]; kernel_rfl
  have f3 : ∀ v1 v3 v4 v5 x, (F v1 v3 v4 v5).put (some 12) x = F v1 x v4 v5 := fun v1 v3 v4 v5 x => by rw [hF, ha]; kernel_rfl
  have f4 : ∀ v1 v3 v4 v5 x, (F v1 v3 v4 v5).put (some 5) x = F v1 v3 x v5 := fun v1 v3 v4 v5 x => by rw [hF, ha]; kernel_rfl
  have f5 : ∀ v1 v3 v4 v5 x, (F v1 v3 v4 v5).put (some 6) x = F v1 v3 v4 x := fun v1 v3 v4 v5 x => by rw [hF, ha]; kernel_rfl
  have rdy : ∀ b1 b3 b4 b5 : Bool, (b3 = true → b1 = true) → rd b1 b3 b4 b5 ≠ [] → Region.ready .any ops #[true, b1, true, b3, b4, b5, false, false] = rd b1 b3 b4 b5 := fun b1 b3 b4 b5 h1 h2 => by
    rw [hops]
    cases b1 <;> cases b3 <;> cases b4 <;> cases b5 <;> first | (exact absurd (h1 rfl) (by decide)) | (exact absurd rfl h2) | kernel_rfl
  have s1 : ∀ (K : Act → World → Prop) v3 v4 v5 W, (∀ W', Calm W W' → K (F (.agg (tlc t)) v3 v4 v5) W') → wpOp Tryd.prog ops Q 1 K (F undef v3 v4 v5) W := fun K v3 v4 v5 W hK => by
    subst hops
    refine wpOp_enter 1 10 33 #[tlv t] rfl rfl (by kernel_rfl) (by rw [hF, ha]; kernel_rfl) ?_
    refine (CN t W).out.mono ?_
    rintro e W' ⟨rfl, hq⟩
    exact ⟨_, rfl, by rw [f1]; exact hK W' hq⟩
  have s3 : ∀ (K : Act → World → Prop) v1 v4 v5 W, (∀ W', Calm W W' → K (F v1 (.agg (tlc u)) v4 v5) W') → wpOp Tryd.prog ops Q 3 K (F v1 undef v4 v5) W := fun K v1 v4 v5 W hK => by
    subst hops
    refine wpOp_enter 3 12 33 #[tlv u] rfl rfl (by kernel_rfl) (by rw [hF, ha]; kernel_rfl) ?_
    refine (CN u W).out.mono ?_
    rintro e W' ⟨rfl, hq⟩
    exact ⟨_, rfl, by rw [f3]; exact hK W' hq⟩
  have s4 : ∀ (K : Act → World → Prop) v1 v3 v5 W, K (F v1 v3 (.pointer (some ⟨W.heap.size, 0, none⟩)) v5) (W.alloc (.cells (tlc tl0) 54)) → wpOp Tryd.prog ops Q 4 K (F v1 v3 undef v5) W := fun K v1 v3 v5 W hK => by
    subst hops
    refine wpOp_value 4 5 (.pointer (some ⟨W.heap.size, 0, none⟩)) (w' := W.alloc (.cells (tlc tl0) 54)) rfl rfl (by kernel_rfl) (by kernel_rfl) ?_
    rw [f4]; exact hK
  have s5 : ∀ (K : Act → World → Prop) v1 v3 v4 W, K (F v1 v3 v4 (.pointer (some ⟨W.heap.size, 0, none⟩))) (W.alloc (.cells (tlc tl0) 54)) → wpOp Tryd.prog ops Q 5 K (F v1 v3 v4 undef) W := fun K v1 v3 v4 W hK => by
    subst hops
    refine wpOp_value 5 6 (.pointer (some ⟨W.heap.size, 0, none⟩)) (w' := W.alloc (.cells (tlc tl0) 54)) rfl rfl (by kernel_rfl) (by kernel_rfl) ?_
    rw [f5]; exact hK
  have T1 := hide T0
  rw [f0]
  refine wpAnyH_sim (fuel := 2) (R := fun n L a W => ∃ b1 b3 b4 b5 v1 v3 v4 v5, Rel t u w1 F b1 b3 b4 b5 v1 v3 v4 v5 n L a W) ?tail ?prog 4 _ _ _ ⟨false, false, false, false, undef, undef, undef, undef, by decide, rfl, rfl, rfl, rfl, rfl, fun _ => rfl, fun h => (nomatch h), fun _ => rfl, fun h => (nomatch h), fun p q h => (undef_ptr h).elim, hC0⟩
  case prog =>
    rintro n L a W ⟨b1, b3, b4, b5, v1, v3, v4, v5, r⟩
    obtain ⟨ord, left, list, act, e1, e3, u4, y4, u5, y5, ne, calm⟩ := r
    have hne := rd_ne left
    subst list act
    rw [rdy b1 b3 b4 b5 ord hne]
    refine ⟨hne, fun i hi => ?_⟩
    have hS : ∀ W', Calm w1 W' → Touch (fun k => w1.heap.size ≤ k) w1 W' := fun W' h => h.mono (fun _ _ h => h.elim)
    rcases rd_mem hi with ⟨rfl, h⟩ | ⟨rfl, h, h'⟩ | ⟨rfl, h⟩ | ⟨rfl, h⟩
    · subst h
      have hb3 : b3 = false := Bool.eq_false_iff.2 (fun e => absurd (ord e) (by decide))
      subst hb3
      simp only [Bool.false_eq_true, if_false] at e1 e3
      subst e1 e3
      refine s1 _ _ _ _ _ fun W' hW => ⟨hS _ (calm.tr hW), true, false, b4, b5, _, _, v4, v5, ⟨fun _ => rfl, ?_, rfl, rfl, rfl, rfl, u4, ?_, u5, ?_, ne, calm.tr hW⟩⟩
      · simp at left ⊢; omega
      · exact fun h => by obtain ⟨p, h1, h2, h3⟩ := y4 h; exact ⟨p, h1, h2, hW.at h3⟩
      · exact fun h => by obtain ⟨p, h1, h2, h3⟩ := y5 h; exact ⟨p, h1, h2, hW.at h3⟩
    · subst h h'
      simp only [Bool.false_eq_true, if_false] at e3
      subst e3
      refine s3 _ _ _ _ _ fun W' hW => ⟨hS _ (calm.tr hW), true, true, b4, b5, v1, _, v4, v5, ⟨fun _ => rfl, ?_, rfl, rfl, e1, rfl, u4, ?_, u5, ?_, ne, calm.tr hW⟩⟩
      · simp at left ⊢; omega
      · exact fun h => by obtain ⟨p, h1, h2, h3⟩ := y4 h; exact ⟨p, h1, h2, hW.at h3⟩
      · exact fun h => by obtain ⟨p, h1, h2, h3⟩ := y5 h; exact ⟨p, h1, h2, hW.at h3⟩
    · subst h
      obtain rfl := u4 rfl
      refine s4 _ _ _ _ _ ⟨hS _ (calm.alloc _), b1, b3, true, b5, v1, v3, _, v5, ⟨ord, ?_, rfl, rfl, e1, e3, fun h => (nomatch h), fun _ => ⟨_, rfl, calm.size, al_new W _⟩, u5, ?_, ?_, calm.alloc _⟩⟩
      · simp at left ⊢; omega
      · exact fun h => by obtain ⟨p, h1, h2, h3⟩ := y5 h; exact ⟨p, h1, h2, al_old h3 _⟩
      · intro p q h1 h2
        injection h1 with h1
        injection h1 with h1
        injection h1 with h1
        cases b5 with
        | false => rw [u5 rfl] at h2; exact (undef_ptr h2).elim
        | true =>
          obtain ⟨p', h3, _, h4⟩ := y5 rfl
          rw [h3] at h2
          injection h2 with h2
          injection h2 with h2
          injection h2 with h2
          have := lt_of_heap h4
          omega
    · subst h
      obtain rfl := u5 rfl
      refine s5 _ _ _ _ _ ⟨hS _ (calm.alloc _), b1, b3, b4, true, v1, v3, v4, _, ⟨ord, ?_, rfl, rfl, e1, e3, u4, ?_, fun h => (nomatch h), fun _ => ⟨_, rfl, calm.size, al_new W _⟩, ?_, calm.alloc _⟩⟩
      · simp at left ⊢; omega
      · exact fun h => by obtain ⟨p, h1, h2, h3⟩ := y4 h; exact ⟨p, h1, h2, al_old h3 _⟩
      · intro p q h1 h2
        injection h2 with h2
        injection h2 with h2
        injection h2 with h2
        cases b4 with
        | false => rw [u4 rfl] at h1; exact (undef_ptr h1).elim
        | true =>
          obtain ⟨p', h3, _, h4⟩ := y4 rfl
          rw [h3] at h1
          injection h1 with h1
          injection h1 with h1
          injection h1 with h1
          have := lt_of_heap h4
          omega
  case tail =>
    rintro L a W ⟨b1, b3, b4, b5, v1, v3, v4, v5, r⟩
    obtain ⟨ord, left, list, act, e1, e3, u4, y4, u5, y5, ne, calm⟩ := r
    have hb : b1 = true ∧ b3 = true ∧ b4 = true ∧ b5 = true := by cases b1 <;> cases b3 <;> cases b4 <;> cases b5 <;> simp at left ⊢
    obtain ⟨rfl, rfl, rfl, rfl⟩ := hb
    simp only [if_true] at e1 e3
    obtain ⟨p, rfl, hp, A4⟩ := y4 rfl
    obtain ⟨q, rfl, hq, A5⟩ := y5 rfl
    have hpq := ne p q rfl rfl
    subst list act e1 e3
    clear ord left u4 y4 u5 y5 ne s1 s3 s4 s5 rdy f1 f3 f4 f5 f0
    rw [hF, ha]
    subst hops hQ
    clear hF ha
    simp only [Act.put, List.setIfInBounds_toArray, List.set_cons_zero, List.set_cons_succ]
    obtain ⟨A6, T6⟩ := tl_set t A4
    have A7 := T6.heap A5 (by omega)
    obtain ⟨c0, c1, c2, c3⟩ := tl_cells A4
    obtain ⟨z0, z1, z2, z3⟩ := tl_frozen A4
    have S6 : Touch (fun k => w1.heap.size ≤ k) w1 _ := Touch.trans (calm.mono (S' := fun k => w1.heap.size ≤ k) (fun _ _ h => h.elim)) T6 (fun k _ e => by omega)
    refine wpAnyH_do 6 ((((W.setCell ⟨p, 0, none⟩ (.int .i64 t.c)).setCell ⟨p, 1, none⟩ (.int .i64 t.s)).setCell ⟨p, 2, none⟩ (.int .i64 t.m)).setCell ⟨p, 3, none⟩ (.int .i64 t.x)) rfl (by kernel_rfl) (by kernel_rfl) (fun K hK => by unfold Oper.wp; go_simp; exact hK) S6 ?_
    generalize ((((W.setCell ⟨p, 0, none⟩ (.int .i64 t.c)).setCell ⟨p, 1, none⟩ (.int .i64 t.s)).setCell ⟨p, 2, none⟩ (.int .i64 t.m)).setCell ⟨p, 3, none⟩ (.int .i64 t.x)) = W1 at *
    clear c0 c1 c2 c3 z0 z1 z2 z3 A4 A5 T6
    obtain ⟨A8, T8⟩ := tl_set u A7
    have A9 := T8.heap A6 (by omega)
    obtain ⟨c0, c1, c2, c3⟩ := tl_cells A7
    obtain ⟨z0, z1, z2, z3⟩ := tl_frozen A7
    have S8 : Touch (fun k => w1.heap.size ≤ k) w1 _ := Touch.trans S6 T8 (fun k _ e => by omega)
    refine wpAnyH_do 7 ((((W1.setCell ⟨q, 0, none⟩ (.int .i64 u.c)).setCell ⟨q, 1, none⟩ (.int .i64 u.s)).setCell ⟨q, 2, none⟩ (.int .i64 u.m)).setCell ⟨q, 3, none⟩ (.int .i64 u.x)) rfl (by kernel_rfl) (by kernel_rfl) (fun K hK => by unfold Oper.wp; go_simp; exact hK) S8 ?_
    generalize ((((W1.setCell ⟨q, 0, none⟩ (.int .i64 u.c)).setCell ⟨q, 1, none⟩ (.int .i64 u.s)).setCell ⟨q, 2, none⟩ (.int .i64 u.m)).setCell ⟨q, 3, none⟩ (.int .i64 u.x)) = W2 at *
    clear c0 c1 c2 c3 z0 z1 z2 z3 A7 T8
    refine wpAnyH_done (by kernel_rfl) ?_ _
    have TW := hide (T0.trans S8 (fun k hk h => absurd h (by have := T0.size; omega)))
    have HP := hide A9
    have HQ := hide A8
    obtain ⟨c0, c1, c2, c3⟩ := tl_cells A9
    obtain ⟨d0, d1, d2, d3⟩ := tl_cells A8
    clear A9 A8 S8 S6 A6 calm hT0 hC0 T0 A0 A1 hB0 hB1 CN T1 hp hq hpq F
    have hE : (Op.equalIn 10000 54 (.agg #[.int .i64 t.c, .int .i64 t.s, .int .i64 t.m, .int .i64 t.x]) (.agg #[.int .i64 u.c, .int .i64 u.s, .int .i64 u.m, .int .i64 u.x])).run Tryd.prog W2 = .ok (t.c == u.c && (t.s == u.s && (t.m == u.m && t.x == u.x))) W2 := arr_eq t u W2
    have H0 := hide (restC_same t 4 0)
    cases heq : (t.c == u.c && (t.s == u.s && (t.m == u.m && t.x == u.x))) with
    | true =>
      rw [heq] at hE
      have htu := hide (tl_ext heq)
      clear heq
      go_wp2_with fail
      go_ret
      refine ⟨?_, TW.out⟩
      have e := htu.out
      unfold cmpT
      rw [← e, H0.out]
      rfl
    | false =>
      rw [heq] at hE
      clear heq H0 c0 c1 c2 c3 d0 d1 d2 d3
      obtain ⟨c0, c1, c2, c3⟩ := tl_cells HP.out
      obtain ⟨d0, d1, d2, d3⟩ := tl_cells HQ.out
      go_wp2_with fail
      clear c0 c1 c2 c3 d0 d1 d2 d3 hE
      have RS := hide (restC_step t u)
      generalize hcm : cmpT t u = cm at *
      have HC := hide hcm
      clear hcm
      go_loopw [16] (fun i wr => ∃ k : Nat, i = .int .i64 k ∧ k ≤ 4 ∧ restC t u (4 - k) k = cm ∧ Calm W2 wr) (fun i _ => 4 - (intOf i).toNat)
      case atStart => exact ⟨0, rfl, Nat.zero_le _, HC.out, Touch.refl _ _⟩
      case round =>
        obtain ⟨k, rfl, hk, hr, T2⟩ := hrel
        by_cases hlt : k < 4
        · have R1 := RS.out k hlt
          rw [hr] at R1
          have K1 : Hid (∀ W', Calm W2 W' → W'.cell? ⟨p, k, none⟩ = some (.int .i64 (fld t k))) := hide fun W' h => fld_cell (h.at HP.out) k hlt
          have K2 : Hid (∀ W', Calm W2 W' → W'.cell? ⟨q, k, none⟩ = some (.int .i64 (fld u k))) := hide fun W' h => fld_cell (h.at HQ.out) k hlt
          generalize fld t k = x at *
          generalize fld u k = y at *
          have hki : (k : Int) < 4 := by omega
          have H2 := hide T2
          clear T2 hr
          have C1 := fun w => CC x y w
          generalize hc : cmpI x y = c at *
          clear hc CC
          have HR1 := hide R1
          clear R1
          go_wp2_with fail
          refine wp_region_held (S := Calm W2) (by kernel_rfl) ?_
          have hT0 : Calm W2 { wr with drawn := wr.drawn + 1 } := H2.out.drew
          refine wpAnyH_yield 0 19 (.int .i64 (k : Int)) rfl rfl (by kernel_rfl) (by kernel_rfl) (by kernel_rfl) (fun _ _ _ h => h) (by kernel_rfl) (fun W hW => by kernel_rfl) (by assumption) rfl rfl ?_
          simp only [Act.put, List.setIfInBounds_toArray, List.set_cons_zero, List.set_cons_succ]
          refine wpAnyH_yield 1 20 (.pointer (some ⟨p, k, none⟩)) rfl rfl (by kernel_rfl) (by kernel_rfl) (by kernel_rfl) (fun _ _ _ h => h) (by kernel_rfl) (fun W hW => by go_simp) (by assumption) rfl rfl ?_
          simp only [Act.put, List.setIfInBounds_toArray, List.set_cons_zero, List.set_cons_succ]
          refine wpAnyH_yield 2 21 (.int .i64 x) rfl rfl (by kernel_rfl) (by kernel_rfl) (by kernel_rfl) (fun _ _ _ h => h) (by kernel_rfl) (fun W hW => by have c0 := K1.out W hW; go_simp) (by assumption) rfl rfl ?_
          simp only [Act.put, List.setIfInBounds_toArray, List.set_cons_zero, List.set_cons_succ]
          refine wpAnyH_yield 3 22 (.int .i64 (k : Int)) rfl rfl (by kernel_rfl) (by kernel_rfl) (by kernel_rfl) (fun _ _ _ h => h) (by kernel_rfl) (fun W hW => by kernel_rfl) (by assumption) rfl rfl ?_
          simp only [Act.put, List.setIfInBounds_toArray, List.set_cons_zero, List.set_cons_succ]
          refine wpAnyH_yield 4 23 (.pointer (some ⟨q, k, none⟩)) rfl rfl (by kernel_rfl) (by kernel_rfl) (by kernel_rfl) (fun _ _ _ h => h) (by kernel_rfl) (fun W hW => by go_simp) (by assumption) rfl rfl ?_
          simp only [Act.put, List.setIfInBounds_toArray, List.set_cons_zero, List.set_cons_succ]
          refine wpAnyH_yield 5 24 (.int .i64 y) rfl rfl (by kernel_rfl) (by kernel_rfl) (by kernel_rfl) (fun _ _ _ h => h) (by kernel_rfl) (fun W hW => by have c0 := K2.out W hW; go_simp) (by assumption) rfl rfl ?_
          simp only [Act.put, List.setIfInBounds_toArray, List.set_cons_zero, List.set_cons_succ]
          refine wpAnyH_enter 6 25 34 #[.int .i64 x, .int .i64 y] rfl rfl (by kernel_rfl) (by kernel_rfl) (by kernel_rfl) ?_
          refine ((C1 _).out).mono ?_
          rintro r w5 ⟨rfl, hq5⟩
          subst hq5
          refine ⟨_, rfl, hT0, ?_⟩
          simp only [Act.put, List.setIfInBounds_toArray, List.set_cons_zero, List.set_cons_succ]
          refine wpAnyH_yield 7 8 (.int .i64 c) rfl rfl (by kernel_rfl) (by kernel_rfl) (by kernel_rfl) (fun _ _ _ h => h) (by kernel_rfl) (fun W hW => by kernel_rfl) (by assumption) rfl rfl ?_
          simp only [Act.put, List.setIfInBounds_toArray, List.set_cons_zero, List.set_cons_succ]
          refine wpAnyH_done (by kernel_rfl) ?_ _
          have H3 := hide hT0
          clear hT0 H2 K1 K2
          by_cases hc : c = 0
          · subst hc
            go_wp2_with fail
            go_roundw
            case rel => exact ⟨k + 1, by go_num, by omega, by have := HR1.out; unfold thn at this; rw [if_pos rfl] at this; exact this.symm, H3.out⟩
            case measure => simp [intOf]; omega
          · go_wp2_with fail
            go_ret
            refine ⟨?_, TW.out.tr H3.out⟩
            have := HR1.out
            unfold thn at this
            rw [if_neg hc] at this
            rw [HC.out, this]
            rfl
        · have e : k = 4 := by omega
          subst e
          have H2 := hide T2
          have HR1 := hide hr
          clear T2 hr
          go_wp2_with fail
          go_ret
          exact ⟨by have := HR1.out; rw [HC.out, ← this]; rfl, TW.out.tr H2.out⟩

end Go.Proofs.YtakpeopghhblmaaDoor
