/- A map from timers to places. -/
import Derived.Test.YtlnblhajcbmmkaaTCmp
import Derived.Test.YtlnblhajcbmmkaaTHeap
import Derived.Maps.Own
import Derived.Maps.OwnSet
import Derived.Maps.Views
import Derived.DeepKeys5
import Derived.ChangeMaps5
namespace Go.Proofs.Ytlnblhajcbmmkaa
open Go.RowKit Go.Maps

theorem keyed : Keyed Try.prog 35 := Keyed.of_law (deep_law_gate (by kernel_rfl) (of_decide_eq_true (by kernel_rfl)) (of_decide_eq_true (by kernel_rfl)) (by kernel_rfl) (by kernel_rfl))

/-- A timer that can be. -/
structure Good (t : Tm) : Prop where
  a : (Lit.int .i64 t.at_).wf = true
  k : t.key.size ≤ 281474976710656
  s : (Lit.int .i64 t.start).wf = true
  e : (Lit.int .i64 t.stop).wf = true

theorem key_some {t : Tm} (h : Good t) : ∃ l, keyOf Try.prog 35 (tv t) = some l := by
  have kt0 : Try.prog.keyType 35 = true := by kernel_rfl
  have c4 : Try.prog.cellsOf 35 = 4 := by kernel_rfl
  have c2 : Try.prog.cellsOf 33 = 2 := by kernel_rfl
  have c1 : Try.prog.cellsOf 2 = 1 := by kernel_rfl
  have cs : Try.prog.cellsOf 9 = 1 := by kernel_rfl
  have h2 : 2 ≤ Try.prog.types.size := of_decide_eq_true (by kernel_rfl)
  obtain ⟨d, hd⟩ : ∃ d, Try.prog.types.size = d + 2 := ⟨Try.prog.types.size - 2, by omega⟩
  have k1 : ∀ d x, (Lit.int .i64 x).wf = true → Try.prog.keyLits (d + 1) 2 [.int .i64 x] = some [.int .i64 x] := fun d x hx => by
    simp [Program.keyLits, Try.underlying2, hx]
  have k2 : ∀ d (s : ByteArray), s.size ≤ maxLen → Try.prog.keyLits (d + 1) 9 [.string s] = some [.string s.data.toList] := fun d s hs => by
    simp [Program.keyLits, Try.underlying9, hs]
  have k3 : ∀ d x y, (Lit.int .i64 x).wf = true → (Lit.int .i64 y).wf = true → Try.prog.keyLits (d + 2) 33 [.int .i64 x, .int .i64 y] = some [.int .i64 x, .int .i64 y] := fun d x y hx hy => by
    unfold Program.keyLits
    simp [Try.underlying33, c2, c1, k1 d x hx, k1 d y hy]
  have k4 : Try.prog.keyLits (Try.prog.types.size + 1) 35 (tc t).toList = some [.int .i64 t.at_, .string t.key.data.toList, .int .i64 t.start, .int .i64 t.stop] := by
    rw [hd]
    unfold Program.keyLits
    simp [Try.underlying35, c4, c2, c1, cs, k1 (d + 1) _ h.a, k2 (d + 1) _ (Nat.le_trans h.k (by unfold maxLen; omega)), k3 d _ _ h.s h.e]
  unfold keyOf
  rw [Try.underlying35]
  simp only [kt0, Bool.true_and]
  have hf : (tv t).formed Try.prog 35 = true := by simp [Value.formed, Try.underlying35, c4]
  rw [hf]
  simp only [if_true]
  have e : (tv t).cells = tc t := rfl
  rw [e, k4]
  exact ⟨_, rfl⟩

/-- What a timer reads as, as a key. -/
noncomputable def kt (t : Tm) : Lit := (keyOf Try.prog 35 (tv t)).getD (.bool false)

theorem key_kt {t : Tm} (h : Good t) : keyOf Try.prog 35 (tv t) = some (kt t) := by
  obtain ⟨l, hl⟩ := key_some h
  unfold kt
  rw [hl]; rfl

theorem tv_inj {a b : Tm} (h : tv a = tv b) : a = b := by
  obtain ⟨a1, a2, a3, a4⟩ := a
  obtain ⟨b1, b2, b3, b4⟩ := b
  simp [tv] at h
  obtain ⟨h1, h2, h3, h4⟩ := h
  subst h1 h2 h3 h4
  rfl

set_option maxRecDepth 100000 in
theorem kt_ne {a b : Tm} (ha : Good a) (hb : Good b) (h : a ≠ b) : kt a ≠ kt b := fun e => h (tv_inj (keyed.inj (key_kt ha) (e ▸ key_kt hb)))
set_option maxRecDepth 100000 in
theorem kt_key {a : Tm} (ha : Good a) : WideAt.IsKeyLit (kt a) := keyed.key (key_kt ha)

theorem zeroInt (w : World) : (zeroValue 3).run Try.prog w = .ok (.int .i64 0) w := by kernel_rfl

/-- A map in memory: f tells where a timer stands; n entries. -/
structure Mp (w : World) (b n : Nat) (f : Tm → Option Nat) : Prop where
  ex : ∃ D : DataW Unit, w.ownsMap Try.prog 35 (plainElem Try.prog 3) b n D ∧ Maps.size D = n ∧
    ∀ t, Good t → Maps.has D (kt t) = (f t).isSome ∧ D.atKey (kt t) (.lit (.int .i64 0)) = .lit (.int .i64 (((f t).getD 0 : Nat) : Int))

theorem Mp.lt {w : World} {b n : Nat} {f : Tm → Option Nat} (h : Mp w b n f) : b < w.heap.size := by
  obtain ⟨D, h1, _⟩ := h.ex
  exact h1.lt

theorem Mp.isMap {w : World} {b n : Nat} {f : Tm → Option Nat} (h : Mp w b n f) : ∃ es clock, w.heap[b]? = some (.map es clock) := by
  obtain ⟨D, ⟨es, clock, h1, _⟩, _⟩ := h.ex
  exact ⟨es, clock, h1⟩

theorem Mp.touch {S : Nat → Prop} {w w' : World} {b n : Nat} {f : Tm → Option Nat} (h : Mp w b n f) (ht : Touch S w w') (hb : ¬ S b) : Mp w' b n f := by
  obtain ⟨D, ⟨es, clock, h1, h2⟩, h3⟩ := h.ex
  exact ⟨D, ⟨es, clock, ht.heap h1 hb, h2⟩, h3⟩

theorem Mp.calm {w w' : World} {b n : Nat} {f : Tm → Option Nat} (h : Mp w b n f) (ht : Calm w w') : Mp w' b n f := h.touch ht fun h => h

theorem Mp.new (w : World) : Mp (w.alloc (.map #[] 0)) w.heap.size 0 (fun _ => none) :=
  ⟨.map [], World.ownsMap_made w _ _ _, rfl, fun _ _ => ⟨rfl, rfl⟩⟩

theorem own_sharp {w : World} {b n : Nat} {D : DataW Unit} (h : w.ownsMap Try.prog 35 (plainElem Try.prog 3) b n D) : w.ownsMap Try.prog 35 (plainElem Try.prog 3) b (Maps.size D) D := by
  obtain ⟨es, clock, h1, h2, h3, rfl⟩ := h
  refine ⟨es, clock, h1, h2, ?_, rfl⟩
  simp [Maps.size, length_sorted]

section
variable {w : World} {b n : Nat} {f : Tm → Option Nat} {t : Tm}

set_option maxRecDepth 100000 in
theorem Mp.look (h : Mp w b n f) (g : Good t) : (Instr.lookup 57 (.map (some b)) (tv t) true).run Try.prog w = .ok (.tuple #[.int .i64 (((f t).getD 0 : Nat) : Int), .bool (f t).isSome]) w := by
  obtain ⟨D, h1, _, h3⟩ := h.ex
  obtain ⟨e1, e2⟩ := h3 t g
  obtain ⟨v, ps, hr, hv⟩ := h1.look_ok keyed Try.underlying57 (zeroInt w) (plainElem_int Try.underlying3 (by decide)) (key_kt g)
  obtain ⟨c, rfl, hc, _⟩ := plainElem_int_inv Try.underlying3 hv
  rw [e2] at hc
  injection hc with hc
  injection hc with hc
  injection hc with _ hc
  rw [hr, e1, hc]

set_option maxRecDepth 100000 in
theorem Mp.get (h : Mp w b n f) (g : Good t) : (Instr.lookup 57 (.map (some b)) (tv t) false).run Try.prog w = .ok (.int .i64 (((f t).getD 0 : Nat) : Int)) w := by
  obtain ⟨D, h1, _, h3⟩ := h.ex
  obtain ⟨e1, e2⟩ := h3 t g
  obtain ⟨c, hr, hc, _⟩ := h1.lookup_int keyed Try.underlying57 Try.underlying3 (zeroInt w) (key_kt g)
  rw [e2] at hc
  injection hc with hc
  injection hc with _ hc
  rw [hr, hc]

/-- A place more. -/
def putf (f : Tm → Option Nat) (t : Tm) (p : Nat) : Tm → Option Nat := fun x => if x = t then some p else f x
/-- A place less. -/
def delf (f : Tm → Option Nat) (t : Tm) : Tm → Option Nat := fun x => if x = t then none else f x

set_option maxRecDepth 100000 in
theorem Mp.put (h : Mp w b n f) (g : Good t) {p : Nat} (hp : p < 9223372036854775808) (hn : n < maxLen) :
    ∃ w', (Instr.mapUpdate 57 (.map (some b)) (tv t) (.int .i64 (p : Int))).run Try.prog w = .ok () w' ∧ Mp w' b (if (f t).isSome then n else n + 1) (putf f t p) ∧ Touch (fun g => g = b) w w' := by
  obtain ⟨D, h1, h2, h3⟩ := h.ex
  have hwf : (Lit.int .i64 (p : Int)).wf = true := WalkArith.wf_i64 (by omega)
  obtain ⟨w', hr, h4, h5⟩ := h1.store keyed Try.underlying57 hn (key_kt g) (plainElem_int Try.underlying3 hwf)
  have hsz : Maps.size (D.put (kt t) (.lit (.int .i64 (p : Int)))) = if (f t).isSome then n else n + 1 := by
    rw [Maps.size_put (h1.tidy keyed), (h3 t g).1, h2]
  refine ⟨w', hr, ⟨_, hsz ▸ own_sharp h4, hsz, fun x gx => ?_⟩, (Touch.of_grownBy h5.grown).mono fun j _ hj => by injection hj with hj; exact hj.symm⟩
  by_cases e : x = t
  · subst e
    refine ⟨?_, ?_⟩
    · rw [Maps.has_put_same h1.isMap (kt_key g)]; simp [putf]
    · rw [Maps.atKey_put_same h1.isMap (kt_key g)]; simp [putf]
  · have hne := kt_ne gx g e
    refine ⟨?_, ?_⟩
    · rw [Maps.has_put_other hne, (h3 x gx).1]; simp [putf, e]
    · rw [Maps.atKey_put_other hne, (h3 x gx).2]; simp [putf, e]

set_option maxRecDepth 100000 in
theorem Mp.del (h : Mp w b n f) (g : Good t) (hs : (f t).isSome = true) (ty : TypeId) :
    ∃ w', (Builtin.delete_ #[57, 35] ty #[.map (some b), tv t]).run Try.prog w = .ok (.tuple #[]) w' ∧ Mp w' b (n - 1) (delf f t) ∧ Touch (fun g => g = b) w w' := by
  obtain ⟨D, h1, h2, h3⟩ := h.ex
  obtain ⟨w', hr, h4, h5⟩ := h1.drop keyed Try.underlying57 (key_kt g) ty
  have hsz : Maps.size (D.del (kt t)) = n - 1 := by
    have := Maps.size_del (k := kt t) (h1.tidy keyed)
    rw [(h3 t g).1, hs, h2] at this
    simp at this
    omega
  refine ⟨w', hr, ⟨_, hsz ▸ own_sharp h4, hsz, fun x gx => ?_⟩, (Touch.of_grownBy h5.grown).mono fun j _ hj => by injection hj with hj; exact hj.symm⟩
  by_cases e : x = t
  · subst e
    refine ⟨?_, ?_⟩
    · rw [Maps.has_del_same]; simp [delf]
    · rw [Maps.atKey_del_same]; simp [delf]
  · have hne := kt_ne gx g e
    refine ⟨?_, ?_⟩
    · rw [Maps.has_del_other hne, (h3 x gx).1]; simp [delf, e]
    · rw [Maps.atKey_del_other hne, (h3 x gx).2]; simp [delf, e]
end

end Go.Proofs.Ytlnblhajcbmmkaa
