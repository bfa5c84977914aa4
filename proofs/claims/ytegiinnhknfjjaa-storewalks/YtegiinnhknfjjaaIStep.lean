/- The verifier's step: Put, Take, Get, Place. -/
import Derived.Test.YtegiinnhknfjjaaILink
namespace Go.Proofs.Ytegiinnhknfjjaa.IM
open Go.RowKit

/-- Both maps, alike. -/
structure Bt (w : World) (m B r : Nat) (which : Int) (X : List (Int × Int)) : Prop where
  mt : Mt w m 31 #[.pointer (some ⟨B, 0, none⟩)] X
  ord : w.heap[B]? = some (.cells #[.int .i64 which] 3 (0, 0))
  rf : ∃ ao cap, Rf w r which X ao cap
  up : Up (ord3 which) X

theorem Bt.touch {S : Nat → Prop} {w w' : World} {m B r : Nat} {which : Int} {X : List (Int × Int)} (h : Bt w m B r which X) (ht : Touch S w w') (hm : ¬ S m) (hB : ¬ S B) (hr : ¬ S r)
    (hS : ∀ g cs t fr, S g → w.heap[g]? = some (.cells cs t fr) → t ≠ 105 ∧ t ≠ 57) : Bt w' m B r which X := by
  obtain ⟨ao, cap, hf⟩ := h.rf
  exact ⟨h.mt.touch ht hm (fun b cs fr hs hb => (hS b cs _ fr hs hb).1 rfl), ht.heap h.ord hB, ⟨ao, cap, hf.touch ht hr (fun g cs fr hs hg => (hS g cs _ fr hs hg).2 rfl)⟩, h.up⟩

theorem Bt.calm {w w' : World} {m B r : Nat} {which : Int} {X : List (Int × Int)} (h : Bt w m B r which X) (ht : Calm w w') : Bt w' m B r which X := h.touch ht (fun h => h) (fun h => h) (fun h => h) (fun _ _ _ _ h => h.elim)

theorem Bt.dec {w : World} {m B r : Nat} {which : Int} {X : List (Int × Int)} (h : Bt w m B r which X) (key : Int) : Dec (ord3 which key) X := h.up.dec (ord3_ord which) key

theorem Bt.lt {w : World} {m B r : Nat} {which : Int} {X : List (Int × Int)} (h : Bt w m B r which X) : m < w.heap.size ∧ r < w.heap.size ∧ B < w.heap.size ∧ m ≠ r ∧ m ≠ B ∧ r ≠ B := by
  obtain ⟨ro, hM, _⟩ := h.mt
  obtain ⟨ao, cap, hf⟩ := h.rf
  exact ⟨lt_of_heap hM, lt_of_heap hf.own, lt_of_heap h.ord, fun e => tags hM hf.own (by decide) e, fun e => tags hM h.ord (by decide) e, fun e => tags hf.own h.ord (by decide) e⟩

/-- What one call of both does. -/
def StepR (w : World) (m B r : Nat) (which : Int) (X : List (Int × Int)) (e : Ending) (w' : World) : Prop :=
  ∃ X', e = .returned (.bool true) ∧ Bt w' m B r which X' ∧ X'.length ≤ X.length + 1 ∧ Touch (fun g => g = m ∨ g = r) w w'

/-- A call. -/
abbrev opv (kind on to_ key value n : Int) : Value := .agg #[.int .i64 kind, .int .i64 on, .int .i64 to_, .int .i64 key, .int .i64 value, .int .i64 n]

theorem cells6 {w : World} {b : Nat} {u v x y z a : Value} {t : TypeId} (h : w.heap[b]? = some (.cells #[u, v, x, y, z, a] t (0, 0))) :
    w.cell? ⟨b, 0, none⟩ = some u ∧ w.cell? ⟨b, 3, none⟩ = some y ∧ w.cell? ⟨b, 4, none⟩ = some z ∧ w.cell? ⟨b, 5, none⟩ = some a := by simp [World.cell?, h]

/-- The document's Put, either way. -/
theorem rput_any (r : Nat) (which key value : Int) (L : List (Int × Int)) (ao : Option Addr) (cap : Nat) (w : World) (h : Rf w r which L ao cap) (hb : L.length + 1 ≤ 8796093022208) :
    Calls Try.prog 14 #[.pointer (some ⟨r, 0, none⟩), .int .i64 key, .int .i64 value] w fun e w' => e = .returned (.tuple #[.int .i64 (valAt which key L), .bool (thereB which key L)]) ∧ (∃ ao' cap', Rf w' r which (rput which key value L) ao' cap') ∧ Touch (fun g => g = r) w w' := by
  cases hth : thereB which key L with
  | true => exact rput_yes r which key value L ao cap w h hth hb
  | false =>
    have hv : valAt which key L = 0 := by unfold valAt; rw [hth]; rfl
    rw [hv]
    exact rput_no r which key value L ao cap w h hth hb

/-- The document's Take, either way. -/
theorem rtake_any (r : Nat) (which key : Int) (L : List (Int × Int)) (ao : Option Addr) (cap : Nat) (w : World) (h : Rf w r which L ao cap) (hb : L.length + 1 ≤ 8796093022208) :
    Calls Try.prog 36 #[.pointer (some ⟨r, 0, none⟩), .int .i64 key] w fun e w' => e = .returned (.tuple #[.int .i64 (valAt which key L), .bool (thereB which key L)]) ∧ (∃ ao' cap', Rf w' r which (rtake which key L) ao' cap') ∧ Touch (fun g => g = r) w w' := by
  cases hth : thereB which key L with
  | true => exact rtake_yes r which key L ao cap w h hth hb
  | false =>
    have hv : valAt which key L = 0 := by unfold valAt; rw [hth]; rfl
    rw [hv]
    refine (rtake_no r which key L ao cap w h hth).mono ?_
    rintro e w' ⟨rfl, t⟩
    refine ⟨rfl, ⟨ao, cap, ?_⟩, t.mono (fun _ _ h => h.elim)⟩
    have e : rtake which key L = L := by unfold rtake; rw [hth]; rfl
    rw [e]
    exact h.calm t

set_option maxRecDepth 100000 in
set_option maxHeartbeats 1000000 in
theorem step_put (m B r : Nat) (which kind on to_ key value n : Int) (X : List (Int × Int)) (w : World) (h : Bt w m B r which X) (h0 : 0 ≤ kind) (h2 : kind ≤ 2) (hb : X.length + 1 ≤ 8796093022208) :
    Calls Try.prog 9 #[.pointer (some ⟨m, 0, none⟩), .pointer (some ⟨r, 0, none⟩), opv kind on to_ key value n] w (StepR w m B r which X) := by
  have T1 := hide ((Touch.refl (fun _ => False) w).alloc (.cells #[.int .i64 kind, .int .i64 on, .int .i64 to_, .int .i64 key, .int .i64 value, .int .i64 n] 32))
  have H5 := hide (heap_alloc_last w (.cells #[.int .i64 kind, .int .i64 on, .int .i64 to_, .int .i64 key, .int .i64 value, .int .i64 n] 32))
  have BT := hide (h.calm T1.out)
  have LT := hide h.lt
  have DE := hide (h.dec key)
  have HB := hide hb
  have PU := hide (put_any (cmpMade B which) m key value _ X BT.out.mt BT.out.ord DE.out ⟨by have := HB.out; omega⟩)
  have HP := hide h
  clear h hb
  obtain ⟨c0, c3, c4, c5⟩ := cells6 H5.out
  have LV := hide (link_val DE.out)
  have LH := hide (link_there DE.out)
  have LP := hide (link_put DE.out value)
  go_enter Try.func9, Try.ntmps9
  go_wp2_with fail
  refine PU.out.mono ?_
  rintro e w2 ⟨rfl, mt2, t2⟩
  have h52 := t2.heap H5.out (fun e => by have := LT.out.1; omega)
  obtain ⟨ao, cap, rf1⟩ := BT.out.rf
  obtain ⟨ro, hM, _⟩ := BT.out.mt
  have rf2 := rf1.touch t2 (fun e => LT.out.2.2.2.1 e.symm) (fun g cs fr e hg => by subst e; exact tags hM hg (by decide) rfl)
  have RP := hide (rput_any r which key value X ao cap w2 rf2 (by have := HB.out; omega))
  rw [LV.out, LH.out, LP.out] at RP
  clear c0 c3 c4 c5
  obtain ⟨c0, c3, c4, c5⟩ := cells6 h52
  have MT2 := hide mt2
  have HT2 := hide t2
  have HO2 := hide (t2.heap BT.out.ord (fun e => LT.out.2.2.2.2.1 e.symm))
  clear mt2 t2 rf2 rf1 hM
  go_wp2_with fail
  refine RP.out.mono ?_
  rintro e w3 ⟨rfl, ⟨ao3, cap3, rf3⟩, t3⟩
  have BT3 : Hid (Bt w3 m B r which (lput (ord3 which key) key value X)) := hide (by
    obtain ⟨ro2, hM2, _⟩ := MT2.out
    exact ⟨MT2.out.touch t3 (fun e => LT.out.2.2.2.1 e) (fun b cs fr e hb => by
      subst e
      obtain ⟨ao4, cap4, rf4⟩ := BT.out.rf
      have := HT2.out.heap rf4.own (fun e => LT.out.2.2.2.1 e.symm)
      exact tags hb this (by decide) rfl), t3.heap HO2.out (fun e => LT.out.2.2.2.2.2 e.symm), ⟨ao3, cap3, rf3⟩, HP.out.up.put (ord3_ord which) key value⟩)
  have T3 : Hid (Touch (fun g => g = m ∨ g = r) w w3) := hide (((T1.out.mono (fun _ _ h => h.elim)).trans HT2.out (fun _ _ h => .inl h)).trans t3 (fun _ _ h => .inr h))
  have HLN := hide (lput_len (k := key) (v := value) DE.out).1
  clear rf3 t3 c0 c3 c4 c5
  generalize was (ord3 which key) X = vv at *
  generalize (it (ord3 which key) X).isSome = th at *
  go_wp2_with fail
  refine (num_any _ _).mono ?_
  rintro e w' ⟨rfl, hq⟩
  obtain rfl := hq.symm
  clear hq
  go_wp2_with fail
  go_ret
  exact ⟨_, rfl, BT3.out, HLN.out, T3.out⟩

end Go.Proofs.Ytegiinnhknfjjaa.IM
