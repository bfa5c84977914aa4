/- The program's maps: isThere, Len, Put, Take, Copy, New, Of. The program's Get, Place. A range over an iterator that keeps a row of its own between its rounds, and whose rounds may change memory: a law of one's own, over the library's steps. Rows that are owned: appends, cuts. -/
import Derived.Test.YtamfcmmhmfhhkaaGreatDoorG20
import Derived.RangeFuncNested
import Derived.RangeFuncBound
import Derived.RangeFuncCalls
import Derived.RangeFuncLeaves
import Derived.Shelf.Abstract
import Derived.Shelf.RegionOpen
import Derived.WalkKit
import Derived.OwnWalkIn
import Derived.TacticsInMore
import Derived.LoopNIn
import Derived.LoopIn
import Derived.Test.YtamfcmmhmfhhkaaGreatDoorG0
import Derived.ArgAppend
import Derived.OwnWalk
namespace Go.Proofs.YtamfcmmhmfhhkaaGreatDoor.LM
open Go.RowKit

/-- A map in memory, told by what it holds in order. -/
def Mt (w : World) (m f : Nat) (lb : Array Value) (X : List (ByteArray × (Option Addr × Nat × Nat))) : Prop := ∃ ro, Mp w m f lb ro ∧ TL w (.pointer ro) X

theorem Mt.touch {S : Nat → Prop} {w w' : World} {m f : Nat} {lb : Array Value} {X : List (ByteArray × (Option Addr × Nat × Nat))} (h : Mt w m f lb X) (ht : Touch S w w') (hm : ¬ S m) (hS : ∀ b cs fr, S b → w.heap[b]? ≠ some (.cells cs 85 fr)) : Mt w' m f lb X := by
  obtain ⟨ro, h1, h2⟩ := h
  refine ⟨ro, ht.heap h1 hm, ?_⟩
  clear h1
  generalize hp : Value.pointer ro = p at h2
  clear hp
  induction h2 with
  | nil => exact .nil
  | node hb _ _ il ir => exact .node (ht.heap hb fun hs => hS _ _ _ hs hb) il ir

theorem Mt.calm {w w' : World} {m f : Nat} {lb : Array Value} {X : List (ByteArray × (Option Addr × Nat × Nat))} (h : Mt w m f lb X) (ht : Calm w w') : Mt w' m f lb X := h.touch ht (fun h => h) (fun _ _ _ h => h.elim)

/-- How many keys a tree has, by its own count. -/
def cnt (w : World) : Value → Nat
  | .pointer (some a) => match w.heap[a.block]? with
    | some (.cells cs _ _) => (intOf (cs.getD 2 undef)).toNat
    | _ => 0
  | _ => 0

theorem TL.cnt {w : World} {p : Value} {X : List (ByteArray × (Option Addr × Nat × Nat))} (h : TL w p X) : cnt w p = X.length := by
  cases h with
  | nil => rfl
  | node hb _ _ => unfold LM.cnt; simp only [hb]; simp [intOf]; omega

theorem fn_neq (fn : Fn) (lb : Array Value) (W : World) : (binOp .neq 79 (.func fn #[] lb) .nilFunc).run Tryz.prog W = .ok (.bool true) W := by
  have e : binOp .neq 79 (.func fn #[] lb) .nilFunc = (do pure (.bool (!(← Op.equalIn (9999 + 1) 79 (.func fn #[] lb) .nilFunc)))) := rfl
  rw [e]
  unfold Op.equalIn
  simp only [Sem.run_bind, run_underlying Tryz.underlying79, Result.andThen_ok, Sem.run_pure, Bool.not_false]

theorem nil_neq (W : World) : (binOp .neq 79 .nilFunc .nilFunc).run Tryz.prog W = .ok (.bool false) W := by
  have e : binOp .neq 79 .nilFunc .nilFunc = (do pure (.bool (!(← Op.equalIn (9999 + 1) 79 .nilFunc .nilFunc)))) := rfl
  rw [e]
  unfold Op.equalIn
  simp only [Sem.run_bind, run_underlying Tryz.underlying79, Result.andThen_ok, Sem.run_pure, Bool.not_true]

theorem fn_eql (fn : Fn) (lb : Array Value) (W : World) : (binOp .eql 79 (.func fn #[] lb) .nilFunc).run Tryz.prog W = .ok (.bool false) W := by
  have e : binOp .eql 79 (.func fn #[] lb) .nilFunc = (do pure (.bool ((← Op.equalIn (9999 + 1) 79 (.func fn #[] lb) .nilFunc)))) := rfl
  rw [e]
  unfold Op.equalIn
  simp only [Sem.run_bind, run_underlying Tryz.underlying79, Result.andThen_ok, Sem.run_pure]

theorem nil_eql (W : World) : (binOp .eql 79 .nilFunc .nilFunc).run Tryz.prog W = .ok (.bool true) W := by
  have e : binOp .eql 79 .nilFunc .nilFunc = (do pure (.bool ((← Op.equalIn (9999 + 1) 79 .nilFunc .nilFunc)))) := rfl
  rw [e]
  unfold Op.equalIn
  simp only [Sem.run_bind, run_underlying Tryz.underlying79, Result.andThen_ok, Sem.run_pure]

set_option maxRecDepth 100000 in
theorem there_any (w : World) (m f : Nat) (lb : Array Value) (ro : Option Addr) (h : Mp w m f lb ro) : Calls Tryz.prog 45 #[.pointer (some ⟨m, 0, none⟩)] w fun e w' => e = .returned (.bool true) ∧ w' = w := by
  obtain ⟨c0, c1⟩ := cells2 h
  go_enter Tryz.func45, Tryz.ntmps45
  have hx := fn_neq (.func f) lb w
  go_wp2_with fail
  go_ret
  exact ⟨rfl, rfl⟩

set_option maxRecDepth 100000 in
theorem there_nil (w : World) : Calls Tryz.prog 45 #[.pointer none] w fun e w' => e = .returned (.bool false) ∧ w' = w := by
  go_enter Tryz.func45, Tryz.ntmps45
  go_wp2_with fail
  go_ret
  exact ⟨rfl, rfl⟩

set_option maxRecDepth 100000 in
theorem there_zero (w : World) (m : Nat) (h : w.heap[m]? = some (.cells #[.nilFunc, .pointer none] 82 (0, 0))) : Calls Tryz.prog 45 #[.pointer (some ⟨m, 0, none⟩)] w fun e w' => e = .returned (.bool false) ∧ w' = w := by
  obtain ⟨c0, c1⟩ := cells2 h
  go_enter Tryz.func45, Tryz.ntmps45
  have hx := nil_neq w
  go_wp2_with fail
  go_ret
  exact ⟨rfl, rfl⟩


/-- The root turned. -/
theorem Mt.root {w w' : World} {m f : Nat} {lb : Array Value} {ro r : Option Addr} {X : List (ByteArray × (Option Addr × Nat × Nat))} (h : Mp w m f lb ro) (ht : Calm w w') (hr : TL w' (.pointer r) X) :
    Mt (w'.setCell ⟨m, 1, none⟩ (.pointer r)) m f lb X ∧ Touch (fun g => g = m) w (w'.setCell ⟨m, 1, none⟩ (.pointer r)) := by
  have h' : Mp w' m f lb ro := ht.at h
  have t2 : Touch (fun g => g = m) w' (w'.setCell ⟨m, 1, none⟩ (.pointer r)) := (Touch.refl (fun g => g = m) w').setCell (p := ⟨m, 1, none⟩) (fun _ => rfl) _
  have m0 : Mt w' m f lb X → True := fun _ => trivial
  clear m0
  refine ⟨⟨r, ?_, ?_⟩, (ht.mono (fun _ _ h => h.elim)).trans t2 fun _ _ h => h⟩
  · have := heap_setCell_row (i := 1) h' (.pointer r)
    simpa [Mp] using this
  · generalize w'.setCell ⟨m, 1, none⟩ (.pointer r) = w'' at t2 ⊢
    generalize hp : Value.pointer r = p at hr ⊢
    clear hp
    induction hr with
    | nil => exact .nil
    | node hb _ _ il ir => exact .node (t2.heap hb fun hs => tags hb h' (by decide) hs) il ir

set_option maxRecDepth 100000 in
theorem put_any {f : Nat} {lb : Array Value} {c : ByteArray → ByteArray → Int} {Y : World → Prop} (hC : Cmp f lb c Y) (m : Nat) (key : ByteArray) (val : (Option Addr × Nat × Nat))
    (w : World) (X : List (ByteArray × (Option Addr × Nat × Nat))) (h : Mt w m f lb X) (hY : Y w) (hd : Dec (c key) X) (low : Low (X.length + 1)) :
    Calls Tryz.prog 36 #[.pointer (some ⟨m, 0, none⟩), .string key, .slice val.1 val.2.1 val.2.2] w fun e w' =>
      e = .returned (.tuple #[.slice (was (c key) X).1 (was (c key) X).2.1 (was (c key) X).2.2, .bool (it (c key) X).isSome, .int .i64 0]) ∧ Mt w' m f lb (lput (c key) key val X) ∧ Touch (fun g => g = m) w w' := by
  obtain ⟨ro, h1, h2⟩ := h
  have TH := hide (there_any w m f lb ro h1)
  have LA := hide (lay_any hC m ro key val h2 h1 hY hd low w (Touch.refl _ _))
  obtain ⟨c0, c1⟩ := cells2 h1
  have HM := hide h1
  clear h1 h2 hd hY low
  go_enter Tryz.func36, Tryz.ntmps36
  go_wp2_with fail
  refine TH.out.mono ?_
  rintro e w' ⟨rfl, hq⟩
  obtain rfl := hq.symm
  clear hq
  go_wp2_with fail
  refine LA.out.mono ?_
  rintro e w2 ⟨b2, rfl, tl2, t2⟩
  obtain ⟨f0, f1⟩ := Mt.root HM.out t2 tl2
  obtain ⟨d0, d1⟩ := cells2 (t2.at HM.out)
  have fz : w2.frozen? ⟨m, 1, none⟩ = false := by have := t2.at HM.out; simp [World.frozen?, this]
  have F0 := hide f0
  have F1 := hide f1
  clear f0 f1 c0 c1 tl2 t2
  go_wp2_with fail
  go_ret3
  exact ⟨rfl, F0.out, F1.out⟩


end Go.Proofs.YtamfcmmhmfhhkaaGreatDoor.LM

namespace Go.Proofs.YtamfcmmhmfhhkaaGreatDoor.LM
open Go.RowKit

theorem sign3 (z : Int) : (z < 0 ∧ sd z = 0 ∧ ¬ z = 0 ∧ ¬ 0 < z) ∨ z = 0 ∨ (0 < z ∧ sd z = 1 ∧ ¬ z = 0) := by
  unfold sd
  rcases Int.lt_trichotomy z 0 with h | h | h
  · exact .inl ⟨h, if_pos h, by omega, by omega⟩
  · exact .inr (.inl h)
  · exact .inr (.inr ⟨h, if_neg (by omega), by omega⟩)

set_option maxRecDepth 100000 in
set_option maxHeartbeats 1000000 in
theorem get_any {f : Nat} {lb : Array Value} {c : ByteArray → ByteArray → Int} {Y : World → Prop} (hC : Cmp f lb c Y) (m : Nat) (key : ByteArray)
    (w : World) (X : List (ByteArray × (Option Addr × Nat × Nat))) (h : Mt w m f lb X) (hY : Y w) (hd : Dec (c key) X) :
    Calls Tryz.prog 30 #[.pointer (some ⟨m, 0, none⟩), .string key] w fun e w' =>
      e = .returned (.tuple #[.slice (was (c key) X).1 (was (c key) X).2.1 (was (c key) X).2.2, .bool (it (c key) X).isSome]) ∧ Calm w w' := by
  obtain ⟨ro, h1, h2⟩ := h
  have TH := hide (there_any w m f lb ro h1)
  obtain ⟨c0, c1⟩ := cells2 h1
  have HM := hide h1
  have H2 := hide h2
  have HD := hide hd
  have HC := hide hC
  have HY := hide hY
  clear h1 h2 hd hY hC
  go_enter Tryz.func30, Tryz.ntmps30
  go_wp2_with fail
  refine TH.out.mono ?_
  rintro e w' ⟨rfl, hq⟩
  obtain rfl := hq.symm
  clear hq
  go_wp2_with fail
  clear c0 c1 TH
  go_loopw [6] (fun i wr => ∃ (o : Option Addr) (Z : List (ByteArray × (Option Addr × Nat × Nat))), i = .pointer o ∧ TL wr (.pointer o) Z ∧ Dec (c key) Z ∧ it (c key) X = it (c key) Z ∧ Calm w wr) (fun i wr => cnt wr i)
  case atStart => exact ⟨ro, X, rfl, H2.out, HD.out, rfl, Touch.refl _ _⟩
  case round =>
    obtain ⟨o, Z, rfl, htl, hdz, hit, tr⟩ := hrel
    have HIT := hide hit
    have TR := hide tr
    clear hit tr
    cases htl with
    | nil =>
      clear hdz
      go_wp2_with fail
      go_ret2
      refine ⟨?_, TR.out⟩
      unfold was
      rw [HIT.out]
      rfl
    | @node b k v p q L R hb g1 g2 =>
      have CA := hide (fun W (h : Calm w W) => HC.out.calls key k W (HC.out.calm _ _ HY.out h))
      have HB := hide hb
      have HZ := hide hdz
      have G1 := hide g1
      have G2 := hide g2
      have CN := hide (TL.node hb g1 g2).cnt
      have hsign := sign3 (c key k)
      clear hb hdz g1 g2
      generalize hcz : c key k = cz at *
      have HCZ := hide hcz
      clear hcz
      go_wp2_with fail
      refine wp_region_held (S := Calm wr) (by kernel_rfl) ?_
      have hT0 : Calm wr { wr with drawn := wr.drawn + 1 } := (Touch.refl (fun _ => False) wr).drew
      refine wpAnyH_yield 0 17 (.pointer (some ⟨m, 0, none⟩)) rfl rfl (by kernel_rfl) (by kernel_rfl) (by kernel_rfl) (fun _ _ _ h => h) (by kernel_rfl) (fun W hW => by kernel_rfl) (by assumption) rfl rfl ?_
      simp only [Act.put, List.setIfInBounds_toArray, List.set_cons_zero, List.set_cons_succ]
      refine wpAnyH_yield 1 18 (.pointer (some ⟨m, 0, none⟩)) rfl rfl (by kernel_rfl) (by kernel_rfl) (by kernel_rfl) (fun _ _ _ h => h) (by kernel_rfl) (fun W hW => by kernel_rfl) (by assumption) rfl rfl ?_
      simp only [Act.put, List.setIfInBounds_toArray, List.set_cons_zero, List.set_cons_succ]
      refine wpAnyH_yield 2 19 (.pointer (some ⟨m, 0, none⟩)) rfl rfl (by kernel_rfl) (by kernel_rfl) (by kernel_rfl) (fun _ _ _ h => h) (by kernel_rfl) (fun W hW => by go_simp) (by assumption) rfl rfl ?_
      simp only [Act.put, List.setIfInBounds_toArray, List.set_cons_zero, List.set_cons_succ]
      refine wpAnyH_yield 3 20 (.func (.func f) #[] lb) rfl rfl (by kernel_rfl) (by kernel_rfl) (by kernel_rfl) (fun _ _ _ h => h) (by kernel_rfl) (fun W hW => by obtain ⟨c0, c1⟩ := cells2 (hW.at (TR.out.at HM.out)); go_simp) (by assumption) rfl rfl ?_
      simp only [Act.put, List.setIfInBounds_toArray, List.set_cons_zero, List.set_cons_succ]
      refine wpAnyH_yield 4 21 (.string key) rfl rfl (by kernel_rfl) (by kernel_rfl) (by kernel_rfl) (fun _ _ _ h => h) (by kernel_rfl) (fun W hW => by kernel_rfl) (by assumption) rfl rfl ?_
      simp only [Act.put, List.setIfInBounds_toArray, List.set_cons_zero, List.set_cons_succ]
      refine wpAnyH_yield 5 22 (.pointer (some ⟨b, 0, none⟩)) rfl rfl (by kernel_rfl) (by kernel_rfl) (by kernel_rfl) (fun _ _ _ h => h) (by kernel_rfl) (fun W hW => by kernel_rfl) (by assumption) rfl rfl ?_
      simp only [Act.put, List.setIfInBounds_toArray, List.set_cons_zero, List.set_cons_succ]
      refine wpAnyH_yield 6 23 (.pointer (some ⟨b, 0, none⟩)) rfl rfl (by kernel_rfl) (by kernel_rfl) (by kernel_rfl) (fun _ _ _ h => h) (by kernel_rfl) (fun W hW => by kernel_rfl) (by assumption) rfl rfl ?_
      simp only [Act.put, List.setIfInBounds_toArray, List.set_cons_zero, List.set_cons_succ]
      refine wpAnyH_yield 7 24 (.pointer (some ⟨b, 0, none⟩)) rfl rfl (by kernel_rfl) (by kernel_rfl) (by kernel_rfl) (fun _ _ _ h => h) (by kernel_rfl) (fun W hW => by go_simp) (by assumption) rfl rfl ?_
      simp only [Act.put, List.setIfInBounds_toArray, List.set_cons_zero, List.set_cons_succ]
      refine wpAnyH_yield 8 25 (.string k) rfl rfl (by kernel_rfl) (by kernel_rfl) (by kernel_rfl) (fun _ _ _ h => h) (by kernel_rfl) (fun W hW => by obtain ⟨c0, c1, c2, c3, c4⟩ := cells5 (hW.at HB.out); go_simp) (by assumption) rfl rfl ?_
      simp only [Act.put, List.setIfInBounds_toArray, List.set_cons_zero, List.set_cons_succ]
      refine wpAnyH_enter 9 26 f (#[.string key, .string k] ++ lb) rfl rfl (by kernel_rfl) (by kernel_rfl) (by have e := HC.out.enter; go_simp) ?_
      refine (CA.out _ (TR.out.tr hT0)).mono ?_
      rintro r _ ⟨rfl, rfl⟩
      refine ⟨_, rfl, hT0, ?_⟩
      simp only [Act.put, List.setIfInBounds_toArray, List.set_cons_zero, List.set_cons_succ]
      refine wpAnyH_yield 10 7 (.int .i64 cz) rfl rfl (by kernel_rfl) (by kernel_rfl) (by kernel_rfl) (fun _ _ _ h => h) (by kernel_rfl) (fun W hW => by kernel_rfl) (by assumption) rfl rfl ?_
      simp only [Act.put, List.setIfInBounds_toArray, List.set_cons_zero, List.set_cons_succ]
      refine wpAnyH_done (by kernel_rfl) ?_ _
      have HB1 := hide (hT0.at HB.out)
      have T1 := hide hT0
      generalize ({ wr with drawn := wr.drawn + 1 } : World) = w2 at *
      clear hT0 CA
      obtain ⟨-, c1, -, c3, c4⟩ := cells5 HB1.out
      rcases (show (cz < 0 ∧ sd cz = 0 ∧ ¬ cz = 0) ∨ (0 < cz ∧ sd cz = 1 ∧ ¬ cz = 0) ∨ cz = 0 from by rcases hsign with h | h | h <;> simp [h]) with ⟨hz, hs, hz'⟩ | ⟨hz, hs, hz'⟩ | hz
      · have SO := hide (sideOf_any cz)
        rw [hs] at SO
        have hw := hide (neg_way HZ.out (x := (k, v)) (by show c key k < 0; rw [HCZ.out]; exact hz))
        clear hsign hz hs c1 c3 c4
        go_wp2_with fail
        refine wp_region_held (S := Calm w2) (by kernel_rfl) ?_
        have hT0 : Calm w2 { w2 with drawn := w2.drawn + 1 } := (Touch.refl (fun _ => False) w2).drew
        refine wpAnyH_yield 0 33 (.pointer (some ⟨b, 0, none⟩)) rfl rfl (by kernel_rfl) (by kernel_rfl) (by kernel_rfl) (fun _ _ _ h => h) (by kernel_rfl) (fun W hW => by kernel_rfl) (by assumption) rfl rfl ?_
        simp only [Act.put, List.setIfInBounds_toArray, List.set_cons_zero, List.set_cons_succ]
        refine wpAnyH_yield 1 34 (.int .i64 cz) rfl rfl (by kernel_rfl) (by kernel_rfl) (by kernel_rfl) (fun _ _ _ h => h) (by kernel_rfl) (fun W hW => by kernel_rfl) (by assumption) rfl rfl ?_
        simp only [Act.put, List.setIfInBounds_toArray, List.set_cons_zero, List.set_cons_succ]
        refine wpAnyH_yield 3 36 (.pointer (some ⟨b, 0, none⟩)) rfl rfl (by kernel_rfl) (by kernel_rfl) (by kernel_rfl) (fun _ _ _ h => h) (by kernel_rfl) (fun W hW => by kernel_rfl) (by assumption) rfl rfl ?_
        simp only [Act.put, List.setIfInBounds_toArray, List.set_cons_zero, List.set_cons_succ]
        refine wpAnyH_yield 4 37 (.pointer (some ⟨b, 3, none⟩)) rfl rfl (by kernel_rfl) (by kernel_rfl) (by kernel_rfl) (fun _ _ _ h => h) (by kernel_rfl) (fun W hW => by go_simp) (by assumption) rfl rfl ?_
        simp only [Act.put, List.setIfInBounds_toArray, List.set_cons_zero, List.set_cons_succ]
        refine wpAnyH_enter 2 35 46 #[.int .i64 cz] rfl rfl (by kernel_rfl) (by kernel_rfl) (by kernel_rfl) ?_
        refine (SO.out _).mono ?_
        rintro r _ ⟨rfl, rfl⟩
        refine ⟨_, rfl, hT0, ?_⟩
        simp only [Act.put, List.setIfInBounds_toArray, List.set_cons_zero, List.set_cons_succ]
        refine wpAnyH_yield 5 38 (.pointer (some ⟨b, 3, none⟩)) rfl rfl (by kernel_rfl) (by kernel_rfl) (by kernel_rfl) (fun _ _ _ h => h) (by kernel_rfl) (fun W hW => by go_simp) (by assumption) rfl rfl ?_
        simp only [Act.put, List.setIfInBounds_toArray, List.set_cons_zero, List.set_cons_succ]
        refine wpAnyH_yield 6 39 (.pointer p) rfl rfl (by kernel_rfl) (by kernel_rfl) (by kernel_rfl) (fun _ _ _ h => h) (by kernel_rfl) (fun W hW => by obtain ⟨c0, c1, c2, c3, c4⟩ := cells5 (hW.at HB1.out); go_simp) (by assumption) rfl rfl ?_
        simp only [Act.put, List.setIfInBounds_toArray, List.set_cons_zero, List.set_cons_succ]
        refine wpAnyH_yield 7 6 (.pointer p) rfl rfl (by kernel_rfl) (by kernel_rfl) (by kernel_rfl) (fun _ _ _ h => h) (by kernel_rfl) (fun W hW => by kernel_rfl) (by assumption) rfl rfl ?_
        simp only [Act.put, List.setIfInBounds_toArray, List.set_cons_zero, List.set_cons_succ]
        refine wpAnyH_done (by kernel_rfl) ?_ _
        have T2 := hide (T1.out.tr hT0)
        generalize ({ w2 with drawn := w2.drawn + 1 } : World) = w3 at *
        clear hT0
        go_wp2_with fail
        go_roundw
        case rel => exact ⟨p, L, rfl, G1.out.calm T2.out, HZ.out.parts.1, by rw [HIT.out]; exact hw.out.2.2, TR.out.tr T2.out⟩
        case measure =>
          rw [CN.out, (G1.out.calm T2.out).cnt]
          simp only [List.length_append, List.length_cons]
          omega
      · have SO := hide (sideOf_any cz)
        rw [hs] at SO
        have hw := hide (pos_way HZ.out (x := (k, v)) (by show 0 < c key k; rw [HCZ.out]; exact hz))
        clear hsign hz hs c1 c3 c4
        go_wp2_with fail
        refine wp_region_held (S := Calm w2) (by kernel_rfl) ?_
        have hT0 : Calm w2 { w2 with drawn := w2.drawn + 1 } := (Touch.refl (fun _ => False) w2).drew
        refine wpAnyH_yield 0 33 (.pointer (some ⟨b, 0, none⟩)) rfl rfl (by kernel_rfl) (by kernel_rfl) (by kernel_rfl) (fun _ _ _ h => h) (by kernel_rfl) (fun W hW => by kernel_rfl) (by assumption) rfl rfl ?_
        simp only [Act.put, List.setIfInBounds_toArray, List.set_cons_zero, List.set_cons_succ]
        refine wpAnyH_yield 1 34 (.int .i64 cz) rfl rfl (by kernel_rfl) (by kernel_rfl) (by kernel_rfl) (fun _ _ _ h => h) (by kernel_rfl) (fun W hW => by kernel_rfl) (by assumption) rfl rfl ?_
        simp only [Act.put, List.setIfInBounds_toArray, List.set_cons_zero, List.set_cons_succ]
        refine wpAnyH_yield 3 36 (.pointer (some ⟨b, 0, none⟩)) rfl rfl (by kernel_rfl) (by kernel_rfl) (by kernel_rfl) (fun _ _ _ h => h) (by kernel_rfl) (fun W hW => by kernel_rfl) (by assumption) rfl rfl ?_
        simp only [Act.put, List.setIfInBounds_toArray, List.set_cons_zero, List.set_cons_succ]
        refine wpAnyH_yield 4 37 (.pointer (some ⟨b, 3, none⟩)) rfl rfl (by kernel_rfl) (by kernel_rfl) (by kernel_rfl) (fun _ _ _ h => h) (by kernel_rfl) (fun W hW => by go_simp) (by assumption) rfl rfl ?_
        simp only [Act.put, List.setIfInBounds_toArray, List.set_cons_zero, List.set_cons_succ]
        refine wpAnyH_enter 2 35 46 #[.int .i64 cz] rfl rfl (by kernel_rfl) (by kernel_rfl) (by kernel_rfl) ?_
        refine (SO.out _).mono ?_
        rintro r _ ⟨rfl, rfl⟩
        refine ⟨_, rfl, hT0, ?_⟩
        simp only [Act.put, List.setIfInBounds_toArray, List.set_cons_zero, List.set_cons_succ]
        refine wpAnyH_yield 5 38 (.pointer (some ⟨b, 4, none⟩)) rfl rfl (by kernel_rfl) (by kernel_rfl) (by kernel_rfl) (fun _ _ _ h => h) (by kernel_rfl) (fun W hW => by go_simp) (by assumption) rfl rfl ?_
        simp only [Act.put, List.setIfInBounds_toArray, List.set_cons_zero, List.set_cons_succ]
        refine wpAnyH_yield 6 39 (.pointer q) rfl rfl (by kernel_rfl) (by kernel_rfl) (by kernel_rfl) (fun _ _ _ h => h) (by kernel_rfl) (fun W hW => by obtain ⟨c0, c1, c2, c3, c4⟩ := cells5 (hW.at HB1.out); go_simp) (by assumption) rfl rfl ?_
        simp only [Act.put, List.setIfInBounds_toArray, List.set_cons_zero, List.set_cons_succ]
        refine wpAnyH_yield 7 6 (.pointer q) rfl rfl (by kernel_rfl) (by kernel_rfl) (by kernel_rfl) (fun _ _ _ h => h) (by kernel_rfl) (fun W hW => by kernel_rfl) (by assumption) rfl rfl ?_
        simp only [Act.put, List.setIfInBounds_toArray, List.set_cons_zero, List.set_cons_succ]
        refine wpAnyH_done (by kernel_rfl) ?_ _
        have T2 := hide (T1.out.tr hT0)
        generalize ({ w2 with drawn := w2.drawn + 1 } : World) = w3 at *
        clear hT0
        go_wp2_with fail
        go_roundw
        case rel => exact ⟨q, R, rfl, G2.out.calm T2.out, HZ.out.parts.2.1, by rw [HIT.out]; exact hw.out.2.2, TR.out.tr T2.out⟩
        case measure =>
          rw [CN.out, (G2.out.calm T2.out).cnt]
          simp only [List.length_append, List.length_cons]
          omega
      · subst hz
        have hw := hide (at_way HZ.out (x := (k, v)) HCZ.out)
        clear hsign c3 c4
        go_wp2_with fail
        go_ret2
        refine ⟨?_, TR.out.tr T1.out⟩
        unfold was
        rw [HIT.out, hw.out.2.2]
        rfl


end Go.Proofs.YtamfcmmhmfhhkaaGreatDoor.LM

namespace Go.Proofs.YtamfcmmhmfhhkaaGreatDoor
open Go.RowKit

theorem touch_put (W : World) (l : Nat) (o : Obj) : Touch (fun k => k = l) W (W.putObj l o) :=
  ⟨rfl, rfl, rfl, by simp, fun _ _ hn => World.putObj_heap_other hn⟩

theorem Row.put {W : World} {e : TypeId} {k : IntKind} {v : Value} {xs : List Int} (h : Row W e k v xs) {l : Nat} {o : Obj} (o' : Obj) (hl : W.heap[l]? = some o) (ho : o.isCells = false) : Row (W.putObj l o') e k v xs :=
  h.touch (touch_put W l o') (fun g hg e => by
    subst e
    obtain ⟨cur, hc⟩ := h.block hg
    rw [hl] at hc
    injection hc with hc
    rw [hc] at ho
    cases ho)

/-- Nothing has turned but rows of E beyond B. -/
def Sly (E : TypeId) (B : Nat) (W W' : World) : Prop := Touch (fun g => B ≤ g ∧ ∃ cs fr, W.heap[g]? = some (.cells cs E fr)) W W'

theorem Sly.at {E t : TypeId} {B g : Nat} {W W' : World} {cs : Array Value} {fr : Nat × Nat} (h : Sly E B W W') (hg : W.heap[g]? = some (.cells cs t fr)) (ht : t ≠ E) : W'.heap[g]? = some (.cells cs t fr) :=
  Touch.heap h hg fun ⟨_, cs', fr', h'⟩ => by rw [hg] at h'; injection h' with h'; injection h' with _ h2 _; exact ht h2

theorem Sly.other {E : TypeId} {B g : Nat} {W W' : World} {o : Obj} (h : Sly E B W W') (hg : W.heap[g]? = some o) (ho : o.isCells = false) : W'.heap[g]? = some o :=
  Touch.heap h hg fun ⟨_, cs', fr', h'⟩ => by rw [hg] at h'; injection h' with h'; subst h'; cases ho

theorem Sly.low {E : TypeId} {B g : Nat} {W W' : World} {o : Obj} (h : Sly E B W W') (hg : W.heap[g]? = some o) (hb : g < B) : W'.heap[g]? = some o :=
  Touch.heap h hg fun ⟨h1, _⟩ => by omega

theorem Sly.weak {E : TypeId} {B B' : Nat} {W W' : World} (h : Sly E B' W W') (hb : B ≤ B') : Sly E B W W' := Touch.mono h fun _ _ ⟨h1, h2⟩ => ⟨Nat.le_trans hb h1, h2⟩

theorem Sly.of_calm {E : TypeId} {B : Nat} {W W' : World} (h : Calm W W') : Sly E B W W' := Touch.mono h fun _ _ h => h.elim

theorem Touch.sly {S : Nat → Prop} {E : TypeId} {w W W' : World} (h : Touch S w W) (g : Sly E w.heap.size W W') : Touch S w W' := h.trans g fun k hk ⟨h1, _⟩ => by omega

/-- What an iterator is to do: rounds 0, 1 .. up to m, each with what H says of it; J between two rounds, Jx behind a round that said no. Rounds touch S alone, which holds no block of kind ND. -/
def Seq {α : Type} (P : Program) (E ND : TypeId) (g : Nat) (lb : Array Value) (encs : α → Array Value) (m : Nat) (H : Nat → α → Prop) (A : World → Prop) : Prop :=
  ∀ (n l : Nat) (S : Nat → Prop) (J Jx : Nat → World → Prop) (W : World), A W → (∀ k, S k → k < W.heap.size ∧ ∀ cs fr, W.heap[k]? ≠ some (.cells cs ND fr)) → (∀ k W1 W2, J k W1 → Sly E W.heap.size W1 W2 → J k W2) →
    (∀ k x W1, J k W1 → k < m → H k x → YieldAt Fence.wide (n - 1) P l (encs x) W1 fun e W' => Touch S W1 W' ∧ ((e = .returned (.bool true) ∧ J (k + 1) W') ∨ (e = .returned (.bool false) ∧ Jx (k + 1) W'))) →
    J 0 W → CallsIn Fence.wide n P g (#[.func (.yield l) #[] #[]] ++ lb) W fun e W' => (∃ v, e = .returned v) ∧ (J m W' ∨ ∃ k, k ≤ m ∧ Jx k W')

/-- How a round's body may be left. -/
def leftBy (S : Nat → Prop) (I : Nat → World → Prop) (Ix : Code → Nat → World → Prop) (k : Nat) (W : World) : Exit → Act → World → Prop
  | .normal, _, W' => KeepsOthers W W' ∧ Touch S W W' ∧ I k W'
  | .ret, _, W' => KeepsOthers W W' ∧ Touch S W W' ∧ Ix .ret k W'
  | .exit id, _, W' => KeepsOthers W W' ∧ Touch S W W' ∧ Ix (.exit id) k W'
  | .goto t, _, W' => KeepsOthers W W' ∧ Touch S W W' ∧ Ix (.goto t) k W'
  | .panic _, _, _ => False
  | .outgrown, _, _ => False

/-- What abides the turn of a block beyond B that holds no cells. -/
def Bides (B : Nat) (X : World → Prop) : Prop := ∀ W l (o o' : Obj), X W → B ≤ l → W.heap[l]? = some o → o.isCells = false → X (W.putObj l o')

theorem wpIn_range {α : Type} {P : Program} {n : Nat} {g : Operand} {ps : Array Tmp} {assign body : Code} {Q : Exit → Act → World → Prop} {a : Act} {w : World}
    {gf : Nat} {lb : Array Value} (hg : a.eval g = .func (.func gf) #[] lb) (eg : ∀ args w, (callFunc gf args).run P w = .ok (.enter gf args) w)
    {encs : α → Array Value} {m : Nat} {H : Nat → α → Prop} {A : World → Prop} {E ND : TypeId} (hseq : Seq P E ND gf lb encs m H A) (hps : ∀ x, (encs x).size = ps.size)
    (S : Nat → Prop) (hS : ∀ k, S k → k < w.heap.size ∧ ∀ cs fr, w.heap[k]? ≠ some (.cells cs ND fr)) (hA : ∀ W, Calm w W → A W)
    (I : Nat → World → Prop) (Ix : Code → Nat → World → Prop) (Ax : Nat → α → Act → World → Prop)
    (hIt : ∀ k W W', I k W → Sly E w.heap.size W W' → I k W') (hIp : ∀ k, Bides w.heap.size (I k)) (hXp : ∀ c k, Bides w.heap.size (Ix c k)) (hAp : ∀ k x a', Bides w.heap.size (Ax k x a')) (h0 : I 0 w)
    (hassign : ∀ (l k : Nat) (x : α) (W : World) (K : Act → World → Prop), I k W → k < m → H k x → (∀ a' W', KeepsOthers W W' → Touch S W W' → I k W' → Ax k x a' W' → K a' W') →
      assign.wpIn (Fence.wide.inRound l) (n - 1 - 1) P (Exit.then K (fun _ _ _ => False)) { tmps := (ps.zip (encs x)).foldl (fun t (p, v) => t.setIfInBounds p v) a.tmps, defers := [] } W)
    (hbody : ∀ (l k : Nat) (x : α) (a' : Act) (W : World), I k W → k < m → H k x → Ax k x a' W → body.wpIn (Fence.wide.inRound l) (n - 1 - 1) P (leftBy S I Ix (k + 1) W) a' W)
    (hdone : ∀ (D : Nat) (W : World), w.heap.size ≤ D → I m W → W.heap[D]? = some (.deferred (some [])) → Q .normal { a with defers := { target := .collected D, args := #[] } :: a.defers } W)
    (hstop : ∀ (D : Nat) (c : Code) (k : Nat) (W : World), w.heap.size ≤ D → k ≤ m → Ix c k W → W.heap[D]? = some (.deferred (some [])) → c.wpIn Fence.wide n P Q { a with defers := { target := .collected D, args := #[] } :: a.defers } W) :
    (Code.rangeFunc g ps assign body).wpIn Fence.wide n P Q a w := by
  refine wpIn_rangeFunc fun fn _ => ?_
  have hro : Fence.wide.round = none := rfl
  rw [hro]
  obtain ⟨rec, hrec⟩ : ∃ rec : LoopState → Option Code → Loop, rec = fun st pe => { state := st, pending := pe, fn, tmps := a.tmps, params := ps, assign, body, defers := w.heap.size } := ⟨_, rfl⟩
  obtain ⟨W1, hW1⟩ : ∃ W1, W1 = (w.alloc (.deferred (some []))).alloc (.loop (rec .ready none)) := ⟨_, rfl⟩
  have t1 : Touch (fun _ => False) w W1 := by rw [hW1]; exact ((Touch.refl _ _).alloc _).alloc _
  have hL1 : W1.heap[w.heap.size + 1]? = some (.loop (rec .ready none)) := by
    rw [hW1]; have := World.alloc_heap_new (w.alloc (.deferred (some []))) (.loop (rec .ready none)); rwa [World.size_alloc] at this
  have hD1 : W1.heap[w.heap.size]? = some (.deferred (some [])) := by
    rw [hW1]; exact (Below.heap_alloc _ _ _ (by simp)).trans (World.alloc_heap_new w _)
  have keepD : ∀ (st : LoopState) (pe : Option Code) (W : World), W.heap[w.heap.size]? = some (.deferred (some [])) → (W.putObj (w.heap.size + 1) (.loop (rec st pe))).heap[w.heap.size]? = some (.deferred (some [])) := fun _ _ W h => (World.putObj_heap_other (by omega)).trans h
  refine ⟨w.heap.size + 1, [{ target := .collected w.heap.size, args := #[] }], W1, { target := .fn (.func gf) lb, args := #[.func (.yield (w.heap.size + 1)) #[] #[]] }, W1, gf,
    #[.func (.yield (w.heap.size + 1)) #[] #[]] ++ lb, W1, ?_, ?_, fun _ _ => trivial, ?_, fun h => (nomatch h), ?_⟩
  · rw [hW1, hrec]; exact run_enterLoop_outer _ _ _ _ _
  · simp only [resolve, hg]
    simp [go_sem]
  · simp [invoke, go_sem, eg]
  · refine (hseq (n - 1) (w.heap.size + 1) (fun g => S g ∨ g = w.heap.size + 1)
      (fun k W => I k W ∧ W.heap[w.heap.size + 1]? = some (.loop (rec .ready none)) ∧ W.heap[w.heap.size]? = some (.deferred (some [])))
      (fun k W => ∃ c, Ix c k W ∧ W.heap[w.heap.size + 1]? = some (.loop (rec .done (some c))) ∧ W.heap[w.heap.size]? = some (.deferred (some [])))
      W1 (hA W1 t1) ?_ (fun k W W' h ht => ⟨hIt k W W' h.1 (ht.weak t1.size), ht.other h.2.1 rfl, ht.other h.2.2 rfl⟩) ?_ ⟨hIt 0 w W1 h0 (.of_calm t1), hL1, hD1⟩).mono ?_
    · rintro g (hg | rfl)
      · obtain ⟨h1, h2⟩ := hS g hg
        refine ⟨Nat.lt_of_lt_of_le h1 t1.size, fun cs fr he => h2 cs fr ?_⟩
        rw [← t1.block g h1 (fun h => h)]; exact he
      · exact ⟨lt_of_heap hL1, fun cs fr he => by rw [hL1] at he; cases he⟩
    · rintro k x W ⟨hi, hl, hd⟩ hk hx
      have hy := run_yield (P := P) (args := encs x) hl (by rw [hrec]; exact hps x)
      rw [hrec] at hy
      refine ⟨fn, _, assign, body, hy, roundIn_of_wpIn trivial (hassign _ k x W _ hi hk hx fun a' W2 hk2 tk2 hi2 hax => ?_)⟩
      have hl2 := hk2.same _ _ hl rfl
      have hd2 := hk2.same _ _ hd rfl
      refine ⟨_, run_beginRound hl2 (by rw [hrec]), ?_⟩
      have hlt := lt_of_heap hl2
      have hbz : ({ rec .ready none with state := .busy } : Loop) = rec .busy none := by rw [hrec]
      rw [hbz]
      have hl3 : (W2.putObj (w.heap.size + 1) (.loop (rec .busy none))).heap[w.heap.size + 1]? = some (.loop (rec .busy none)) := World.putObj_heap_same hlt
      have hd3 := keepD .busy none W2 hd2
      have tb : Touch (fun g => S g ∨ g = w.heap.size + 1) W (W2.putObj (w.heap.size + 1) (.loop (rec .busy none))) := (tk2.mono (fun _ _ h => .inl h)).trans (touch_put W2 _ _) (fun _ _ h => .inr h)
      refine wpIn_mono (hbody _ k x a' _ (hIp k W2 _ _ _ hi2 (by omega) hl2 rfl) hk hx (hAp k x a' W2 _ _ _ hax (by omega) hl2 rfl)) ?_
      have fin : ∀ (jump : Option Code) (W3 : World), KeepsOthers (W2.putObj (w.heap.size + 1) (.loop (rec .busy none))) W3 →
          (Instr.endRound (w.heap.size + 1) jump).run P W3 = .ok (.bool jump.isNone) (W3.putObj (w.heap.size + 1) (.loop (rec (if jump.isNone then .ready else .done) jump))) ∧
          W3.heap[w.heap.size + 1]? = some (.loop (rec .busy none)) ∧
          (W3.putObj (w.heap.size + 1) (.loop (rec (if jump.isNone then .ready else .done) jump))).heap[w.heap.size + 1]? = some (.loop (rec (if jump.isNone then .ready else .done) jump)) ∧
          (W3.putObj (w.heap.size + 1) (.loop (rec (if jump.isNone then .ready else .done) jump))).heap[w.heap.size]? = some (.deferred (some [])) := fun jump W3 hk3 => by
        have h4 := hk3.same _ _ hl3 rfl
        have h5 := run_endRound (P := P) jump h4
        have e5 : ({ rec .busy none with state := if jump.isNone then .ready else .done, pending := jump } : Loop) = rec (if jump.isNone then .ready else .done) jump := by rw [hrec]
        rw [e5] at h5
        exact ⟨h5, h4, World.putObj_heap_same (lt_of_heap h4), keepD _ _ W3 (hk3.same _ _ hd3 rfl)⟩
      rintro e a3 W3 hp
      have leave : ∀ c, KeepsOthers (W2.putObj (w.heap.size + 1) (.loop (rec .busy none))) W3 ∧ Touch S (W2.putObj (w.heap.size + 1) (.loop (rec .busy none))) W3 ∧ Ix c (k + 1) W3 → ∃ v w', (Instr.endRound (w.heap.size + 1) (some c)).run P W3 = .ok v w' ∧
          Touch (fun g => S g ∨ g = w.heap.size + 1) W w' ∧ ((Ending.returned v = .returned (.bool true) ∧ I (k + 1) w' ∧ w'.heap[w.heap.size + 1]? = some (.loop (rec .ready none)) ∧ w'.heap[w.heap.size]? = some (.deferred (some []))) ∨
           (Ending.returned v = .returned (.bool false) ∧ ∃ c, Ix c (k + 1) w' ∧ w'.heap[w.heap.size + 1]? = some (.loop (rec .done (some c))) ∧ w'.heap[w.heap.size]? = some (.deferred (some [])))) := fun c h => by
        obtain ⟨hr, h3, h4, h5⟩ := fin (some c) W3 h.1
        exact ⟨_, _, hr, (tb.trans (h.2.1.mono (fun _ _ h => .inl h)) (fun _ _ h => h)).trans (touch_put W3 _ _) (fun _ _ h => .inr h), .inr ⟨rfl, c, hXp c _ W3 _ _ _ h.2.2 (by omega) h3 rfl, h4, h5⟩⟩
      cases e with
      | normal =>
        obtain ⟨hr, h3, h4, h5⟩ := fin none W3 hp.1
        exact ⟨_, _, hr, (tb.trans (hp.2.1.mono (fun _ _ h => .inl h)) (fun _ _ h => h)).trans (touch_put W3 _ _) (fun _ _ h => .inr h), .inl ⟨rfl, hIp _ W3 _ _ _ hp.2.2 (by omega) h3 rfl, h4, h5⟩⟩
      | ret => exact leave .ret hp
      | exit id => exact leave (.exit id) hp
      | goto t => exact leave (.goto t) hp
      | panic ch => exact hp.elim
      | outgrown => exact hp.elim
    · rintro e W2 ⟨⟨v, rfl⟩, (⟨hi, hl, hd⟩ | ⟨k, hk, c, hi, hl, hd⟩)⟩
      · have h6 := run_endLoop (P := P) hl (by rw [hrec]; simp)
        have e6 : ({ rec .ready none with state := .exhausted } : Loop) = rec .exhausted none := by rw [hrec]
        rw [e6] at h6
        exact ⟨none, _, by rw [h6, hrec], hdone _ _ (Nat.le_refl _) (hIp m W2 _ _ _ hi (by omega) hl rfl) (keepD _ _ W2 hd)⟩
      · have h6 := run_endLoop (P := P) hl (by rw [hrec]; simp)
        have e6 : ({ rec .done (some c) with state := .exhausted } : Loop) = rec .exhausted (some c) := by rw [hrec]
        rw [e6] at h6
        exact ⟨some c, _, by rw [h6, hrec], hstop _ c k _ (Nat.le_refl _) hk (hXp c k W2 _ _ _ hi (by omega) hl rfl) (keepD _ _ W2 hd)⟩

end Go.Proofs.YtamfcmmhmfhhkaaGreatDoor

namespace Go.Proofs.YtamfcmmhmfhhkaaGreatDoor
open Go.RowKit

theorem own_shape {w : World} {base n sz : Nat} {e : TypeId} {v : Value} {xs : List Value} (h : w.ownsRow base e sz v n xs) : ∃ ao c, v = .slice ao n c := by
  rcases h.2 with ⟨rfl, rfl⟩ | ⟨g, cap, cur, rfl, _⟩
  · exact ⟨none, 0, rfl⟩
  · exact ⟨_, _, rfl⟩

/-- It stays where its block stays. -/
theorem own_stays {w w' : World} {base n sz : Nat} {e : TypeId} {v : Value} {xs : List Value} (h : w.ownsRow base e sz v n xs) (hb : ∀ g, v.ownBlock = some g → w'.heap[g]? = w.heap[g]?) : w'.ownsRow base e sz v n xs := by
  rcases h with ⟨h1, h2 | ⟨g, cap, cur, rfl, h3, h4, h5⟩⟩
  · exact ⟨h1, .inl h2⟩
  · exact ⟨h1, .inr ⟨g, cap, cur, rfl, h3, (hb g rfl).trans h4, h5⟩⟩

theorem own_block {w : World} {base n sz : Nat} {e : TypeId} {v : Value} {xs : List Value} (h : w.ownsRow base e sz v n xs) {g : Nat} (hg : v.ownBlock = some g) : base ≤ g ∧ ∃ cur, w.heap[g]? = some (.cells cur e (0, 0)) := by
  rcases h with ⟨h1, ⟨rfl, _⟩ | ⟨g', cap, cur, rfl, h3, h4, h5⟩⟩
  · simp [Value.ownBlock] at hg
  · simp [Value.ownBlock] at hg; subst hg; exact ⟨h3, cur, h4⟩

theorem own_touch {S : Nat → Prop} {w w' : World} {base n sz : Nat} {e : TypeId} {v : Value} {xs : List Value} (h : w.ownsRow base e sz v n xs) (ht : Touch S w w') (hn : ∀ g, v.ownBlock = some g → ¬ S g) : w'.ownsRow base e sz v n xs :=
  own_stays h fun g hg => by
    obtain ⟨_, cur, hc⟩ := own_block h hg
    exact ht.block g (lt_of_heap hc) (hn g hg)

theorem own_base {w : World} {base base' n sz : Nat} {e : TypeId} {v : Value} {xs : List Value} (h : w.ownsRow base e sz v n xs) (hb : base' ≤ base) : w.ownsRow base' e sz v n xs := by
  rcases h with ⟨h1, h2 | ⟨g, cap, cur, rfl, h3, h4, h5⟩⟩
  · exact ⟨h1, .inl h2⟩
  · exact ⟨h1, .inr ⟨g, cap, cur, rfl, by omega, h4, h5⟩⟩

theorem keeps_touch {S : Nat → Prop} {W W' : World} (ht : Touch S W W') (hS : ∀ g, S g → ∃ c t f, W.heap[g]? = some (.cells c t f)) : KeepsOthers W W' :=
  ⟨ht.size, fun k o hk ho => by
    by_cases s : S k
    · obtain ⟨c, t, f, e⟩ := hS k s
      rw [hk] at e; injection e with e; rw [e] at ho; cases ho
    · exact ht.heap hk s⟩

theorem info_parts2 {P : Program} {e : TypeId} {z : Value} {s b : Nat} (h : (P.info? e).map (fun i => (i.zero, i.size, i.bytes)) = some (some z, s, b)) : ∃ i, P.info? e = some i ∧ i.zero = some z ∧ i.size = s ∧ i.bytes = b := by
  cases hi : P.info? e with
  | none => rw [hi] at h; cases h
  | some i =>
    rw [hi] at h
    simp only [Option.map_some] at h
    injection h with h
    injection h with h1 h2
    injection h2 with h2 h3
    exact ⟨i, rfl, h1, h2, h3⟩

theorem own_len {w : World} {base n k sz c : Nat} {e : TypeId} {ao : Option Addr} {xs : List Value} (h : w.ownsRow base e sz (.slice ao n c) k xs) : n = k := by
  obtain ⟨_, _, hs⟩ := own_shape h
  injection hs

theorem wpList_append_sep {P : Program} (w : World) {ops : Array Oper} {rest : List Oper} {o : Oper} {a : Act} {Q : Exit → Act → World → Prop}
    (hg : o.guard = none) (s x : Operand) (t : TypeId) (hop : o.op = Op.call { callee := Callee.builtin Builtin.append, args := #[s, x], argTypes := #[t, t] })
    (base : Nat) (e : TypeId) (i : TypeInfo) (z : Value) (size bytes : Nat) (h1 : P.underlying t = some (.slice e)) (h2 : P.info? e = some i) (h3 : i.zero = some z) (h4 : i.size = size) (h5 : i.bytes = bytes) (h6 : z.cells.size = size) (h7 : 0 < size)
    (v : Value) (k : Nat) (xs : List Value) (hs : a.eval s = v) (hown : w.ownsRow base e size v k xs) (ad : Addr) (m c : Nat) (news : List Value) (hx : a.eval x = .slice (some ad) m c) (hn : news.length = m * size)
    (hc : ∀ j u, news[j]? = some u → w.cell? (ad.add j) = some u) (h1c : ∀ u ∈ news, u.oneCell' = true) (b1 : k + m ≤ maxLen) (b2 : (k + m) * bytes ≤ 140737488355328) (b3 : base ≤ w.heap.size) (hm : 0 < m)
    (h : ∀ ao cap w', w'.ownsRow base e size (.slice ao (k + m) cap) (k + m) (xs ++ news) → Touch (fun g => v.ownBlock = some g) w w' → (∀ g, (Value.slice ao (k + m) cap).ownBlock = some g → v.ownBlock = some g ∨ w.heap.size ≤ g) → wpList P ops Q rest (a.put o.dst (.slice ao (k + m) cap)) w') :
    wpList P ops Q (o :: rest) a w := by
  obtain ⟨ao, cap, rfl⟩ := own_shape hown
  have grow : ∀ v' w', w'.ownsRow w.heap.size e size v' (k + m) (xs ++ news) → w.grownBy w' none → wpList P ops Q rest (a.put o.dst v') w' := fun v' w' r1 r2 => by
    obtain ⟨ao', cap', rfl⟩ := own_shape r1
    exact h ao' cap' w' (own_base r1 b3) ((Touch.of_grownBy r2).mono (fun _ _ h => (nomatch h))) (fun g hg => .inr (own_block r1 hg).1)
  have hlen := hown.1
  rcases hown.2 with ⟨hv, hk⟩ | ⟨g, c', cur, hv, q1, q2, q3⟩
  · injection hv with e1 e2 e3
    subst e1 e2 e3
    exact wpList_append_grows w hg s x t hop e i z size bytes h1 h2 h3 h4 h5 h6 h7 none 0 0 xs hs (fun _ => ⟨rfl, rfl⟩) (by simpa using hlen) (fun b hb => (nomatch hb)) ad m c news hx hn hc h1c (by omega) b1 b2 grow
  · injection hv with e1 e2 e3
    subst e1 e3
    by_cases hr : k + m ≤ cap
    · exact wpList_append_fits w hg s x t hop base e i size h1 h2 h4 g k cap xs hs hown ad m c news hx hn hc h1c hr (fun w' r1 r2 => h _ _ w' r1 ((Touch.of_grownBy r2).mono (fun j _ hj => by rw [← hj]; rfl)) (fun g' hg' => .inl hg'))
    · exact wpList_append_grows w hg s x t hop e i z size bytes h1 h2 h3 h4 h5 h6 h7 (some ⟨g, 0, none⟩) k cap xs hs (fun e => (nomatch e)) hlen (fun b hb j u hj => by
        injection hb with hb; subst hb
        exact hown.cells (g := g) rfl j u hj) ad m c news hx hn hc h1c (by omega) b1 b2 grow

theorem new_cells1 (w : World) (u : Value) (t : TypeId) : ∀ (j : Nat) (x : Value), ([u] : List Value)[j]? = some x → (w.alloc (.cells #[u] t)).cell? ((⟨w.heap.size, 0, none⟩ : Addr).add j) = some x := fun j x hx => by
  have hb := heap_alloc_last w (.cells #[u] t)
  rw [Addr.add_lit, Nat.zero_add, cell_of_row _ _ j _ _ _ hb]
  simpa using hx

theorem one_cells1 {u : Value} (hu : u.oneCell' = true) : ∀ x ∈ ([u] : List Value), x.oneCell' = true := fun x hx => by
  obtain rfl := List.mem_singleton.1 hx; exact hu

/-- An owned row of pointers, the last one left off. -/
theorem own_cut {w : World} {base n : Nat} {e : TypeId} {ao : Option Addr} {cap : Nat} {xs : List Value} {x : Value} (h : w.ownsRow base e 1 (.slice ao (n + 1) cap) (n + 1) (xs ++ [x])) :
    ∃ g, ao = some ⟨g, 0, none⟩ ∧ base ≤ g ∧ n + 1 ≤ cap ∧ cap ≤ maxLen ∧ w.cell? ⟨g, n, none⟩ = some x ∧ w.ownsRow base e 1 (.slice ao n cap) n xs := by
  obtain ⟨h1, ⟨hv, h2⟩ | ⟨g, cap', cur, hv, h3, h4, h5, h6, h7, h8⟩⟩ := h
  · cases h2
  · injection hv with e1 e2 e3
    subst e1 e3
    simp only [List.length_append, List.length_cons, List.length_nil] at h1
    have hl : xs.length = n := by omega
    have ht : cur.toList.take (n + 1) = xs ++ [x] := by simpa using h8
    have hx : cur[n]? = some x := by
      have := congrArg (fun l => l[n]?) ht
      simp only [List.getElem?_take] at this
      rw [if_pos (by omega), List.getElem?_append_right (by omega)] at this
      simpa [hl] using this
    refine ⟨g, rfl, h3, h5, h6, ?_, ⟨by simpa using hl, .inr ⟨g, cap, cur, rfl, h3, h4, by omega, h6, h7, ?_⟩⟩⟩
    · rw [cell_of_row _ _ n _ _ _ h4]; exact hx
    · have := congrArg (List.take n) ht
      have e : List.take n (xs ++ [x]) = xs := by rw [List.take_append_of_le_length (by omega), List.take_of_length_le (by omega)]
      rw [List.take_take, Nat.min_eq_left (by omega), e] at this
      simpa using this

/-- The least number of which something holds. -/
theorem least_ex {p : Nat → Prop} (h : ∃ n, p n) : ∃ n, p n ∧ ∀ m, p m → n ≤ m := by
  obtain ⟨n, hn⟩ := h
  induction n using Nat.strongRecOn with
  | ind n ih =>
    by_cases hm : ∃ m, m < n ∧ p m
    · obtain ⟨m, hlt, hp⟩ := hm
      exact ih m hlt hp
    · exact ⟨n, hn, fun m hp => Nat.le_of_not_lt fun hlt => hm ⟨m, hlt, hp⟩⟩

open Classical in
noncomputable def least (p : Nat → Prop) : Nat := if h : ∃ n, p n then Classical.choose (least_ex h) else 0

theorem least_spec {p : Nat → Prop} (h : ∃ n, p n) : p (least p) ∧ ∀ m, p m → least p ≤ m := by
  unfold least
  rw [dif_pos h]
  exact Classical.choose_spec (least_ex h)

end Go.Proofs.YtamfcmmhmfhhkaaGreatDoor
