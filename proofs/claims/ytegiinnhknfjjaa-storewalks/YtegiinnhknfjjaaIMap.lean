/- The program's maps: isThere, Len, Put, Take, Copy, New, Of. -/
import Derived.Test.YtegiinnhknfjjaaIDrop
namespace Go.Proofs.Ytegiinnhknfjjaa.IM
open Go.RowKit

/-- A map in memory, told by what it holds in order. -/
def Mt (w : World) (m f : Nat) (lb : Array Value) (X : List (Int × Int)) : Prop := ∃ ro, Mp w m f lb ro ∧ TL w (.pointer ro) X

theorem Mt.touch {S : Nat → Prop} {w w' : World} {m f : Nat} {lb : Array Value} {X : List (Int × Int)} (h : Mt w m f lb X) (ht : Touch S w w') (hm : ¬ S m) (hS : ∀ b cs fr, S b → w.heap[b]? ≠ some (.cells cs 105 fr)) : Mt w' m f lb X := by
  obtain ⟨ro, h1, h2⟩ := h
  refine ⟨ro, ht.heap h1 hm, ?_⟩
  clear h1
  generalize hp : Value.pointer ro = p at h2
  clear hp
  induction h2 with
  | nil => exact .nil
  | node hb _ _ il ir => exact .node (ht.heap hb fun hs => hS _ _ _ hs hb) il ir

theorem Mt.calm {w w' : World} {m f : Nat} {lb : Array Value} {X : List (Int × Int)} (h : Mt w m f lb X) (ht : Calm w w') : Mt w' m f lb X := h.touch ht (fun h => h) (fun _ _ _ h => h.elim)

/-- How many keys a tree has, by its own count. -/
def cnt (w : World) : Value → Nat
  | .pointer (some a) => match w.heap[a.block]? with
    | some (.cells cs _ _) => (intOf (cs.getD 2 undef)).toNat
    | _ => 0
  | _ => 0

theorem TL.cnt {w : World} {p : Value} {X : List (Int × Int)} (h : TL w p X) : cnt w p = X.length := by
  cases h with
  | nil => rfl
  | node hb _ _ => unfold IM.cnt; simp only [hb]; simp [intOf]; omega

theorem fn_neq (fn : Fn) (lb : Array Value) (W : World) : (binOp .neq 38 (.func fn #[] lb) .nilFunc).run Try.prog W = .ok (.bool true) W := by
  have e : binOp .neq 38 (.func fn #[] lb) .nilFunc = (do pure (.bool (!(← Op.equalIn (9999 + 1) 38 (.func fn #[] lb) .nilFunc)))) := rfl
  rw [e]
  unfold Op.equalIn
  simp only [Sem.run_bind, run_underlying Try.underlying38, Result.andThen_ok, Sem.run_pure, Bool.not_false]

theorem nil_neq (W : World) : (binOp .neq 38 .nilFunc .nilFunc).run Try.prog W = .ok (.bool false) W := by
  have e : binOp .neq 38 .nilFunc .nilFunc = (do pure (.bool (!(← Op.equalIn (9999 + 1) 38 .nilFunc .nilFunc)))) := rfl
  rw [e]
  unfold Op.equalIn
  simp only [Sem.run_bind, run_underlying Try.underlying38, Result.andThen_ok, Sem.run_pure, Bool.not_true]

theorem fn_eql (fn : Fn) (lb : Array Value) (W : World) : (binOp .eql 38 (.func fn #[] lb) .nilFunc).run Try.prog W = .ok (.bool false) W := by
  have e : binOp .eql 38 (.func fn #[] lb) .nilFunc = (do pure (.bool ((← Op.equalIn (9999 + 1) 38 (.func fn #[] lb) .nilFunc)))) := rfl
  rw [e]
  unfold Op.equalIn
  simp only [Sem.run_bind, run_underlying Try.underlying38, Result.andThen_ok, Sem.run_pure]

theorem nil_eql (W : World) : (binOp .eql 38 .nilFunc .nilFunc).run Try.prog W = .ok (.bool true) W := by
  have e : binOp .eql 38 .nilFunc .nilFunc = (do pure (.bool ((← Op.equalIn (9999 + 1) 38 .nilFunc .nilFunc)))) := rfl
  rw [e]
  unfold Op.equalIn
  simp only [Sem.run_bind, run_underlying Try.underlying38, Result.andThen_ok, Sem.run_pure]

set_option maxRecDepth 100000 in
theorem there_any (w : World) (m f : Nat) (lb : Array Value) (ro : Option Addr) (h : Mp w m f lb ro) : Calls Try.prog 33 #[.pointer (some ⟨m, 0, none⟩)] w fun e w' => e = .returned (.bool true) ∧ w' = w := by
  obtain ⟨c0, c1⟩ := cells2 h
  go_enter Try.func33, Try.ntmps33
  have hx := fn_neq (.func f) lb w
  go_wp2_with fail
  go_ret
  exact ⟨rfl, rfl⟩

set_option maxRecDepth 100000 in
theorem there_nil (w : World) : Calls Try.prog 33 #[.pointer none] w fun e w' => e = .returned (.bool false) ∧ w' = w := by
  go_enter Try.func33, Try.ntmps33
  go_wp2_with fail
  go_ret
  exact ⟨rfl, rfl⟩

set_option maxRecDepth 100000 in
theorem there_zero (w : World) (m : Nat) (h : w.heap[m]? = some (.cells #[.nilFunc, .pointer none] 41 (0, 0))) : Calls Try.prog 33 #[.pointer (some ⟨m, 0, none⟩)] w fun e w' => e = .returned (.bool false) ∧ w' = w := by
  obtain ⟨c0, c1⟩ := cells2 h
  go_enter Try.func33, Try.ntmps33
  have hx := nil_neq w
  go_wp2_with fail
  go_ret
  exact ⟨rfl, rfl⟩

set_option maxRecDepth 100000 in
theorem len_any (w : World) (m f : Nat) (lb : Array Value) (X : List (Int × Int)) (h : Mt w m f lb X) : Calls Try.prog 43 #[.pointer (some ⟨m, 0, none⟩)] w fun e w' => e = .returned (.int .i64 (X.length : Nat)) ∧ w' = w := by
  obtain ⟨ro, h1, h2⟩ := h
  have TH := hide (there_any w m f lb ro h1)
  have SI := hide (size_any _ X w h2)
  obtain ⟨c0, c1⟩ := cells2 h1
  clear h1 h2
  generalize X.length = n at *
  go_enter Try.func43, Try.ntmps43
  go_wp2_with fail
  refine TH.out.mono ?_
  rintro e w' ⟨rfl, hq⟩
  obtain rfl := hq.symm
  clear hq
  go_wp2_with fail
  refine SI.out.mono ?_
  rintro e w' ⟨rfl, hq⟩
  obtain rfl := hq.symm
  clear hq
  go_wp2_with fail
  go_ret
  exact ⟨rfl, rfl⟩

/-- The root turned. -/
theorem Mt.root {w w' : World} {m f : Nat} {lb : Array Value} {ro r : Option Addr} {X : List (Int × Int)} (h : Mp w m f lb ro) (ht : Calm w w') (hr : TL w' (.pointer r) X) :
    Mt (w'.setCell ⟨m, 1, none⟩ (.pointer r)) m f lb X ∧ Touch (fun g => g = m) w (w'.setCell ⟨m, 1, none⟩ (.pointer r)) := by
  have h' : Mp w' m f lb ro := ht.at h
  have t2 : Touch (fun g => g = m) w' (w'.setCell ⟨m, 1, none⟩ (.pointer r)) := (Touch.refl (fun g => g = m) w').setCell (p := ⟨m, 1, none⟩) (fun _ => rfl) _
  have m0 : Mt w' m f lb X → True := fun _ => trivial
  clear m0
  refine ⟨⟨r, ?_, ?_⟩, (ht.mono (fun _ _ h => h.elim)).trans t2 fun _ _ h => h⟩
  · have := heap_setCell_row (i := 1) h' (.pointer r)
    simpa [Mp] using this
  · generalize w'.setCell ⟨m, 1, none⟩ (.pointer r) = w'' at t2 ⊢
    generalize hp : Value.pointer r = p at hr ⊢
    clear hp
    induction hr with
    | nil => exact .nil
    | node hb _ _ il ir => exact .node (t2.heap hb fun hs => tags hb h' (by decide) hs) il ir

set_option maxRecDepth 100000 in
theorem put_any {f : Nat} {lb : Array Value} {c : Int → Int → Int} {Y : World → Prop} (hC : Cmp f lb c Y) (m : Nat) (key : Int) (val : Int)
    (w : World) (X : List (Int × Int)) (h : Mt w m f lb X) (hY : Y w) (hd : Dec (c key) X) (low : Low (X.length + 1)) :
    Calls Try.prog 13 #[.pointer (some ⟨m, 0, none⟩), .int .i64 key, .int .i64 val] w fun e w' =>
      e = .returned (.tuple #[.int .i64 (was (c key) X), .bool (it (c key) X).isSome, .int .i64 0]) ∧ Mt w' m f lb (lput (c key) key val X) ∧ Touch (fun g => g = m) w w' := by
  obtain ⟨ro, h1, h2⟩ := h
  have TH := hide (there_any w m f lb ro h1)
  have LA := hide (lay_any hC m ro key val h2 h1 hY hd low w (Touch.refl _ _))
  obtain ⟨c0, c1⟩ := cells2 h1
  have HM := hide h1
  clear h1 h2 hd hY low
  go_enter Try.func13, Try.ntmps13
  go_wp2_with fail
  refine TH.out.mono ?_
  rintro e w' ⟨rfl, hq⟩
  obtain rfl := hq.symm
  clear hq
  go_wp2_with fail
  refine LA.out.mono ?_
  rintro e w2 ⟨b2, rfl, tl2, t2⟩
  obtain ⟨f0, f1⟩ := Mt.root HM.out t2 tl2
  obtain ⟨d0, d1⟩ := cells2 (t2.at HM.out)
  have fz : w2.frozen? ⟨m, 1, none⟩ = false := by have := t2.at HM.out; simp [World.frozen?, this]
  have F0 := hide f0
  have F1 := hide f1
  clear f0 f1 c0 c1 tl2 t2
  go_wp2_with fail
  go_ret3
  exact ⟨rfl, F0.out, F1.out⟩

set_option maxRecDepth 100000 in
theorem take_any {f : Nat} {lb : Array Value} {c : Int → Int → Int} {Y : World → Prop} (hC : Cmp f lb c Y) (m : Nat) (key : Int)
    (w : World) (X : List (Int × Int)) (h : Mt w m f lb X) (hY : Y w) (hd : Dec (c key) X) (low : Low X.length) :
    Calls Try.prog 35 #[.pointer (some ⟨m, 0, none⟩), .int .i64 key] w fun e w' =>
      e = .returned (.tuple #[.int .i64 (was (c key) X), .bool (it (c key) X).isSome]) ∧ Mt w' m f lb (ldrop (c key) X) ∧ Touch (fun g => g = m) w w' := by
  obtain ⟨ro, h1, h2⟩ := h
  have TH := hide (there_any w m f lb ro h1)
  have LA := hide (drop_any hC m ro key h2 h1 hY hd low w (Touch.refl _ _))
  obtain ⟨c0, c1⟩ := cells2 h1
  have HM := hide h1
  clear h1 h2 hd hY low
  go_enter Try.func35, Try.ntmps35
  go_wp2_with fail
  refine TH.out.mono ?_
  rintro e w' ⟨rfl, hq⟩
  obtain rfl := hq.symm
  clear hq
  go_wp2_with fail
  refine LA.out.mono ?_
  rintro e w2 ⟨b2, rfl, tl2, t2⟩
  obtain ⟨f0, f1⟩ := Mt.root HM.out t2 tl2
  obtain ⟨d0, d1⟩ := cells2 (t2.at HM.out)
  have fz : w2.frozen? ⟨m, 1, none⟩ = false := by have := t2.at HM.out; simp [World.frozen?, this]
  have F0 := hide f0
  have F1 := hide f1
  clear f0 f1 c0 c1 tl2 t2
  go_wp2_with fail
  go_ret2
  exact ⟨rfl, F0.out, F1.out⟩

end Go.Proofs.Ytegiinnhknfjjaa.IM
