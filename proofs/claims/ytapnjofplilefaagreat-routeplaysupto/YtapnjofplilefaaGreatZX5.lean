/- RoutePlays: items that are lent, and a mark behind them. -/
import Derived.Test.YtapnjofplilefaaGreatX4
import Derived.Test.YtapnjofplilefaaGreatCJ0
namespace Go.Proofs.YtapnjofplilefaaGreat
open Go.RowKit

theorem elemIz : Tryz.prog.elem 42 = 60 := by kernel_rfl
theorem in_apps {w : World} {base : Nat} {ao : Option Addr} {cap : Nat} {A : List It} {a2 : Option Addr} {c2 : Nat} {B : List It} (h : encI.Own 60 w base (.slice ao A.length cap) A) (h2 : encI.Mem w a2 B) (hc : a2 = none → c2 = 0) (hs : base ≤ w.heap.size) (hn : A.length + B.length ≤ 1000000000000) :
    ∃ a3 p3 w4, (Builtin.append_ #[42, 42] 42 #[.slice ao A.length cap, .slice a2 B.length c2]).run Tryz.prog w = .ok (.slice a3 (A ++ B).length p3) w4 ∧
      encI.Own 60 w4 base (.slice a3 (A ++ B).length p3) (A ++ B) ∧ Touch (fun d => (Value.slice ao A.length cap).ownBlock = some d) w w4 := by
  obtain ⟨i0, hi, hz, hsz, hby⟩ := Rc.info_parts infoI
  obtain ⟨a3, p3, w4, hr, ow, t2, -⟩ := Rc.Own.appw (E := encI) (ty := 42) Tryz.underlying42 hi hz hsz hby rfl h a2 c2 B h2 hc (by unfold maxLen; omega) (by omega) (by omega) hs
  exact ⟨a3, p3, w4, hr, ow, t2⟩
theorem in_copy {w : World} {a2 : Option Addr} {c2 : Nat} {B : List It} (h2 : encI.Sl w a2 c2 B) (hn : B.length ≤ 1000000000000) :
    ∃ a3 p3 w4, (Builtin.append_ #[42, 42] 42 #[.slice none 0 0, .slice a2 B.length c2]).run Tryz.prog w = .ok (.slice a3 B.length p3) w4 ∧
      encI.Own 60 w4 w.heap.size (.slice a3 B.length p3) B ∧ Calm w w4 := by
  obtain ⟨a3, p3, w4, hr, ow, t⟩ := in_apps (base := w.heap.size) (ao := none) (cap := 0) (A := []) (Rc.Own.nil _ _ _) h2.mem h2.nil (Nat.le_refl _) (by simp; omega)
  rw [List.nil_append] at hr ow
  exact ⟨a3, p3, w4, hr, ow, t.mono fun _ _ h => by simp [Value.ownBlock] at h⟩
abbrev it42 : It := ⟨0, ⟨#[]⟩, 0, 0, 4242⟩
/-- The items M at g, and 4242 behind them. -/
structure Lf (w : World) (base g k : Nat) (M : List It) : Prop where
  own : encI.Own 60 w base (.slice (some ⟨g, 0, none⟩) (M.length + 1) k) (M ++ [it42])
theorem Lf.touch {w w' : World} {base g k : Nat} {M : List It} {S : Nat → Prop} (h : Lf w base g k M) (ht : Touch S w w') (hS : ¬ S g) : Lf w' base g k M := ⟨Rc.Own.touch h.own ht fun b hb => by simp [Value.ownBlock] at hb; subst hb; exact hS⟩
theorem Lf.calm {w w' : World} {base g k : Nat} {M : List It} (h : Lf w base g k M) (ht : Calm w w') : Lf w' base g k M := h.touch ht fun h => h
theorem Lf.at_ {w : World} {base g k : Nat} {M : List It} (h : Lf w base g k M) : base ≤ g ∧ g < w.heap.size := own_lt h.own rfl
theorem Lf.cap {w : World} {base g k : Nat} {M : List It} (h : Lf w base g k M) : M.length + 1 ≤ k ∧ k ≤ maxLen := by
  obtain ⟨-, -, h1, h2, -⟩ := Rc.Own.mem h.own
  exact ⟨by simpa using h1, h2⟩
theorem Lf.sl {w : World} {base g k : Nat} {M : List It} (h : Lf w base g k M) : encI.Sl w (some ⟨g, 0, none⟩) k M := by
  obtain ⟨-, m, h1, -⟩ := Rc.Own.mem h.own
  have := Rc.Mem.take m M.length
  rw [List.take_left] at this
  exact ⟨this, fun h => (nomatch h), by have := h.cap; omega⟩
theorem Lf.mark {w : World} {base g k : Nat} {M : List It} (h : Lf w base g k M) : w.cell? ⟨g, M.length * 5 + 4, none⟩ = some (.int .i64 4242) := by
  obtain ⟨-, m, -⟩ := Rc.Own.mem h.own
  obtain ⟨b, off, e, c⟩ := items_W (F := fun _ => False) m (fun _ _ _ h => h) M.length (by simp)
  injection e with e
  injection e with e1 e2
  subst e1 e2
  have := (c w (Touch.refl _ _)).2.2.2.2
  rw [Nat.zero_add] at this
  simpa using this
/-- What is lent may be cut anew. -/
theorem lf_run {g k n m : Nat} (hk : n ≤ k) (z : Int) (hz : z = (n : Int)) : ∀ W, (Instr.slice 42 (.slice (some ⟨g, 0, none⟩) m k) none (some (.int .i64 z)) none).run Tryz.prog W = .ok (.slice (some ⟨g, 0, none⟩) n k) W := by
  intro W
  subst hz
  obtain ⟨i0, hi, hz0, hz1, hz2⟩ := Rc.info_parts infoI
  rw [run_slice_h W 42 (some ⟨g, 0, none⟩) m k (by rw [elemIz]; exact Tryz.underlying42) .i64 (n : Int) (by omega) (by omega), elemIz]
  simp only [sizeOf, typeInfo]
  simp [hi, sliced, Addr.add_lit]
/-- It was made so. -/
theorem Lf.made {w : World} {base : Nat} {a : Option Addr} {k : Nat} {M : List It} (h : encI.Own 60 w base (.slice a (M ++ [it42]).length k) (M ++ [it42])) : ∃ g, a = some ⟨g, 0, none⟩ ∧ Lf w base g k M := by
  obtain ⟨-, m, -, -, -, h5⟩ := Rc.Own.mem h
  obtain ⟨b, off, rfl, c⟩ := items_W (F := fun _ => False) m (fun _ _ _ h => h) 0 (by simp)
  obtain ⟨-, e, -⟩ := h5 _ rfl
  have e : off = 0 := e
  subst e
  exact ⟨b, rfl, ⟨by simpa using h⟩⟩

end Go.Proofs.YtapnjofplilefaaGreat
