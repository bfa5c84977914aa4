/- A copy takes a place: what is read and written meanwhile. -/
import Derived.Test.YtcmigkemhoecfaaKW
namespace Go.Proofs.Ytcmigkemhoecfaa
open Go.RowKit

section
variable {Pk : World → Nat → (Nat → Prop) → List Int → List Hd → Prop}

theorem ptr_c (o : Option Pr) : ∃ a, cvO o = .pointer a := by cases o <;> exact ⟨_, rfl⟩
theorem ptr_r (o : Option Pr) : ∃ a, rvO o = .pointer a := by cases o <;> exact ⟨_, rfl⟩
theorem nil_c (k : Nat) (o : Option Pr) (W : World) : (eqGuard .eql 25 (.tmp k) (.const (.pointer none)) (cvO o) (.pointer none)).run Try.prog W = .ok () W ∧ (binOp .eql 25 (cvO o) (.pointer none)).run Try.prog W = .ok (.bool o.isNone) W := by
  cases o <;> exact ⟨by kernel_rfl, by kernel_rfl⟩
theorem nil_r (k : Nat) (o : Option Pr) (W : World) : (eqGuard .eql 30 (.tmp k) (.const (.pointer none)) (rvO o) (.pointer none)).run Try.prog W = .ok () W ∧ (binOp .eql 30 (rvO o) (.pointer none)).run Try.prog W = .ok (.bool o.isNone) W := by
  cases o <;> exact ⟨by kernel_rfl, by kernel_rfl⟩

theorem stp_all {w : World} {b : Nat} {s : Stp} {ty : TypeId} (h : w.heap[b]? = some (.cells (stpc s) ty (0, 0))) : w.cell? ⟨b, 0, none⟩ = some (.int .i64 s.k) ∧ w.cell? ⟨b, 1, none⟩ = some (.int .i64 s.who) ∧ w.cell? ⟨b, 2, none⟩ = some (.int .i64 s.to) ∧ w.cell? ⟨b, 3, none⟩ = some (.int .i64 s.src) ∧ w.cell? ⟨b, 4, none⟩ = some (.int .i64 s.lv) ∧ w.cell? ⟨b, 5, none⟩ = some (.string s.nm) ∧ w.cell? ⟨b, 6, none⟩ = some (.int .i64 s.t) := by simp [World.cell?, h]
theorem put3 {w : World} {g i : Nat} {f : Nat → Value} {t : TypeId} (h : w.heap[g]? = some (.cells #[f 0, f 1, f 2] t (0, 0))) (hi : i < 3) (v : Value) : (w.setCell ⟨g, i, none⟩ v).heap[g]? = some (.cells #[if 0 = i then v else f 0, if 1 = i then v else f 1, if 2 = i then v else f 2] t (0, 0)) := by
  rw [rk_put h]
  rcases (by omega : i = 0 ∨ i = 1 ∨ i = 2) with rfl | rfl | rfl <;> rfl
theorem Tri.spot {w W : World} {Bt Br N : Nat} {s : Nat → Option Pr} (h : Tri Pk w Bt Br N s W) (i : Nat) (hi : i < 3) : (W.cell? ⟨Bt, i, none⟩ = some (cvO (s i)) ∧ W.frozen? ⟨Bt, i, none⟩ = false) ∧ W.cell? ⟨Br, i, none⟩ = some (rvO (s i)) ∧ W.frozen? ⟨Br, i, none⟩ = false :=
  ⟨⟨(h.cells i hi).1, hd_frozen h.bt i⟩, (h.cells i hi).2, hd_frozen h.br i⟩
/-- Behind the program's. -/
theorem Tri.copyA (I : Pki Pk) {w V W : World} {Bt N ia ib : Nat} {s : Nat → Option Pr} {v : Value} (h : Tri Pk w Bt (Bt + 1) N s V) (ha : ia < 3) (hb : ib < 3) (hc : Calm V W) (hv : cpO Pk V (s ia) v W) :
    (∃ a, v = .pointer a) ∧ (W.cell? ⟨Bt, ib, none⟩ = some (cvO (s ib)) ∧ W.frozen? ⟨Bt, ib, none⟩ = false) ∧ (W.setCell ⟨Bt, ib, none⟩ v).cell? ⟨Bt + 1, ia, none⟩ = some (rvO (s ia)) ∧ Touch (fun g => g < V.heap.size) W (W.setCell ⟨Bt, ib, none⟩ v) ∧ okO Pk N (W.setCell ⟨Bt, ib, none⟩ v) (s ia) := by
  have h2 := h.still I hc
  have t : Touch (fun g => g = Bt) W (W.setCell ⟨Bt, ib, none⟩ v) := (Touch.refl (fun g => g = Bt) _).setCell (p := ⟨Bt, ib, none⟩) (fun _ => rfl) _
  have lB := lt_of_heap h.bt
  have br := t.heap h2.br (fun e => by omega)
  refine ⟨?_, (h2.spot ib hb).1, ?_, t.mono fun g _ e => by omega, okO_touch I (h2.ok ia ha) t fun g hg e => (h2.lo ia ha g hg).2.1 e⟩
  · unfold cpO at hv
    split at hv
    · exact ⟨_, hv⟩
    · obtain ⟨q, e, -⟩ := hv
      exact ⟨_, e⟩
  · rcases (by omega : ia = 0 ∨ ia = 1 ∨ ia = 2) with rfl | rfl | rfl <;> simp [World.cell?, br]
/-- Behind the document's. -/
theorem Tri.copyB (I : Pki Pk) {w V W X : World} {Bt N ib : Nat} {s : Nat → Option Pr} {o : Option Pr} (h : Tri Pk w Bt (Bt + 1) N s V) (hb : ib < 3) (hc : Calm V W) (hx : Calm (W.setCell ⟨Bt, ib, none⟩ (cvO o)) X) (ho : okO Pk N X o) (hf : ∀ g, fpO o g → V.heap.size ≤ g) :
    (X.cell? ⟨Bt + 1, ib, none⟩ = some (rvO (s ib)) ∧ X.frozen? ⟨Bt + 1, ib, none⟩ = false) ∧ Tri Pk w Bt (Bt + 1) N (putS s ib o) (X.setCell ⟨Bt + 1, ib, none⟩ (rvO o)) ∧ Touch (fun g => g = Bt ∨ g = Bt + 1) V (X.setCell ⟨Bt + 1, ib, none⟩ (rvO o)) := by
  have h2 := h.still I hc
  have t : Touch (fun g => g = Bt) W (W.setCell ⟨Bt, ib, none⟩ (cvO o)) := (Touch.refl (fun g => g = Bt) _).setCell (p := ⟨Bt, ib, none⟩) (fun _ => rfl) _
  have t2 : Touch (fun g => g = Bt + 1) X (X.setCell ⟨Bt + 1, ib, none⟩ (rvO o)) := (Touch.refl (fun g => g = Bt + 1) _).setCell (p := ⟨Bt + 1, ib, none⟩) (fun _ => rfl) _
  have lB := lt_of_heap h.bt
  have lR := lt_of_heap h.br
  have br := hx.at (t.heap h2.br (fun e => by omega))
  have bt := t2.heap (hx.at (put3 (f := fun i => cvO (s i)) h2.bt hb (cvO o))) (fun e => by omega)
  have br2 := put3 (f := fun i => rvO (s i)) br hb (rvO o)
  have T : Touch (fun g => g = Bt ∨ g = Bt + 1) V (X.setCell ⟨Bt + 1, ib, none⟩ (rvO o)) := (((hc.mono fun _ _ h => h.elim).trans (t.mono fun g _ e => .inl e) fun _ _ h => h).trans (hx.mono fun _ _ h => h.elim) fun _ _ h => h).trans (t2.mono fun g _ e => .inr e) fun _ _ h => h
  refine ⟨⟨?_, hd_frozen br ib⟩, h.put I hb T ?_ ?_ (okO_touch I ho t2 fun g hg e => by have := hf g hg; omega) hf, T⟩
  · rcases (by omega : ib = 0 ∨ ib = 1 ∨ ib = 2) with rfl | rfl | rfl <;> simp [World.cell?, br]
  · rw [bt]
    rcases (by omega : ib = 0 ∨ ib = 1 ∨ ib = 2) with rfl | rfl | rfl <;> rfl
  · rw [br2]
    rcases (by omega : ib = 0 ∨ ib = 1 ∨ ib = 2) with rfl | rfl | rfl <;> rfl

end
end Go.Proofs.Ytcmigkemhoecfaa
