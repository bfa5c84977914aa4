/- The document's router: a mark's place, the next number; what New and From answer. -/
import Derived.Test.YtapnjofplilefaaGreatZF
import Derived.RegionTactic
import Derived.BigRegion
namespace Go.Proofs.YtapnjofplilefaaGreat
open Go.RowKit

/-- The marks' row, and one of it turned. -/
theorem Rr.place {w : World} {q : Nat} {F : Nat → Prop} {c : Cf} {wk s : Int} {L : List Int} (h : Rr w q F c wk L s) (i : Nat) (hi : i < L.length) : ∃ b lc, F b ∧ b ≠ q ∧ (∀ W, Calm w W → W.cell? ⟨q, 11, none⟩ = some (.slice (some ⟨b, 0, none⟩) L.length lc) ∧ W.cell? ⟨b, i, none⟩ = some (.int .i64 (L.getD i 0)) ∧ W.frozen? ⟨b, i, none⟩ = false) ∧
    ∀ W x, Calm w W → Rr (W.setCell ⟨b, i, none⟩ (.int .i64 x)) q F c wk (L.set i x) s ∧ Touch F w (W.setCell ⟨b, i, none⟩ (.int .i64 x)) := by
  obtain ⟨lo, lc, cq, o1, f1⟩ := h.ex
  obtain ⟨b, off, rfl, ci⟩ := ints_at (Rc.Own.mem o1).2.1 i hi
  have hoff : off = 0 := ((Rc.Own.mem o1).2.2.2.2.2 _ rfl).2.1
  subst hoff
  rw [Nat.zero_add] at ci
  obtain ⟨-, cur, hcur⟩ := Rc.own_block o1 (g := b) rfl
  have fz := hd_frozen hcur i
  have hbq : ¬ b = q := fun e => by rw [e, cq] at hcur; injection hcur with hcur; injection hcur with _ e; cases e
  refine ⟨b, lc, f1 b rfl, hbq, fun W hW => ⟨(rr_cells (hW.at cq)).2.2.1, (hW.cell (p := ⟨b, i, none⟩) (lt_of_heap hcur) (fun h => h)).trans ci, hd_frozen (hW.at hcur) i⟩, fun W x T0 => ?_⟩
  have tS : Touch (fun k => k = b) W (W.setCell ⟨b, i, none⟩ (.int .i64 x)) := (Touch.refl (fun k => k = b) _).setCell (p := ⟨b, i, none⟩) (fun _ => rfl) _
  refine ⟨⟨⟨some ⟨b, 0, none⟩, lc, ?_, ?_, ?_⟩, h.at_, ?_, ?_, by rw [List.length_set]; exact h.len⟩, ?_⟩
  · rw [List.length_set]
    exact tS.heap (T0.at cq) (fun e => hbq e.symm)
  · rw [List.length_set]
    exact jn_set (Rc.Own.calm o1 T0) i _
  · rw [List.length_set]; exact f1
  · intro g hg
    have := h.lt g hg
    have := (T0.mono (S' := fun k => k = b) fun _ _ h => h.elim).size
    have := tS.size
    omega
  · intro e
    have := congrArg List.length e
    rw [List.length_set] at this
    exact h.ne (List.eq_nil_of_length_eq_zero this)
  · refine (T0.mono fun _ _ h => h.elim).trans (tS.mono fun g _ e => ?_) (fun _ _ h => h)
    rw [e]; exact f1 b rfl
/-- The number turned. -/
theorem Rr.count {w : World} {q : Nat} {F : Nat → Prop} {c : Cf} {wk s : Int} {L : List Int} (h : Rr w q F c wk L s) : (∀ W, Calm w W → W.cell? ⟨q, 12, none⟩ = some (.int .i64 s) ∧ W.frozen? ⟨q, 12, none⟩ = false) ∧
    ∀ W s', Calm w W → Rr (W.setCell ⟨q, 12, none⟩ (.int .i64 s')) q F c wk L s' ∧ Touch F w (W.setCell ⟨q, 12, none⟩ (.int .i64 s')) := by
  obtain ⟨lo, lc, cq, o1, f1⟩ := h.ex
  refine ⟨fun W hW => ⟨(rr_cells (hW.at cq)).2.2.2, hd_frozen (hW.at cq) 12⟩, fun W s' T0 => ?_⟩
  have tS : Touch (fun k => k = q) W (W.setCell ⟨q, 12, none⟩ (.int .i64 s')) := (Touch.refl (fun k => k = q) _).setCell (p := ⟨q, 12, none⟩) (fun _ => rfl) _
  refine ⟨⟨⟨lo, lc, rr_putS (T0.at cq) s', Rc.Own.touch (Rc.Own.calm o1 T0) tS (fun g hg e => jn_notR o1 cq (e ▸ hg)), f1⟩, h.at_, ?_, h.ne, h.len⟩, ?_⟩
  · intro g hg
    have := h.lt g hg
    have := (T0.mono (S' := fun k => k = q) fun _ _ h => h.elim).size
    have := tS.size
    omega
  · refine (T0.mono fun _ _ h => h.elim).trans (tS.mono fun g _ e => ?_) (fun _ _ h => h)
    rw [e]; exact h.at_

/-- The refusal of From. -/
def fromE (c : Cf) (wk : Int) (M : List Int) (s : Int) : Nat := if newE c wk ≠ 0 then newE c wk else if ((M.length : Int) ≠ c.so ∨ s < 0 ∨ 4611686018427387904 < s) ∨ ((List.range M.length).all fun i => timZ (M.getD i 0)) = false then 2 else 0
theorem newE_cases (c : Cf) (wk : Int) : (newE c wk = 4 ∧ jobB c = false) ∨ (newE c wk = 2 ∧ jobB c = true ∧ (wk < 1 ∨ c.gr < wk)) ∨ (newE c wk = 0 ∧ jobB c = true ∧ 1 ≤ wk ∧ wk ≤ c.gr) := by
  unfold newE
  cases h : jobB c with
  | false => left; simp
  | true =>
    right
    by_cases h2 : wk < 1 ∨ c.gr < wk
    · left; simp [h2]
    · right; rw [if_neg (by simp), if_neg h2]; exact ⟨rfl, rfl, by omega, by omega⟩
theorem rnewZ_no (c : Cf) (wk : Int) (w : World) (h : newE c wk ≠ 0) : Calls Tryz.prog 5 #[cfv c, .int .i64 wk] w fun e w' => e = .returned (.tuple #[.pointer none, .int .i64 (newE c wk : Nat)]) ∧ Calm w w' := by
  rcases newE_cases c wk with ⟨e, h1⟩ | ⟨e, h1, h2⟩ | ⟨e, h1⟩
  · rw [e]; exact rnewZ_job c wk w h1
  · rw [e]; exact rnewZ_arg c wk w h1 h2
  · exact absurd e h
theorem rnewZ_yes (c : Cf) (wk : Int) (w : World) (h : newE c wk = 0) : Calls Tryz.prog 5 #[cfv c, .int .i64 wk] w fun e w' => ∃ q, e = .returned (.tuple #[rp q, .int .i64 0]) ∧ w.heap.size ≤ q ∧ Rr w' q (fun g => w.heap.size ≤ g ∧ g < w'.heap.size) c wk (List.replicate c.so.toNat minT) 0 ∧ Calm w w' := by
  rcases newE_cases c wk with ⟨e, h1⟩ | ⟨e, h1, h2⟩ | ⟨e, h1, h2, h3⟩
  · rw [e] at h; cases h
  · rw [e] at h; cases h
  · exact rnewZ_ok c wk w h1 h2 h3

end Go.Proofs.YtapnjofplilefaaGreat
