/- A hold on both clocks of a pair: the two answers are one. -/
import Derived.Test.YtcmigkemhoecfaaKMm
namespace Go.Proofs.Ytcmigkemhoecfaa
open Go.RowKit

section
variable {Pk : World → Nat → (Nat → Prop) → List Int → List Hd → Prop}

theorem hold_two (I : Pki Pk) {W : World} {n : Nat} {p : Pr} (x : ByteArray) (t : Int) (h : okO Pk n W (some p)) (hl : n ≤ capH) (hx : x.size ≤ 140737488351232) : ∃ e : Int, Calls Try.prog 21 #[cp p.q, .string x, .int .i64 t] W fun r w' => r = .returned (.int .i64 e) ∧ Touch (fpO (some p)) W w' ∧
    (∀ V, Calm w' V → Calls Try.prog 22 #[cp p.r, .string x, .int .i64 t] V fun r w'' => r = .returned (.int .i64 e) ∧ Touch (fpO (some p)) W w'' ∧ ∃ p', okO Pk (n + 1) w'' (some p') ∧ cvO (some p') = cvO (some p) ∧ rvO (some p') = rvO (some p) ∧ ∀ g, fpO (some p') g → fpO (some p) g ∨ W.heap.size ≤ g) := by
  obtain ⟨hW, hn⟩ := h
  have hc : p.H.length ≤ capH := Nat.le_trans hn hl
  have hc2 : p.H.length ≤ 4600000000000 := hc
  have END : ∀ {w'' : World}, After Pk W p.q p.r p.G p.F p.H.length w'' → Touch (fpO (some p)) W w'' ∧ ∃ p', okO Pk (n + 1) w'' (some p') ∧ cvO (some p') = cvO (some p) ∧ rvO (some p') = rvO (some p) ∧ ∀ g, fpO (some p') g → fpO (some p) g ∨ W.heap.size ≤ g := by
    rintro w'' ⟨t, G', F', L', H', h2, h3, h4⟩
    exact ⟨t, ⟨p.q, p.r, G', F', L', H'⟩, ⟨h2, by show H'.length ≤ n + 1; omega⟩, rfl, rfl, h4⟩
  cases hb : timC t with
  | false =>
    refine ⟨2, (I.hold_bad x t hW.p hb).mono ?_⟩
    rintro r w1 ⟨rfl, t1⟩
    refine ⟨rfl, t1.mono fun _ _ h => h.elim, fun V hV => ?_⟩
    refine (rhold_bad p.r x t hb V).mono ?_
    rintro r w2 ⟨rfl, rfl⟩
    exact ⟨rfl, END (after_calm I hW (t1.tr hV))⟩
  | true =>
    refine ⟨0, (I.hold_ok x t hW.p hb hc hx).mono ?_⟩
    rintro r w1 ⟨rfl, t1, G', p1, g1⟩
    refine ⟨rfl, t1.mono fun _ _ h => .inl h, fun V hV => ?_⟩
    have r1 := (hW.r.touch t1 fun g hf hg => hW.ap g hg hf).calm hV
    refine (rhold_ok p.r p.F p.L p.H x t V r1 hb (by omega)).mono ?_
    rintro r w2 ⟨rfl, t2, F', r2, g2⟩
    exact ⟨rfl, END (after_two I hW (t1.trans (hV.mono fun _ _ h => h.elim) (fun _ _ h => h)) (I.calm p1 hV) g1 t2 r2 g2 (hold_len p.H x t))⟩

end
end Go.Proofs.Ytcmigkemhoecfaa
