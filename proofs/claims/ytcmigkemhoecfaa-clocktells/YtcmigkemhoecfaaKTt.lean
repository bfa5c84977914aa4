/- Three clocks of the program's, apart. -/
import Derived.Test.YtcmigkemhoecfaaKTm
import Derived.Test.YtcmigkemhoecfaaKN
namespace Go.Proofs.Ytcmigkemhoecfaa
open Go.RowKit

structure Ck where
  q : Nat
  L : List Int
  H : List Hd
def Tre (Pk : World → Nat → (Nat → Prop) → List Int → List Hd → Prop) (w : World) (F : Nat → Prop) (a b c : Ck) (W : World) : Prop := ∃ A B C : Nat → Prop, Calm w W ∧ Pk W a.q A a.L a.H ∧ Pk W b.q B b.L b.H ∧ Pk W c.q C c.L c.H ∧ (∀ g, A g → ¬ B g ∧ ¬ C g) ∧ (∀ g, B g → ¬ C g) ∧ (∀ g, A g ∨ B g ∨ C g → w.heap.size ≤ g ∧ ¬ F g) ∧ ∀ g, F g → g < W.heap.size

section
variable {Pk : World → Nat → (Nat → Prop) → List Int → List Hd → Prop}

theorem Tre.rot {a b c : Ck} {w W : World} {F : Nat → Prop} (h : Tre Pk w F a b c W) : Tre Pk w F b c a W := by
  obtain ⟨A, B, C, h1, h2, h3, h4, h5, h6, h7, h8⟩ := h
  exact ⟨B, C, A, h1, h3, h4, h2, fun g hb => ⟨h6 g hb, fun ha => (h5 g ha).1 hb⟩, fun g hc ha => (h5 g ha).2 hc, fun g hg => h7 g (by rcases hg with hg | hg | hg <;> simp [hg]), h8⟩
theorem Tre.calm {a b c : Ck} {w W : World} {F : Nat → Prop} (h : Tre Pk w F a b c W) : Calm w W := by
  obtain ⟨A, B, C, h1, -⟩ := h
  exact h1
theorem Tre.still (I : Pki Pk) {W' : World} {a b c : Ck} {w W : World} {F : Nat → Prop} (h : Tre Pk w F a b c W) (t : Calm W W') : Tre Pk w F a b c W' := by
  obtain ⟨A, B, C, h1, h2, h3, h4, h5, h6, h7, h8⟩ := h
  exact ⟨A, B, C, h1.tr t, I.calm h2 t, I.calm h3 t, I.calm h4 t, h5, h6, h7, fun g hg => Nat.lt_of_lt_of_le (h8 g hg) t.size⟩
theorem Tre.frame (I : Pki Pk) {W' : World} {F' : Nat → Prop} {a b c : Ck} {w W : World} {F : Nat → Prop} (h : Tre Pk w F a b c W) (t : Calm W W') (hF : ∀ g, F' g → F g ∨ (W.heap.size ≤ g ∧ g < W'.heap.size)) : Tre Pk w F' a b c W' := by
  obtain ⟨A, B, C, h1, h2, h3, h4, h5, h6, h7, h8⟩ := h
  refine ⟨A, B, C, h1.tr t, I.calm h2 t, I.calm h3 t, I.calm h4 t, h5, h6, fun g hg => ⟨(h7 g hg).1, fun hf => ?_⟩, fun g hg => (hF g hg).elim (fun hf => Nat.lt_of_lt_of_le (h8 g hf) t.size) fun h => h.2⟩
  rcases hF g hf with hf | h9
  · exact (h7 g hg).2 hf
  · rcases hg with hg | hg | hg
    · have := I.lt h2 g hg; omega
    · have := I.lt h3 g hg; omega
    · have := I.lt h4 g hg; omega
theorem Tre.drop {a b c : Ck} {w W : World} {F : Nat → Prop} (h : Tre Pk w F a b c W) : Tre Pk w (fun _ => False) a b c W := by
  obtain ⟨A, B, C, h1, h2, h3, h4, h5, h6, h7, h8⟩ := h
  exact ⟨A, B, C, h1, h2, h3, h4, h5, h6, fun g hg => ⟨(h7 g hg).1, fun h => h⟩, fun _ h => h.elim⟩
theorem Tre.len (I : Pki Pk) {a b c : Ck} {w W : World} {F : Nat → Prop} (h : Tre Pk w F a b c W) : a.L.length ≤ 64 := by
  obtain ⟨A, B, C, h1, h2, -⟩ := h
  exact I.len h2
theorem Tre.upd (I : Pki Pk) {a b c : Ck} {w W W' : World} {F A A' B C : Nat → Prop} {L' : List Int} {H' : List Hd} (h1 : Calm w W) (_h2 : Pk W a.q A a.L a.H) (h3 : Pk W b.q B b.L b.H) (h4 : Pk W c.q C c.L c.H) (h5 : ∀ g, A g → ¬ B g ∧ ¬ C g) (h6 : ∀ g, B g → ¬ C g) (h7 : ∀ g, A g ∨ B g ∨ C g → w.heap.size ≤ g ∧ ¬ F g) (h8 : ∀ g, F g → g < W.heap.size) (t : Touch A W W') (p : Pk W' a.q A' L' H') (sub : ∀ g, A' g → A g ∨ W.heap.size ≤ g) : Tre Pk w F ⟨a.q, L', H'⟩ b c W' ∧ Touch (fun g => ¬ F g) W W' := by
  have sz := h1.size
  refine ⟨⟨A', B, C, h1.trans t (fun g hg ha => by have := (h7 g (.inl ha)).1; omega), p, I.touch h3 t (fun g hb ha => (h5 g ha).1 hb), I.touch h4 t (fun g hc ha => (h5 g ha).2 hc), fun g ha => ?_, h6, fun g hg => ?_, fun g hg => Nat.lt_of_lt_of_le (h8 g hg) t.size⟩, t.mono fun g _ ha => (h7 g (.inl ha)).2⟩
  · rcases sub g ha with ha | ha
    · exact h5 g ha
    · exact ⟨fun hb => by have := I.lt h3 g hb; omega, fun hc => by have := I.lt h4 g hc; omega⟩
  · rcases hg with ha | hg
    · rcases sub g ha with ha | ha
      · exact h7 g (.inl ha)
      · exact ⟨by omega, fun hf => by have := h8 g hf; omega⟩
    · exact h7 g (.inr hg)
theorem Tre.set (I : Pki Pk) {a b c : Ck} {w W : World} {F : Nat → Prop} (h : Tre Pk w F a b c W) (s t : Int) : Calls Try.prog 27 #[cp a.q, .int .i64 s, .int .i64 t] W fun e w' => (∃ v, e = .returned v) ∧ Tre Pk w F ⟨a.q, setL a.L s t, a.H⟩ b c w' ∧ Touch (fun g => ¬ F g) W w' := by
  obtain ⟨A, B, C, h1, h2, h3, h4, h5, h6, h7, h8⟩ := h
  cases hb : setB a.L s t with
  | false =>
    refine (I.set_bad s t h2 hb).mono fun e w' hh => ⟨⟨_, hh.1⟩, ?_⟩
    unfold setL
    rw [hb]
    exact ⟨⟨A, B, C, h1.tr hh.2, I.calm h2 hh.2, I.calm h3 hh.2, I.calm h4 hh.2, h5, h6, h7, fun g hg => Nat.lt_of_lt_of_le (h8 g hg) hh.2.size⟩, hh.2.mono fun _ _ h => h.elim⟩
  | true =>
    have e : setL a.L s t = a.L.set s.toNat (max (a.L.getD s.toNat 0) t) := by unfold setL; rw [hb]; rfl
    rw [e]
    unfold setB at hb
    simp only [Bool.and_eq_true, decide_eq_true_eq] at hb
    obtain ⟨i, rfl⟩ : ∃ i : Nat, s = (i : Int) := ⟨s.toNat, by omega⟩
    refine (I.set_ok i t h2 (by omega) hb.2.2).mono fun e w' ⟨ha, ht, G', hp, sub⟩ => ⟨⟨_, ha⟩, ?_⟩
    exact Tre.upd I h1 h2 h3 h4 h5 h6 h7 h8 ht hp sub
theorem Tre.hold (I : Pki Pk) {a b c : Ck} {w W : World} {F : Nat → Prop} (h : Tre Pk w F a b c W) (x : ByteArray) (t : Int) (hl : a.H.length ≤ capH) (hx : x.size ≤ 140737488351232) : Calls Try.prog 21 #[cp a.q, .string x, .int .i64 t] W fun e w' => (∃ v, e = .returned v) ∧ Tre Pk w F ⟨a.q, a.L, holdL a.H x t⟩ b c w' ∧ Touch (fun g => ¬ F g) W w' := by
  obtain ⟨A, B, C, h1, h2, h3, h4, h5, h6, h7, h8⟩ := h
  cases hb : timC t with
  | false =>
    refine (I.hold_bad x t h2 hb).mono fun e w' hh => ⟨⟨_, hh.1⟩, ?_⟩
    unfold holdL
    rw [hb]
    exact ⟨⟨A, B, C, h1.tr hh.2, I.calm h2 hh.2, I.calm h3 hh.2, I.calm h4 hh.2, h5, h6, h7, fun g hg => Nat.lt_of_lt_of_le (h8 g hg) hh.2.size⟩, hh.2.mono fun _ _ h => h.elim⟩
  | true =>
    have e : holdL a.H x t = holdH a.H x t := by unfold holdL; rw [hb]; rfl
    rw [e]
    exact (I.hold_ok x t h2 hb hl hx).mono fun e w' ⟨ha, ht, G', hp, sub⟩ => ⟨⟨_, ha⟩, Tre.upd I h1 h2 h3 h4 h5 h6 h7 h8 ht hp sub⟩
theorem Tre.free (I : Pki Pk) {a b c : Ck} {w W : World} {F : Nat → Prop} (h : Tre Pk w F a b c W) (x : ByteArray) (hl : a.H.length ≤ capH) (hx : x.size ≤ 140737488351232) : Calls Try.prog 28 #[cp a.q, .string x] W fun e w' => e = .returned (.bool (hasH a.H x)) ∧ Tre Pk w F ⟨a.q, a.L, freeH a.H x⟩ b c w' ∧ Touch (fun g => ¬ F g) W w' := by
  obtain ⟨A, B, C, h1, h2, h3, h4, h5, h6, h7, h8⟩ := h
  exact (I.free x h2 hl hx).mono fun e w' ⟨ha, ht, G', hp, sub⟩ => ⟨ha, Tre.upd I h1 h2 h3 h4 h5 h6 h7 h8 ht hp sub⟩
theorem Tre.mark (I : Pki Pk) {a b c : Ck} {w W : World} {F : Nat → Prop} (h : Tre Pk w F a b c W) : Calls Try.prog 24 #[cp a.q] W fun e w' => e = .returned (.int .i64 (mkN a.L)) ∧ Calm W w' := by
  obtain ⟨A, B, C, h1, h2, -⟩ := h
  exact I.mark h2
theorem Tre.out (I : Pki Pk) {a b c : Ck} {w W : World} {F : Nat → Prop} (h : Tre Pk w F a b c W) (hl : a.H.length ≤ capH) : Calls Try.prog 25 #[cp a.q] W fun e w' => e = .returned (.int .i64 (outN a.L a.H)) ∧ Calm W w' := by
  obtain ⟨A, B, C, h1, h2, -⟩ := h
  exact I.out h2 hl
theorem Tre.marks (I : Pki Pk) {a b c : Ck} {w W : World} {F : Nat → Prop} (h : Tre Pk w F a b c W) : Calls Try.prog 26 #[cp a.q] W fun e w' => ∃ m n, e = .returned (.slice m a.L.length n) ∧ encJ.Own 2 w' W.heap.size (.slice m a.L.length n) a.L ∧ Calm W w' := by
  obtain ⟨A, B, C, h1, h2, -⟩ := h
  exact (I.marks h2).mono fun e w' ⟨m, n, e1, o, t⟩ => ⟨m, n, e1, o, t⟩
theorem Tre.start (I : Pki Pk) {w w1 w2 w3 : World} {q1 q2 q3 : Nat} {L : List Int} (p1 : Pk w1 q1 (fun g => w.heap.size ≤ g ∧ g < w1.heap.size) L []) (t1 : Calm w w1) (p2 : Pk w2 q2 (fun g => w1.heap.size ≤ g ∧ g < w2.heap.size) L []) (t2 : Calm w1 w2) (p3 : Pk w3 q3 (fun g => w2.heap.size ≤ g ∧ g < w3.heap.size) L []) (t3 : Calm w2 w3) : Tre Pk w (fun _ => False) ⟨q1, L, []⟩ ⟨q2, L, []⟩ ⟨q3, L, []⟩ w3 := by
  have s1 := t1.size
  have s2 := t2.size
  refine ⟨_, _, _, (t1.tr t2).tr t3, I.calm (I.calm p1 t2) t3, I.calm p2 t3, p3, fun g ha => ⟨fun hb => ?_, fun hc => ?_⟩, fun g hb hc => ?_, fun g hg => ?_, fun _ h => h.elim⟩
  · have := ha.2; have := hb.1; omega
  · have := ha.2; have := hc.1; omega
  · have := hb.2; have := hc.1; omega
  · refine ⟨?_, fun h => h⟩
    rcases hg with hg | hg | hg
    · exact hg.1
    · have := hg.1; omega
    · have := hg.1; omega

end
end Go.Proofs.Ytcmigkemhoecfaa
