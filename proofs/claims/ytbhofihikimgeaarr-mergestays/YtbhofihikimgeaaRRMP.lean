/- What Gaps makes of times: it does not hang on their order. -/
import Derived.Test.YtbhofihikimgeaaRRMQ
namespace Go.Proofs.YtbhofihikimgeaaRR

/-- One behind the other, each with a time in it. -/
def Rise (R : List Sp) : Prop := R.Pairwise (fun x y => x.b ≤ y.a) ∧ ∀ x ∈ R, x.a < x.b

theorem Rise.two {R : List Sp} (h : Rise R) {x y : Sp} (hx : x ∈ R) (hy : y ∈ R) (hne : x ≠ y) : x.b ≤ y.a ∨ y.b ≤ x.a := by
  obtain ⟨hp, -⟩ := h
  induction R with
  | nil => cases hx
  | cons z R ih =>
    rw [List.pairwise_cons] at hp
    rcases List.mem_cons.1 hx with rfl | hx'
    · rcases List.mem_cons.1 hy with rfl | hy'
      · exact absurd rfl hne
      · exact .inl (hp.1 _ hy')
    · rcases List.mem_cons.1 hy with rfl | hy'
      · exact .inr (hp.1 _ hx')
      · exact ih hx' hy' hp.2

/-- Two rising lists of the same spans are the same list. -/
theorem rise_ext : ∀ {R R' : List Sp}, Rise R → Rise R' → (∀ x, x ∈ R ↔ x ∈ R') → R = R'
  | [], [], _, _, _ => rfl
  | [], y :: R', _, _, h => absurd ((h y).2 (by simp)) (by simp)
  | x :: R, [], _, _, h => absurd ((h x).1 (by simp)) (by simp)
  | x :: R, y :: R', ⟨hp, hl⟩, ⟨hp', hl'⟩, h => by
    rw [List.pairwise_cons] at hp hp'
    have hx := hl x (by simp)
    have hy := hl' y (by simp)
    have hxy : x = y := by
      rcases List.mem_cons.1 ((h x).1 (by simp)) with e | e
      · exact e
      · rcases List.mem_cons.1 ((h y).2 (by simp)) with e' | e'
        · exact e'.symm
        · have := hp'.1 x e
          have := hp.1 y e'
          omega
    subst hxy
    have ht : ∀ z, z ∈ R ↔ z ∈ R' := fun z => by
      have hz := h z
      simp only [List.mem_cons] at hz
      constructor
      · intro hm
        rcases hz.1 (.inr hm) with rfl | e
        · have := hp.1 z hm; omega
        · exact e
      · intro hm
        rcases hz.2 (.inr hm) with rfl | e
        · have := hp'.1 z hm; omega
        · exact e
    rw [rise_ext ⟨hp.2, fun z hz => hl z (by simp [hz])⟩ ⟨hp'.2, fun z hz => hl' z (by simp [hz])⟩ ht]

theorem over_iff (x y : Sp) : over x y = true ↔ x.a < x.b ∧ y.a < y.b ∧ x.a < y.b ∧ y.a < x.b := by unfold over; simp

/-- Those that are taken in, and what becomes of the span. -/
structure Took (f : Sp → Bool) (O : List Sp) (s : Sp) (p : Sp) : Prop where
  la : p.a ≤ s.a
  lb : s.b ≤ p.b
  ina : ∀ x ∈ O, f x = true → p.a ≤ x.a
  inb : ∀ x ∈ O, f x = true → x.b ≤ p.b
  isa : p.a = s.a ∨ ∃ x ∈ O, f x = true ∧ p.a = x.a
  isb : p.b = s.b ∨ ∃ x ∈ O, f x = true ∧ p.b = x.b

theorem inM_fix (f : Sp → Bool) (O : List Sp) (s : Sp) : Took f O s (inM (fun _ x => f x) O s).1 ∧ (inM (fun _ x => f x) O s).2 = O.filter (fun x => !f x) := by
  have key : ∀ (O : List Sp) (p : Sp × List Sp), Took f O p.1 (O.foldl (fun p x => metS (f x) p x) p).1 ∧ (O.foldl (fun p x => metS (f x) p x) p).2 = p.2 ++ O.filter (fun x => !f x) := by
    intro O
    induction O with
    | nil => intro p; exact ⟨⟨Int.le_refl _, Int.le_refl _, by simp, by simp, .inl rfl, .inl rfl⟩, by simp⟩
    | cons x O ih =>
      intro p
      rw [List.foldl_cons]
      obtain ⟨⟨h1, h2, h3, h4, h5, h6⟩, h7⟩ := ih (metS (f x) p x)
      generalize O.foldl (fun p x => metS (f x) p x) (metS (f x) p x) = q at *
      cases hf : f x with
      | true =>
        rw [hf] at h1 h2 h5 h6 h7
        simp only [metS, if_true] at h1 h2 h5 h6 h7
        have H5 := hide h5
        have H6 := hide h6
        clear h5 h6 ih
        refine ⟨⟨by omega, by omega, ?_, ?_, ?_, ?_⟩, by rw [h7, List.filter_cons]; simp [hf]⟩
        · intro z hz hfz
          rcases List.mem_cons.1 hz with rfl | hz
          · omega
          · exact h3 z hz hfz
        · intro z hz hfz
          rcases List.mem_cons.1 hz with rfl | hz
          · omega
          · exact h4 z hz hfz
        · rcases H5.out with h | ⟨z, hz, hfz, e⟩
          · rcases Int.le_total p.1.a x.a with hh | hh
            · exact .inl (by omega)
            · exact .inr ⟨x, by simp, hf, by omega⟩
          · exact .inr ⟨z, by simp [hz], hfz, e⟩
        · rcases H6.out with h | ⟨z, hz, hfz, e⟩
          · rcases Int.le_total p.1.b x.b with hh | hh
            · exact .inr ⟨x, by simp, hf, by omega⟩
            · exact .inl (by omega)
          · exact .inr ⟨z, by simp [hz], hfz, e⟩
      | false =>
        rw [hf] at h1 h2 h5 h6 h7
        simp only [metS, Bool.false_eq_true, if_false] at h1 h2 h5 h6 h7
        refine ⟨⟨h1, h2, ?_, ?_, ?_, ?_⟩, by rw [h7, List.filter_cons]; simp [hf]⟩
        · intro z hz hfz
          rcases List.mem_cons.1 hz with rfl | hz
          · rw [hf] at hfz; cases hfz
          · exact h3 z hz hfz
        · intro z hz hfz
          rcases List.mem_cons.1 hz with rfl | hz
          · rw [hf] at hfz; cases hfz
          · exact h4 z hz hfz
        · rcases h5 with h | ⟨z, hz, hfz, e⟩
          · exact .inl h
          · exact .inr ⟨z, by simp [hz], hfz, e⟩
        · rcases h6 with h | ⟨z, hz, hfz, e⟩
          · exact .inl h
          · exact .inr ⟨z, by simp [hz], hfz, e⟩
  have := key O (s, [])
  simpa [inM] using this

theorem mem_putS (L : List Sp) (p x : Sp) : x ∈ putS L p ↔ x = p ∨ x ∈ L := by
  unfold putS
  have : x ∈ L ↔ x ∈ L.take (leadS L p) ∨ x ∈ L.drop (leadS L p) := by rw [← List.mem_append, List.take_append_drop]
  rw [this]
  simp only [List.mem_append, List.mem_singleton]
  constructor
  · rintro ((h | h) | h)
    · exact .inr (.inl h)
    · exact .inl h
    · exact .inr (.inr h)
  · rintro (h | h | h)
    · exact .inl (.inr h)
    · exact .inl (.inl h)
    · exact .inr h

theorem putS_cons (z : Sp) (L : List Sp) (p : Sp) : putS (z :: L) p = if z.a < p.a then z :: putS L p else p :: z :: L := by
  unfold putS leadS
  by_cases h : z.a < p.a
  · simp [h]
  · simp [h]

/-- A span that overlaps none is put among rising ones. -/
theorem Rise.put {R : List Sp} (h : Rise R) {p : Sp} (hp : p.a < p.b) (hno : ∀ x ∈ R, x.b ≤ p.a ∨ p.b ≤ x.a) : Rise (putS R p) := by
  refine ⟨?_, fun x hx => by rcases (mem_putS R p x).1 hx with rfl | hx; exact hp; exact h.2 x hx⟩
  obtain ⟨hw, hl⟩ := h
  induction R with
  | nil => simp [putS]
  | cons z R ih =>
    rw [List.pairwise_cons] at hw
    have hz := hl z (by simp)
    rw [putS_cons]
    split
    · rename_i hlt
      rw [List.pairwise_cons]
      refine ⟨fun y hy => ?_, ih (fun x hx => hno x (by simp [hx])) hw.2 (fun x hx => hl x (by simp [hx]))⟩
      rcases (mem_putS R p y).1 hy with rfl | hy
      · rcases hno z (by simp) with e | e
        · exact e
        · omega
      · exact hw.1 y hy
    · rename_i hge
      have hpz : p.b ≤ z.a := by
        rcases hno z (by simp) with e | e
        · omega
        · exact e
      rw [List.pairwise_cons]
      refine ⟨fun y hy => ?_, List.pairwise_cons.2 hw⟩
      rcases List.mem_cons.1 hy with rfl | hy
      · exact hpz
      · have := hw.1 y hy
        omega

/-- Just the sessions of these times. -/
structure Cov (l : List Int) (g : Int) (R : List Sp) : Prop where
  rise : Rise R
  all : ∀ t ∈ l, ∃ x ∈ R, x.a ≤ t ∧ t + g ≤ x.b
  fst : ∀ x ∈ R, x.a ∈ l
  lst : ∀ x ∈ R, x.b - g ∈ l
  mid : ∀ x ∈ R, ∀ q, x.a < q → q < x.b → ∃ t ∈ l, t < q ∧ q < t + g

theorem Cov.sub {l l' : List Int} {g : Int} (hg : 0 < g) {R R' : List Sp} (h : Cov l g R) (h' : Cov l' g R') (hl : ∀ t, t ∈ l ↔ t ∈ l') : ∀ x ∈ R, x ∈ R' := fun x hx => by
  have hxl := h.rise.2 x hx
  obtain ⟨x', hx', h1, h2⟩ := h'.all x.a ((hl _).1 (h.fst x hx))
  have hxl' := h'.rise.2 x' hx'
  have ea : x'.a = x.a := by
    refine Int.le_antisymm h1 (Int.not_lt.1 fun hlt => ?_)
    obtain ⟨t, ht, q1, q2⟩ := h'.mid x' hx' x.a hlt (by omega)
    obtain ⟨y, hy, r1, r2⟩ := h.all t ((hl _).2 ht)
    have hne : x ≠ y := fun e => by subst e; omega
    rcases h.rise.two hx hy hne with e | e <;> omega
  have eb : x'.b = x.b := by
    refine Int.le_antisymm (Int.not_lt.1 fun hlt => ?_) (Int.not_lt.1 fun hlt => ?_)
    · obtain ⟨t, ht, q1, q2⟩ := h'.mid x' hx' x.b (by omega) hlt
      obtain ⟨y, hy, r1, r2⟩ := h.all t ((hl _).2 ht)
      have hne : x ≠ y := fun e => by subst e; omega
      rcases h.rise.two hx hy hne with e | e <;> omega
    · obtain ⟨t, ht, q1, q2⟩ := h.mid x hx x'.b (by omega) hlt
      obtain ⟨y, hy, r1, r2⟩ := h'.all t ((hl _).1 ht)
      have hne : x' ≠ y := fun e => by subst e; omega
      rcases h'.rise.two hx' hy hne with e | e <;> omega
  have : x' = x := by cases x; cases x'; simp at ea eb; subst ea eb; rfl
  rw [← this]; exact hx'

theorem Cov.same {l l' : List Int} {g : Int} (hg : 0 < g) {R R' : List Sp} (h : Cov l g R) (h' : Cov l' g R') (hl : ∀ t, t ∈ l ↔ t ∈ l') : R = R' :=
  rise_ext h.rise h'.rise fun x => ⟨Cov.sub hg h h' hl x, Cov.sub hg h' h (fun t => (hl t).symm) x⟩

/-- What a span takes in leaves the others apart. -/
theorem took_apart {R : List Sp} (h : Rise R) {s p : Sp} (hs : s.a < s.b) (tk : Took (fun x => over x s) R s p) : ∀ x ∈ R, over x s = false → x.b ≤ p.a ∨ p.b ≤ x.a := fun x hx hf => by
  have hxl := h.2 x hx
  have hno : x.b ≤ s.a ∨ s.b ≤ x.a := by
    by_cases h1 : x.b ≤ s.a
    · exact .inl h1
    · by_cases h2 : s.b ≤ x.a
      · exact .inr h2
      · have := (over_iff x s).2 ⟨hxl, hs, by omega, by omega⟩
        rw [hf] at this; cases this
  rcases hno with h1 | h1
  · left
    rcases tk.isa with e | ⟨y, hy, ho, e⟩
    · omega
    · obtain ⟨o1, o2, o3, o4⟩ := (over_iff y s).1 ho
      have hne : x ≠ y := fun e => by subst e; rw [hf] at ho; cases ho
      rcases h.two hx hy hne with e' | e' <;> omega
  · right
    rcases tk.isb with e | ⟨y, hy, ho, e⟩
    · omega
    · obtain ⟨o1, o2, o3, o4⟩ := (over_iff y s).1 ho
      have hne : x ≠ y := fun e => by subst e; rw [hf] at ho; cases ho
      rcases h.two hx hy hne with e' | e' <;> omega

theorem Rise.filter {R : List Sp} (h : Rise R) (f : Sp → Bool) : Rise (R.filter f) := ⟨h.1.filter f, fun x hx => h.2 x (List.mem_filter.1 hx).1⟩

theorem Cov.next {l : List Int} {g : Int} {R : List Sp} (hg : 0 < g) (h : Cov l g R) (t : Int) : Cov (l ++ [t]) g (oneG g R t) := by
  obtain ⟨tk, e2⟩ := inM_fix (fun x => over x ⟨t, t + g⟩) R ⟨t, t + g⟩
  have hone : oneG g R t = putS (R.filter fun x => !over x ⟨t, t + g⟩) (inM (fun _ x => over x ⟨t, t + g⟩) R ⟨t, t + g⟩).1 := by unfold oneG oneM; rw [e2]
  rw [hone]
  generalize (inM (fun _ x => over x ⟨t, t + g⟩) R ⟨t, t + g⟩).1 = p at *
  have hs : (⟨t, t + g⟩ : Sp).a < (⟨t, t + g⟩ : Sp).b := by show t < t + g; omega
  have hap := took_apart h.rise hs tk
  obtain ⟨l1, l2, i1, i2, s1, s2⟩ := tk
  simp only at l1 l2 i1 i2 s1 s2
  have hmem : ∀ x, x ∈ putS (R.filter fun x => !over x ⟨t, t + g⟩) p ↔ x = p ∨ (x ∈ R ∧ over x ⟨t, t + g⟩ = false) := fun x => by rw [mem_putS, List.mem_filter]; simp
  refine ⟨(h.rise.filter _).put (by omega) (fun x hx => ?_), ?_, ?_, ?_, ?_⟩
  · obtain ⟨h1, h2⟩ := List.mem_filter.1 hx
    exact hap x h1 (by simpa using h2)
  · intro u hu
    rcases List.mem_append.1 hu with hu | hu
    · obtain ⟨x, hx, r1, r2⟩ := h.all u hu
      cases ho : over x ⟨t, t + g⟩ with
      | false => exact ⟨x, (hmem x).2 (.inr ⟨hx, ho⟩), r1, r2⟩
      | true =>
        have := i1 x hx ho
        have := i2 x hx ho
        exact ⟨p, (hmem p).2 (.inl rfl), by omega, by omega⟩
    · obtain rfl : u = t := by simpa using hu
      exact ⟨p, (hmem p).2 (.inl rfl), by omega, by omega⟩
  · intro x hx
    rcases (hmem x).1 hx with rfl | ⟨hx, -⟩
    · rcases s1 with e | ⟨y, hy, -, e⟩
      · rw [e]; simp
      · rw [e]; simp [h.fst y hy]
    · simp [h.fst x hx]
  · intro x hx
    rcases (hmem x).1 hx with rfl | ⟨hx, -⟩
    · rcases s2 with e | ⟨y, hy, -, e⟩
      · rw [e]; simp [show t + g - g = t by omega]
      · rw [e]; simp [h.lst y hy]
    · simp [h.lst x hx]
  · intro x hx q q1 q2
    rcases (hmem x).1 hx with rfl | ⟨hx, -⟩
    · by_cases c1 : t < q
      · by_cases c2 : q < t + g
        · exact ⟨t, by simp, c1, c2⟩
        · rcases s2 with e | ⟨y, hy, ho, e⟩
          · omega
          · obtain ⟨o1, o2, o3, o4⟩ := (over_iff _ _).1 ho
            simp only at o2 o3 o4
            obtain ⟨u, hu, r⟩ := h.mid y hy q (by omega) (by omega)
            exact ⟨u, by simp [hu], r⟩
      · rcases s1 with e | ⟨y, hy, ho, e⟩
        · omega
        · obtain ⟨o1, o2, o3, o4⟩ := (over_iff _ _).1 ho
          simp only at o2 o3 o4
          obtain ⟨u, hu, r⟩ := h.mid y hy q (by omega) (by omega)
          exact ⟨u, by simp [hu], r⟩
    · obtain ⟨u, hu, r⟩ := h.mid x hx q q1 q2
      exact ⟨u, by simp [hu], r⟩

theorem cov_gaps (g : Int) (hg : 0 < g) (l : List Int) : Cov l g (gapsS l g) := by
  have key : ∀ (l l0 : List Int) (R : List Sp), Cov l0 g R → Cov (l0 ++ l) g (l.foldl (oneG g) R) := by
    intro l
    induction l with
    | nil => intro l0 R h; simpa using h
    | cons t l ih =>
      intro l0 R h
      have := ih (l0 ++ [t]) (oneG g R t) (h.next hg t)
      simpa using this
  have := key l [] [] ⟨⟨List.Pairwise.nil, by simp⟩, by simp, by simp, by simp, by simp⟩
  simpa [gapsS] using this

/-- The order of the times, and how often each is there, is nothing to Gaps. -/
theorem gaps_same {g : Int} (hg : 0 < g) {l l' : List Int} (h : ∀ t, t ∈ l ↔ t ∈ l') : gapsS l g = gapsS l' g := Cov.same hg (cov_gaps g hg l) (cov_gaps g hg l') h

end Go.Proofs.YtbhofihikimgeaaRR
