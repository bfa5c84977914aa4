/- Heaps of timers, as lists. No memory. -/
import Derived.Test.YtlnblhajcbmmkaaTOrd
namespace Go.Proofs.Ytlnblhajcbmmkaa

/-- No timer. -/
def tm0 : Tm := ⟨0, { data := #[] }, 0, 0⟩

/-- The timer at a place. -/
def nth (V : List Tm) (i : Nat) : Tm := V.getD i tm0

theorem nth_eq {V : List Tm} {i : Nat} (h : i < V.length) : nth V i = V[i] := by simp [nth, h]
theorem nth_some {V : List Tm} {i : Nat} (h : i < V.length) : V[i]? = some (nth V i) := by simp [nth, h]
theorem nth_set {V : List Tm} {p : Nat} {t : Tm} (hp : p < V.length) (i : Nat) : nth (V.set p t) i = if i = p then t else nth V i := by
  simp only [nth, List.getD_eq_getElem?_getD, List.getElem?_set]
  by_cases h : p = i
  · subst h; simp [hp]
  · simp [h, Ne.symm h]
theorem nth_set_same {V : List Tm} {p : Nat} {t : Tm} (hp : p < V.length) : nth (V.set p t) p = t := by rw [nth_set hp, if_pos rfl]
theorem nth_set_other {V : List Tm} {p i : Nat} {t : Tm} (h : i ≠ p) : nth (V.set p t) i = nth V i := by
  simp only [nth, List.getD_eq_getElem?_getD, List.getElem?_set]
  simp [Ne.symm h]
theorem mem_nth {V : List Tm} {x : Tm} : x ∈ V ↔ ∃ i, i < V.length ∧ nth V i = x := by
  constructor
  · intro h
    obtain ⟨i, hi, e⟩ := List.mem_iff_getElem.1 h
    exact ⟨i, hi, by rw [nth_eq hi]; exact e⟩
  · rintro ⟨i, hi, e⟩
    rw [nth_eq hi] at e
    exact e ▸ List.getElem_mem hi

/-- Each once. -/
def Nd (V : List Tm) : Prop := ∀ i j, i < V.length → j < V.length → nth V i = nth V j → i = j

theorem Nd.nodup {V : List Tm} (h : Nd V) : V.Nodup := by
  rw [List.Nodup, List.pairwise_iff_getElem]
  intro i j hi hj hij e
  have := h i j hi hj (by rw [nth_eq hi, nth_eq hj]; exact e)
  omega

theorem Nd.of_nodup {V : List Tm} (h : V.Nodup) : Nd V := by
  intro i j hi hj e
  rw [nth_eq hi, nth_eq hj] at e
  rw [List.Nodup, List.pairwise_iff_getElem] at h
  rcases Nat.lt_trichotomy i j with h1 | h1 | h1
  · exact absurd e (h i j hi hj h1)
  · exact h1
  · exact absurd e.symm (h j i hj hi h1)

theorem sub_len : ∀ {A B : List Tm}, A.Nodup → (∀ x, x ∈ A → x ∈ B) → A.length ≤ B.length
  | [], _, _, _ => Nat.zero_le _
  | a :: A, B, hn, hs => by
    rw [List.nodup_cons] at hn
    have ha := hs a (by simp)
    have h1 := List.length_erase_of_mem ha
    have h2 := List.length_pos_of_mem ha
    have := sub_len (A := A) (B := B.erase a) hn.2 (fun x hx => (List.mem_erase_of_ne (fun (e : x = a) => hn.1 (e ▸ hx))).2 (hs x (by simp [hx])))
    simp only [List.length_cons]
    omega

theorem same_len {A B : List Tm} (ha : A.Nodup) (hb : B.Nodup) (h : ∀ x, x ∈ A ↔ x ∈ B) : A.length = B.length :=
  Nat.le_antisymm (sub_len ha fun x hx => (h x).1 hx) (sub_len hb fun x hx => (h x).2 hx)

/-- The order of a heap. -/
def Hord (V : List Tm) : Prop := ∀ i, 0 < i → i < V.length → cmpT (nth V (((i - 1) / 2))) (nth V i) < 0

/-- Around p the one above comes ahead of those below. -/
def Gord (V : List Tm) (p : Nat) : Prop := ∀ c, 0 < c → c < V.length → ((c - 1) / 2) = p → 0 < p → cmpT (nth V (((p - 1) / 2))) (nth V c) < 0

/-- The order, but between p and the one above it. -/
def Rord (V : List Tm) (p : Nat) : Prop := (∀ i, 0 < i → i < V.length → i ≠ p → cmpT (nth V (((i - 1) / 2))) (nth V i) < 0) ∧ Gord V p

/-- The order, but at p. -/
def Sord (V : List Tm) (p : Nat) : Prop := (∀ i, 0 < i → i < V.length → i ≠ p → ((i - 1) / 2) ≠ p → cmpT (nth V (((i - 1) / 2))) (nth V i) < 0) ∧ Gord V p

theorem clt {a b c : Tm} (h1 : cmpT a b < 0) (h2 : cmpT b c < 0) : cmpT a c < 0 := cmpT_ord.lt_le h1 (by omega)

/-- Of two that are not the same one comes ahead. -/
theorem cgt {a b : Tm} (h : ¬ cmpT a b < 0) (hn : a ≠ b) : cmpT b a < 0 := by
  have h1 := cmpT_ord.anti a b
  have h2 : cmpT a b ≠ 0 := fun e => hn (cmpT_eq.1 e)
  omega

section
variable {R : List Tm} {p q : Nat} {t : Tm}

/-- What stands where, behind a swap. -/
theorem nth_swap (hp : p < R.length) (hq : q < R.length) (i : Nat) : nth ((R.set p (nth R q)).set q t) i = if i = q then t else if i = p then nth R q else nth R i := by
  rw [nth_set (by simpa using hq), nth_set hp]

theorem swap_nd (hp : p < R.length) (hq : q < R.length) (hpq : p ≠ q) (h : Nd (R.set p t)) : Nd ((R.set p (nth R q)).set q t) := by
  intro i j hi hj e
  simp only [List.length_set] at hi hj
  rw [nth_swap hp hq, nth_swap hp hq] at e
  have h' : ∀ i j, i < R.length → j < R.length → (if i = p then t else nth R i) = (if j = p then t else nth R j) → i = j := fun i j hi hj e => h i j (by simpa using hi) (by simpa using hj) (by rw [nth_set hp, nth_set hp]; exact e)
  by_cases iq : i = q
  · by_cases jq : j = q
    · omega
    · rw [if_pos iq, if_neg jq] at e
      by_cases jp : j = p
      · rw [if_pos jp] at e
        have := h' p q hp hq (by rw [if_pos rfl, if_neg (Ne.symm hpq)]; exact e)
        omega
      · rw [if_neg jp] at e
        have := h' p j hp hj (by rw [if_pos rfl, if_neg jp]; exact e)
        omega
  · rw [if_neg iq] at e
    by_cases jq : j = q
    · rw [if_pos jq] at e
      by_cases ip : i = p
      · rw [if_pos ip] at e
        have := h' p q hp hq (by rw [if_pos rfl, if_neg (Ne.symm hpq)]; exact e.symm)
        omega
      · rw [if_neg ip] at e
        have := h' p i hp hi (by rw [if_pos rfl, if_neg ip]; exact e.symm)
        omega
    · rw [if_neg jq] at e
      by_cases ip : i = p
      · by_cases jp : j = p
        · omega
        · rw [if_pos ip, if_neg jp] at e
          have := h' q j hq hj (by rw [if_neg (Ne.symm hpq), if_neg jp]; exact e)
          omega
      · by_cases jp : j = p
        · rw [if_neg ip, if_pos jp] at e
          have := h' i q hi hq (by rw [if_neg ip, if_neg (Ne.symm hpq)]; exact e)
          omega
        · rw [if_neg ip, if_neg jp] at e
          exact h' i j hi hj (by rw [if_neg ip, if_neg jp]; exact e)

theorem swap_mem (hp : p < R.length) (hq : q < R.length) (hpq : p ≠ q) (x : Tm) : x ∈ (R.set p (nth R q)).set q t ↔ x ∈ R.set p t := by
  rw [mem_nth, mem_nth]
  simp only [List.length_set]
  constructor
  · rintro ⟨i, hi, e⟩
    rw [nth_swap hp hq] at e
    by_cases iq : i = q
    · rw [if_pos iq] at e
      exact ⟨p, hp, by rw [nth_set_same hp]; exact e⟩
    · rw [if_neg iq] at e
      by_cases ip : i = p
      · rw [if_pos ip] at e
        exact ⟨q, hq, by rw [nth_set_other (Ne.symm hpq)]; exact e⟩
      · rw [if_neg ip] at e
        exact ⟨i, hi, by rw [nth_set_other ip]; exact e⟩
  · rintro ⟨i, hi, e⟩
    rw [nth_set hp] at e
    by_cases ip : i = p
    · rw [if_pos ip] at e
      exact ⟨q, hq, by rw [nth_swap hp hq, if_pos rfl]; exact e⟩
    · rw [if_neg ip] at e
      by_cases iq : i = q
      · exact ⟨p, hp, by rw [nth_swap hp hq, if_neg hpq, if_pos rfl, ← iq]; exact e⟩
      · exact ⟨i, hi, by rw [nth_swap hp hq, if_neg iq, if_neg ip]; exact e⟩

/-- A step up. -/
theorem rise_step (hp : p < R.length) (h0 : 0 < p) (h : Rord (R.set p t) p) (hlt : cmpT t (nth R (((p - 1) / 2))) < 0) : Rord ((R.set p (nth R (((p - 1) / 2)))).set (((p - 1) / 2)) t) (((p - 1) / 2)) := by
  obtain ⟨h1, h2⟩ := h
  have hq : ((p - 1) / 2) < R.length := by omega
  have hqp : ((p - 1) / 2) ≠ p := by omega
  have n0 : ∀ i, nth (R.set p t) i = if i = p then t else nth R i := nth_set hp
  have n1 : ∀ i, nth ((R.set p (nth R (((p - 1) / 2)))).set (((p - 1) / 2)) t) i = if i = ((p - 1) / 2) then t else if i = p then nth R (((p - 1) / 2)) else nth R i := nth_swap hp hq
  have h1' : ∀ i, 0 < i → i < R.length → i ≠ p → cmpT (if ((i - 1) / 2) = p then t else nth R (((i - 1) / 2))) (nth R i) < 0 := fun i hi hl hn => by
    have := h1 i hi (by simpa using hl) hn
    rw [n0, n0, if_neg hn] at this; exact this
  have h2' : ∀ c, 0 < c → c < R.length → ((c - 1) / 2) = p → cmpT (nth R (((p - 1) / 2))) (nth R c) < 0 := fun c hc hl e => by
    have := h2 c hc (by simpa using hl) e h0
    rw [n0, n0, if_neg hqp, if_neg (by omega)] at this; exact this
  refine ⟨fun i hi hl hn => ?_, fun c hc hl e hq0 => ?_⟩
  · simp only [List.length_set] at hl
    rw [n1, n1, if_neg hn]
    by_cases ip : i = p
    · rw [if_pos ip, ip, if_pos rfl]; exact hlt
    · rw [if_neg ip]
      by_cases e1 : ((i - 1) / 2) = ((p - 1) / 2)
      · rw [if_pos e1]
        have := h1' i hi hl ip
        rw [if_neg (by omega), e1] at this
        exact clt hlt this
      · rw [if_neg e1]
        by_cases e2 : ((i - 1) / 2) = p
        · rw [if_pos e2]; exact h2' i hi hl e2
        · rw [if_neg e2]
          have := h1' i hi hl ip
          rwa [if_neg e2] at this
  · simp only [List.length_set] at hl
    rw [n1, n1, if_neg (by omega), if_neg (by omega), if_neg (by omega)]
    have hg := h1' (((p - 1) / 2)) hq0 hq hqp
    rw [if_neg (by omega)] at hg
    by_cases cp : c = p
    · rw [if_pos cp]; exact hg
    · rw [if_neg cp]
      have := h1' c hc hl cp
      rw [if_neg (by omega), e] at this
      exact clt hg this

theorem rise_done {V : List Tm} (h : Rord V p) (hd : p = 0 ∨ cmpT (nth V (((p - 1) / 2))) (nth V p) < 0) : Hord V := fun i hi hl => by
  by_cases ip : i = p
  · rcases hd with hd | hd
    · omega
    · rw [ip]; exact hd
  · exact h.1 i hi hl ip

/-- A step down. -/
theorem sink_step {b : Nat} (hp : p < R.length) (hb : b < R.length) (h0 : 0 < b) (hpb : ((b - 1) / 2) = p) (h : Sord (R.set p t) p)
    (hmin : ∀ c, 0 < c → c < R.length → ((c - 1) / 2) = p → c ≠ b → cmpT (nth R b) (nth R c) < 0) : Sord ((R.set p (nth R b)).set b t) b := by
  obtain ⟨h1, h2⟩ := h
  have hbp : b ≠ p := by omega
  have n0 : ∀ i, nth (R.set p t) i = if i = p then t else nth R i := nth_set hp
  have n1 : ∀ i, nth ((R.set p (nth R b)).set b t) i = if i = b then t else if i = p then nth R b else nth R i := nth_swap hp hb
  have h1' : ∀ i, 0 < i → i < R.length → i ≠ p → ((i - 1) / 2) ≠ p → cmpT (nth R (((i - 1) / 2))) (nth R i) < 0 := fun i hi hl hn hm => by
    have := h1 i hi (by simpa using hl) hn hm
    rw [n0, n0, if_neg hn, if_neg hm] at this; exact this
  have h2' : ∀ c, 0 < c → c < R.length → ((c - 1) / 2) = p → 0 < p → cmpT (nth R (((p - 1) / 2))) (nth R c) < 0 := fun c hc hl e hp0 => by
    have := h2 c hc (by simpa using hl) e hp0
    rw [n0, n0, if_neg (by omega), if_neg (by omega)] at this; exact this
  refine ⟨fun i hi hl hn hm => ?_, fun c hc hl e _ => ?_⟩
  · simp only [List.length_set] at hl
    rw [n1, n1, if_neg hn, if_neg hm]
    by_cases ip : i = p
    · subst ip
      rw [if_pos rfl, if_neg (by omega)]
      exact h2' b h0 hb hpb hi
    · rw [if_neg ip]
      by_cases e1 : ((i - 1) / 2) = p
      · rw [if_pos e1]; exact hmin i hi hl e1 hn
      · rw [if_neg e1]; exact h1' i hi hl ip e1
  · simp only [List.length_set] at hl
    rw [n1, n1, if_neg (by omega), if_pos hpb, if_neg (by omega), if_neg (by omega)]
    have := h1' c hc hl (by omega) (by omega)
    rwa [e] at this

theorem sink_done {V : List Tm} (h : Sord V p) (hd : ∀ c, 0 < c → c < V.length → ((c - 1) / 2) = p → cmpT (nth V p) (nth V c) < 0) : Rord V p :=
  ⟨fun i hi hl hn => by
    by_cases e : ((i - 1) / 2) = p
    · rw [e]; exact hd i hi hl e
    · exact h.1 i hi hl hn e, h.2⟩
end

/-- The last one put where one was taken. -/
theorem take_sord {H : List Tm} {p m : Nat} (h : Hord H) (hm : H.length = m + 1) (hp : p < m) : Sord ((H.take m).set p (nth H m)) p := by
  have hl : (H.take m).length = m := by rw [List.length_take]; omega
  have nt : ∀ i, i < m → nth (H.take m) i = nth H i := fun i hi => by simp [nth, hi]
  refine ⟨fun i hi hl' hn hq => ?_, fun c hc hl' e hp0 => ?_⟩
  · rw [List.length_set, hl] at hl'
    rw [nth_set_other hq, nth_set_other hn, nt _ (by omega), nt _ hl']
    exact h i hi (by omega)
  · rw [List.length_set, hl] at hl'
    rw [nth_set_other (by omega), nth_set_other (by omega), nt _ (by omega), nt _ hl']
    have h1 := h c hc (by omega)
    rw [e] at h1
    exact clt (h p hp0 (by omega)) h1

theorem put_rord {H : List Tm} {t : Tm} (h : Hord H) : Rord (H ++ [t]) H.length := by
  have nt : ∀ i, i < H.length → nth (H ++ [t]) i = nth H i := fun i hi => by simp [nth, List.getElem?_append_left hi]
  refine ⟨fun i hi hl hn => ?_, fun c hc hl e _ => ?_⟩
  · simp only [List.length_append, List.length_cons, List.length_nil] at hl
    rw [nt _ (by omega), nt _ (by omega)]
    exact h i hi (by omega)
  · simp only [List.length_append, List.length_cons, List.length_nil] at hl
    omega

/-- The first one comes ahead of all. -/
theorem Hord.first {H : List Tm} (h : Hord H) : ∀ i, 0 < i → i < H.length → cmpT (nth H 0) (nth H i) < 0 := by
  intro i
  induction i using Nat.strongRecOn with
  | ind i ih =>
    intro h0 hl
    by_cases e : ((i - 1) / 2) = 0
    · have := h i h0 hl; rwa [e] at this
    · exact clt (ih (((i - 1) / 2)) (by omega) (by omega) (by omega)) (h i h0 hl)

end Go.Proofs.Ytlnblhajcbmmkaa
