/- Two spans join one behind the other: which was first is nothing but to the hold. -/
import Derived.Test.YtbhofihikimgeaaRRMS
namespace Go.Proofs.YtbhofihikimgeaaRR
open Go.RowKit

/-- A window without its hold. -/
def fw (x : Wn) : Wn := { x with h := 0 }
def accF (x y : Wn) : Wn := ⟨min x.a y.a, max x.b y.b, 0, x.t, cnt x.n y.n, cnt x.p y.p⟩
def startF (s : Sp) : Wn := ⟨s.a, s.b, 0, tl0, 0, 0⟩
def madeF (s : Sp) (M : List Wn) : Wn := { M.foldl accF (startF s) with t := joinT (M.map Wn.t) }
/-- Its counts are no less than nought. -/
def NN (x : Wn) : Prop := 0 ≤ x.n ∧ 0 ≤ x.p

theorem fw_made (m : Int) (s : Sp) (h : Int) (M : List Wn) : fw (madeW m s h M) = madeF s M := by
  have key : ∀ (M : List Wn) (x : Wn), fw (M.foldl (accW m) x) = M.foldl accF (fw x) := by
    intro M
    induction M with
    | nil => intro x; rfl
    | cons y M ih => intro x; rw [List.foldl_cons, List.foldl_cons, ih]; rfl
  have := key M ⟨s.a, s.b, h, tl0, 0, 0⟩
  unfold madeW madeF accL
  show ({ fw (M.foldl (accW m) ⟨s.a, s.b, h, tl0, 0, 0⟩) with t := joinT (M.map Wn.t) } : Wn) = _
  rw [this]
  rfl

theorem joinS_right (t u v : Tl) : joinS (joinS t u) v = joinS (joinS t v) u := by
  unfold joinS
  by_cases hu : u.c < 1
  · by_cases hv : v.c < 1
    · simp [hu, hv]
    · simp [hu, hv]
  · by_cases hv : v.c < 1
    · simp [hu, hv]
    · rw [if_neg hu, if_neg hv, if_neg hu, if_neg hv]
      unfold putT rawT cnt
      by_cases ht : t.c < 1
      · simp only [ht, if_true]
        rw [if_neg (by omega), if_neg (by omega)]
        simp only [Tl.mk.injEq]
        refine ⟨by omega, by unfold wrap64; omega, by omega, by omega⟩
      · simp only [ht, if_false]
        rw [if_neg (by omega), if_neg (by omega)]
        simp only [Tl.mk.injEq]
        refine ⟨by omega, by unfold wrap64; omega, by omega, by omega⟩

theorem joinT_perm {M M' : List Tl} (h : M.Perm M') : joinT M = joinT M' := h.foldl_eq' (fun x _ y _ z => joinS_right z x y) tl0

/-- A tally as it comes of tallies. -/
def Nrm (t : Tl) : Prop := (t.c < 1 → t = tl0) ∧ t.c ≤ 9007199254740992 ∧ wrap64 t.s = t.s
theorem joinS_nrm {t : Tl} (h : Nrm t) (u : Tl) : Nrm (joinS t u) := by
  unfold joinS
  split
  · exact h
  · unfold putT rawT cnt Nrm
    split
    · refine ⟨fun hc => ?_, by simp only; omega, by simp only; unfold wrap64; omega⟩
      simp only at hc; omega
    · refine ⟨fun hc => ?_, by simp only; omega, by simp only; unfold wrap64; omega⟩
      simp only at hc; omega
theorem joinT_nrm (M : List Tl) : Nrm (joinT M) := by
  have key : ∀ (M : List Tl) (t : Tl), Nrm t → Nrm (M.foldl joinS t) := by
    intro M
    induction M with
    | nil => intro t h; exact h
    | cons u M ih => intro t h; exact ih _ (joinS_nrm h u)
  exact key M tl0 ⟨fun _ => rfl, by decide, by unfold wrap64; rfl⟩
theorem joinT_nest (Y X : List Tl) : joinT (joinT Y :: X) = joinT (Y ++ X) := by
  obtain ⟨h1, h2, h3⟩ := joinT_nrm Y
  have e : joinS tl0 (joinT Y) = joinT Y := by
    generalize joinT Y = t at *
    unfold joinS
    split
    · rename_i hc; exact (h1 hc).symm
    · rename_i hc
      unfold putT rawT cnt
      rw [if_pos (by decide)]
      cases t
      simp only [Tl.mk.injEq] at *
      refine ⟨by omega, by rw [Int.zero_add]; exact h3, by omega, by omega⟩
  unfold joinT at e ⊢
  rw [List.foldl_cons, e, List.foldl_append]

theorem accF_right {y z : Wn} (hy : NN y) (hz : NN z) (x : Wn) : accF (accF x y) z = accF (accF x z) y := by
  obtain ⟨y1, y2⟩ := hy
  obtain ⟨z1, z2⟩ := hz
  unfold accF cnt
  simp only [Wn.mk.injEq]
  refine ⟨by omega, by omega, by trivial, by trivial, by omega, by omega⟩
theorem accF_assoc {x y z : Wn} (hz : NN z) (hy : NN y) : accF z (accF x y) = accF (accF z x) y := by
  obtain ⟨y1, y2⟩ := hy
  obtain ⟨z1, z2⟩ := hz
  unfold accF cnt
  simp only [Wn.mk.injEq]
  refine ⟨by omega, by omega, by trivial, by trivial, by omega, by omega⟩
theorem accF_fold {z : Wn} (hz : NN z) : ∀ (M : List Wn) (x : Wn), (∀ y ∈ M, NN y) → accF z (M.foldl accF x) = M.foldl accF (accF z x)
  | [], _, _ => rfl
  | y :: M, x, h => by
    rw [List.foldl_cons, List.foldl_cons, accF_fold hz M _ (fun v hv => h v (by simp [hv])), accF_assoc hz (h y (by simp))]
theorem made_perm {s : Sp} {M M' : List Wn} (h : M.Perm M') (hn : ∀ y ∈ M, NN y) : madeF s M = madeF s M' := by
  unfold madeF
  rw [h.foldl_eq' (fun x hx y hy z => accF_right (hn x hx) (hn y hy) z) (startF s), joinT_perm (h.map Wn.t)]

/-- A window that was made is taken in: as if those that it was made of were. -/
theorem made_nest (s s' : Sp) (m h : Int) (M F : List Wn) (hM : ∀ y ∈ M, NN y) : madeF s (madeW m s' h M :: F) = { (M ++ F).foldl accF (accF (startF s) (startF s')) with t := joinT ((M ++ F).map Wn.t) } := by
  unfold madeF
  have e1 : (madeW m s' h M).t = joinT (M.map Wn.t) := rfl
  have e2 : accF (startF s) (madeW m s' h M) = M.foldl accF (accF (startF s) (startF s')) := by
    rw [← accF_fold (z := startF s) ⟨Int.le_refl _, Int.le_refl _⟩ M _ hM]
    have hm := fw_made m s' h M
    have : accF (startF s) (madeW m s' h M) = accF (startF s) (fw (madeW m s' h M)) := rfl
    rw [this, hm]
    rfl
  rw [List.map_cons, e1, joinT_nest, List.foldl_cons, e2, List.foldl_append, List.map_append]

theorem oneM_rise {R : List Sp} (h : Rise R) {s : Sp} (hs : s.a < s.b) : Rise (oneM (fun _ x => over x s) R s) := by
  obtain ⟨tk, e2⟩ := inM_fix (fun x => over x s) R s
  unfold oneM
  rw [e2]
  have hap := took_apart h hs tk
  have l1 := tk.la
  have l2 := tk.lb
  generalize (inM (fun _ x => over x s) R s).1 = p at *
  refine (h.filter _).put (by omega) fun x hx => ?_
  obtain ⟨h1, h2⟩ := List.mem_filter.1 hx
  exact hap x h1 (by simpa using h2)

theorem join_rise {L : List Wn} (h : Rise (L.map Wn.sp)) {s : Sp} (hs : s.a < s.b) (m hh : Int) : Rise ((joinL L s m hh).map Wn.sp) := by
  rw [joinL_sp h hs]; exact oneM_rise h hs

theorem rise_extW {A B : List Wn} (hA : Rise (A.map Wn.sp)) (hB : Rise (B.map Wn.sp)) (h : ∀ x, x ∈ A ↔ x ∈ B) : A = B := by
  have key : ∀ (A B : List Wn), A.map Wn.sp = B.map Wn.sp → Rise (A.map Wn.sp) → (∀ x ∈ A, x ∈ B) → A = B := by
    intro A
    induction A with
    | nil => intro B e _ _; cases B with | nil => rfl | cons => cases e
    | cons x A ih =>
      intro B e hr hm
      cases B with
      | nil => cases e
      | cons y B =>
        rw [List.map_cons, List.map_cons] at e
        injection e with e1 e2
        have hx := hr.2 x.sp (by simp)
        have hlt : ∀ z ∈ B, x.b ≤ z.a := fun z hz => by
          have : z.sp ∈ A.map Wn.sp := by rw [e2]; exact List.mem_map.2 ⟨z, hz, rfl⟩
          exact (List.pairwise_cons.1 hr.1).1 z.sp this
        have exy : x = y := by
          rcases List.mem_cons.1 (hm x (by simp)) with e | e
          · exact e
          · have := hlt x e; simp only at hx; omega
        subst exy
        have hr' : Rise (A.map Wn.sp) := ⟨(List.pairwise_cons.1 hr.1).2, fun z hz => hr.2 z (by simp only [List.map_cons, List.mem_cons]; exact .inr hz)⟩
        rw [ih B e2 hr' fun z hz => by
          rcases List.mem_cons.1 (hm z (by simp [hz])) with e | e
          · have := (List.pairwise_cons.1 hr.1).1 z.sp (List.mem_map.2 ⟨z, hz, rfl⟩)
            rw [e] at this; simp only at this hx; omega
          · exact e]
  refine key A B (rise_ext hA hB fun z => ?_) hA fun x hx => (h x).1 hx
  simp only [List.mem_map]
  exact ⟨fun ⟨x, hx, e⟩ => ⟨x, (h x).1 hx, e⟩, fun ⟨x, hx, e⟩ => ⟨x, (h x).2 hx, e⟩⟩

/-- Who is in the row behind a Join. -/
theorem mem_join {L : List Wn} (h : Rise (L.map Wn.sp)) {s : Sp} (hs : s.a < s.b) (m hh : Int) (x : Wn) : x ∈ joinL L s m hh ↔ x = madeW m s hh (L.filter (onW s)) ∨ (x ∈ L ∧ over x.sp s = false) := by
  rw [joinL_eq h hs]
  simp only [List.mem_append, List.mem_singleton, List.mem_filter, aheadW, behindW, Bool.and_eq_true, Bool.not_eq_true', decide_eq_true_eq, decide_eq_false_iff_not]
  constructor
  · rintro ((⟨h1, h2, -⟩ | h1) | ⟨h1, h2, -⟩)
    · exact .inr ⟨h1, h2⟩
    · exact .inl h1
    · exact .inr ⟨h1, h2⟩
  · rintro (h1 | ⟨h1, h2⟩)
    · exact .inl (.inr h1)
    · by_cases hb : x.b ≤ s.a
      · exact .inl (.inl ⟨h1, h2, hb⟩)
      · exact .inr ⟨h1, h2, hb⟩

/-- Those of the row behind a Join that a second span overlaps. -/
theorem on_join {L : List Wn} (h : Rise (L.map Wn.sp)) {s : Sp} (hs : s.a < s.b) (s2 : Sp) (m hh : Int) :
    ((joinL L s m hh).filter (onW s2)).Perm ((if over (madeW m s hh (L.filter (onW s))).sp s2 then [madeW m s hh (L.filter (onW s))] else []) ++ L.filter fun x => !over x.sp s && over x.sp s2) := by
  rw [joinL_eq h hs]
  have e : (L.filter fun x => !over x.sp s && over x.sp s2) = (L.filter (aheadW s) ++ L.filter (behindW s)).filter (onW s2) := by
    conv => lhs; rw [split3 L s h hs]
    simp only [List.filter_append]
    have f2 : (L.filter (onW s)).filter (fun x => !over x.sp s && over x.sp s2) = [] := List.filter_eq_nil_iff.2 fun x hx => by
      have : over x.sp s = true := (List.mem_filter.1 hx).2
      rw [this]; simp
    have f1 : (L.filter (aheadW s)).filter (fun x => !over x.sp s && over x.sp s2) = (L.filter (aheadW s)).filter (onW s2) := List.filter_congr fun x hx => by
      have := (List.mem_filter.1 hx).2
      unfold aheadW at this
      simp only [Bool.and_eq_true] at this
      rw [this.1]; rfl
    have f3 : (L.filter (behindW s)).filter (fun x => !over x.sp s && over x.sp s2) = (L.filter (behindW s)).filter (onW s2) := List.filter_congr fun x hx => by
      have := (List.mem_filter.1 hx).2
      unfold behindW at this
      simp only [Bool.and_eq_true] at this
      rw [this.1]; rfl
    rw [f1, f2, f3, List.nil_append]
  rw [e]
  generalize madeW m s hh (L.filter (onW s)) = w
  rw [List.filter_append, List.filter_append, List.filter_append, List.append_assoc]
  by_cases ho : over w.sp s2 = true
  · have e3 : [w].filter (onW s2) = [w] := by simp [onW, ho]
    rw [e3, if_pos ho]; exact List.perm_middle
  · have e3 : [w].filter (onW s2) = [] := by simp [onW, ho]
    rw [e3, if_neg ho]; exact List.Perm.refl _

/-- The window that was made overlaps a second span just where the first, or one that it took in, does. -/
theorem over_made {L : List Wn} {s : Sp} (hs : s.a < s.b) {s2 : Sp} (hs2 : s2.a < s2.b) (m hh : Int) : over (madeW m s hh (L.filter (onW s))).sp s2 = true ↔ over s s2 = true ∨ ∃ y ∈ L, over y.sp s = true ∧ over y.sp s2 = true := by
  obtain ⟨tk, -⟩ := inM_fix (fun x => over x s) (L.map Wn.sp) s
  rw [← made_sp m s hh L] at tk
  generalize (madeW m s hh (L.filter (onW s))).sp = p at *
  have l1 := tk.la
  have l2 := tk.lb
  constructor
  · intro ho
    obtain ⟨o1, o2, o3, o4⟩ := (over_iff _ _).1 ho
    by_cases c : over s s2 = true
    · exact .inl c
    · right
      have hno : s.b ≤ s2.a ∨ s2.b ≤ s.a := by
        by_cases h1 : s.b ≤ s2.a
        · exact .inl h1
        · by_cases h2 : s2.b ≤ s.a
          · exact .inr h2
          · exact absurd ((over_iff s s2).2 ⟨hs, hs2, by omega, by omega⟩) c
      rcases hno with h1 | h1
      · rcases tk.isb with e | ⟨z, hz, hoz, e⟩
        · omega
        · obtain ⟨y, hy, rfl⟩ := List.mem_map.1 hz
          obtain ⟨q1, q2, q3, q4⟩ := (over_iff _ _).1 hoz
          exact ⟨y, hy, hoz, (over_iff _ _).2 ⟨q1, hs2, by simp only at *; omega, by simp only at *; omega⟩⟩
      · rcases tk.isa with e | ⟨z, hz, hoz, e⟩
        · omega
        · obtain ⟨y, hy, rfl⟩ := List.mem_map.1 hz
          obtain ⟨q1, q2, q3, q4⟩ := (over_iff _ _).1 hoz
          exact ⟨y, hy, hoz, (over_iff _ _).2 ⟨q1, hs2, by simp only at *; omega, by simp only at *; omega⟩⟩
  · rintro (ho | ⟨y, hy, h1, h2⟩)
    · obtain ⟨o1, o2, o3, o4⟩ := (over_iff _ _).1 ho
      exact (over_iff _ _).2 ⟨by omega, hs2, by omega, by omega⟩
    · have i1 := tk.ina y.sp (List.mem_map.2 ⟨y, hy, rfl⟩) h1
      have i2 := tk.inb y.sp (List.mem_map.2 ⟨y, hy, rfl⟩) h1
      obtain ⟨o1, o2, o3, o4⟩ := (over_iff _ _).1 h2
      simp only at i1 i2 o1 o3 o4
      exact (over_iff _ _).2 ⟨by omega, hs2, by omega, by omega⟩

theorem over_comm (x y : Sp) : over x y = over y x := by
  cases h : over y x with
  | true => obtain ⟨a, b, c, d⟩ := (over_iff _ _).1 h; exact (over_iff _ _).2 ⟨b, a, d, c⟩
  | false =>
    cases h' : over x y with
    | false => rfl
    | true => obtain ⟨a, b, c, d⟩ := (over_iff _ _).1 h'; rw [(over_iff _ _).2 ⟨b, a, d, c⟩] at h; cases h

theorem both_perm (L : List Wn) (p q : Wn → Bool) : (L.filter p ++ L.filter fun x => !p x && q x).Perm (L.filter q ++ L.filter fun x => !q x && p x) := by
  induction L with
  | nil => exact List.Perm.refl _
  | cons x L ih =>
    simp only [List.filter_cons]
    cases p x <;> cases q x <;> simp
    · exact ih
    · exact List.perm_middle.trans (ih.cons x)
    · exact (ih.cons x).trans List.perm_middle.symm
    · exact ih

/-- Which of two spans is first is nothing to the spans, the tallies and the counts. -/
theorem joins_comm {L : List Wn} (h : Rise (L.map Wn.sp)) (hn : ∀ x ∈ L, NN x) {s1 s2 : Sp} (hs1 : s1.a < s1.b) (hs2 : s2.a < s2.b) (m1 h1 m2 h2 m3 h3 m4 h4 : Int) :
    (joinL (joinL L s1 m1 h1) s2 m2 h2).map fw = (joinL (joinL L s2 m3 h3) s1 m4 h4).map fw := by
  have rA := join_rise (join_rise h hs1 m1 h1) hs2 m2 h2
  have rB := join_rise (join_rise h hs2 m3 h3) hs1 m4 h4
  have hsp : ∀ M : List Wn, (M.map fw).map Wn.sp = M.map Wn.sp := fun M => by rw [List.map_map]; rfl
  have hov : over (madeW m1 s1 h1 (L.filter (onW s1))).sp s2 = over (madeW m3 s2 h3 (L.filter (onW s2))).sp s1 := by
    have a1 := over_made (L := L) hs1 hs2 m1 h1
    have a2 := over_made (L := L) hs2 hs1 m3 h3
    have : over (madeW m1 s1 h1 (L.filter (onW s1))).sp s2 = true ↔ over (madeW m3 s2 h3 (L.filter (onW s2))).sp s1 = true := by
      rw [a1, a2, over_comm s1 s2]
      constructor
      · rintro (e | ⟨y, hy, e1, e2⟩)
        · exact .inl e
        · exact .inr ⟨y, hy, e2, e1⟩
      · rintro (e | ⟨y, hy, e1, e2⟩)
        · exact .inl e
        · exact .inr ⟨y, hy, e2, e1⟩
    exact Bool.eq_iff_iff.2 this
  have hN1 : ∀ (s : Sp), ∀ y ∈ L.filter (onW s), NN y := fun s y hy => hn y (List.mem_filter.1 hy).1
  have nn_made : ∀ (s : Sp) (m hh : Int), NN (madeW m s hh (L.filter (onW s))) := fun s m hh => by
    have key : ∀ (M : List Wn) (x : Wn), (∀ y ∈ M, NN y) → NN x → NN (M.foldl (accW m) x) := by
      intro M
      induction M with
      | nil => intro x _ hx; exact hx
      | cons y M ih =>
        intro x hM hx
        refine ih _ (fun z hz => hM z (by simp [hz])) ?_
        obtain ⟨y1, y2⟩ := hM y (by simp)
        obtain ⟨x1, x2⟩ := hx
        unfold accW cnt
        exact ⟨by simp only; omega, by simp only; omega⟩
    exact key _ _ (hN1 s) ⟨Int.le_refl _, Int.le_refl _⟩
  have pA := on_join h hs1 s2 m1 h1
  have pB := on_join h hs2 s1 m3 h3
  rw [← hov] at pB
  have memJ : ∀ (s s' : Sp) (m hh : Int), s.a < s.b → ∀ y ∈ (joinL L s m hh).filter (onW s'), NN y := fun s s' m hh hs y hy => by
    rcases (mem_join h hs m hh y).1 (List.mem_filter.1 hy).1 with rfl | ⟨hy, -⟩
    · exact nn_made s m hh
    · exact hn y hy
  have fA := made_perm (s := s2) pA (memJ s1 s2 m1 h1 hs1)
  have fB := made_perm (s := s1) pB (memJ s2 s1 m3 h3 hs2)
  refine rise_extW (by rw [hsp]; exact rA) (by rw [hsp]; exact rB) fun x => ?_
  simp only [List.mem_map]
  have mA : ∀ z, z ∈ joinL (joinL L s1 m1 h1) s2 m2 h2 ↔ _ := mem_join (join_rise h hs1 m1 h1) hs2 m2 h2
  have mB : ∀ z, z ∈ joinL (joinL L s2 m3 h3) s1 m4 h4 ↔ _ := mem_join (join_rise h hs2 m3 h3) hs1 m4 h4
  have mA1 := mem_join h hs1 m1 h1
  have mB1 := mem_join h hs2 m3 h3
  cases hd : over (madeW m1 s1 h1 (L.filter (onW s1))).sp s2 with
  | true =>
    have hd' := hd
    rw [hov] at hd'
    rw [hd, if_pos rfl, List.singleton_append, made_nest s2 s1 m1 h1 _ _ (hN1 s1)] at fA
    rw [hd, if_pos rfl, List.singleton_append, made_nest s1 s2 m3 h3 _ _ (hN1 s2)] at fB
    have ef : madeF s2 ((joinL L s1 m1 h1).filter (onW s2)) = madeF s1 ((joinL L s2 m3 h3).filter (onW s1)) := by
      rw [fA, fB]
      have pp := both_perm L (onW s1) (onW s2)
      have e0 : accF (startF s2) (startF s1) = accF (startF s1) (startF s2) := by
        unfold accF startF cnt
        simp only [Wn.mk.injEq]
        exact ⟨by omega, by omega, trivial, trivial, trivial, trivial⟩
      have hnn : ∀ y ∈ L.filter (onW s1) ++ L.filter (fun x => !onW s1 x && onW s2 x), NN y := fun y hy => by
        rcases List.mem_append.1 hy with hy | hy
        · exact hn y (List.mem_filter.1 hy).1
        · exact hn y (List.mem_filter.1 hy).1
      have q1 := pp.foldl_eq' (fun x hx y hy z => accF_right (hnn x hx) (hnn y hy) z) (accF (startF s2) (startF s1))
      have q2 := joinT_perm (pp.map Wn.t)
      rw [e0] at q1
      rw [e0]
      unfold onW at q1 q2 ⊢
      rw [q1, q2]
    constructor
    · rintro ⟨z, hz, rfl⟩
      rcases (mA z).1 hz with rfl | ⟨hz, ho⟩
      · exact ⟨_, (mB _).2 (.inl rfl), by rw [fw_made, fw_made, ef]⟩
      · rcases (mA1 z).1 hz with rfl | ⟨hz, ho1⟩
        · rw [hd] at ho; cases ho
        · exact ⟨z, (mB z).2 (.inr ⟨(mB1 z).2 (.inr ⟨hz, ho⟩), ho1⟩), rfl⟩
    · rintro ⟨z, hz, rfl⟩
      rcases (mB z).1 hz with rfl | ⟨hz, ho⟩
      · exact ⟨_, (mA _).2 (.inl rfl), by rw [fw_made, fw_made, ef]⟩
      · rcases (mB1 z).1 hz with rfl | ⟨hz, ho1⟩
        · rw [hd'] at ho; cases ho
        · exact ⟨z, (mA z).2 (.inr ⟨(mA1 z).2 (.inr ⟨hz, ho⟩), ho1⟩), rfl⟩
  | false =>
    have hd' := hd
    rw [hov] at hd'
    rw [hd, if_neg (by simp), List.nil_append] at fA
    rw [hd, if_neg (by simp), List.nil_append] at fB
    have hnone : ∀ y ∈ L, over y.sp s1 = true → over y.sp s2 = true → False := fun y hy e1 e2 => by
      have := (over_made (L := L) hs1 hs2 m1 h1).2 (.inr ⟨y, hy, e1, e2⟩)
      rw [hd] at this; cases this
    have g2 : (L.filter fun x => !over x.sp s1 && over x.sp s2) = L.filter (onW s2) := List.filter_congr fun y hy => by
      cases e2 : over y.sp s2 with
      | false => simp [onW, e2]
      | true =>
        cases e1 : over y.sp s1 with
        | false => simp [onW, e2]
        | true => exact (hnone y hy e1 e2).elim
    have g1 : (L.filter fun x => !over x.sp s2 && over x.sp s1) = L.filter (onW s1) := List.filter_congr fun y hy => by
      cases e1 : over y.sp s1 with
      | false => simp [onW, e1]
      | true =>
        cases e2 : over y.sp s2 with
        | false => simp [onW, e1]
        | true => exact (hnone y hy e1 e2).elim
    rw [g2] at fA
    rw [g1] at fB
    constructor
    · rintro ⟨z, hz, rfl⟩
      rcases (mA z).1 hz with rfl | ⟨hz, ho⟩
      · exact ⟨_, (mB _).2 (.inr ⟨(mB1 _).2 (.inl rfl), hd'⟩), by rw [fw_made, fw_made, fA]⟩
      · rcases (mA1 z).1 hz with rfl | ⟨hz, ho1⟩
        · exact ⟨_, (mB _).2 (.inl rfl), by rw [fw_made, fw_made, fB]⟩
        · exact ⟨z, (mB z).2 (.inr ⟨(mB1 z).2 (.inr ⟨hz, ho⟩), ho1⟩), rfl⟩
    · rintro ⟨z, hz, rfl⟩
      rcases (mB z).1 hz with rfl | ⟨hz, ho⟩
      · exact ⟨_, (mA _).2 (.inr ⟨(mA1 _).2 (.inl rfl), hd⟩), by rw [fw_made, fw_made, fB]⟩
      · rcases (mB1 z).1 hz with rfl | ⟨hz, ho1⟩
        · exact ⟨_, (mA _).2 (.inl rfl), by rw [fw_made, fw_made, fA]⟩
        · exact ⟨z, (mA z).2 (.inr ⟨(mA1 z).2 (.inr ⟨hz, ho⟩), ho1⟩), rfl⟩

end Go.Proofs.YtbhofihikimgeaaRR
