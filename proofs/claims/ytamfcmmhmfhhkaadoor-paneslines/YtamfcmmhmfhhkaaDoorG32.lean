/- Last: of each key and window the last pane (the notions; a pane put into a row in a new row). Panes by keys, the last ones: the mathematics. Panes by keys in the store: what is held. -/
import Derived.Test.YtamfcmmhmfhhkaaDoorG8
import Derived.Test.YtamfcmmhmfhhkaaDoorG16
import Derived.Test.YtamfcmmhmfhhkaaDoorG15
import Derived.Test.YtamfcmmhmfhhkaaDoorG10
import Derived.Test.YtamfcmmhmfhhkaaDoorG22
import Derived.Test.YtamfcmmhmfhhkaaDoorG25
namespace Go.Proofs.YtamfcmmhmfhhkaaDoor
open Go.RowKit

/-- A pane's key and window alone. -/
abbrev wpn (p : Pn) : Pn := ⟨p.k, p.a, p.b, 0, 0, tl0⟩
def wLt (p q : Pn) : Bool := decide (cmpP (wpn p) (wpn q) < 0)
def sameW (p q : Pn) : Bool := decide (p.k = q.k) && (decide (p.a = q.a) && decide (p.b = q.b))
def laterP (R : List Pn) (p : Pn) : Bool := R.any fun q => sameW q p
/-- How many stand ahead of it. -/
def leadW (O : List Pn) (p : Pn) : Nat := (O.takeWhile fun a => wLt a p).length
def insW (O : List Pn) (p : Pn) : List Pn := O.take (leadW O p) ++ [p] ++ O.drop (leadW O p)
def lastF : List Pn → List Pn → List Pn
  | O, [] => O
  | O, p :: R => lastF (if laterP R p then O else insW O p) R
def lastP (L : List Pn) : List Pn := lastF [] L

theorem leadW_eq : ∀ (l : List Pn) (s : Pn) (i : Nat), i ≤ l.length → (∀ j, j < i → wLt (l.getD j pn0) s = true) → (i < l.length → wLt (l.getD i pn0) s = false) → leadW l s = i
  | [], _, i, hi, _, _ => by simp at hi; subst hi; rfl
  | x :: l, s, 0, _, _, h2 => by
    have : wLt x s = false := h2 (by simp)
    simp [leadW, this]
  | x :: l, s, i + 1, hi, h1, h2 => by
    have h0 : wLt x s = true := h1 0 (by omega)
    have ih := leadW_eq l s i (by simpa using hi) (fun j hj => h1 (j + 1) (by omega)) (fun h => h2 (by simpa using h))
    unfold leadW at ih ⊢
    rw [List.takeWhile_cons, if_pos (by simpa using h0), List.length_cons, ih]
theorem drop_at {L : List Pn} {i : Nat} (h : i < L.length) : L.drop i = L.getD i pn0 :: L.drop (i + 1) := by
  rw [List.getD_eq_getElem?_getD, List.getElem?_eq_getElem h]
  exact List.drop_eq_getElem_cons h
theorem lastF_next {L O : List Pn} {i : Nat} (h : i < L.length) : lastF O (L.drop i) = lastF (if laterP (L.drop (i + 1)) (L.getD i pn0) then O else insW O (L.getD i pn0)) (L.drop (i + 1)) := by
  rw [drop_at h]; rfl
theorem lastF_end {L O : List Pn} : lastF O (L.drop L.length) = O := by rw [List.drop_of_length_le (Nat.le_refl _)]; rfl
/-- Is there a later one among those up to j? -/
def lateJ (L : List Pn) (i j : Nat) : Bool := laterP ((L.drop (i + 1)).take (j - (i + 1))) (L.getD i pn0)
theorem lateJ_zero (L : List Pn) (i : Nat) : lateJ L i (i + 1) = false := by unfold lateJ; rw [Nat.sub_self]; rfl
theorem lateJ_next {L : List Pn} {i j : Nat} (hi : i + 1 ≤ j) (hj : j < L.length) : lateJ L i (j + 1) = (lateJ L i j || sameW (L.getD j pn0) (L.getD i pn0)) := by
  unfold lateJ laterP
  have e : j + 1 - (i + 1) = (j - (i + 1)) + 1 := by omega
  rw [e, List.take_add_one, List.getElem?_drop, show i + 1 + (j - (i + 1)) = j by omega, List.getElem?_eq_getElem hj, List.any_append]
  rw [List.getD_eq_getElem?_getD (i := j), List.getElem?_eq_getElem hj]
  simp
theorem lateJ_end (L : List Pn) (i : Nat) : lateJ L i L.length = laterP (L.drop (i + 1)) (L.getD i pn0) := by
  unfold lateJ
  rw [List.take_of_length_le (by rw [List.length_drop]; omega)]
theorem insW_len (O : List Pn) (p : Pn) : (insW O p).length = O.length + 1 := by
  unfold insW
  have : leadW O p ≤ O.length := List.IsPrefix.length_le (List.takeWhile_prefix _)
  simp only [List.length_append, List.length_take, List.length_drop, List.length_cons, List.length_nil]; omega

/-- A pane put in at a place of a row of one's own, in a new row. -/
theorem pn_put {W : World} {base : Nat} {ao : Option Addr} {cap : Nat} {O : List Pn} (b : Pn) (h : encP.Own 29 W base (.slice ao O.length cap) O) (k : Nat) (hk : k ≤ O.length) (hn : O.length ≤ 1000000000) :
    ∃ so1 sc1 so2 sc2 a1 p1 w3 a2 p2 w4 a3 p3 w5, (∀ V, (Instr.slice 22 (.slice ao O.length cap) none (some (.int .i64 (k : Nat))) none).run Tryd.prog V = .ok (.slice so1 k sc1) V) ∧ (∀ V, (Instr.slice 22 (.slice ao O.length cap) (some (.int .i64 (k : Nat))) none none).run Tryd.prog V = .ok (.slice so2 (O.length - k) sc2) V) ∧
      (Builtin.append_ #[22, 22] 22 #[.slice none 0 0, .slice so1 k sc1]).run Tryd.prog W = .ok (.slice a1 k p1) w3 ∧
      (Builtin.append_ #[22, 22] 22 #[.slice a1 k p1, .slice (some ⟨w3.heap.size, 0, none⟩) 1 1]).run Tryd.prog (w3.alloc (.cells (pnc b) 29)) = .ok (.slice a2 (k + 1) p2) w4 ∧
      (Builtin.append_ #[22, 22] 22 #[.slice a2 (k + 1) p2, .slice so2 (O.length - k) sc2]).run Tryd.prog w4 = .ok (.slice a3 (O.length + 1) p3) w5 ∧
      encP.Own 29 w5 W.heap.size (.slice a3 (O.length + 1) p3) (O.take k ++ [b] ++ O.drop k) ∧ Calm W w3 ∧ Calm W w5 := by
  obtain ⟨i0, hi, hz, hs, hby⟩ := Rc.info_parts infoPane
  have sl := Rc.Own.sl h
  obtain ⟨so1, sc1, hsl1, m1, n1⟩ := Rc.Sl.to Tryd.underlying22 elemPane hi (k := k) sl hk
  obtain ⟨so2, sc2, hsl2, m2, n2⟩ := Rc.Sl.from Tryd.underlying22 elemPane hi hs (k := k) sl hk
  have e1 : (O.take k).length = k := by rw [List.length_take]; omega
  have e2 : (O.drop k).length = O.length - k := by rw [List.length_drop]
  have eb : encP.n = 9 := rfl
  obtain ⟨a1, p1, w3, hr1, ow1, t1, -⟩ := Rc.Own.appw (E := encP) (ty := 22) Tryd.underlying22 hi hz hs hby rfl (Rc.Own.nil 29 W W.heap.size) so1 sc1 (O.take k) m1 n1 (by rw [e1]; simp; unfold maxLen; omega) (by rw [e1]; simp; omega) (by omega) (Nat.le_refl _)
  have C3 : Calm W w3 := Rc.Own.fresh (Rc.Own.nil (E := encP) 29 W W.heap.size) t1 (fun _ h => h) (Touch.refl _ _) (Nat.le_refl _)
  rw [List.nil_append, e1] at hr1
  rw [List.nil_append, e1] at ow1
  have ow1' := Rc.Own.calm ow1 ((Touch.refl (fun _ => False) w3).alloc (.cells (pnc b) 29))
  have hsz3 := C3.size
  have hs1 := al_size w3 (.cells (pnc b) 29)
  obtain ⟨a2, p2, w4, hr2, ow2, t2, -⟩ := Rc.Own.appw (E := encP) (ty := 22) Tryd.underlying22 hi hz hs hby rfl ow1' (some ⟨w3.heap.size, 0, none⟩) 1 [b] (Rc.Mem.new w3 [b] 29) (fun h => (nomatch h)) (by rw [e1]; simp; unfold maxLen; omega) (by rw [e1]; simp; omega) (by omega) (by omega)
  have C4 : Calm W w4 := Rc.Own.fresh ow1' t2 (fun _ h => h) (C3.alloc _) (Nat.le_refl _)
  have e3 : (O.take k ++ [b]).length = k + 1 := by rw [List.length_append, e1]; rfl
  rw [e3] at hr2
  rw [e3] at ow2
  have hsz4 := C4.size
  obtain ⟨a3, p3, w5, hr3, ow3, t3, -⟩ := Rc.Own.appw (E := encP) (ty := 22) Tryd.underlying22 hi hz hs hby rfl ow2 so2 sc2 (O.drop k) (Rc.Mem.calm m2 C4) n2 (by rw [e2, e3]; unfold maxLen; omega) (by rw [e2, e3]; omega) (by omega) (by omega)
  have C5 : Calm W w5 := Rc.Own.fresh ow2 t3 (fun _ h => h) C4 (Nat.le_refl _)
  have e4 : (O.take k ++ [b] ++ O.drop k).length = O.length + 1 := by rw [List.length_append, e3, e2]; omega
  rw [e2, e4] at hr3
  rw [e4] at ow3
  exact ⟨so1, sc1, so2, sc2, a1, p1, w3, a2, p2, w4, a3, p3, w5, fun V => hsl1 V, fun V => hsl2 V, hr1, hr2, hr3, ow3, C3, C5⟩

end Go.Proofs.YtamfcmmhmfhhkaaDoor

namespace Go.Proofs.YtamfcmmhmfhhkaaDoor
open Go.RowKit

theorem lessN_or (x : List UInt8) : ∀ y : List UInt8, (Op.bytesLess x y || x == y) = !Op.bytesLess y x := by
  induction x with
  | nil => intro y; cases y <;> simp [Op.bytesLess]
  | cons a x ih =>
    intro y
    cases y with
    | nil => simp [Op.bytesLess]
    | cons b y =>
      have h := ih y
      simp only [Op.bytesLess]
      by_cases h1 : a < b
      · have h2 : ¬ b < a := by rw [UInt8.lt_iff_toNat_lt] at *; omega
        have h3 : ¬ b = a := by rintro rfl; rw [UInt8.lt_iff_toNat_lt] at h1; omega
        simp [h1, h2, h3]
      · by_cases h2 : b < a
        · have h3 : ¬ a = b := by rintro rfl; exact h1 h2
          simp [h1, h2, h3]
        · have h3 : a = b := by rw [UInt8.lt_iff_toNat_lt] at *; exact UInt8.toNat_inj.mp (by omega)
          subst h3
          simpa [h1] using h
theorem lessN_trans (x : List UInt8) : ∀ y z : List UInt8, Op.bytesLess x y = true → Op.bytesLess y z = true → Op.bytesLess x z = true := by
  induction x with
  | nil =>
    intro y z h1 h2
    cases z with
    | nil => cases y <;> simp [Op.bytesLess] at h2
    | cons c z => simp [Op.bytesLess]
  | cons a x ih =>
    intro y z h1 h2
    cases y with
    | nil => simp [Op.bytesLess] at h1
    | cons b y =>
      cases z with
      | nil => simp [Op.bytesLess] at h2
      | cons c z =>
        simp only [Op.bytesLess, Bool.or_eq_true, Bool.and_eq_true, decide_eq_true_eq, beq_iff_eq] at h1 h2 ⊢
        rcases h1 with h1 | ⟨rfl, h1⟩
        · rcases h2 with h2 | ⟨rfl, h2⟩
          · left; rw [UInt8.lt_iff_toNat_lt] at *; omega
          · left; exact h1
        · rcases h2 with h2 | ⟨rfl, h2⟩
          · left; exact h2
          · right; exact ⟨rfl, ih y z h1 h2⟩
theorem kLt_trans {a b c : ByteArray} (h : kLt a b = true) (h2 : kLt b c = true) : kLt a c = true := lessN_trans _ _ _ h h2
theorem kLt_tri (a b : ByteArray) : kLt a b = true ∨ a = b ∨ kLt b a = true := by
  have h := lessN_or a.toList b.toList
  unfold kLt
  cases h1 : Op.bytesLess a.toList b.toList with
  | true => exact .inl rfl
  | false =>
    cases h2 : Op.bytesLess b.toList a.toList with
    | true => exact .inr (.inr rfl)
    | false =>
      rw [h1, h2] at h
      refine .inr (.inl (ba_ext ?_))
      simpa using h
theorem kLt_asymm {a b : ByteArray} (h : kLt a b = true) : kLt b a = false := by
  cases h2 : kLt b a with
  | false => rfl
  | true =>
    have := kLt_trans h h2
    rw [kLt_self] at this
    cases this

section
variable {α : Type} {lt : α → α → Bool}
/-- Rising lists of the same members are one. -/
theorem rising_ext (irr : ∀ a, lt a a = false) (tr : ∀ a b c, lt a b = true → lt b c = true → lt a c = true) : ∀ {l m : List α}, l.Pairwise (fun a b => lt a b = true) → m.Pairwise (fun a b => lt a b = true) → (∀ x, x ∈ l ↔ x ∈ m) → l = m
  | [], [], _, _, _ => rfl
  | [], b :: m, _, _, h => by have := (h b).2 (by simp); cases this
  | a :: l, [], _, _, h => by have := (h a).1 (by simp); cases this
  | a :: l, b :: m, hl, hm, h => by
    obtain ⟨l1, l2⟩ := List.pairwise_cons.1 hl
    obtain ⟨m1, m2⟩ := List.pairwise_cons.1 hm
    have e : a = b := by
      rcases List.mem_cons.1 ((h a).1 (by simp)) with e | ha
      · exact e
      · rcases List.mem_cons.1 ((h b).2 (by simp)) with e | hb
        · exact e.symm
        · have := tr _ _ _ (l1 b hb) (m1 a ha)
          rw [irr] at this
          cases this
    subst e
    have ne : ∀ x, x ∈ l → x ≠ a := fun x hx e => by subst e; have := l1 x hx; rw [irr] at this; cases this
    have ne2 : ∀ x, x ∈ m → x ≠ a := fun x hx e => by subst e; have := m1 x hx; rw [irr] at this; cases this
    rw [rising_ext irr tr l2 m2 fun x => ⟨fun hx => by
      rcases List.mem_cons.1 ((h x).1 (by simp [hx])) with e | h2
      · exact absurd e (ne x hx)
      · exact h2, fun hx => by
      rcases List.mem_cons.1 ((h x).2 (by simp [hx])) with e | h2
      · exact absurd e (ne2 x hx)
      · exact h2⟩]
theorem tw_take (p : α → Bool) : ∀ O : List α, O.take (O.takeWhile p).length = O.takeWhile p ∧ O.drop (O.takeWhile p).length = O.dropWhile p
  | [] => ⟨rfl, rfl⟩
  | x :: O => by
    rw [List.takeWhile_cons, List.dropWhile_cons]
    cases h : p x with
    | true =>
      obtain ⟨h1, h2⟩ := tw_take p O
      simp [h1, h2]
    | false => simp
theorem tw_mem (p : α → Bool) : ∀ {O : List α} {a : α}, a ∈ O.takeWhile p → p a = true
  | [], a, h => by cases h
  | x :: O, a, h => by
    rw [List.takeWhile_cons] at h
    cases hx : p x with
    | true =>
      rw [hx] at h
      rcases List.mem_cons.1 h with rfl | h
      · exact hx
      · exact tw_mem p h
    | false => rw [hx] at h; cases h
theorem ins_rise (tr : ∀ a b c, lt a b = true → lt b c = true → lt a c = true) {O : List α} {x : α} (hO : O.Pairwise (fun a b => lt a b = true)) (hx : ∀ b B, O.dropWhile (fun a => lt a x) = b :: B → lt x b = true) :
    (O.takeWhile (fun a => lt a x) ++ [x] ++ O.dropWhile (fun a => lt a x)).Pairwise (fun a b => lt a b = true) := by
  have hs : O = O.takeWhile (fun a => lt a x) ++ O.dropWhile (fun a => lt a x) := List.takeWhile_append_dropWhile.symm
  have hA : ∀ a ∈ O.takeWhile (fun a => lt a x), lt a x = true := fun a ha => tw_mem (fun a => lt a x) ha
  rw [hs] at hO
  generalize O.takeWhile (fun a => lt a x) = A at *
  generalize O.dropWhile (fun a => lt a x) = B at *
  obtain ⟨p1, p2, p3⟩ := List.pairwise_append.1 hO
  have hB : ∀ b ∈ B, lt x b = true := by
    cases B with
    | nil => intro b hb; cases hb
    | cons b0 B =>
      have h0 := hx b0 B rfl
      intro b hb
      rcases List.mem_cons.1 hb with rfl | hb
      · exact h0
      · exact tr _ _ _ h0 ((List.pairwise_cons.1 p2).1 b hb)
  rw [List.append_assoc, List.singleton_append]
  refine List.pairwise_append.2 ⟨p1, List.pairwise_cons.2 ⟨hB, p2⟩, fun a ha b hb => ?_⟩
  rcases List.mem_cons.1 hb with rfl | hb
  · exact hA a ha
  · exact p3 a ha b hb
theorem dw_head (p : α → Bool) : ∀ {O : List α} {b : α} {B : List α}, O.dropWhile p = b :: B → p b = false
  | [], b, B, h => by cases h
  | x :: O, b, B, h => by
    rw [List.dropWhile_cons] at h
    cases hx : p x with
    | true => rw [hx] at h; exact dw_head p h
    | false => rw [hx] at h; injection h with h1 h2; rw [← h1]; exact hx
end

/-- Keys rise. -/
abbrev KRise (O : List ByteArray) : Prop := O.Pairwise (fun a b => kLt a b = true)
theorem putK_tw (O : List ByteArray) (k : ByteArray) : ((∃ B, O.dropWhile (fun a => kLt a k) = k :: B) ∧ putK O k = O) ∨ ((¬ ∃ B, O.dropWhile (fun a => kLt a k) = k :: B) ∧ putK O k = O.takeWhile (fun a => kLt a k) ++ [k] ++ O.dropWhile (fun a => kLt a k)) := by
  obtain ⟨h1, h2⟩ := tw_take (fun a => kLt a k) O
  have hc : (leadK O k < O.length ∧ O.getD (leadK O k) ⟨#[]⟩ = k) ↔ ∃ B, O.dropWhile (fun a => kLt a k) = k :: B := by
    rw [← h2]
    constructor
    · rintro ⟨h3, h4⟩
      refine ⟨O.drop (leadK O k + 1), ?_⟩
      rw [List.getD_eq_getElem?_getD, List.getElem?_eq_getElem h3] at h4
      have h4' : O[leadK O k] = k := h4
      show O.drop (leadK O k) = _
      rw [List.drop_eq_getElem_cons h3, h4']
    · rintro ⟨B, h3⟩
      have h4 : leadK O k < O.length := by
        rcases Nat.lt_or_ge (leadK O k) O.length with h | h
        · exact h
        · have h3' : O.drop (leadK O k) = k :: B := h3
          rw [List.drop_of_length_le h] at h3'
          cases h3'
      refine ⟨h4, ?_⟩
      have h3' : O.drop (leadK O k) = k :: B := h3
      rw [List.drop_eq_getElem_cons h4] at h3'
      injection h3' with h5 _
      rw [List.getD_eq_getElem?_getD, List.getElem?_eq_getElem h4]
      exact h5
  unfold putK
  by_cases h : leadK O k < O.length ∧ O.getD (leadK O k) ⟨#[]⟩ = k
  · rw [if_pos h]
    exact .inl ⟨hc.1 h, rfl⟩
  · rw [if_neg h]
    refine .inr ⟨fun h2 => h (hc.2 h2), ?_⟩
    unfold leadK
    rw [h1, h2]
theorem putK_rise {O : List ByteArray} (h : KRise O) (k : ByteArray) : KRise (putK O k) ∧ ∀ x, x ∈ putK O k ↔ x ∈ O ∨ x = k := by
  rcases putK_tw O k with ⟨⟨B, hB⟩, he⟩ | ⟨hB, he⟩
  · rw [he]
    refine ⟨h, fun x => ⟨.inl, ?_⟩⟩
    rintro (hx | rfl)
    · exact hx
    · rw [← List.takeWhile_append_dropWhile (p := fun a => kLt a x) (l := O), hB]; simp
  · rw [he]
    refine ⟨ins_rise (lt := kLt) (fun a b c => kLt_trans) h fun b B e => ?_, fun x => ?_⟩
    · have h1 := dw_head _ e
      rcases kLt_tri k b with h2 | rfl | h2
      · exact h2
      · exact absurd ⟨B, e⟩ hB
      · rw [h2] at h1; cases h1
    · have hs : O = O.takeWhile (fun a => kLt a k) ++ O.dropWhile (fun a => kLt a k) := List.takeWhile_append_dropWhile.symm
      conv => rhs; rw [hs]
      simp only [List.mem_append, List.mem_singleton]
      constructor
      · rintro ((h | h) | h)
        · exact .inl (.inl h)
        · exact .inr h
        · exact .inl (.inr h)
      · rintro ((h | h) | h)
        · exact .inl (.inl h)
        · exact .inr h
        · exact .inl (.inr h)
theorem keysF : ∀ (L : List Pn) (O : List ByteArray), KRise O → KRise (L.foldl (fun O p => putK O p.k) O) ∧ ∀ x, x ∈ L.foldl (fun O p => putK O p.k) O ↔ x ∈ O ∨ ∃ p ∈ L, p.k = x
  | [], O, h => ⟨h, fun x => by simp⟩
  | p :: L, O, h => by
    obtain ⟨h1, h2⟩ := putK_rise h p.k
    obtain ⟨h3, h4⟩ := keysF L _ h1
    refine ⟨h3, fun x => ?_⟩
    rw [List.foldl_cons, h4, h2]
    constructor
    · rintro ((h | h) | ⟨q, h5, h6⟩)
      · exact .inl h
      · exact .inr ⟨p, by simp, h.symm⟩
      · exact .inr ⟨q, by simp [h5], h6⟩
    · rintro (h | ⟨q, h5, h6⟩)
      · exact .inl (.inl h)
      · rcases List.mem_cons.1 h5 with rfl | h5
        · exact .inl (.inr h6.symm)
        · exact .inr ⟨q, h5, h6⟩
theorem keys_rise (L : List Pn) : KRise (keysP L) := (keysF L [] List.Pairwise.nil).1
theorem keys_mem (L : List Pn) (k : ByteArray) : k ∈ keysP L ↔ ∃ p ∈ L, p.k = k := by
  have := (keysF L [] List.Pairwise.nil).2 k
  simpa [keysP] using this
/-- Whoever rises and has these keys is it. -/
theorem keys_one {L : List Pn} {O : List ByteArray} (h : KRise O) (hm : ∀ k, k ∈ O ↔ ∃ p ∈ L, p.k = k) : O = keysP L := rising_ext kLt_self (fun a b c => kLt_trans) h (keys_rise L) fun x => by rw [hm, keys_mem]
theorem keys_of {L : List Pn} {k : ByteArray} : k ∈ keysP L ↔ ofP L k ≠ [] := by
  rw [keys_mem]
  unfold ofP
  constructor
  · rintro ⟨p, h1, h2⟩ h3
    have : p ∈ L.filter fun p => decide (p.k = k) := List.mem_filter.2 ⟨h1, decide_eq_true h2⟩
    rw [h3] at this
    cases this
  · intro h
    obtain ⟨p, t, e⟩ := List.exists_cons_of_ne_nil h
    have : p ∈ L.filter fun p => decide (p.k = k) := by rw [e]; simp
    obtain ⟨h1, h2⟩ := List.mem_filter.1 this
    exact ⟨p, h1, of_decide_eq_true h2⟩
theorem ofP_app (L M : List Pn) (k : ByteArray) : ofP (L ++ M) k = ofP L k ++ ofP M k := by unfold ofP; exact List.filter_append ..
theorem ofP_of (L : List Pn) (k k' : ByteArray) : ofP (ofP L k') k = if k' = k then ofP L k else [] := by
  unfold ofP
  rw [List.filter_filter]
  split
  · rename_i h
    subst h
    congr 1
    funext p
    simp
  · rename_i h
    rw [List.filter_eq_nil_iff]
    intro p _ h2
    simp only [Bool.and_eq_true, decide_eq_true_eq] at h2
    exact h (h2.2.symm.trans h2.1)
/-- One key's panes behind the other's. -/
def catK (L : List Pn) (K : List ByteArray) : List Pn := K.reverse.flatMap (ofP L)
theorem catK_cons (L : List Pn) (k : ByteArray) (K : List ByteArray) : catK L (k :: K) = catK L K ++ ofP L k := by
  unfold catK
  rw [List.reverse_cons, List.flatMap_append, List.flatMap_cons, List.flatMap_nil, List.append_nil]
theorem ofP_cat (L : List Pn) (k : ByteArray) : ∀ {K : List ByteArray}, KRise K → (k ∈ K → ofP (catK L K) k = ofP L k) ∧ (k ∉ K → ofP (catK L K) k = [])
  | [], _ => ⟨fun h => by (cases h), fun _ => rfl⟩
  | x :: K, h => by
    obtain ⟨h1, h2⟩ := List.pairwise_cons.1 h
    obtain ⟨i1, i2⟩ := ofP_cat L k h2
    rw [catK_cons, ofP_app, ofP_of]
    by_cases hx : x = k
    · subst hx
      rw [if_pos rfl, i2 (fun hm => by have := h1 x hm; rw [kLt_self] at this; cases this), List.nil_append]
      exact ⟨fun _ => rfl, fun h => absurd (by simp) h⟩
    · rw [if_neg hx, List.append_nil]
      refine ⟨fun hk => i1 ?_, fun hk => i2 (fun h3 => hk (by simp [h3]))⟩
      rcases List.mem_cons.1 hk with e | hk
      · exact absurd e.symm hx
      · exact hk
theorem cat_of (L : List Pn) (k : ByteArray) : ofP (catK L (keysP L)) k = ofP L k := by
  obtain ⟨h1, h2⟩ := ofP_cat L k (keys_rise L)
  by_cases h : k ∈ keysP L
  · exact h1 h
  · rw [h2 h]
    rw [keys_of] at h
    exact (Classical.not_not.1 h).symm
theorem same_len {L M : List Pn} (h : ∀ k, ofP L k = ofP M k) : L.length = M.length := by
  apply List.Perm.length_eq
  rw [List.perm_iff_count]
  intro x
  have e : ∀ L : List Pn, L.count x = (ofP L x.k).count x := fun L => by
    unfold ofP
    rw [List.count_filter (by simp)]
  rw [e, e M, h]
theorem begins_yes {A B : List Pn} (h : ∀ k, ∃ t, ofP B k = ofP A k ++ t) : beginsP A B = true := by
  unfold beginsP
  rw [List.all_eq_true]
  intro k _
  obtain ⟨t, e⟩ := h k
  unfold okB
  rw [e]
  simp
theorem begins_no {A B : List Pn} {k : ByteArray} (hk : k ∈ keysP A) (h : (ofP B k).length < (ofP A k).length) : beginsP A B = false := by
  unfold beginsP
  rw [List.all_eq_false]
  refine ⟨k, hk, ?_⟩
  unfold okB
  rw [decide_eq_false (by omega)]
  simp

end Go.Proofs.YtamfcmmhmfhhkaaDoor

namespace Go.Proofs.YtamfcmmhmfhhkaaDoor.LM
open Go.RowKit

abbrev Rw := ByteArray × (Option Addr × Nat × Nat)
abbrev rwv (x : Rw) : Value := .slice x.2.1 x.2.2.1 x.2.2.2

theorem cmpS_key {a b : ByteArray} (h : cmpS a b = 0) : a = b := by
  have := cmpS_eq.1 h
  rw [ByteArray.toList_eq, ByteArray.toList_eq] at this
  exact ByteArray.ext (Array.toList_inj.1 this)
theorem cmpS_me (a : ByteArray) : cmpS a a = 0 := cmpS_eq.2 rfl

theorem lput_mem (k : ByteArray) (v : Option Addr × Nat × Nat) (X : List Rw) {x : Rw} : x ∈ lput (cmpS k) k v X ↔ (x ∈ X ∧ x.1 ≠ k) ∨ x = (k, v) := by
  have ek : ∃ k', lput (cmpS k) k v X = up (cmpS k) X ++ (k', v) :: dn (cmpS k) X ∧ k' = k := by
    unfold lput
    cases hi : it (cmpS k) X with
    | none => exact ⟨k, rfl, rfl⟩
    | some a => exact ⟨a.1, rfl, (cmpS_key (it_some hi).2).symm⟩
  obtain ⟨k', e, rfl⟩ := ek
  rw [e, List.mem_append, List.mem_cons, up_mem, dn_mem]
  constructor
  · rintro (⟨h, h2⟩ | rfl | ⟨h, h2⟩)
    · exact .inl ⟨h, fun e => by rw [e, cmpS_me] at h2; omega⟩
    · exact .inr rfl
    · exact .inl ⟨h, fun e => by rw [e, cmpS_me] at h2; omega⟩
  · rintro (⟨h, h2⟩ | rfl)
    · rcases Int.lt_trichotomy (cmpS k' x.1) 0 with g | g | g
      · exact .inr (.inr ⟨h, g⟩)
      · exact absurd (cmpS_key g).symm h2
      · exact .inl ⟨h, g⟩
    · exact .inr (.inl rfl)

theorem was_in (k : ByteArray) (X : List Rw) : ((∀ x ∈ X, x.1 ≠ k) ∧ was (cmpS k) X = (none, 0, 0)) ∨ ∃ x ∈ X, x.1 = k ∧ was (cmpS k) X = x.2 := by
  unfold was
  cases hi : it (cmpS k) X with
  | none =>
    refine .inl ⟨fun x hx e => ?_, rfl⟩
    unfold it at hi
    rw [List.find?_eq_none] at hi
    exact hi x hx (by rw [e]; simp [cmpS_me])
  | some a => exact .inr ⟨a, (it_some hi).1, (cmpS_key (it_some hi).2).symm, rfl⟩

/-- The panes of a list, by their keys. -/
structure Bk (b0 m : Nat) (L : List Pn) (X : List Rw) (W : World) : Prop where
  mt : Mt W m 44 #[] X
  up : Up cmpS X
  key : ∀ k, (∃ x ∈ X, x.1 = k) ↔ ∃ p ∈ L, p.k = k
  row : ∀ x ∈ X, encP.Own 29 W b0 (rwv x) (ofP L x.1)
  sep : ∀ x ∈ X, ∀ y ∈ X, x.1 ≠ y.1 → ∀ g, (rwv x).ownBlock = some g → (rwv y).ownBlock ≠ some g
  off : ∀ x ∈ X, (rwv x).ownBlock ≠ some m
  num : X.length ≤ L.length

theorem Bk.calm {b0 m : Nat} {L : List Pn} {X : List Rw} {W W' : World} (h : Bk b0 m L X W) (ht : Calm W W') : Bk b0 m L X W' := ⟨h.mt.calm ht, h.up, h.key, fun x hx => Rc.Own.calm (h.row x hx) ht, h.sep, h.off, h.num⟩
theorem Bk.none {b0 m : Nat} {W : World} (h : Mt W m 44 #[] []) : Bk b0 m [] [] W := ⟨h, List.Pairwise.nil, fun k => by simp, fun x hx => by simp at hx, fun x hx => by simp at hx, fun x hx => by simp at hx, Nat.le_refl _⟩

theorem ofP_no {L : List Pn} {k : ByteArray} (h : ∀ p ∈ L, p.k ≠ k) : ofP L k = [] := by
  unfold ofP
  rw [List.filter_eq_nil_iff]
  intro p hp
  simp [h p hp]

/-- What lies under a key. -/
theorem Bk.at {b0 m : Nat} {L : List Pn} {X : List Rw} {W : World} (h : Bk b0 m L X W) (k : ByteArray) : encP.Own 29 W b0 (.slice (was (cmpS k) X).1 (was (cmpS k) X).2.1 (was (cmpS k) X).2.2) (ofP L k) ∧ ∀ g, (Value.slice (was (cmpS k) X).1 (was (cmpS k) X).2.1 (was (cmpS k) X).2.2).ownBlock = some g → g ≠ m ∧ ∀ y ∈ X, y.1 ≠ k → (rwv y).ownBlock ≠ some g := by
  rcases was_in k X with ⟨h1, h2⟩ | ⟨x, hx, rfl, h2⟩
  · rw [h2, ofP_no (fun p hp e => by obtain ⟨x, hx, e2⟩ := (h.key k).2 ⟨p, hp, e⟩; exact h1 x hx e2)]
    exact ⟨Rc.Own.nil _ _ _, fun g hg => by simp [Value.ownBlock] at hg⟩
  · rw [h2]
    exact ⟨h.row x hx, fun g hg => ⟨fun e => h.off x hx (by rw [← e]; exact hg), fun y hy hk => h.sep x hx y hy (fun e => hk e.symm) g hg⟩⟩

theorem Bk.app {b0 m : Nat} {L : List Pn} {X : List Rw} {W W4 : World} (h : Bk b0 m L X W) (p : Pn) (v : Option Addr × Nat × Nat) (hr : encP.Own 29 W4 b0 (.slice v.1 v.2.1 v.2.2) (ofP L p.k ++ [p]))
    (ht : Touch (fun g => (Value.slice (was (cmpS p.k) X).1 (was (cmpS p.k) X).2.1 (was (cmpS p.k) X).2.2).ownBlock = some g) W W4)
    (hx : ∀ g, (Value.slice v.1 v.2.1 v.2.2).ownBlock = some g → (Value.slice (was (cmpS p.k) X).1 (was (cmpS p.k) X).2.1 (was (cmpS p.k) X).2.2).ownBlock = some g ∨ W.heap.size ≤ g) :
    Mt W4 m 44 #[] X ∧ ∀ W5, Mt W5 m 44 #[] (lput (cmpS p.k) p.k v X) → Touch (fun g => g = m) W4 W5 → Bk b0 m (L ++ [p]) (lput (cmpS p.k) p.k v X) W5 := by
  obtain ⟨k1, k2⟩ := h.at p.k
  have hm : m < W.heap.size := by obtain ⟨ro, h1, -⟩ := h.mt; exact lt_of_heap h1
  have hlt : ∀ y ∈ X, ∀ g, (rwv y).ownBlock = some g → g < W.heap.size := fun y hy g hg => by
    obtain ⟨-, cur, e⟩ := Rc.own_block (h.row y hy) hg
    exact lt_of_heap e
  have hv : ∀ g, (Value.slice v.1 v.2.1 v.2.2).ownBlock = some g → g ≠ m ∧ ∀ y ∈ X, y.1 ≠ p.k → (rwv y).ownBlock ≠ some g := fun g hg => by
    rcases hx g hg with hg | hg
    · exact k2 g hg
    · exact ⟨by omega, fun y hy _ e => by have := hlt y hy g e; omega⟩
  refine ⟨h.mt.touch ht (fun hg => (k2 m hg).1 rfl) fun b cs fr hb e => ?_, fun W5 mt tm => ⟨mt, h.up.put cmpS_ord p.k v, fun k => ?_, fun x hxm => ?_, fun x hxm y hym hxy g hg hgy => ?_, fun x hxm => ?_, ?_⟩⟩
  · obtain ⟨-, cur, e2⟩ := Rc.own_block k1 hb
    rw [e2] at e
    injection e with e
    injection e with _ e
    exact absurd e (by decide)
  · constructor
    · rintro ⟨x, hxm, rfl⟩
      rcases (lput_mem _ _ _).1 hxm with ⟨g, -⟩ | rfl
      · obtain ⟨q, hq, e⟩ := (h.key x.1).1 ⟨x, g, rfl⟩
        exact ⟨q, by simp [hq], e⟩
      · exact ⟨p, by simp, rfl⟩
    · rintro ⟨q, hq, rfl⟩
      by_cases e : q.k = p.k
      · exact ⟨(p.k, v), (lput_mem _ _ _).2 (.inr rfl), e.symm⟩
      · rcases List.mem_append.1 hq with hq | hq
        · obtain ⟨x, hx2, e2⟩ := (h.key q.k).2 ⟨q, hq, rfl⟩
          exact ⟨x, (lput_mem _ _ _).2 (.inl ⟨hx2, by rw [e2]; exact e⟩), e2⟩
        · rw [List.mem_singleton] at hq
          exact absurd (by rw [hq]) e
  · rcases (lput_mem _ _ _).1 hxm with ⟨g, hk⟩ | rfl
    · have e : ofP (L ++ [p]) x.1 = ofP L x.1 := by
        rw [ofP_app, ofP_no (L := [p]) (fun q hq e => hk (by rw [List.mem_singleton] at hq; rw [← e, hq])), List.append_nil]
      rw [e]
      exact Rc.Own.touch (Rc.Own.touch (h.row x g) ht fun d hd s => (k2 d s).2 x g hk hd) tm fun d hd s => h.off x g (by rw [← s]; exact hd)
    · have e : ofP (L ++ [p]) p.k = ofP L p.k ++ [p] := by
        rw [ofP_app]
        simp [ofP]
      rw [e]
      exact Rc.Own.touch hr tm fun d hd s => (hv d hd).1 s
  · rcases (lput_mem _ _ _).1 hxm with ⟨g1, hk1⟩ | rfl <;> rcases (lput_mem _ _ _).1 hym with ⟨g2, hk2⟩ | rfl
    · exact h.sep x g1 y g2 hxy g hg hgy
    · exact (hv g hgy).2 x g1 hk1 hg
    · exact (hv g hg).2 y g2 hk2 hgy
    · exact hxy rfl
  · rcases (lput_mem _ _ _).1 hxm with ⟨g1, hk1⟩ | rfl
    · exact h.off x g1
    · exact fun e => (hv m e).1 rfl
  · have := (lput_len (v := v) (k := p.k) (h.up.dec cmpS_ord p.k)).1
    have := h.num
    rw [List.length_append]
    simp only [List.length_cons, List.length_nil]
    omega

end Go.Proofs.YtamfcmmhmfhhkaaDoor.LM
