/- Number: a number of decimal digits (the document's; the walk). Key: a quoted key read (the document's; the walk). Last: of each key and window the last pane (the notions; a pane put into a row in a new row). Panes by keys, the last ones: the mathematics. -/
import Derived.Test.YtamfcmmhmfhhkaaGreatDoorG9
import Derived.Test.YtamfcmmhmfhhkaaGreatDoorG8
import Derived.Test.YtamfcmmhmfhhkaaGreatDoorG4
import Derived.Test.YtamfcmmhmfhhkaaGreatDoorG5
namespace Go.Proofs.YtamfcmmhmfhhkaaGreatDoor
open Go.RowKit

/-- What Number answers. -/
def numR (s : ByteArray) : Value := match numP s with | some x => .tuple #[.int .i64 x, .bool true] | none => .tuple #[.int .i64 0, .bool false]
theorem numR_no {s : ByteArray} (h : ∀ x, I64n x → intB x ≠ s) : numR s = .tuple #[.int .i64 0, .bool false] := by unfold numR; rw [numP_none h]
theorem numR_yes {s : ByteArray} {x : Int} (h : I64n x) (h2 : intB x = s) : numR s = .tuple #[.int .i64 x, .bool true] := by unfold numR; rw [numP_some.2 ⟨h, h2⟩]
theorem first_at {s : ByteArray} (h : 0 < s.size) : negS s ↔ ((s[0]'h).toNat : Int) = 45 := by
  unfold negS
  have e := tl_at s 0 h
  rw [List.drop_zero] at e
  rw [e]
  simp only [List.head?_cons, Option.some.injEq]
  constructor
  · intro h; rw [h]; rfl
  · intro h
    have h2 : (s[0]'(by assumption)).toNat = 45 := by omega
    exact UInt8.toNat_inj.1 (by rw [h2]; rfl)
theorem size_zero {s : ByteArray} (h : s.size = 0) : s = ⟨#[]⟩ := by
  apply ByteArray.ext
  exact Array.eq_empty_of_size_eq_zero h
theorem wrap_back0 {n : Nat} {y : Int} (h : I64n y) (h1 : n = y.natAbs) (h2 : ¬ y < 0) : IntKind.i64.wrap (n : Int) = y := by
  unfold I64n at h
  rw [IntKind.wrap_i64]
  omega
theorem wrap_back1 {n : Nat} {y : Int} (h : I64n y) (h1 : n = y.natAbs) (h2 : y < 0) : IntKind.i64.wrap (-(IntKind.i64.wrap (n : Int))) = y := by
  unfold I64n at h
  rw [IntKind.wrap_i64, IntKind.wrap_i64]
  omega
theorem i64n_in (n : Int) : I64n (IntKind.i64.wrap n) ∧ I64n (IntKind.i64.wrap (-(IntKind.i64.wrap n))) := by
  unfold I64n
  rw [IntKind.wrap_i64, IntKind.wrap_i64]
  omega

end Go.Proofs.YtamfcmmhmfhhkaaGreatDoor

namespace Go.Proofs.YtamfcmmhmfhhkaaGreatDoor
open Go.RowKit

/-- What Key answers of a text. -/
def KeyR (s k : ByteArray) (n : Nat) : Prop := n ≤ s.size ∧ k.size ≤ s.size ∧ (n ≠ 0 → s.toList.take n = qk k) ∧ ∀ k' r, s.toList = qk k' ++ r → k = k' ∧ n = (quoA k').length
theorem KeyR.none {s : ByteArray} (h : ∀ k r, s.toList ≠ qk k ++ r) : KeyR s ⟨#[]⟩ 0 := ⟨Nat.zero_le _, Nat.zero_le _, fun h => absurd rfl h, fun k r e => absurd e (h k r)⟩
theorem ba_ext {a b : ByteArray} (h : a.toList = b.toList) : a = b := by
  rw [ByteArray.toList_eq, ByteArray.toList_eq] at h
  exact ByteArray.ext (Array.toList_inj.1 h)
theorem KeyR.some {s : ByteArray} {i : Nat} {A : List Int} (h : KI s i A) (hi : i < s.size) (hb : (s[i]'hi).toNat = 34) (hA : A.length ≤ i) (he : strOfNums (quoA (strOfNums A)) = s.extract 0 (i + 1)) : KeyR s (strOfNums A) (i + 1) := by
  refine ⟨hi, by rw [strOfNums_size]; omega, fun _ => ?_, fun k' r e => ?_⟩
  · rw [← qk_list, he, ex_toList]
    rfl
  · obtain ⟨h1, h2⟩ := KI.last h hi hb k' r e
    exact ⟨by rw [h1, strOf_bs], h2⟩
theorem KeyR.other {s : ByteArray} {i : Nat} {A : List Int} (h : KI s i A) (hi : i < s.size) (hb : (s[i]'hi).toNat = 34) (he : strOfNums (quoA (strOfNums A)) ≠ s.extract 0 (i + 1)) : KeyR s ⟨#[]⟩ 0 := KeyR.none fun k' r e => by
  obtain ⟨h1, h2⟩ := KI.last h hi hb k' r e
  apply he
  rw [h1, strOf_bs]
  apply ba_ext
  rw [qk_list, ex_toList, h2, e]
  have e3 : (quoA k').length - 0 = (qk k').length := by rw [qk_len]; omega
  rw [e3, List.drop_zero, List.take_left]

end Go.Proofs.YtamfcmmhmfhhkaaGreatDoor

namespace Go.Proofs.YtamfcmmhmfhhkaaGreatDoor
open Go.RowKit

/-- A pane's key and window alone. -/
abbrev wpn (p : Pn) : Pn := ⟨p.k, p.a, p.b, 0, 0, tl0⟩
def wLt (p q : Pn) : Bool := decide (cmpP (wpn p) (wpn q) < 0)
def sameW (p q : Pn) : Bool := decide (p.k = q.k) && (decide (p.a = q.a) && decide (p.b = q.b))
def laterP (R : List Pn) (p : Pn) : Bool := R.any fun q => sameW q p
/-- How many stand ahead of it. -/
def leadW (O : List Pn) (p : Pn) : Nat := (O.takeWhile fun a => wLt a p).length
def insW (O : List Pn) (p : Pn) : List Pn := O.take (leadW O p) ++ [p] ++ O.drop (leadW O p)
def lastF : List Pn → List Pn → List Pn
  | O, [] => O
  | O, p :: R => lastF (if laterP R p then O else insW O p) R
def lastP (L : List Pn) : List Pn := lastF [] L

theorem leadW_eq : ∀ (l : List Pn) (s : Pn) (i : Nat), i ≤ l.length → (∀ j, j < i → wLt (l.getD j pn0) s = true) → (i < l.length → wLt (l.getD i pn0) s = false) → leadW l s = i
  | [], _, i, hi, _, _ => by simp at hi; subst hi; rfl
  | x :: l, s, 0, _, _, h2 => by
    have : wLt x s = false := h2 (by simp)
    simp [leadW, this]
  | x :: l, s, i + 1, hi, h1, h2 => by
    have h0 : wLt x s = true := h1 0 (by omega)
    have ih := leadW_eq l s i (by simpa using hi) (fun j hj => h1 (j + 1) (by omega)) (fun h => h2 (by simpa using h))
    unfold leadW at ih ⊢
    rw [List.takeWhile_cons, if_pos (by simpa using h0), List.length_cons, ih]
theorem drop_at {L : List Pn} {i : Nat} (h : i < L.length) : L.drop i = L.getD i pn0 :: L.drop (i + 1) := by
  rw [List.getD_eq_getElem?_getD, List.getElem?_eq_getElem h]
  exact List.drop_eq_getElem_cons h
theorem lastF_next {L O : List Pn} {i : Nat} (h : i < L.length) : lastF O (L.drop i) = lastF (if laterP (L.drop (i + 1)) (L.getD i pn0) then O else insW O (L.getD i pn0)) (L.drop (i + 1)) := by
  rw [drop_at h]; rfl
theorem lastF_end {L O : List Pn} : lastF O (L.drop L.length) = O := by rw [List.drop_of_length_le (Nat.le_refl _)]; rfl
/-- Is there a later one among those up to j? -/
def lateJ (L : List Pn) (i j : Nat) : Bool := laterP ((L.drop (i + 1)).take (j - (i + 1))) (L.getD i pn0)
theorem lateJ_zero (L : List Pn) (i : Nat) : lateJ L i (i + 1) = false := by unfold lateJ; rw [Nat.sub_self]; rfl
theorem lateJ_next {L : List Pn} {i j : Nat} (hi : i + 1 ≤ j) (hj : j < L.length) : lateJ L i (j + 1) = (lateJ L i j || sameW (L.getD j pn0) (L.getD i pn0)) := by
  unfold lateJ laterP
  have e : j + 1 - (i + 1) = (j - (i + 1)) + 1 := by omega
  rw [e, List.take_add_one, List.getElem?_drop, show i + 1 + (j - (i + 1)) = j by omega, List.getElem?_eq_getElem hj, List.any_append]
  rw [List.getD_eq_getElem?_getD (i := j), List.getElem?_eq_getElem hj]
  simp
theorem lateJ_end (L : List Pn) (i : Nat) : lateJ L i L.length = laterP (L.drop (i + 1)) (L.getD i pn0) := by
  unfold lateJ
  rw [List.take_of_length_le (by rw [List.length_drop]; omega)]
theorem insW_len (O : List Pn) (p : Pn) : (insW O p).length = O.length + 1 := by
  unfold insW
  have : leadW O p ≤ O.length := List.IsPrefix.length_le (List.takeWhile_prefix _)
  simp only [List.length_append, List.length_take, List.length_drop, List.length_cons, List.length_nil]; omega

/-- A pane put in at a place of a row of one's own, in a new row. -/
theorem pn_put {W : World} {base : Nat} {ao : Option Addr} {cap : Nat} {O : List Pn} (b : Pn) (h : encP.Own 40 W base (.slice ao O.length cap) O) (k : Nat) (hk : k ≤ O.length) (hn : O.length ≤ 1000000000) :
    ∃ so1 sc1 so2 sc2 a1 p1 w3 a2 p2 w4 a3 p3 w5, (∀ V, (Instr.slice 22 (.slice ao O.length cap) none (some (.int .i64 (k : Nat))) none).run Tryz.prog V = .ok (.slice so1 k sc1) V) ∧ (∀ V, (Instr.slice 22 (.slice ao O.length cap) (some (.int .i64 (k : Nat))) none none).run Tryz.prog V = .ok (.slice so2 (O.length - k) sc2) V) ∧
      (Builtin.append_ #[22, 22] 22 #[.slice none 0 0, .slice so1 k sc1]).run Tryz.prog W = .ok (.slice a1 k p1) w3 ∧
      (Builtin.append_ #[22, 22] 22 #[.slice a1 k p1, .slice (some ⟨w3.heap.size, 0, none⟩) 1 1]).run Tryz.prog (w3.alloc (.cells (pnc b) 40)) = .ok (.slice a2 (k + 1) p2) w4 ∧
      (Builtin.append_ #[22, 22] 22 #[.slice a2 (k + 1) p2, .slice so2 (O.length - k) sc2]).run Tryz.prog w4 = .ok (.slice a3 (O.length + 1) p3) w5 ∧
      encP.Own 40 w5 W.heap.size (.slice a3 (O.length + 1) p3) (O.take k ++ [b] ++ O.drop k) ∧ Calm W w3 ∧ Calm W w5 := by
  obtain ⟨i0, hi, hz, hs, hby⟩ := Rc.info_parts infoPane
  have sl := Rc.Own.sl h
  obtain ⟨so1, sc1, hsl1, m1, n1⟩ := Rc.Sl.to Tryz.underlying22 elemPane hi (k := k) sl hk
  obtain ⟨so2, sc2, hsl2, m2, n2⟩ := Rc.Sl.from Tryz.underlying22 elemPane hi hs (k := k) sl hk
  have e1 : (O.take k).length = k := by rw [List.length_take]; omega
  have e2 : (O.drop k).length = O.length - k := by rw [List.length_drop]
  have eb : encP.n = 9 := rfl
  obtain ⟨a1, p1, w3, hr1, ow1, t1, -⟩ := Rc.Own.appw (E := encP) (ty := 22) Tryz.underlying22 hi hz hs hby rfl (Rc.Own.nil 40 W W.heap.size) so1 sc1 (O.take k) m1 n1 (by rw [e1]; simp; unfold maxLen; omega) (by rw [e1]; simp; omega) (by omega) (Nat.le_refl _)
  have C3 : Calm W w3 := Rc.Own.fresh (Rc.Own.nil (E := encP) 40 W W.heap.size) t1 (fun _ h => h) (Touch.refl _ _) (Nat.le_refl _)
  rw [List.nil_append, e1] at hr1
  rw [List.nil_append, e1] at ow1
  have ow1' := Rc.Own.calm ow1 ((Touch.refl (fun _ => False) w3).alloc (.cells (pnc b) 40))
  have hsz3 := C3.size
  have hs1 := al_size w3 (.cells (pnc b) 40)
  obtain ⟨a2, p2, w4, hr2, ow2, t2, -⟩ := Rc.Own.appw (E := encP) (ty := 22) Tryz.underlying22 hi hz hs hby rfl ow1' (some ⟨w3.heap.size, 0, none⟩) 1 [b] (Rc.Mem.new w3 [b] 40) (fun h => (nomatch h)) (by rw [e1]; simp; unfold maxLen; omega) (by rw [e1]; simp; omega) (by omega) (by omega)
  have C4 : Calm W w4 := Rc.Own.fresh ow1' t2 (fun _ h => h) (C3.alloc _) (Nat.le_refl _)
  have e3 : (O.take k ++ [b]).length = k + 1 := by rw [List.length_append, e1]; rfl
  rw [e3] at hr2
  rw [e3] at ow2
  have hsz4 := C4.size
  obtain ⟨a3, p3, w5, hr3, ow3, t3, -⟩ := Rc.Own.appw (E := encP) (ty := 22) Tryz.underlying22 hi hz hs hby rfl ow2 so2 sc2 (O.drop k) (Rc.Mem.calm m2 C4) n2 (by rw [e2, e3]; unfold maxLen; omega) (by rw [e2, e3]; omega) (by omega) (by omega)
  have C5 : Calm W w5 := Rc.Own.fresh ow2 t3 (fun _ h => h) C4 (Nat.le_refl _)
  have e4 : (O.take k ++ [b] ++ O.drop k).length = O.length + 1 := by rw [List.length_append, e3, e2]; omega
  rw [e2, e4] at hr3
  rw [e4] at ow3
  exact ⟨so1, sc1, so2, sc2, a1, p1, w3, a2, p2, w4, a3, p3, w5, fun V => hsl1 V, fun V => hsl2 V, hr1, hr2, hr3, ow3, C3, C5⟩

end Go.Proofs.YtamfcmmhmfhhkaaGreatDoor

namespace Go.Proofs.YtamfcmmhmfhhkaaGreatDoor
open Go.RowKit

theorem lessN_or (x : List UInt8) : ∀ y : List UInt8, (Op.bytesLess x y || x == y) = !Op.bytesLess y x := by
  induction x with
  | nil => intro y; cases y <;> simp [Op.bytesLess]
  | cons a x ih =>
    intro y
    cases y with
    | nil => simp [Op.bytesLess]
    | cons b y =>
      have h := ih y
      simp only [Op.bytesLess]
      by_cases h1 : a < b
      · have h2 : ¬ b < a := by rw [UInt8.lt_iff_toNat_lt] at *; omega
        have h3 : ¬ b = a := by rintro rfl; rw [UInt8.lt_iff_toNat_lt] at h1; omega
        simp [h1, h2, h3]
      · by_cases h2 : b < a
        · have h3 : ¬ a = b := by rintro rfl; exact h1 h2
          simp [h1, h2, h3]
        · have h3 : a = b := by rw [UInt8.lt_iff_toNat_lt] at *; exact UInt8.toNat_inj.mp (by omega)
          subst h3
          simpa [h1] using h
theorem lessN_trans (x : List UInt8) : ∀ y z : List UInt8, Op.bytesLess x y = true → Op.bytesLess y z = true → Op.bytesLess x z = true := by
  induction x with
  | nil =>
    intro y z h1 h2
    cases z with
    | nil => cases y <;> simp [Op.bytesLess] at h2
    | cons c z => simp [Op.bytesLess]
  | cons a x ih =>
    intro y z h1 h2
    cases y with
    | nil => simp [Op.bytesLess] at h1
    | cons b y =>
      cases z with
      | nil => simp [Op.bytesLess] at h2
      | cons c z =>
        simp only [Op.bytesLess, Bool.or_eq_true, Bool.and_eq_true, decide_eq_true_eq, beq_iff_eq] at h1 h2 ⊢
        rcases h1 with h1 | ⟨rfl, h1⟩
        · rcases h2 with h2 | ⟨rfl, h2⟩
          · left; rw [UInt8.lt_iff_toNat_lt] at *; omega
          · left; exact h1
        · rcases h2 with h2 | ⟨rfl, h2⟩
          · left; exact h2
          · right; exact ⟨rfl, ih y z h1 h2⟩
theorem kLt_trans {a b c : ByteArray} (h : kLt a b = true) (h2 : kLt b c = true) : kLt a c = true := lessN_trans _ _ _ h h2
theorem kLt_tri (a b : ByteArray) : kLt a b = true ∨ a = b ∨ kLt b a = true := by
  have h := lessN_or a.toList b.toList
  unfold kLt
  cases h1 : Op.bytesLess a.toList b.toList with
  | true => exact .inl rfl
  | false =>
    cases h2 : Op.bytesLess b.toList a.toList with
    | true => exact .inr (.inr rfl)
    | false =>
      rw [h1, h2] at h
      refine .inr (.inl (ba_ext ?_))
      simpa using h
theorem kLt_asymm {a b : ByteArray} (h : kLt a b = true) : kLt b a = false := by
  cases h2 : kLt b a with
  | false => rfl
  | true =>
    have := kLt_trans h h2
    rw [kLt_self] at this
    cases this

section
variable {α : Type} {lt : α → α → Bool}
/-- Rising lists of the same members are one. -/
theorem rising_ext (irr : ∀ a, lt a a = false) (tr : ∀ a b c, lt a b = true → lt b c = true → lt a c = true) : ∀ {l m : List α}, l.Pairwise (fun a b => lt a b = true) → m.Pairwise (fun a b => lt a b = true) → (∀ x, x ∈ l ↔ x ∈ m) → l = m
  | [], [], _, _, _ => rfl
  | [], b :: m, _, _, h => by have := (h b).2 (by simp); cases this
  | a :: l, [], _, _, h => by have := (h a).1 (by simp); cases this
  | a :: l, b :: m, hl, hm, h => by
    obtain ⟨l1, l2⟩ := List.pairwise_cons.1 hl
    obtain ⟨m1, m2⟩ := List.pairwise_cons.1 hm
    have e : a = b := by
      rcases List.mem_cons.1 ((h a).1 (by simp)) with e | ha
      · exact e
      · rcases List.mem_cons.1 ((h b).2 (by simp)) with e | hb
        · exact e.symm
        · have := tr _ _ _ (l1 b hb) (m1 a ha)
          rw [irr] at this
          cases this
    subst e
    have ne : ∀ x, x ∈ l → x ≠ a := fun x hx e => by subst e; have := l1 x hx; rw [irr] at this; cases this
    have ne2 : ∀ x, x ∈ m → x ≠ a := fun x hx e => by subst e; have := m1 x hx; rw [irr] at this; cases this
    rw [rising_ext irr tr l2 m2 fun x => ⟨fun hx => by
      rcases List.mem_cons.1 ((h x).1 (by simp [hx])) with e | h2
      · exact absurd e (ne x hx)
      · exact h2, fun hx => by
      rcases List.mem_cons.1 ((h x).2 (by simp [hx])) with e | h2
      · exact absurd e (ne2 x hx)
      · exact h2⟩]
theorem tw_take (p : α → Bool) : ∀ O : List α, O.take (O.takeWhile p).length = O.takeWhile p ∧ O.drop (O.takeWhile p).length = O.dropWhile p
  | [] => ⟨rfl, rfl⟩
  | x :: O => by
    rw [List.takeWhile_cons, List.dropWhile_cons]
    cases h : p x with
    | true =>
      obtain ⟨h1, h2⟩ := tw_take p O
      simp [h1, h2]
    | false => simp
theorem tw_mem (p : α → Bool) : ∀ {O : List α} {a : α}, a ∈ O.takeWhile p → p a = true
  | [], a, h => by cases h
  | x :: O, a, h => by
    rw [List.takeWhile_cons] at h
    cases hx : p x with
    | true =>
      rw [hx] at h
      rcases List.mem_cons.1 h with rfl | h
      · exact hx
      · exact tw_mem p h
    | false => rw [hx] at h; cases h
theorem ins_rise (tr : ∀ a b c, lt a b = true → lt b c = true → lt a c = true) {O : List α} {x : α} (hO : O.Pairwise (fun a b => lt a b = true)) (hx : ∀ b B, O.dropWhile (fun a => lt a x) = b :: B → lt x b = true) :
    (O.takeWhile (fun a => lt a x) ++ [x] ++ O.dropWhile (fun a => lt a x)).Pairwise (fun a b => lt a b = true) := by
  have hs : O = O.takeWhile (fun a => lt a x) ++ O.dropWhile (fun a => lt a x) := List.takeWhile_append_dropWhile.symm
  have hA : ∀ a ∈ O.takeWhile (fun a => lt a x), lt a x = true := fun a ha => tw_mem (fun a => lt a x) ha
  rw [hs] at hO
  generalize O.takeWhile (fun a => lt a x) = A at *
  generalize O.dropWhile (fun a => lt a x) = B at *
  obtain ⟨p1, p2, p3⟩ := List.pairwise_append.1 hO
  have hB : ∀ b ∈ B, lt x b = true := by
    cases B with
    | nil => intro b hb; cases hb
    | cons b0 B =>
      have h0 := hx b0 B rfl
      intro b hb
      rcases List.mem_cons.1 hb with rfl | hb
      · exact h0
      · exact tr _ _ _ h0 ((List.pairwise_cons.1 p2).1 b hb)
  rw [List.append_assoc, List.singleton_append]
  refine List.pairwise_append.2 ⟨p1, List.pairwise_cons.2 ⟨hB, p2⟩, fun a ha b hb => ?_⟩
  rcases List.mem_cons.1 hb with rfl | hb
  · exact hA a ha
  · exact p3 a ha b hb
theorem dw_head (p : α → Bool) : ∀ {O : List α} {b : α} {B : List α}, O.dropWhile p = b :: B → p b = false
  | [], b, B, h => by cases h
  | x :: O, b, B, h => by
    rw [List.dropWhile_cons] at h
    cases hx : p x with
    | true => rw [hx] at h; exact dw_head p h
    | false => rw [hx] at h; injection h with h1 h2; rw [← h1]; exact hx
end

/-- Keys rise. -/
abbrev KRise (O : List ByteArray) : Prop := O.Pairwise (fun a b => kLt a b = true)
theorem putK_tw (O : List ByteArray) (k : ByteArray) : ((∃ B, O.dropWhile (fun a => kLt a k) = k :: B) ∧ putK O k = O) ∨ ((¬ ∃ B, O.dropWhile (fun a => kLt a k) = k :: B) ∧ putK O k = O.takeWhile (fun a => kLt a k) ++ [k] ++ O.dropWhile (fun a => kLt a k)) := by
  obtain ⟨h1, h2⟩ := tw_take (fun a => kLt a k) O
  have hc : (leadK O k < O.length ∧ O.getD (leadK O k) ⟨#[]⟩ = k) ↔ ∃ B, O.dropWhile (fun a => kLt a k) = k :: B := by
    rw [← h2]
    constructor
    · rintro ⟨h3, h4⟩
      refine ⟨O.drop (leadK O k + 1), ?_⟩
      rw [List.getD_eq_getElem?_getD, List.getElem?_eq_getElem h3] at h4
      have h4' : O[leadK O k] = k := h4
      show O.drop (leadK O k) = _
      rw [List.drop_eq_getElem_cons h3, h4']
    · rintro ⟨B, h3⟩
      have h4 : leadK O k < O.length := by
        rcases Nat.lt_or_ge (leadK O k) O.length with h | h
        · exact h
        · have h3' : O.drop (leadK O k) = k :: B := h3
          rw [List.drop_of_length_le h] at h3'
          cases h3'
      refine ⟨h4, ?_⟩
      have h3' : O.drop (leadK O k) = k :: B := h3
      rw [List.drop_eq_getElem_cons h4] at h3'
      injection h3' with h5 _
      rw [List.getD_eq_getElem?_getD, List.getElem?_eq_getElem h4]
      exact h5
  unfold putK
  by_cases h : leadK O k < O.length ∧ O.getD (leadK O k) ⟨#[]⟩ = k
  · rw [if_pos h]
    exact .inl ⟨hc.1 h, rfl⟩
  · rw [if_neg h]
    refine .inr ⟨fun h2 => h (hc.2 h2), ?_⟩
    unfold leadK
    rw [h1, h2]
theorem putK_rise {O : List ByteArray} (h : KRise O) (k : ByteArray) : KRise (putK O k) ∧ ∀ x, x ∈ putK O k ↔ x ∈ O ∨ x = k := by
  rcases putK_tw O k with ⟨⟨B, hB⟩, he⟩ | ⟨hB, he⟩
  · rw [he]
    refine ⟨h, fun x => ⟨.inl, ?_⟩⟩
    rintro (hx | rfl)
    · exact hx
    · rw [← List.takeWhile_append_dropWhile (p := fun a => kLt a x) (l := O), hB]; simp
  · rw [he]
    refine ⟨ins_rise (lt := kLt) (fun a b c => kLt_trans) h fun b B e => ?_, fun x => ?_⟩
    · have h1 := dw_head _ e
      rcases kLt_tri k b with h2 | rfl | h2
      · exact h2
      · exact absurd ⟨B, e⟩ hB
      · rw [h2] at h1; cases h1
    · have hs : O = O.takeWhile (fun a => kLt a k) ++ O.dropWhile (fun a => kLt a k) := List.takeWhile_append_dropWhile.symm
      conv => rhs; rw [hs]
      simp only [List.mem_append, List.mem_singleton]
      constructor
      · rintro ((h | h) | h)
        · exact .inl (.inl h)
        · exact .inr h
        · exact .inl (.inr h)
      · rintro ((h | h) | h)
        · exact .inl (.inl h)
        · exact .inr h
        · exact .inl (.inr h)
theorem keysF : ∀ (L : List Pn) (O : List ByteArray), KRise O → KRise (L.foldl (fun O p => putK O p.k) O) ∧ ∀ x, x ∈ L.foldl (fun O p => putK O p.k) O ↔ x ∈ O ∨ ∃ p ∈ L, p.k = x
  | [], O, h => ⟨h, fun x => by simp⟩
  | p :: L, O, h => by
    obtain ⟨h1, h2⟩ := putK_rise h p.k
    obtain ⟨h3, h4⟩ := keysF L _ h1
    refine ⟨h3, fun x => ?_⟩
    rw [List.foldl_cons, h4, h2]
    constructor
    · rintro ((h | h) | ⟨q, h5, h6⟩)
      · exact .inl h
      · exact .inr ⟨p, by simp, h.symm⟩
      · exact .inr ⟨q, by simp [h5], h6⟩
    · rintro (h | ⟨q, h5, h6⟩)
      · exact .inl (.inl h)
      · rcases List.mem_cons.1 h5 with rfl | h5
        · exact .inl (.inr h6.symm)
        · exact .inr ⟨q, h5, h6⟩
theorem keys_rise (L : List Pn) : KRise (keysP L) := (keysF L [] List.Pairwise.nil).1
theorem keys_mem (L : List Pn) (k : ByteArray) : k ∈ keysP L ↔ ∃ p ∈ L, p.k = k := by
  have := (keysF L [] List.Pairwise.nil).2 k
  simpa [keysP] using this
/-- Whoever rises and has these keys is it. -/
theorem keys_one {L : List Pn} {O : List ByteArray} (h : KRise O) (hm : ∀ k, k ∈ O ↔ ∃ p ∈ L, p.k = k) : O = keysP L := rising_ext kLt_self (fun a b c => kLt_trans) h (keys_rise L) fun x => by rw [hm, keys_mem]
theorem keys_of {L : List Pn} {k : ByteArray} : k ∈ keysP L ↔ ofP L k ≠ [] := by
  rw [keys_mem]
  unfold ofP
  constructor
  · rintro ⟨p, h1, h2⟩ h3
    have : p ∈ L.filter fun p => decide (p.k = k) := List.mem_filter.2 ⟨h1, decide_eq_true h2⟩
    rw [h3] at this
    cases this
  · intro h
    obtain ⟨p, t, e⟩ := List.exists_cons_of_ne_nil h
    have : p ∈ L.filter fun p => decide (p.k = k) := by rw [e]; simp
    obtain ⟨h1, h2⟩ := List.mem_filter.1 this
    exact ⟨p, h1, of_decide_eq_true h2⟩
theorem ofP_app (L M : List Pn) (k : ByteArray) : ofP (L ++ M) k = ofP L k ++ ofP M k := by unfold ofP; exact List.filter_append ..
theorem ofP_of (L : List Pn) (k k' : ByteArray) : ofP (ofP L k') k = if k' = k then ofP L k else [] := by
  unfold ofP
  rw [List.filter_filter]
  split
  · rename_i h
    subst h
    congr 1
    funext p
    simp
  · rename_i h
    rw [List.filter_eq_nil_iff]
    intro p _ h2
    simp only [Bool.and_eq_true, decide_eq_true_eq] at h2
    exact h (h2.2.symm.trans h2.1)
/-- One key's panes behind the other's. -/
def catK (L : List Pn) (K : List ByteArray) : List Pn := K.reverse.flatMap (ofP L)
theorem catK_cons (L : List Pn) (k : ByteArray) (K : List ByteArray) : catK L (k :: K) = catK L K ++ ofP L k := by
  unfold catK
  rw [List.reverse_cons, List.flatMap_append, List.flatMap_cons, List.flatMap_nil, List.append_nil]
theorem ofP_cat (L : List Pn) (k : ByteArray) : ∀ {K : List ByteArray}, KRise K → (k ∈ K → ofP (catK L K) k = ofP L k) ∧ (k ∉ K → ofP (catK L K) k = [])
  | [], _ => ⟨fun h => by (cases h), fun _ => rfl⟩
  | x :: K, h => by
    obtain ⟨h1, h2⟩ := List.pairwise_cons.1 h
    obtain ⟨i1, i2⟩ := ofP_cat L k h2
    rw [catK_cons, ofP_app, ofP_of]
    by_cases hx : x = k
    · subst hx
      rw [if_pos rfl, i2 (fun hm => by have := h1 x hm; rw [kLt_self] at this; cases this), List.nil_append]
      exact ⟨fun _ => rfl, fun h => absurd (by simp) h⟩
    · rw [if_neg hx, List.append_nil]
      refine ⟨fun hk => i1 ?_, fun hk => i2 (fun h3 => hk (by simp [h3]))⟩
      rcases List.mem_cons.1 hk with e | hk
      · exact absurd e.symm hx
      · exact hk
theorem cat_of (L : List Pn) (k : ByteArray) : ofP (catK L (keysP L)) k = ofP L k := by
  obtain ⟨h1, h2⟩ := ofP_cat L k (keys_rise L)
  by_cases h : k ∈ keysP L
  · exact h1 h
  · rw [h2 h]
    rw [keys_of] at h
    exact (Classical.not_not.1 h).symm
theorem same_len {L M : List Pn} (h : ∀ k, ofP L k = ofP M k) : L.length = M.length := by
  apply List.Perm.length_eq
  rw [List.perm_iff_count]
  intro x
  have e : ∀ L : List Pn, L.count x = (ofP L x.k).count x := fun L => by
    unfold ofP
    rw [List.count_filter (by simp)]
  rw [e, e M, h]
theorem begins_yes {A B : List Pn} (h : ∀ k, ∃ t, ofP B k = ofP A k ++ t) : beginsP A B = true := by
  unfold beginsP
  rw [List.all_eq_true]
  intro k _
  obtain ⟨t, e⟩ := h k
  unfold okB
  rw [e]
  simp
theorem begins_no {A B : List Pn} {k : ByteArray} (hk : k ∈ keysP A) (h : (ofP B k).length < (ofP A k).length) : beginsP A B = false := by
  unfold beginsP
  rw [List.all_eq_false]
  refine ⟨k, hk, ?_⟩
  unfold okB
  rw [decide_eq_false (by omega)]
  simp

end Go.Proofs.YtamfcmmhmfhhkaaGreatDoor
